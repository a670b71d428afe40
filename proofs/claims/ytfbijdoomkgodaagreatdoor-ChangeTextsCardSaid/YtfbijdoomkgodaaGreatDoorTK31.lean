/-
  CiH; M29; CpB; CpC; CkB: texts of one kind in one file; each part says what it holds.
-/
import Derived.Test.YtfbijdoomkgodaaGreatDoorTK25
import Derived.Test.YtfbijdoomkgodaaGreatDoorTK29
import Derived.Test.YtfbijdoomkgodaaGreatDoorTK30
import Derived.Test.YtfbijdoomkgodaaGreatDoorTK26
import Derived.Test.YtfbijdoomkgodaaGreatDoorTK06
import Derived.Test.YtfbijdoomkgodaaGreatDoorTM18
import Derived.Test.YtfbijdoomkgodaaGreatDoorTK15
import Derived.Test.YtfbijdoomkgodaaGreatDoorTM05
import Derived.Test.YtfbijdoomkgodaaGreatDoorTM30
import Derived.Test.YtfbijdoomkgodaaGreatDoorTK16
import Derived.Lib.SliceRun

/-! Package change: a change made in the graph that is edited. -/
namespace Go.Proofs.YtfbijdoomkgodaaGreatDoor
open Go.RowKit

theorem Fine.val {g : Gr} (h : Fine g) : GVal g := ⟨h.n, h.e, h.pn, h.pe, h.nn, h.ne⟩
theorem RetEd.at {w0 w1 w' : World} {base B : Nat} {xs : List Rw} {R : Int} {g : Gr} {e : Ending} (h : RetEd w0 w1 base B xs R g e w') : e = .returned (.int .i64 R) := h.1
set_option maxHeartbeats 6400000 in
set_option maxRecDepth 100000 in
theorem edit_any {w0 w : World} {base B : Nat} {G : Gp} (h : GBox w0 w base B G) (hv : Fine G.gr) (c : Ch) (a : Option Addr) (k : Nat) (hin : ChIn w0 c a k) :
    Calls Tryz.prog 43 #[.pointer (some ⟨B, 0, none⟩), .agg (chC c a k)] w (RetEd w0 w base B G.xs (stpE G.gr c) (stpG G.gr c)) := by
  have hb := h.hb
  obtain ⟨W, hW⟩ : ∃ W, W = w.alloc (.cells (chC c a k) 30) := ⟨_, rfl⟩
  have fW : Fuw w W := by rw [hW]; exact fuwA _ _
  have bW : Bk W w.heap.size (chC c a k) 30 := by rw [hW]; exact Bk.new _ _ _
  have HCK := Lib.hid (lchk_any c a k W (hin.on (h.own.fu.trans fW)))
  obtain ⟨R, hR⟩ : ∃ R, R = stpE G.gr c := ⟨_, rfl⟩
  obtain ⟨T, hT⟩ : ∃ T, T = stpG G.gr c := ⟨_, rfl⟩
  rw [← hR, ← hT]
  have HFW := Lib.hid fW
  have HBW := Lib.hid bW
  have HB := Lib.hid hb
  have HC1 := Lib.hid (fun (w' : World) (hf : Fuw w w') (hi : 1 ≤ c.id ∧ c.id ≤ 1000000) => addnode_any (h.later hf) hv.val c a k hi)
  have HC6 := Lib.hid (fun (w' : World) (hf : Fuw w w') (hi : 1 ≤ c.id ∧ c.id ≤ 1000000) => addedge_any (h.later hf) hv.val c a k hi hin.f hin.t hin.n)
  have HCE := Lib.hid (fun (w' : World) (hf : Fuw w w') => editedge_any (h.later hf) hv c a k hin)
  have HCN := Lib.hid (fun (w' : World) (hf : Fuw w w') => editnode_any (h.later hf) hv c a k hin)
  have hRN : chkC c ≠ 0 → R = chkC c := fun q => by rw [hR]; unfold stpE; rw [if_pos q]
  have hOK : chkC c = 0 → (1 ≤ c.id ∧ c.id ≤ 1000000) ∧ 1 ≤ c.op ∧ c.op ≤ 8 := fun q => by
    obtain ⟨h1, h2, -⟩ := chkC_ok q
    unfold idsC idV at h2
    unfold opV at h1
    simp only [Bool.and_eq_true, decide_eq_true_eq] at h1 h2
    exact ⟨h2.1, h1⟩
  have hR1 : chkC c = 0 → c.op = 1 → R = (if hasN G.gr.ns c.id = true then 7 else if 2000 ≤ G.gr.ns.length then 20 else 0) ∧ T = addN G.gr c.id := fun q o => by
    rw [hR, hT]; unfold stpE stpG; rw [if_neg (fun g => g q), if_pos o, if_pos o]; exact ⟨rfl, rfl⟩
  have hR6 : chkC c = 0 → c.op = 6 → R = (if hasE G.gr.es c.id = true then 7 else if (hasN G.gr.ns c.fr && hasN G.gr.ns c.tt) = false then 10 else if 4000 ≤ G.gr.es.length then 20 else 0) ∧ T = addE G.gr c := fun q o => by
    have n1 : ¬ c.op = 1 := by omega
    rw [hR, hT]; unfold stpE stpG; rw [if_neg (fun g => g q), if_neg n1, if_pos o, if_neg n1, if_pos o]; exact ⟨rfl, rfl⟩
  have hR7 : chkC c = 0 → (c.op = 7 ∨ c.op = 8) → R = (match edgV G.gr.es c.id with | none => 11 | some e => if c.op = 8 then setE e.ps c.nm c.v else 0) ∧ T = (if c.op = 8 then ediE G.gr c.id (fun e => { e with ps := setP e.ps c.nm c.v }) else delE G.gr c.id) := fun q o => by
    have n1 : ¬ c.op = 1 := by omega
    have n6 : ¬ c.op = 6 := by omega
    rw [hR, hT]; unfold stpE stpG; rw [if_neg (fun g => g q), if_neg n1, if_neg n6, if_pos o, if_neg n1, if_neg n6]
    refine ⟨rfl, ?_⟩
    by_cases o8 : c.op = 8
    · rw [if_pos o8, if_pos o8]
    · rw [if_neg o8, if_neg o8, if_pos (by omega)]
  have H7 := Lib.hid hR7
  have hRNo : chkC c = 0 → ¬ c.op = 1 → ¬ c.op = 6 → ¬ c.op = 7 → ¬ c.op = 8 → R = (match nodV G.gr.ns c.id with | none => 10 | some n => nerr G.gr c n) ∧ T = nedi G.gr c := fun q o1 o6 o7 o8 => by
    have n78 : ¬ (c.op = 7 ∨ c.op = 8) := by omega
    rw [hR, hT]; unfold stpE stpG; rw [if_neg (fun g => g q), if_neg o1, if_neg o6, if_neg n78, if_neg o1, if_neg o6, if_neg o8, if_neg o7]
    exact ⟨rfl, rfl⟩
  have HN := Lib.hid hRNo
  have H1 := Lib.hid hR1
  have H6 := Lib.hid hR6
  have HN0 := Lib.hid hRN
  have HOK := Lib.hid hOK
  have d0 := bW.c 0
  obtain ⟨q, hq⟩ : ∃ q, q = chkC c := ⟨_, rfl⟩
  rw [← hq] at HCK HN0 HOK H1 H6 H7 HN
  clear h hv hin hR hT fW bW hb hR1 hR6 hRN hOK hq hR7 hRNo
  unfold chC at *
  go_enter Tryz.func43, Tryz.ntmps43
  go_upto_region 1 with fail
  rw [← hW]
  clear hW
  have c1 := HBW.out.c 1; have c2 := HBW.out.c 2; have c3 := HBW.out.c 3; have c4 := HBW.out.c 4; have c5 := HBW.out.c 5; have c6 := HBW.out.c 6; have c7 := HBW.out.c 7; have c8 := HBW.out.c 8; have c9 := HBW.out.c 9
  go_wp2_with fail
  go_at_call 12; refine HCK.out.mono ?_; rintro e1 w1 ⟨rfl, f1⟩
  have HF1 := Lib.hid (HFW.out.trans f1)
  have HB1 := Lib.hid (HBW.out.on f1)
  clear d0 c1 c2 c3 c4 c5 c6 c7 c8 c9 f1 HFW HBW HCK
  by_cases g : q = 0
  · subst g
    have HI := Lib.hid (HOK.out rfl)
    have HQ := Lib.hid (fun (e : Ending) (w' : World) (hr : RetEd w0 w1 base B G.xs R T e w') => RetEd.after HF1.out HB.out hr)
    have d0 := HB1.out.c 0; have d1 := HB1.out.c 1; have d2 := HB1.out.c 2; have d3 := HB1.out.c 3; have d4 := HB1.out.c 4; have d5 := HB1.out.c 5; have d6 := HB1.out.c 6; have d7 := HB1.out.c 7; have d8 := HB1.out.c 8; have d9 := HB1.out.c 9
    by_cases o1 : c.op = 1
    · have HAL := Lib.hid (show Calls Tryz.prog 81 _ w1 (RetEd w0 w1 base B G.xs R T) from by rw [(H1.out rfl o1).1, (H1.out rfl o1).2]; exact HC1.out w1 HF1.out HI.out.1)
      rw [o1] at d0 HAL
      clear HC1 HC6 HCE HCN H1 H6 H7 HN HOK HN0
      go_wp2_with fail
      go_at_call 81; refine HAL.out.mono ?_; intro e2 w2 hr
      obtain ⟨rfl, hr2⟩ := hr
      have HZ := Lib.hid (HQ.out _ _ ⟨rfl, hr2⟩)
      clear hr2
      go_wp2
      go_ret
      exact HZ.out
    · by_cases o6 : c.op = 6
      · have HAL := Lib.hid (show Calls Tryz.prog 82 _ w1 (RetEd w0 w1 base B G.xs R T) from by rw [(H6.out rfl o6).1, (H6.out rfl o6).2]; exact HC6.out w1 HF1.out HI.out.1)
        rw [o6] at d0 HAL
        clear HC1 HC6 HCE HCN H1 H6 H7 HN HOK HN0
        go_wp2_with fail
        go_at_call 82; refine HAL.out.mono ?_; intro e2 w2 hr
        obtain ⟨rfl, hr2⟩ := hr
        have HZ := Lib.hid (HQ.out _ _ ⟨rfl, hr2⟩)
        clear hr2
        go_wp2
        go_ret
        exact HZ.out
      · by_cases o7 : c.op = 7
        · have HAL := Lib.hid (show Calls Tryz.prog 83 _ w1 (RetEd w0 w1 base B G.xs R T) from by rw [(H7.out rfl (.inl o7)).1, (H7.out rfl (.inl o7)).2]; exact HCE.out w1 HF1.out)
          rw [o7] at d0 HAL
          clear HC1 HC6 HCE HCN H1 H6 H7 HN HOK HN0
          go_wp2_with fail
          go_at_call 83; refine HAL.out.mono ?_; intro e2 w2 hr
          obtain ⟨rfl, hr2⟩ := hr
          have HZ := Lib.hid (HQ.out _ _ ⟨rfl, hr2⟩)
          clear hr2
          go_wp2
          go_ret
          exact HZ.out
        · by_cases o8 : c.op = 8
          · have HAL := Lib.hid (show Calls Tryz.prog 83 _ w1 (RetEd w0 w1 base B G.xs R T) from by rw [(H7.out rfl (.inr o8)).1, (H7.out rfl (.inr o8)).2]; exact HCE.out w1 HF1.out)
            rw [o8] at d0 HAL
            clear HC1 HC6 HCE HCN H1 H6 H7 HN HOK HN0
            go_wp2_with fail
            go_at_call 83; refine HAL.out.mono ?_; intro e2 w2 hr
            obtain ⟨rfl, hr2⟩ := hr
            have HZ := Lib.hid (HQ.out _ _ ⟨rfl, hr2⟩)
            clear hr2
            go_wp2
            go_ret
            exact HZ.out
          · have HAL := Lib.hid (show Calls Tryz.prog 84 _ w1 (RetEd w0 w1 base B G.xs R T) from by rw [(HN.out rfl o1 o6 o7 o8).1, (HN.out rfl o1 o6 o7 o8).2]; exact HCN.out w1 HF1.out)
            have p1 : (c.op == 1) = false := by rw [beq_eq_false_iff_ne]; exact o1
            have p6 : (c.op == 6) = false := by rw [beq_eq_false_iff_ne]; exact o6
            have p7 : (c.op == 7) = false := by rw [beq_eq_false_iff_ne]; exact o7
            have p8 : (c.op == 8) = false := by rw [beq_eq_false_iff_ne]; exact o8
            clear HC1 HC6 HCE HCN H1 H6 H7 HN HOK HN0
            go_wp2_with fail
            go_at_call 84; refine HAL.out.mono ?_; intro e2 w2 hr
            obtain ⟨rfl, hr2⟩ := hr
            have HZ := Lib.hid (HQ.out _ _ ⟨rfl, hr2⟩)
            clear hr2
            go_wp2
            go_ret
            exact HZ.out
  · have HE := Lib.hid (HN0.out g)
    have HNZ := Lib.hid g
    have hq0 : (q != 0) = true := by rw [bne_iff_ne]; exact g
    go_wp2
    go_ret
    exact ⟨ret_int HE.out.symm, below_of HF1.out HB.out, HF1.out.size, fun e => absurd (HE.out.symm.trans e) HNZ.out⟩
end Go.Proofs.YtfbijdoomkgodaaGreatDoor

/-! GrP; GrQ: texts of one kind in one file; each part says what it holds. -/

/-! The reference of package value: Weigh, whatever the budget; the reference of package graph: weigh. Nothing that was there turns. -/
namespace Go.Proofs.YtfbijdoomkgodaaGreatDoor
open Go.RowKit

def WQ (m : Nat) : Prop := ∀ (x : Vl) (ao : Option Addr) (cap : Nat) (a : Int) (w : World), -1000000000000000000 ≤ a → a ≤ 1000000 → Vin x → SlV w ao x.ll cap → Calls Tryz.prog 53 #[vlv x ao cap, .int .i64 a, .int .i64 (m : Int)] w (FwI w (weiV m x a))
theorem wq_0 : WQ 0 := fun x ao cap a w h0 h1 hi hs => by
  have f0 := fuwA w (.cells #[.int .i64 x.kd, .int .i64 x.nn, .int .i64 x.dd, .string (bs x.ss), .slice ao x.ll.length cap] 28)
  have hl := hi.s
  unfold maxLen at hl
  have hz : (bs x.ss).size = x.ss.length := by simp [bs, ByteArray.size]
  show Calls _ _ _ _ (FwI w (-1))
  clear hs hi
  unfold vlv at *
  go_enter Tryz.func53, Tryz.ntmps53
  go_wp2
  go_ret
  exact ⟨rfl, f0⟩
set_option maxHeartbeats 3200000 in
set_option maxRecDepth 100000 in
theorem wq_s (m : Nat) (hm : m < 1000) (hw : WQ m) : WQ (m + 1) := fun x ao cap a w h0 h1 hi hs => by
  have p0 := Bk.new w #[.int .i64 x.kd, .int .i64 x.nn, .int .i64 x.dd, .string (bs x.ss), .slice ao x.ll.length cap] 28
  have f0 := fuwA w (.cells #[.int .i64 x.kd, .int .i64 x.nn, .int .i64 x.dd, .string (bs x.ss), .slice ao x.ll.length cap] 28)
  have hl := hi.s
  unfold maxLen at hl
  have hz : (bs x.ss).size = x.ss.length := by simp [bs, ByteArray.size]
  have hll := hs.le
  have hlm := hs.max
  unfold maxLen at hlm
  have HS := Lib.hid (hs.onw f0)
  have HW := Lib.hid hw
  have e := Lib.hid (weiV_s m x a)
  have HP := Lib.hid p0
  clear hs hi hw p0
  generalize weiV (m + 1) x a = W at *
  rw [show ((m + 1 : Nat) : Int) = (m : Int) + 1 by omega]
  unfold vlv
  obtain ⟨w0, hw0⟩ : ∃ w0, w0 = w.alloc (.cells #[.int .i64 x.kd, .int .i64 x.nn, .int .i64 x.dd, .string (bs x.ss), .slice ao x.ll.length cap] 28) := ⟨_, rfl⟩
  rw [← hw0] at HP f0 HS
  have HW0 := Lib.hid hw0
  have F0 := Lib.hid f0
  clear hw0 f0
  go_enter Tryz.func53, Tryz.ntmps53
  go_wp2
  go_loopw [1, 7] (fun lv iv wr => ∃ (c : Int) (i : Nat), lv = .int .i64 c ∧ iv = .int .i64 i ∧ i ≤ x.ll.length ∧ c ≤ a ∧ Hid (W = weiL m (x.ll.drop i) c) ∧ Hid (Fuw w0 wr)) (fun _ iv _ => x.ll.length - (RowKit.intOf iv).toNat)
  case atStart =>
    refine ⟨a - 1 - ((x.ss.length / 50 : Nat) : Int), 0, congrArg (Value.int .i64) ?_, rfl, Nat.zero_le _, by omega, e.out, ?_⟩
    · omega
    · rw [HW0.out]; exact Fuw.refl _
  case round =>
    obtain ⟨c, i, rfl, rfl, hi, hc, HN, hf⟩ := hrel
    have c4 : wr.cell? ⟨w.heap.size, 4, none⟩ = some (.slice ao x.ll.length cap) := (HP.out.on hf.out).c 4
    by_cases hc0 : 0 ≤ c
    · by_cases hlt : i < x.ll.length
      · obtain ⟨b, o, rfl, hv⟩ := (HS.out.onw hf.out).get hlt
        have hA := weiL_drop m x.ll i hlt hc0
        obtain ⟨hy, d0, d1, d2, d3, ao', cap', d4, hs2⟩ := VC_of hv
        have HC := Lib.hid (HW.out x.ll[i] ao' cap' c wr (by omega) (by omega) hy hs2)
        have hlw := weiV_lt m x.ll[i] hc0
        have HE := Lib.hid (HN.out.trans hA)
        unfold vlv at HC
        clear hv hs2 hy hA
        generalize x.ll[i] = y at *
        generalize weiV m y c = r at *
        go_wp2_with fail
        go_at_call 53
        refine (HC.out).mono ?_; rintro e1 w1 ⟨rfl, f1⟩
        have HF := Lib.hid (hf.out.trans f1)
        go_wp2
        go_roundw
        case rel => exact ⟨r, i + 1, rfl, by go_num, by omega, by omega, HE, HF⟩
        case measure => simp [RowKit.intOf]; omega
      · have HE := Lib.hid (show W = c by rw [HN.out, List.drop_of_length_le (by omega)]; rfl)
        go_wp2
        go_ret
        exact ⟨ret_int HE.out.symm, F0.out.trans hf.out⟩
    · have HE := Lib.hid (show W = c by rw [HN.out, weiL_neg _ _ (by omega)])
      by_cases hlt : i < x.ll.length
      · go_wp2
        go_ret
        exact ⟨ret_int HE.out.symm, F0.out.trans hf.out⟩
      · go_wp2
        go_ret
        exact ⟨ret_int HE.out.symm, F0.out.trans hf.out⟩
theorem wq_any : ∀ m, m < 1000 → WQ m
  | 0, _ => wq_0
  | m + 1, h => wq_s m (by omega) (wq_any m (by omega))

/-! Budgets. -/
theorem wei_lt' (m : Nat) (x : Vl) (a : Int) (h : 0 ≤ a) (b : Int) (hb : 0 ≤ b) : weiV m x (a - b) < a := by
  by_cases g : 0 ≤ a - b
  · have := weiV_lt m x g; omega
  · cases m with
    | zero => show (-1 : Int) < a; omega
    | succ m =>
      rw [weiV_s, weiL_neg _ _ (by omega)]
      omega
end Go.Proofs.YtfbijdoomkgodaaGreatDoor

/-! The reference of package graph: Small. Nothing that was there turns. -/
namespace Go.Proofs.YtfbijdoomkgodaaGreatDoor
open Go.RowKit

end Go.Proofs.YtfbijdoomkgodaaGreatDoor

/-! The reference of package graph: properties in new memory. Nothing that was there turns. -/
namespace Go.Proofs.YtfbijdoomkgodaaGreatDoor
open Go.RowKit

theorem infoP : (Tryz.prog.info? 53).map (fun i => (i.zero, i.size, i.bytes)) = some (some (.agg #[.string ⟨#[]⟩, .int .i64 0, .int .i64 0, .int .i64 0, .string ⟨#[]⟩, .slice none 0 0]), 6, 80) := by kernel_rfl
end Go.Proofs.YtfbijdoomkgodaaGreatDoor

/-! The reference of package graph: a graph in new memory. Nothing that was there turns. -/
namespace Go.Proofs.YtfbijdoomkgodaaGreatDoor
open Go.RowKit

theorem infoN : (Tryz.prog.info? 56).map (fun i => (i.zero, i.size, i.bytes)) = some (some (.agg #[.int .i64 0, .slice none 0 0, .slice none 0 0]), 3, 56) := by kernel_rfl
theorem infoE : (Tryz.prog.info? 58).map (fun i => (i.zero, i.size, i.bytes)) = some (some (.agg #[.int .i64 0, .int .i64 0, .int .i64 0, .string ⟨#[]⟩, .slice none 0 0]), 5, 64) := by kernel_rfl
end Go.Proofs.YtfbijdoomkgodaaGreatDoor

/-! slices.Clone at strings, properties, nodes and edges: a row of the call's own with the same cells. Nothing that was there turns. -/
namespace Go.Proofs.YtfbijdoomkgodaaGreatDoor
open Go.RowKit

def RetCn (w : World) (T : TypeId) (s n : Nat) (xs : List Value) (e : Ending) (w' : World) : Prop := ∃ v, e = .returned v ∧ w'.ownsRow w.heap.size T s v n xs ∧ Fuw w w'
set_option maxHeartbeats 2000000 in
set_option maxRecDepth 100000 in
theorem clone_s (xs : List Value) (n cap : Nat) (ao : Option Addr) (w : World) (hnil : ao = none → n = 0 ∧ cap = 0) (hc : ∀ p, ao = some p → ∀ j u, xs[j]? = some u → w.cell? (p.add j) = some u) (hx : xs.length = n * 1) (hn : n ≤ 100000) (h1 : ∀ u ∈ xs, u.oneCell' = true) :
    Calls Tryz.prog 79 #[.slice ao n cap] w (RetCn w 9 1 n xs) := by
  obtain ⟨i0, hi, hz0, hz1, hz2⟩ := info_parts infoS
  have q22 : ∀ (w : World) (a : Option Addr) (n c n' c' : Nat), (binOp .eql 51 (.slice a n c) (.slice none n' c')).run Tryz.prog w = .ok (.bool a.isNone) w := fun w a n c n' c' => Lib.run_eql_slice_nil w _ _ a n c n' c' Tryz.underlying51
  cases ao with
  | none =>
    obtain ⟨rfl, rfl⟩ := hnil rfl
    obtain rfl : xs = [] := List.eq_nil_of_length_eq_zero (by omega)
    clear hc hnil hx h1 hn
    go_enter Tryz.func79, Tryz.ntmps79
    go_wp2
    go_ret
    exact ⟨_, rfl, World.ownsRow_nil _ _ _ _, Fuw.refl _⟩
  | some p =>
    have HC := Lib.hid (hc p rfl)
    have HX := Lib.hid hx
    have H1 := Lib.hid h1
    clear hc hx h1 hnil
    go_enter Tryz.func79, Tryz.ntmps79
    go_wp2_with (at_builtin; refine wpList_append_own _ rfl _ _ 51 rfl w.heap.size 9 i0 _ 1 16 Tryz.underlying51 hi hz0 hz1 hz2 rfl (by decide) _ _ _ rfl (World.ownsRow_made w #[] 0 (Nat.le_refl _) (Nat.zero_le _) (by simp)) p n cap xs rfl ?qc1 ?qc2 ?qc3 ?qc4 ?qc5 ?qc6 ?_)
    case qc1 => have := HX.out; omega
    case qc2 =>
      intro j u hj
      exact cellOnw (fuwA w _) (HC.out j u hj)
    case qc3 => exact H1.out
    case qc4 => unfold maxLen; omega
    case qc5 => omega
    case qc6 => simp
    intro v' w1 hown hgrow hnil
    have HO := Lib.hid (show w1.ownsRow w.heap.size 9 1 v' n xs from by simpa using hown)
    have HG := Lib.hid (show Fuw w w1 from ((Below.refl _ w).alloc (Nat.le_refl _) _).grown hgrow (by simp) (by intro k hk; simp [Value.ownBlock] at hk; omega))
    clear hown hgrow hnil
    go_wp2
    go_ret
    exact ⟨v', rfl, HO.out, HG.out⟩
set_option maxHeartbeats 2000000 in
set_option maxRecDepth 100000 in
theorem clone_p (xs : List Value) (n cap : Nat) (ao : Option Addr) (w : World) (hnil : ao = none → n = 0 ∧ cap = 0) (hc : ∀ p, ao = some p → ∀ j u, xs[j]? = some u → w.cell? (p.add j) = some u) (hx : xs.length = n * 6) (hn : n ≤ 100000) (h1 : ∀ u ∈ xs, u.oneCell' = true) :
    Calls Tryz.prog 80 #[.slice ao n cap] w (RetCn w 53 6 n xs) := by
  obtain ⟨i0, hi, hz0, hz1, hz2⟩ := info_parts infoP
  have q22 : ∀ (w : World) (a : Option Addr) (n c n' c' : Nat), (binOp .eql 54 (.slice a n c) (.slice none n' c')).run Tryz.prog w = .ok (.bool a.isNone) w := fun w a n c n' c' => Lib.run_eql_slice_nil w _ _ a n c n' c' Tryz.underlying54
  cases ao with
  | none =>
    obtain ⟨rfl, rfl⟩ := hnil rfl
    obtain rfl : xs = [] := List.eq_nil_of_length_eq_zero (by omega)
    clear hc hnil hx h1 hn
    go_enter Tryz.func80, Tryz.ntmps80
    go_wp2
    go_ret
    exact ⟨_, rfl, World.ownsRow_nil _ _ _ _, Fuw.refl _⟩
  | some p =>
    have HC := Lib.hid (hc p rfl)
    have HX := Lib.hid hx
    have H1 := Lib.hid h1
    clear hc hx h1 hnil
    go_enter Tryz.func80, Tryz.ntmps80
    go_wp2_with (at_builtin; refine wpList_append_own _ rfl _ _ 54 rfl w.heap.size 53 i0 _ 6 80 Tryz.underlying54 hi hz0 hz1 hz2 rfl (by decide) _ _ _ rfl (World.ownsRow_made w #[] 0 (Nat.le_refl _) (Nat.zero_le _) (by simp)) p n cap xs rfl ?qc1 ?qc2 ?qc3 ?qc4 ?qc5 ?qc6 ?_)
    case qc1 => have := HX.out; omega
    case qc2 =>
      intro j u hj
      exact cellOnw (fuwA w _) (HC.out j u hj)
    case qc3 => exact H1.out
    case qc4 => unfold maxLen; omega
    case qc5 => omega
    case qc6 => simp
    intro v' w1 hown hgrow hnil
    have HO := Lib.hid (show w1.ownsRow w.heap.size 53 6 v' n xs from by simpa using hown)
    have HG := Lib.hid (show Fuw w w1 from ((Below.refl _ w).alloc (Nat.le_refl _) _).grown hgrow (by simp) (by intro k hk; simp [Value.ownBlock] at hk; omega))
    clear hown hgrow hnil
    go_wp2
    go_ret
    exact ⟨v', rfl, HO.out, HG.out⟩
set_option maxHeartbeats 2000000 in
set_option maxRecDepth 100000 in
theorem clone_n (xs : List Value) (n cap : Nat) (ao : Option Addr) (w : World) (hnil : ao = none → n = 0 ∧ cap = 0) (hc : ∀ p, ao = some p → ∀ j u, xs[j]? = some u → w.cell? (p.add j) = some u) (hx : xs.length = n * 3) (hn : n ≤ 100000) (h1 : ∀ u ∈ xs, u.oneCell' = true) :
    Calls Tryz.prog 77 #[.slice ao n cap] w (RetCn w 56 3 n xs) := by
  obtain ⟨i0, hi, hz0, hz1, hz2⟩ := info_parts infoN
  have q22 : ∀ (w : World) (a : Option Addr) (n c n' c' : Nat), (binOp .eql 22 (.slice a n c) (.slice none n' c')).run Tryz.prog w = .ok (.bool a.isNone) w := fun w a n c n' c' => Lib.run_eql_slice_nil w _ _ a n c n' c' Tryz.underlying22
  cases ao with
  | none =>
    obtain ⟨rfl, rfl⟩ := hnil rfl
    obtain rfl : xs = [] := List.eq_nil_of_length_eq_zero (by omega)
    clear hc hnil hx h1 hn
    go_enter Tryz.func77, Tryz.ntmps77
    go_wp2
    go_ret
    exact ⟨_, rfl, World.ownsRow_nil _ _ _ _, Fuw.refl _⟩
  | some p =>
    have HC := Lib.hid (hc p rfl)
    have HX := Lib.hid hx
    have H1 := Lib.hid h1
    clear hc hx h1 hnil
    go_enter Tryz.func77, Tryz.ntmps77
    go_wp2_with (at_builtin; refine wpList_append_own _ rfl _ _ 22 rfl w.heap.size 56 i0 _ 3 56 Tryz.underlying22 hi hz0 hz1 hz2 rfl (by decide) _ _ _ rfl (World.ownsRow_made w #[] 0 (Nat.le_refl _) (Nat.zero_le _) (by simp)) p n cap xs rfl ?qc1 ?qc2 ?qc3 ?qc4 ?qc5 ?qc6 ?_)
    case qc1 => have := HX.out; omega
    case qc2 =>
      intro j u hj
      exact cellOnw (fuwA w _) (HC.out j u hj)
    case qc3 => exact H1.out
    case qc4 => unfold maxLen; omega
    case qc5 => omega
    case qc6 => simp
    intro v' w1 hown hgrow hnil
    have HO := Lib.hid (show w1.ownsRow w.heap.size 56 3 v' n xs from by simpa using hown)
    have HG := Lib.hid (show Fuw w w1 from ((Below.refl _ w).alloc (Nat.le_refl _) _).grown hgrow (by simp) (by intro k hk; simp [Value.ownBlock] at hk; omega))
    clear hown hgrow hnil
    go_wp2
    go_ret
    exact ⟨v', rfl, HO.out, HG.out⟩
set_option maxHeartbeats 2000000 in
set_option maxRecDepth 100000 in
theorem clone_e (xs : List Value) (n cap : Nat) (ao : Option Addr) (w : World) (hnil : ao = none → n = 0 ∧ cap = 0) (hc : ∀ p, ao = some p → ∀ j u, xs[j]? = some u → w.cell? (p.add j) = some u) (hx : xs.length = n * 5) (hn : n ≤ 100000) (h1 : ∀ u ∈ xs, u.oneCell' = true) :
    Calls Tryz.prog 78 #[.slice ao n cap] w (RetCn w 58 5 n xs) := by
  obtain ⟨i0, hi, hz0, hz1, hz2⟩ := info_parts infoE
  have q22 : ∀ (w : World) (a : Option Addr) (n c n' c' : Nat), (binOp .eql 23 (.slice a n c) (.slice none n' c')).run Tryz.prog w = .ok (.bool a.isNone) w := fun w a n c n' c' => Lib.run_eql_slice_nil w _ _ a n c n' c' Tryz.underlying23
  cases ao with
  | none =>
    obtain ⟨rfl, rfl⟩ := hnil rfl
    obtain rfl : xs = [] := List.eq_nil_of_length_eq_zero (by omega)
    clear hc hnil hx h1 hn
    go_enter Tryz.func78, Tryz.ntmps78
    go_wp2
    go_ret
    exact ⟨_, rfl, World.ownsRow_nil _ _ _ _, Fuw.refl _⟩
  | some p =>
    have HC := Lib.hid (hc p rfl)
    have HX := Lib.hid hx
    have H1 := Lib.hid h1
    clear hc hx h1 hnil
    go_enter Tryz.func78, Tryz.ntmps78
    go_wp2_with (at_builtin; refine wpList_append_own _ rfl _ _ 23 rfl w.heap.size 58 i0 _ 5 64 Tryz.underlying23 hi hz0 hz1 hz2 rfl (by decide) _ _ _ rfl (World.ownsRow_made w #[] 0 (Nat.le_refl _) (Nat.zero_le _) (by simp)) p n cap xs rfl ?qc1 ?qc2 ?qc3 ?qc4 ?qc5 ?qc6 ?_)
    case qc1 => have := HX.out; omega
    case qc2 =>
      intro j u hj
      exact cellOnw (fuwA w _) (HC.out j u hj)
    case qc3 => exact H1.out
    case qc4 => unfold maxLen; omega
    case qc5 => omega
    case qc6 => simp
    intro v' w1 hown hgrow hnil
    have HO := Lib.hid (show w1.ownsRow w.heap.size 58 5 v' n xs from by simpa using hown)
    have HG := Lib.hid (show Fuw w w1 from ((Below.refl _ w).alloc (Nat.le_refl _) _).grown hgrow (by simp) (by intro k hk; simp [Value.ownBlock] at hk; omega))
    clear hown hgrow hnil
    go_wp2
    go_ret
    exact ⟨v', rfl, HO.out, HG.out⟩
end Go.Proofs.YtfbijdoomkgodaaGreatDoor
