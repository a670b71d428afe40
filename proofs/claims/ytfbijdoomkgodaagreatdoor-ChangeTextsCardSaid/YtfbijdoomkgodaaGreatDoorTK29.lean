/-
  TxF; ChQ: texts of one kind in one file; each part says what it holds.
-/
import Derived.Test.YtfbijdoomkgodaaGreatDoorTTxE
import Derived.Test.YtfbijdoomkgodaaGreatDoorTK22
import Derived.Deep.RegionWith
import Derived.Test.YtfbijdoomkgodaaGreatDoorTK27

/-! Package change: the text of any change. -/
namespace Go.Proofs.YtfbijdoomkgodaaGreatDoor
open Go.RowKit
set_option maxHeartbeats 3200000 in
set_option maxRecDepth 100000 in
theorem textc_bad (c : Ch) (a : Option Addr) (k : Nat) (w : World) (h : ChIn w c a k) (hq : ¬ chkC c = 0) : Calls Tryz.prog 22 #[.agg (chC c a k)] w (RwT w []) := by
  obtain ⟨W, hW⟩ : ∃ W, W = w.alloc (.cells (chC c a k) 30) := ⟨_, rfl⟩
  have fW : Fuw w W := by rw [hW]; exact fuwA _ _
  have bW : Bk W w.heap.size (chC c a k) 30 := by rw [hW]; exact Bk.new _ _ _
  obtain ⟨q, hqq⟩ : ∃ q, q = chkC c := ⟨_, rfl⟩
  have HCK := Lib.hid (show Calls Tryz.prog 12 #[.agg (chC c a k)] W (FwI W q) from by rw [hqq]; exact lchk_any c a k W (h.on fW))
  rw [← hqq] at hq
  have HFW := Lib.hid fW
  have HBW := Lib.hid bW
  unfold chC at *
  have d0 := bW.c 0; have d1 := bW.c 1; have d2 := bW.c 2; have d3 := bW.c 3; have d4 := bW.c 4; have d5 := bW.c 5; have d6 := bW.c 6; have d7 := bW.c 7; have d8 := bW.c 8; have d9 := bW.c 9
  clear h hqq fW bW
  go_enter Tryz.func22, Tryz.ntmps22
  go_upto_region 1 with fail
  rw [← hW]
  clear hW
  go_wp2_with fail
  go_at_call 12; refine HCK.out.mono ?_; rintro e1 w1 ⟨rfl, f1⟩
  have HF1 := Lib.hid (HFW.out.trans f1)
  clear d0 d1 d2 d3 d4 d5 d6 d7 d8 d9 f1 HFW HBW HCK
  go_wp2
  go_ret
  exact ⟨rfl, HF1.out⟩
theorem textc_any (c : Ch) (a : Option Addr) (k : Nat) (w : World) (h : ChIn w c a k) (G : Good w) : Calls Tryz.prog 22 #[.agg (chC c a k)] w (RwT w (texC c)) := by
  unfold texC
  by_cases q : chkC c = 0
  · rw [if_pos q]; exact textc_raw c a k w h G q
  · rw [if_neg q]; exact textc_bad c a k w h q
end Go.Proofs.YtfbijdoomkgodaaGreatDoor

/-! Package change: an edge added to the graph that is edited. -/
namespace Go.Proofs.YtfbijdoomkgodaaGreatDoor
open Go.RowKit

theorem blks_addE {G : Gp} {v' : Value} {p : Nat} {x fr tt ne : Int} {ty : List UInt8} {k : Nat} (h : k ∈ blks ({ G with ve := v', es := insA G.es p ⟨x, fr, tt, ty, [], .slice none 0 0⟩, ne := ne } : Gp).rows) : v'.ownBlock = some k ∨ k ∈ blks G.rows := by
  obtain ⟨r, hr, hk⟩ := blks_mem.1 h
  rcases List.mem_cons.1 hr with rfl | hr
  · exact .inr (blks_mem.2 ⟨_, List.mem_cons_self .., hk⟩)
  · rcases List.mem_cons.1 hr with rfl | hr
    · exact .inl hk
    · refine .inr (blks_mem.2 ⟨r, ?_, hk⟩)
      have hr' := (inR_insE G.ns G.es G.xs p ⟨x, fr, tt, ty, [], .slice none 0 0⟩).mem_iff.2 hr
      rcases List.mem_append.1 hr' with e | e
      · exfalso
        simp only [Ep.rows, List.mem_cons, List.not_mem_nil, or_false] at e
        rcases e with rfl; cases hk
      · exact List.mem_cons_of_mem _ (List.mem_cons_of_mem _ e)
/-- The edges' row has another shape; an edge without properties has come. -/
theorem GOwn.addE {w0 w w' : World} {base : Nat} {G : Gp} (h : GOwn w0 w base G) {v' : Value} {p : Nat} {x fr tt : Int} {ty : List UInt8} (hx : I64 x) (hfr : I64 fr) (htt : I64 tt) (hty : ty.length ≤ maxLen) (ne : Int) (hne : I64 ne)
    (ho : w'.ownsRow base 58 5 v' (G.es.length + 1) ((csE G.es).take (p * 5) ++ [.int .i64 x, .int .i64 fr, .int .i64 tt, .string (bs ty), .slice none 0 0] ++ (csE G.es).drop (p * 5)))
    (hg : w.grownBy w' G.ve.ownBlock) (hat : v'.ownBlock = G.ve.ownBlock ∨ ∀ k, v'.ownBlock = some k → w.heap.size ≤ k) (hf : Fuw w0 w') :
    GOwn w0 w' base { G with ve := v', es := insA G.es p ⟨x, fr, tt, ty, [], .slice none 0 0⟩, ne := ne } := by
  refine ⟨?_, h.no, fun y hy => ?_, h.i1, hne, hf, h.lo⟩
  · have e : rowE v' (insA G.es p ⟨x, fr, tt, ty, [], .slice none 0 0⟩) = ⟨58, 5, v', G.es.length + 1, (csE G.es).take (p * 5) ++ [.int .i64 x, .int .i64 fr, .int .i64 tt, .string (bs ty), .slice none 0 0] ++ (csE G.es).drop (p * 5)⟩ := by
      unfold rowE
      rw [csE_ins, insA_len]
      rfl
    have h1 : Rows w' base (rowE v' (insA G.es p ⟨x, fr, tt, ty, [], .slice none 0 0⟩) :: rowN G.vn G.ns :: inR G.ns G.es G.xs) := by
      rw [e]
      exact Rows.turn (h.rows.perm (List.Perm.swap _ _ _)) hg ho hat
    have h2 := h1.none_ 53 6
    refine h2.perm ?_
    show (_ :: rowE v' _ :: rowN G.vn G.ns :: inR G.ns G.es G.xs).Perm (rowN G.vn G.ns :: rowE v' _ :: inR G.ns (insA G.es p ⟨x, fr, tt, ty, [], .slice none 0 0⟩) G.xs)
    have k := inR_insE G.ns G.es G.xs p ⟨x, fr, tt, ty, [], .slice none 0 0⟩
    refine List.Perm.trans ?_ ((k.cons _).cons _)
    refine List.Perm.trans (List.Perm.swap _ _ _) ?_
    refine List.Perm.trans ((List.Perm.swap _ _ _).cons _) ?_
    exact List.Perm.swap _ _ _
  · rcases insA_mem.1 hy with rfl | hy
    · exact ⟨hx, hfr, htt, hty, (fun q hq => by cases hq)⟩
    · exact h.eo y hy
set_option maxHeartbeats 6400000 in
set_option maxRecDepth 100000 in
theorem addedge_any {w0 w : World} {base B : Nat} {G : Gp} (h : GBox w0 w base B G) (hv : GVal G.gr) (c : Ch) (a : Option Addr) (k : Nat) (hi : 1 ≤ c.id ∧ c.id ≤ 1000000) (hfr : I64 c.fr) (htt : I64 c.tt) (hty : c.nm.length ≤ maxLen) :
    Calls Tryz.prog 82 #[.pointer (some ⟨B, 0, none⟩), .agg (chC c a k)] w (RetEd w0 w base B G.xs (if hasE G.gr.es c.id = true then 7 else if (hasN G.gr.ns c.fr && hasN G.gr.ns c.tt) = false then 10 else if 4000 ≤ G.gr.es.length then 20 else 0) (addE G.gr c)) := by
  have hlb : base ≤ w.heap.size := Nat.le_trans h.hi (Nat.le_of_lt h.box.lt)
  obtain ⟨W, hW⟩ : ∃ W, W = w.alloc (.cells (chC c a k) 30) := ⟨_, rfl⟩
  have fW : Fuw w W := by rw [hW]; exact fuwA _ _
  have bW : Bk W w.heap.size (chC c a k) 30 := by rw [hW]; exact Bk.new _ _ _
  have hGW := h.later fW
  have hnl : G.ns.length ≤ 5000 := by have := hv.n; unfold Gp.gr at this; rw [List.length_map] at this; omega
  have HFN := Lib.hid (fedge_any hGW c.id hv.pe (by have := hv.e; unfold Gp.gr at this; rw [List.length_map] at this; omega))
  have HN1 := Lib.hid (fun (w' : World) (hf : Fuw W w') => hasnode_any (hGW.later hf) c.fr hv.pn hnl)
  have HN2 := Lib.hid (fun (w' : World) (hf : Fuw W w') => hasnode_any (hGW.later hf) c.tt hv.pn hnl)
  obtain ⟨R, hR⟩ : ∃ R, R = (if hasE G.gr.es c.id = true then 7 else if (hasN G.gr.ns c.fr && hasN G.gr.ns c.tt) = false then 10 else if 4000 ≤ G.gr.es.length then 20 else 0 : Int) := ⟨_, rfl⟩
  rw [← hR]
  generalize hasE G.gr.es c.id = q at *
  generalize hasN G.gr.ns c.fr = q1 at *
  generalize hasN G.gr.ns c.tt = q2 at *
  have HR := Lib.hid hR
  clear hR
  obtain ⟨p, hp⟩ : ∃ p, p = atI (eidsV G.gr.es) c.id := ⟨_, rfl⟩
  rw [← hp] at HFN
  have HBW := Lib.hid bW
  have HGW := Lib.hid hGW
  have HFW := Lib.hid fW
  have HP := Lib.hid hp
  have d1 := bW.c 1
  have HL := Lib.hid hlb
  have HV := Lib.hid hv
  have HI := Lib.hid hi
  have HLB := Lib.hid (show B < w.heap.size from h.box.lt)
  have HLT := Lib.hid (fun k (e : G.ve.ownBlock = some k) => (h.own.erow.lt k e).2)
  have HX := Lib.hid (And.intro hfr (And.intro htt hty))
  unfold chC at hW d1 ⊢
  clear hp h hv hGW fW bW hlb hi hnl hfr htt hty
  go_enter Tryz.func82, Tryz.ntmps82
  go_upto_region 1 with fail
  rw [← hW]
  clear hW
  go_wp2_with fail
  go_at_call 119; refine HFN.out.mono ?_; rintro e1 w1 ⟨rfl, f1⟩
  have HF1 := Lib.hid (HFW.out.trans f1)
  have HG1 := Lib.hid (HGW.out.later f1)
  have HB1 := Lib.hid (HBW.out.on f1)
  have HQ1 := Lib.hid (HN1.out w1 f1)
  have HQ2 := Lib.hid (fun (w' : World) (hf : Fuw w1 w') => HN2.out w' (f1.trans hf))
  clear d1 f1 HFN HGW HBW HN1 HN2
  cases q with
  | true =>
    have HE := Lib.hid (show R = 7 from HR.out.trans (if_pos rfl))
    go_wp2
    go_ret
    exact ⟨ret_int HE.out.symm, below_of HF1.out HL.out, HF1.out.size, fun e => by rw [HE.out] at e; cases e⟩
  | false =>
    have d2 := HB1.out.c 2
    have d3 := HB1.out.c 3
    unfold chC at d2 d3
    go_upto_region 4 with fail
    go_wp2_with fail
    go_at_call 120; refine HQ1.out.mono ?_; rintro e2 w2 ⟨rfl, f2⟩
    cases q1 with
    | false =>
      have HE := Lib.hid (show R = 10 from HR.out.trans ((if_neg (by decide)).trans (if_pos (by rfl))))
      have HF2 := Lib.hid (HF1.out.trans f2)
      clear f2
      go_wp2
      go_ret
      exact ⟨ret_int HE.out.symm, below_of HF2.out HL.out, HF2.out.size, fun e => by rw [HE.out] at e; cases e⟩
    | true =>
      have d3' : w2.cell? ⟨w.heap.size, 3, none⟩ = some (.int .i64 c.tt) := cellOnw f2 d3
      have HQ2' := Lib.hid (HQ2.out w2 f2)
      have HF2 := Lib.hid f2
      clear HQ2 f2 d2 d3
      go_wp2_with fail
      go_at_call 120; refine HQ2'.out.mono ?_; rintro e3 w3 ⟨rfl, f3⟩
      have HF3 := Lib.hid (HF1.out.trans (HF2.out.trans f3))
      have HG3 := Lib.hid (HG1.out.later (HF2.out.trans f3))
      have HB3 := Lib.hid (HB1.out.on (HF2.out.trans f3))
      clear f3 HF1 HG1 HB1 HF2 HQ2' HQ1 d3'
      cases q2 with
      | false =>
        have HE := Lib.hid (show R = 10 from HR.out.trans ((if_neg (by decide)).trans (if_pos (by rfl))))
        go_wp2
        go_ret
        exact ⟨ret_int HE.out.symm, below_of HF3.out HL.out, HF3.out.size, fun e => by rw [HE.out] at e; cases e⟩
      | true =>
        obtain ⟨an, cn, en, -⟩ := HG3.out.own.sle
        have c0 := HG3.out.box.c 1
        simp only [en] at c0
        have HEN := Lib.hid en
        clear en
        have hlen : G.gr.es.length = G.es.length := by unfold Gp.gr; rw [List.length_map]
        by_cases hfull : 4000 ≤ G.es.length
        · have hq : ((G.es.length : Int) == 4000) = true := by
            have := HV.out.e
            rw [hlen] at this
            rw [beq_iff_eq]; omega
          have HE := Lib.hid (show R = 20 from HR.out.trans ((if_neg (by decide)).trans ((if_neg (by decide)).trans (if_pos (by rw [hlen]; exact hfull)))))
          clear hlen
          go_wp2
          go_ret
          exact ⟨ret_int HE.out.symm, below_of HF3.out HL.out, HF3.out.size, fun e => by rw [HE.out] at e; cases e⟩
        · have hq : ((G.es.length : Int) == 4000) = false := by rw [beq_eq_false_iff_ne]; omega
          have HE := Lib.hid (show R = 0 from HR.out.trans ((if_neg (by decide)).trans ((if_neg (by decide)).trans (if_neg (by rw [hlen]; exact hfull)))))
          clear hlen
          have hpl : p ≤ G.es.length := by
            rw [HP.out]
            have := atI_le (eidsV G.gr.es) c.id
            unfold eidsV Gp.gr at this
            rw [List.length_map, List.length_map] at this
            exact this
          have HIN := Lib.hid (show Calls Tryz.prog 121 #[.slice an G.es.length cn, .int .i64 (p : Int), .slice (some ⟨w3.heap.size, 0, none⟩) 1 1] (w3.drew.alloc (.cells #[.int .i64 c.id, .int .i64 c.fr, .int .i64 c.tt, .string (bs c.nm), .slice none 0 0] 58)) (RetIns (w3.drew.alloc (.cells #[.int .i64 c.id, .int .i64 c.fr, .int .i64 c.tt, .string (bs c.nm), .slice none 0 0] 58)) base 58 5 (.slice an G.es.length cn) (G.es.length + 1) ((csE G.es).take (p * 5) ++ [.int .i64 c.id, .int .i64 c.fr, .int .i64 c.tt, .string (bs c.nm), .slice none 0 0] ++ (csE G.es).drop (p * 5))) from by
            have hr := HG3.out.own.erow
            unfold rowE Rw.Own at hr
            simp only [HEN.out] at hr
            have hr2 := own_on hr (show Fuw w3 (w3.drew.alloc (.cells #[.int .i64 c.id, .int .i64 c.fr, .int .i64 c.tt, .string (bs c.nm), .slice none 0 0] 58)) from (Fuw.drew (Fuw.refl _)).alloc _)
            exact ins_e hr2 p hpl (by omega) (by have := HF3.out.size; have := HL.out; simp; omega) (Bk.new w3.drew _ _) rfl (fun e => by have := (hr.lt _ e).2; omega) HG3.out.own.oneE (by intro u hu; simp at hu; rcases hu with rfl | rfl | rfl | rfl | rfl <;> rfl))
          have HNE := Lib.hid (show some B ≠ (Value.slice an G.es.length cn).ownBlock from fun e => HG3.out.far (blks_mem.2 ⟨rowE G.ve G.es, List.mem_cons_of_mem _ (List.mem_cons_self ..), by unfold rowE; rw [HEN.out]; exact e.symm⟩))
          have HBX := Lib.hid (show Bk (w3.drew.alloc (.cells #[.int .i64 c.id, .int .i64 c.fr, .int .i64 c.tt, .string (bs c.nm), .slice none 0 0] 58)) B #[G.vn, .slice an G.es.length cn, .int .i64 G.nn, .int .i64 G.ne] 25 from by
            have := HG3.out.box.on (show Fuw w3 (w3.drew.alloc (.cells #[.int .i64 c.id, .int .i64 c.fr, .int .i64 c.tt, .string (bs c.nm), .slice none 0 0] 58)) from (Fuw.drew (Fuw.refl _)).alloc _)
            rw [HEN.out] at this
            exact this)
          clear hfull
          have d1 := HB3.out.c 1
          have d2 := HB3.out.c 2
          have d3 := HB3.out.c 3
          have d4 := HB3.out.c 4
          unfold chC at d1 d2 d3 d4
          have lB : B < w3.heap.size := HG3.out.box.lt
          have lC : w.heap.size < w3.heap.size := HB3.out.lt
          go_upto_region 8 with fail
          obtain ⟨S, hS⟩ : ∃ S : World → Prop, S = (fun w8 => w8.cell? ⟨w.heap.size, 1, none⟩ = some (.int .i64 c.id) ∧ w8.cell? ⟨w.heap.size, 2, none⟩ = some (.int .i64 c.fr) ∧ w8.cell? ⟨w.heap.size, 3, none⟩ = some (.int .i64 c.tt) ∧ w8.cell? ⟨w.heap.size, 4, none⟩ = some (.string (bs c.nm)) ∧ w8.cell? ⟨B, 1, none⟩ = some (.slice an G.es.length cn)) := ⟨_, rfl⟩
          have HS := Lib.hid hS
          clear hS
          refine lst_start [19] S (by kernel_rfl) ?_
          have hS0 : S w3.drew := by rw [HS.out]; exact ⟨d1, d2, d3, d4, c0⟩
          refine takeP (i := 0) (d := some 33) (v := ?_) rfl rfl (by kernel_rfl) (by kernel_rfl) (by kernel_rfl) (by kernel_rfl) (by kernel_rfl) (fun _ _ _ h => h) (Or.inl ⟨by rfl, ?_⟩) (by first | exact Or.inr (by assumption) | exact Or.inl (by kernel_rfl)) ?_
          rotate_left
          · ((intro w8 _; go_simp); try with_reducible rfl)
          try simp only [Act.put]
          try simp only [List.setIfInBounds_toArray]
          try simp only [List.set_cons_succ]
          try simp only [List.set_cons_zero]
          refine takeP (i := 1) (d := some 34) (v := ?_) rfl rfl (by kernel_rfl) (by kernel_rfl) (by kernel_rfl) (by kernel_rfl) (by kernel_rfl) (fun _ _ _ h => h) (Or.inl ⟨by rfl, ?_⟩) (by first | exact Or.inr (by assumption) | exact Or.inl (by kernel_rfl)) ?_
          rotate_left
          · ((intro w8 _; go_simp); try with_reducible rfl)
          try simp only [Act.put]
          try simp only [List.setIfInBounds_toArray]
          try simp only [List.set_cons_succ]
          try simp only [List.set_cons_zero]
          refine takeP (i := 2) (d := some 35) (v := ?_) rfl rfl (by kernel_rfl) (by kernel_rfl) (by kernel_rfl) (by kernel_rfl) (by kernel_rfl) (fun _ _ _ h => h) (Or.inl ⟨by rfl, ?_⟩) (by first | exact Or.inr (by assumption) | exact Or.inl (by kernel_rfl)) ?_
          rotate_left
          · ((intro w8 _; go_simp); try with_reducible rfl)
          try simp only [Act.put]
          try simp only [List.setIfInBounds_toArray]
          try simp only [List.set_cons_succ]
          try simp only [List.set_cons_zero]
          refine takeP (i := 3) (d := some 36) (v := ?_) rfl rfl (by kernel_rfl) (by kernel_rfl) (by kernel_rfl) (by kernel_rfl) (by kernel_rfl) (fun _ _ _ h => h) (Or.inl ⟨by rfl, ?_⟩) (by first | exact Or.inr (by assumption) | exact Or.inl (by kernel_rfl)) ?_
          rotate_left
          · ((intro w8 _; go_simp); try with_reducible rfl)
          try simp only [Act.put]
          try simp only [List.setIfInBounds_toArray]
          try simp only [List.set_cons_succ]
          try simp only [List.set_cons_zero]
          refine takeL (i := 4) (d := some 37) (v := ?_) rfl rfl (by kernel_rfl) (by kernel_rfl) (by kernel_rfl) (by kernel_rfl) (by kernel_rfl) (fun _ _ _ h => h) (Or.inl ⟨by rfl, ?_⟩) (by assumption) ?_
          rotate_left
          · ((intro w8 hSw; rw [HS.out] at hSw; obtain ⟨s1, s2, s3, s4, s5⟩ := hSw; go_simp); try with_reducible rfl)
          try simp only [Act.put]
          try simp only [List.setIfInBounds_toArray]
          try simp only [List.set_cons_succ]
          try simp only [List.set_cons_zero]
          refine takeP (i := 5) (d := some 38) (v := ?_) rfl rfl (by kernel_rfl) (by kernel_rfl) (by kernel_rfl) (by kernel_rfl) (by kernel_rfl) (fun _ _ _ h => h) (Or.inl ⟨by rfl, ?_⟩) (by first | exact Or.inr (by assumption) | exact Or.inl (by kernel_rfl)) ?_
          rotate_left
          · ((intro w8 _; go_simp); try with_reducible rfl)
          try simp only [Act.put]
          try simp only [List.setIfInBounds_toArray]
          try simp only [List.set_cons_succ]
          try simp only [List.set_cons_zero]
          refine takeP (i := 6) (d := some 39) (v := ?_) rfl rfl (by kernel_rfl) (by kernel_rfl) (by kernel_rfl) (by kernel_rfl) (by kernel_rfl) (fun _ _ _ h => h) (Or.inl ⟨by rfl, ?_⟩) (by first | exact Or.inr (by assumption) | exact Or.inl (by kernel_rfl)) ?_
          rotate_left
          · ((intro w8 _; go_simp); try with_reducible rfl)
          try simp only [Act.put]
          try simp only [List.setIfInBounds_toArray]
          try simp only [List.set_cons_succ]
          try simp only [List.set_cons_zero]
          refine takeL (i := 7) (d := some 40) (v := ?_) rfl rfl (by kernel_rfl) (by kernel_rfl) (by kernel_rfl) (by kernel_rfl) (by kernel_rfl) (fun _ _ _ h => h) (Or.inl ⟨by rfl, ?_⟩) (by assumption) ?_
          rotate_left
          · ((intro w8 hSw; rw [HS.out] at hSw; obtain ⟨s1, s2, s3, s4, s5⟩ := hSw; go_simp); try with_reducible rfl)
          try simp only [Act.put]
          try simp only [List.setIfInBounds_toArray]
          try simp only [List.set_cons_succ]
          try simp only [List.set_cons_zero]
          refine takeP (i := 8) (d := some 41) (v := ?_) rfl rfl (by kernel_rfl) (by kernel_rfl) (by kernel_rfl) (by kernel_rfl) (by kernel_rfl) (fun _ _ _ h => h) (Or.inl ⟨by rfl, ?_⟩) (by first | exact Or.inr (by assumption) | exact Or.inl (by kernel_rfl)) ?_
          rotate_left
          · ((intro w8 _; go_simp); try with_reducible rfl)
          try simp only [Act.put]
          try simp only [List.setIfInBounds_toArray]
          try simp only [List.set_cons_succ]
          try simp only [List.set_cons_zero]
          refine takeL (i := 9) (d := some 42) (v := ?_) rfl rfl (by kernel_rfl) (by kernel_rfl) (by kernel_rfl) (by kernel_rfl) (by kernel_rfl) (fun _ _ _ h => h) (Or.inl ⟨by rfl, ?_⟩) (by assumption) ?_
          rotate_left
          · ((intro w8 hSw; rw [HS.out] at hSw; obtain ⟨s1, s2, s3, s4, s5⟩ := hSw; go_simp); try with_reducible rfl)
          try simp only [Act.put]
          try simp only [List.setIfInBounds_toArray]
          try simp only [List.set_cons_succ]
          try simp only [List.set_cons_zero]
          refine takeP (i := 10) (d := some 43) (v := ?_) rfl rfl (by kernel_rfl) (by kernel_rfl) (by kernel_rfl) (by kernel_rfl) (by kernel_rfl) (fun _ _ _ h => h) (Or.inl ⟨by rfl, ?_⟩) (by first | exact Or.inr (by assumption) | exact Or.inl (by kernel_rfl)) ?_
          rotate_left
          · ((intro w8 _; go_simp); try with_reducible rfl)
          try simp only [Act.put]
          try simp only [List.setIfInBounds_toArray]
          try simp only [List.set_cons_succ]
          try simp only [List.set_cons_zero]
          refine takeL (i := 11) (d := some 44) (v := ?_) rfl rfl (by kernel_rfl) (by kernel_rfl) (by kernel_rfl) (by kernel_rfl) (by kernel_rfl) (fun _ _ _ h => h) (Or.inl ⟨by rfl, ?_⟩) (by assumption) ?_
          rotate_left
          · ((intro w8 hSw; rw [HS.out] at hSw; obtain ⟨s1, s2, s3, s4, s5⟩ := hSw; go_simp); try with_reducible rfl)
          try simp only [Act.put]
          try simp only [List.setIfInBounds_toArray]
          try simp only [List.set_cons_succ]
          try simp only [List.set_cons_zero]
          refine takeP (i := 12) (d := some 45) (v := ?_) rfl rfl (by kernel_rfl) (by kernel_rfl) (by kernel_rfl) (by kernel_rfl) (by kernel_rfl) (fun _ _ _ h => h) (Or.inl ⟨by rfl, ?_⟩) (by first | exact Or.inr (by assumption) | exact Or.inl (by kernel_rfl)) ?_
          rotate_left
          · ((intro w8 _; go_simp); try with_reducible rfl)
          try simp only [Act.put]
          try simp only [List.setIfInBounds_toArray]
          try simp only [List.set_cons_succ]
          try simp only [List.set_cons_zero]
          refine takeL (i := 13) (d := some 46) (v := ?_) rfl rfl (by kernel_rfl) (by kernel_rfl) (by kernel_rfl) (by kernel_rfl) (by kernel_rfl) (fun _ _ _ h => h) (Or.inl ⟨by rfl, ?_⟩) (by assumption) ?_
          rotate_left
          · ((intro w8 hSw; rw [HS.out] at hSw; obtain ⟨s1, s2, s3, s4, s5⟩ := hSw; go_simp); try with_reducible rfl)
          try simp only [Act.put]
          try simp only [List.setIfInBounds_toArray]
          try simp only [List.set_cons_succ]
          try simp only [List.set_cons_zero]
          refine takeP (i := 14) (d := some 47) (v := ?_) rfl rfl (by kernel_rfl) (by kernel_rfl) (by kernel_rfl) (by kernel_rfl) (by kernel_rfl) (fun _ _ _ h => h) (Or.inl ⟨by rfl, ?_⟩) (by first | exact Or.inr (by assumption) | exact Or.inl (by kernel_rfl)) ?_
          rotate_left
          · ((intro w8 _; go_simp); try with_reducible rfl)
          try simp only [Act.put]
          try simp only [List.setIfInBounds_toArray]
          try simp only [List.set_cons_succ]
          try simp only [List.set_cons_zero]
          have FA : Fuw w3 (w3.drew.alloc (.cells #[.int .i64 c.id, .int .i64 c.fr, .int .i64 c.tt, .string (bs c.nm), .slice none 0 0] 58)) := (Fuw.drew (Fuw.refl _)).alloc _
          have hS1 : S (w3.drew.alloc (.cells #[.int .i64 c.id, .int .i64 c.fr, .int .i64 c.tt, .string (bs c.nm), .slice none 0 0] 58)) := by rw [HS.out]; exact ⟨cellOnw FA d1, cellOnw FA d2, cellOnw FA d3, cellOnw FA d4, cellOnw FA c0⟩
          refine oneL (i := 15) rfl (by kernel_rfl) (fun K8 hK8 => ?_)
          go_simp

          refine hK8 _ _ hS1 ?_
          try simp only [Act.put]
          try simp only [List.setIfInBounds_toArray]
          try simp only [List.set_cons_succ]
          try simp only [List.set_cons_zero]
          refine oneL (i := 16) rfl (by kernel_rfl) (fun K8 hK8 => ?_)
          go_simp
          go_at_call 121; refine (HIN.out).mono ?_; rintro e4 w4 ⟨v2, rfl, hown2, hgr2, hat2⟩; obtain ⟨g2, k2, rfl, hg2, hg2'⟩ := hown2.form (by omega); have hb2 := HBX.out.grow hgr2 HNE.out; have m0 := hb2.c 1; have z0 := hb2.f 1
          have bC4 : Bk w4 w.heap.size (chC c a k) 30 := (HB3.out.on FA).grow hgr2 (fun e => by have := HLT.out w.heap.size (by rw [HEN.out]; exact e.symm); omega)
          have hS2 : S w4 := by rw [HS.out]; exact ⟨bC4.c 1, bC4.c 2, bC4.c 3, bC4.c 4, m0⟩
          refine hK8 _ _ hS2 ?_
          try simp only [Act.put]
          try simp only [List.setIfInBounds_toArray]
          try simp only [List.set_cons_succ]
          try simp only [List.set_cons_zero]
          refine takeP (i := 17) (d := some 50) (v := ?_) rfl rfl (by kernel_rfl) (by kernel_rfl) (by kernel_rfl) (by kernel_rfl) (by kernel_rfl) (fun _ _ _ h => h) (Or.inl ⟨by rfl, ?_⟩) (by first | exact Or.inr (by assumption) | exact Or.inl (by kernel_rfl)) ?_
          rotate_left
          · ((intro w8 _; go_simp); try with_reducible rfl)
          try simp only [Act.put]
          try simp only [List.setIfInBounds_toArray]
          try simp only [List.set_cons_succ]
          try simp only [List.set_cons_zero]
          refine takeP (i := 18) (d := some 51) (v := ?_) rfl rfl (by kernel_rfl) (by kernel_rfl) (by kernel_rfl) (by kernel_rfl) (by kernel_rfl) (fun _ _ _ h => h) (Or.inl ⟨by rfl, ?_⟩) (by first | exact Or.inr (by assumption) | exact Or.inl (by kernel_rfl)) ?_
          rotate_left
          · ((intro w8 _; go_simp); try with_reducible rfl)
          try simp only [Act.put]
          try simp only [List.setIfInBounds_toArray]
          try simp only [List.set_cons_succ]
          try simp only [List.set_cons_zero]
          refine outL (i := 19) rfl (by kernel_rfl) (by kernel_rfl) (fun K8 hK8 => ?_)
          go_simp

          refine hK8 _ _ ?_
          try simp only [Act.put]
          try simp only [List.setIfInBounds_toArray]
          try simp only [List.set_cons_succ]
          try simp only [List.set_cons_zero]
          refine lst_done (by kernel_rfl) ?_ _
          clear hS0 hS1 hS2 bC4 FA
          all_goals
            have HFA := Lib.hid (show Fuw w3 (w3.drew.alloc (.cells #[.int .i64 c.id, .int .i64 c.fr, .int .i64 c.tt, .string (bs c.nm), .slice none 0 0] 58)) from (Fuw.drew (Fuw.refl _)).alloc _)
            have HGA := Lib.hid (HG3.out.own.later HFA.out)
            obtain ⟨M, hM⟩ : ∃ M, M = max G.ne (c.id + 1) := ⟨_, rfl⟩
            have hMi : I64 M := by
              have h1 := HV.out.ne
              have h2 := HI.out
              have e1 : G.gr.ne = G.ne := rfl
              rw [e1] at h1
              unfold I64
              omega
            have HF2 := Lib.hid (show Below base w3 w4 from Below.trans (below_of HFA.out (by have := HF3.out.size; have := HL.out; omega)) (below_grown hgr2 (by have := HF3.out.size; have := HL.out; simp; omega) (fun k hk => (HG3.out.own.erow.lt k (by show G.ve.ownBlock = some k; rw [HEN.out]; exact hk)).1)))
            have hfu : Fuw w0 w4 := HG3.out.own.fu.trans_below HF2.out HG3.out.own.lo
            have hng := GOwn.addE HGA.out (v' := .slice (some ⟨g2, 0, none⟩) (G.es.length + 1) k2) (p := p) (x := c.id) (by have := HI.out; unfold I64; omega) HX.out.1 HX.out.2.1 HX.out.2.2 M hMi hown2 (by rw [HEN.out]; exact hgr2) (by rw [HEN.out]; exact hat2) hfu
            have hfar : B ∉ blks ({ G with ve := .slice (some ⟨g2, 0, none⟩) (G.es.length + 1) k2, es := insA G.es p ⟨c.id, c.fr, c.tt, c.nm, [], .slice none 0 0⟩, ne := M } : Gp).rows := fun hB => by
              rcases blks_addE hB with e | e
              · rcases hat2 with q | q
                · exact HNE.out (by rw [← e, q])
                · have := q B e
                  have := HG3.out.box.lt
                  simp at *
                  omega
              · exact HG3.out.far e
            obtain ⟨V, hV⟩ : ∃ V, V = w4.setCell ⟨B, 1, none⟩ (.slice (some ⟨g2, 0, none⟩) (G.es.length + 1) k2) := ⟨_, rfl⟩
            have bV : Bk V B #[G.vn, .slice (some ⟨g2, 0, none⟩) (G.es.length + 1) k2, .int .i64 G.nn, .int .i64 G.ne] 25 := by rw [hV]; exact hb2.set_ 1 _
            have bC : Bk V w.heap.size (chC c a k) 30 := by
              rw [hV]
              refine ((HB3.out.on HFA.out).grow hgr2 (fun e => ?_)).far (show w.heap.size ≠ B from fun e => by have := HLB.out; omega) _
              have := HLT.out w.heap.size (by rw [HEN.out]; exact e.symm)
              omega
            have HFIN := Lib.hid (show RetEd w0 w base B G.xs R (addE G.gr c) (.returned (.int .i64 R)) ((V.setCell ⟨B, 3, none⟩ (.int .i64 M)).drew) from by
              have hbB : base ≤ B := HG3.out.hi
              have hBV : V.heap.size = w4.heap.size := by rw [hV]; simp
              refine ⟨rfl, ?_, ?_, fun _ => ⟨_, ⟨?_, ?_, hfar, hbB⟩, ?_, rfl⟩⟩
              · refine Below.drew (Below.setCell ?_ hbB _)
                rw [hV]
                exact Below.setCell ((below_of HF3.out HL.out).trans (HF2.out)) hbB _
              · have := HF3.out.size
                have := HF2.out.size
                simp [hBV]; omega
              · refine (GOwn.far ?_ hfar hbB).drew
                rw [hV]
                exact hng.far hfar hbB
              · exact bV.set_ 3 (.int .i64 M)
              · unfold Gp.gr addE
                simp only
                rw [insA_map, hM, HP.out]
                rfl)
            rw [← hV]
            have m2 := bV.c 3
            have z2 := bV.f 3
            have n1 := bC.c 1
            unfold chC at n1
            have hwr : IntKind.i64.wrap (c.id + 1) = c.id + 1 := by have := HI.out; rw [IntKind.wrap_i64]; omega
            have HMM := Lib.hid hM
            have HRZ := Lib.hid HE.out
            clear hV bV bC hng hfar hfu hMi hM hat2 hgr2 hown2 hb2 m0 z0 hg2 hg2' c0 d1 d2 d3 d4 HIN hpl hq
            rw [HMM.out] at HFIN
            go_upto_region 9 with fail
            go_region
            all_goals
              go_wp2
              go_ret
              exact (by rw [HRZ.out] at HFIN ⊢; exact HFIN.out)
end Go.Proofs.YtfbijdoomkgodaaGreatDoor
