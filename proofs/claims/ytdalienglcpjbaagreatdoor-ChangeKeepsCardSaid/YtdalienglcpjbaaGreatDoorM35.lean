/-
  GtO; GtQ; GtR; GtS; CpA: texts of one kind in one file; each part says what it holds.
-/
import Derived.Test.YtdalienglcpjbaaGreatDoorK32
import Derived.Test.YtdalienglcpjbaaGreatDoorK16
import Derived.Test.YtdalienglcpjbaaGreatDoorK15
import Derived.Test.YtdalienglcpjbaaGreatDoorM05

/-! Package graph: a copied graph's nodes, when one node's labels have been appended to: the cells of the nodes; what lies inside the others. Mathematics and memory: no function is walked here. -/
namespace Go.Proofs.YtdalienglcpjbaaGreatDoor
open Go.RowKit

end Go.Proofs.YtdalienglcpjbaaGreatDoor

/-! Package graph: EqualFunc of nodes tells a copy with one label more from what it was made of. Nothing that was there turns. -/
namespace Go.Proofs.YtdalienglcpjbaaGreatDoor
open Go.RowKit

end Go.Proofs.YtdalienglcpjbaaGreatDoor

/-! Package graph: a copied graph's edges, when the end of one edge has been changed. Mathematics and memory: no function is walked here. -/
namespace Go.Proofs.YtdalienglcpjbaaGreatDoor
open Go.RowKit

end Go.Proofs.YtdalienglcpjbaaGreatDoor

/-! Package graph: a graph that Small takes is of moderate size, down to the bottom of its values. Mathematics: no function is walked here. -/
namespace Go.Proofs.YtdalienglcpjbaaGreatDoor
open Go.RowKit

mutual
theorem wei_sh : ∀ (x : Vl) (m : Nat) (a : Int), 0 ≤ weiV m x a → a ≤ 1000000 → weiV m x a + 1 ≤ a ∧ shV x = true
  | .mk k n d s l, 0, a, h, _ => absurd h (by show ¬ (0 : Int) ≤ -1; decide)
  | .mk k n d s l, m + 1, a, h, ha => by
    rw [weiV_s] at h ⊢
    have z : 0 ≤ (((Vl.mk k n d s l).ss.length / 50 : Nat) : Int) := Int.natCast_nonneg _
    have ih := weiL_sh l m (a - 1 - (((Vl.mk k n d s l).ss.length / 50 : Nat) : Int)) h (by omega)
    have e : (Vl.mk k n d s l).ll = l := rfl
    rw [e]
    rw [e] at h
    refine ⟨by omega, ?_⟩
    unfold shV
    rw [Bool.and_eq_true, decide_eq_true_eq]
    exact ⟨by unfold shB; omega, ih.2⟩
theorem weiL_sh : ∀ (l : List Vl) (m : Nat) (a : Int), 0 ≤ weiL m l a → a ≤ 1000000 → weiL m l a + (l.length : Int) ≤ a ∧ shL l = true
  | [], m, a, _, _ => by
    refine ⟨?_, by unfold shL; rfl⟩
    show a + (([] : List Vl).length : Int) ≤ a
    simp
  | x :: r, m, a, h, ha => by
    have h0 : 0 ≤ a := by
      rcases Int.lt_or_le a 0 with k | k
      · rw [weiL_neg m _ k] at h; exact h
      · exact k
    rw [weiL_cons m x r h0] at h ⊢
    have h1 : 0 ≤ weiV m x a := by
      rcases Int.lt_or_le (weiV m x a) 0 with k | k
      · rw [weiL_neg m _ k] at h; exact h
      · exact k
    have i1 := wei_sh x m a h1 ha
    have i2 := weiL_sh r m (weiV m x a) h (by omega)
    refine ⟨by rw [List.length_cons]; omega, ?_⟩
    unfold shL
    rw [Bool.and_eq_true]
    exact ⟨i1.2, i2.2⟩
end
theorem wgp_sh : ∀ (l : List Pp) (a : Int), 0 ≤ wgpV l a → a ≤ 1000000 → wgpV l a + (l.length : Int) ≤ a ∧ ∀ p ∈ l, shV p.v = true
  | [], a, _, _ => ⟨by show a + (([] : List Pp).length : Int) ≤ a; simp, fun _ h => by cases h⟩
  | p :: r, a, h, ha => by
    have h0 : 0 ≤ a := by
      rcases Int.lt_or_le a 0 with k | k
      · rw [wgp_neg k] at h; exact h
      · exact k
    have e : wgpV (p :: r) a = wgpV r (weiV 12 p.v (a - ((p.k.length / 50 : Nat) : Int))) := by
      show (if a < 0 then a else _) = _
      rw [if_neg (by omega)]
    rw [e] at h ⊢
    have z : 0 ≤ ((p.k.length / 50 : Nat) : Int) := Int.natCast_nonneg _
    have h1 : 0 ≤ weiV 12 p.v (a - ((p.k.length / 50 : Nat) : Int)) := by
      rcases Int.lt_or_le (weiV 12 p.v (a - ((p.k.length / 50 : Nat) : Int))) 0 with k | k
      · rw [wgp_neg k] at h; exact h
      · exact k
    have i1 := wei_sh p.v 12 _ h1 (by omega)
    have i2 := wgp_sh r _ h (by omega)
    refine ⟨by rw [List.length_cons]; omega, fun q hq => ?_⟩
    rcases List.mem_cons.1 hq with rfl | hq
    · exact i1.2
    · exact i2.2 q hq
theorem nod_sh (n : Nd) (a : Int) (h : 0 ≤ nodW n a) (ha : a ≤ 1000000) : n.ls.length ≤ 1000000 ∧ n.ps.length ≤ 1000000 ∧ ∀ p ∈ n.ps, shV p.v = true := by
  unfold nodW at h
  have k1 := lbl_le n.ls (wgpV n.ps (a - (n.ls.length : Int)))
  have k2 := wgp_sh n.ps (a - (n.ls.length : Int)) (by omega) (by omega)
  exact ⟨by omega, by omega, k2.2⟩
theorem nw_sh : ∀ (l : List Nd) (a : Int), 0 ≤ nwV l a → a ≤ 1000000 → nwV l a ≤ a ∧ ∀ n ∈ l, n.ls.length ≤ 1000000 ∧ n.ps.length ≤ 1000000 ∧ ∀ p ∈ n.ps, shV p.v = true
  | [], a, _, _ => ⟨Int.le_refl _, fun _ h => by cases h⟩
  | n :: r, a, h, ha => by
    have h0 : 0 ≤ a := by
      rcases Int.lt_or_le a 0 with k | k
      · rw [nw_neg k] at h; exact h
      · exact k
    have e : nwV (n :: r) a = nwV r (nodW n a) := by
      show (if a < 0 then a else _) = _
      rw [if_neg (by omega)]
    rw [e] at h ⊢
    have h1 : 0 ≤ nodW n a := by
      rcases Int.lt_or_le (nodW n a) 0 with k | k
      · rw [nw_neg k] at h; exact h
      · exact k
    have i1 := nod_sh n a h1 ha
    have l1 := nod_le n a
    have i2 := nw_sh r _ h (by omega)
    refine ⟨by omega, fun q hq => ?_⟩
    rcases List.mem_cons.1 hq with rfl | hq
    · exact i1
    · exact i2.2 q hq
theorem ew_sh : ∀ (l : List Ed) (a : Int), 0 ≤ ewV l a → a ≤ 1000000 → ∀ e ∈ l, e.ps.length ≤ 1000000 ∧ ∀ p ∈ e.ps, shV p.v = true
  | [], a, _, _ => fun _ h => by cases h
  | n :: r, a, h, ha => by
    have h0 : 0 ≤ a := by
      rcases Int.lt_or_le a 0 with k | k
      · rw [ew_neg k] at h; exact h
      · exact k
    have e : ewV (n :: r) a = ewV r (wgpV n.ps (a - ((n.ty.length / 50 : Nat) : Int))) := by
      show (if a < 0 then a else _) = _
      rw [if_neg (by omega)]
    rw [e] at h
    have z : 0 ≤ ((n.ty.length / 50 : Nat) : Int) := Int.natCast_nonneg _
    have h1 : 0 ≤ wgpV n.ps (a - ((n.ty.length / 50 : Nat) : Int)) := by
      rcases Int.lt_or_le (wgpV n.ps (a - ((n.ty.length / 50 : Nat) : Int))) 0 with k | k
      · rw [ew_neg k] at h; exact h
      · exact k
    have i1 := wgp_sh n.ps _ h1 (by omega)
    intro q hq
    rcases List.mem_cons.1 hq with rfl | hq
    · exact ⟨by omega, i1.2⟩
    · exact ew_sh r _ h (by omega) q hq
theorem sml_mod {g : Gr} {N M : Nat} (h : smlV g N M = true) (hN : N ≤ 1000000) (hM : M ≤ 1000000) : ModG g := by
  obtain ⟨h1, h2, h3⟩ := sml_b h
  have h4 : 0 ≤ nwV g.ns 2000 := by
    rcases Int.lt_or_le (nwV g.ns 2000) 0 with k | k
    · rw [ew_neg k] at h3; exact h3
    · exact k
  have i1 := nw_sh g.ns 2000 h4 (by omega)
  exact ⟨by omega, by omega, i1.2, ew_sh g.es _ h3 (by omega)⟩
end Go.Proofs.YtdalienglcpjbaaGreatDoor

/-! The reference of package value: Copy, for every list of values in memory: the same values in new memory. Nothing that was there turns. -/
namespace Go.Proofs.YtdalienglcpjbaaGreatDoor
open Go.RowKit

def RetCp (w : World) (l : List Vl) (e : Ending) (w' : World) : Prop := ∃ v, e = .returned v ∧ BuiltV w.heap.size l v w' ∧ Fuw w w'
def CopyAt (l : List Vl) : Prop := ∀ (ao : Option Addr) (cap : Nat) (w : World), SlV w ao l cap → Calls Tryz.prog 80 #[.slice ao l.length cap] w (RetCp w l)
theorem infoV : (Tryz.prog.info? 28).map (fun i => (i.zero, i.size, i.bytes)) = some (some (.agg #[.int .i64 0, .int .i64 0, .int .i64 0, .string ⟨#[]⟩, .slice none 0 0]), 5, 64) := by kernel_rfl
theorem one_V (x : Vl) (ao : Option Addr) (cap : Nat) : ∀ u ∈ vC x ao cap, u.oneCell' = true := by
  intro u hu
  unfold vC at hu
  simp only [List.mem_cons, List.not_mem_nil, or_false] at hu
  rcases hu with rfl | rfl | rfl | rfl | rfl <;> rfl
theorem bk_put4 {w : World} {B : Nat} {x : Vl} {a a' : Option Addr} {k k' : Nat} (h : Bk w B #[.int .i64 x.kd, .int .i64 x.nn, .int .i64 x.dd, .string (bs x.ss), .slice a x.ll.length k] 28) :
    Bk (w.setCell ⟨B, 4, none⟩ (.slice a' x.ll.length k')) B #[.int .i64 x.kd, .int .i64 x.nn, .int .i64 x.dd, .string (bs x.ss), .slice a' x.ll.length k'] 28 := h.set_ 4 _
theorem kb_store {lo B j : Nat} {u : Value} {w : World} {P : World → Prop} (h : Kb lo none w P) (hB : B < lo) : Kb lo none (w.setCell ⟨B, j, none⟩ u) P :=
  h.on (by simp) (fun b h1 _ _ => by simp [World.setCell, Array.getElem?_modify, show B ≠ b by omega]) (.inl rfl)
theorem take_fst {l : List Vl} {ps : List VPm} {i : Nat} (h : l.take i = ps.map Prod.fst) (hi : i < l.length) (a : Option Addr) (k : Nat) : l.take (i + 1) = (ps ++ [(l[i], a, k)]).map Prod.fst := by
  rw [List.take_succ_eq_append_getElem hi, h, List.map_append]; rfl
set_option maxHeartbeats 3200000 in
set_option maxRecDepth 100000 in
theorem copy_by (l : List Vl) (hn : l.length ≤ 1000000) (hL : ∀ x ∈ l, CopyAt x.ll) : CopyAt l := by
  intro ao cap w hs
  have h2 := hs.le
  have h3 := hs.max
  unfold maxLen at h3
  have HS := Lib.hid hs
  have HI := Lib.hid (show ∀ x ∈ l, Vin x from fun x hx => by
    obtain ⟨j, hj, rfl⟩ := List.getElem_of_mem hx
    obtain ⟨b, o, -, hv⟩ := hs.get hj
    exact (VC_of hv).1)
  have HL := Lib.hid hL
  obtain ⟨i0, hi, hz0, hz1, hz2⟩ := info_parts infoV
  clear hs hL
  go_enter Tryz.func80, Tryz.ntmps80
  go_wp2
  go_loopw [3, 4] (fun ov iv wr => ∃ (i : Nat) (ps : List VPm), iv = .int .i64 i ∧ i ≤ l.length ∧ wr.ownsRow w.heap.size 28 5 ov ps.length (vCs ps) ∧ Hid (l.take i = ps.map Prod.fst) ∧ Hid (Kb w.heap.size ov.ownBlock wr (Nst ps)) ∧ Hid (Fuw w wr)) (fun _ iv _ => l.length - (RowKit.intOf iv).toNat)
  case atStart => exact ⟨0, [], rfl, Nat.zero_le _, World.ownsRow_nil _ _ _ _, rfl, Kb.triv Nst.nil, Fuw.refl _⟩
  case round =>
    obtain ⟨i, ps, rfl, hii, hown, HT, HK, hf⟩ := hrel
    have hps : ps.length = i := by
      have := congrArg List.length HT.out
      rw [List.length_take, List.length_map] at this
      omega
    by_cases hlt : i < l.length
    · obtain ⟨b, o, rfl, hv⟩ := (HS.out.onw hf.out).get hlt
      obtain ⟨hy, c0, c1, c2, c3, a1, k1, c4, hs1⟩ := VC_of hv
      have HC := Lib.hid (fun w' (h : Fuw wr w') => HL.out l[i] (List.getElem_mem hlt) a1 k1 w' (hs1.onw h))
      have HTT := Lib.hid (fun a k => take_fst HT.out hlt a k)
      have hpl : ps.length ≤ 1000000 := by omega
      have HPS := Lib.hid hps
      clear hv hs1 hy HT hps
      generalize l[i] = x at *
      go_upto_region 6 with fail
      obtain ⟨W, hW⟩ : ∃ W, W = wr.alloc (.cells #[.int .i64 x.kd, .int .i64 x.nn, .int .i64 x.dd, .string (bs x.ss), .slice a1 x.ll.length k1] 28) := ⟨_, rfl⟩
      have fW : Fuw wr W := by rw [hW]; exact fuwA _ _
      have bW : Bk W wr.heap.size #[.int .i64 x.kd, .int .i64 x.nn, .int .i64 x.dd, .string (bs x.ss), .slice a1 x.ll.length k1] 28 := by rw [hW]; exact Bk.new _ _ _
      rw [← hW]
      clear hW c0 c1 c2 c3 c4
      have d4 := bW.c 4
      have HBW := Lib.hid bW
      have FW := Lib.hid fW
      clear bW fW
      go_wp2_with fail
      go_at_call 80; refine (HC.out _ FW.out).mono ?_; rintro e w1 ⟨v1, rfl, ⟨a2, k2, rfl, hk1⟩, f1⟩
      have b1 := HBW.out.on f1
      have HB1 := Lib.hid b1
      have d4' := b1.c 4
      have q4 := b1.f 4
      have F1 := Lib.hid (FW.out.trans f1)
      have HK1 := Lib.hid (kb_store (j := 4) (u := .slice a2 x.ll.length k2) hk1 HBW.out.lt)
      have HZ1 := Lib.hid f1.size
      clear d4 b1 f1 hk1
      go_upto_region 7 with fail
      obtain ⟨V, hV⟩ : ∃ V, V = w1.setCell ⟨wr.heap.size, 4, none⟩ (.slice a2 x.ll.length k2) := ⟨_, rfl⟩
      have HKV := Lib.hid (show Kb W.heap.size none V (fun w2 => SlV w2 a2 x.ll k2) from by rw [hV]; exact HK1.out)
      have FV := Lib.hid (show Fuw wr V from by rw [hV]; exact fuwS F1.out (Nat.le_refl _))
      have bV : Bk V wr.heap.size #[.int .i64 x.kd, .int .i64 x.nn, .int .i64 x.dd, .string (bs x.ss), .slice a2 x.ll.length k2] 28 := by rw [hV]; exact bk_put4 HB1.out
      rw [← hV]
      have HSW := Lib.hid (show wr.heap.size ≤ W.heap.size ∧ W.heap.size ≤ V.heap.size from ⟨FW.out.size, by rw [hV]; have := HZ1.out; simp; omega⟩)
      clear hV d4' q4 HK1
      have c0 := bV.c 0
      have c1 := bV.c 1
      have c2 := bV.c 2
      have c3 := bV.c 3
      have c4 := bV.c 4
      clear bV
      have hownV := own_on hown FV.out
      go_wp2_with (at_builtin; refine wpList_append_own_at _ rfl (.tmp 20) (.tmp 22) 26 rfl w.heap.size 28 i0 _ 5 64 Tryz.underlying26 hi hz0 hz1 hz2 rfl (by decide) _ ps.length (vCs ps) rfl (hownV.alloc _) ⟨V.heap.size, 0, none⟩ 1 1 (vC x a2 k2) rfl rfl (World.news_of_block (heap_alloc_new V _)) (one_V _ _ _) (by unfold maxLen; omega) (by omega) (by have := hf.out.size; have := FV.out.size; simp; omega) ?_; intro v3 w3 hown3 hgrow _ hat)
      have F3 := Lib.hid (show Fuw w w3 from Below.grown ((hf.out.trans FV.out).alloc _) hgrow ((hf.out.trans FV.out).alloc _).size (fun k hk => (hown.lt k hk).1))
      have hown4 : w3.ownsRow w.heap.size 28 5 v3 (ps ++ [(x, a2, k2)]).length (vCs (ps ++ [(x, a2, k2)])) := by
        rw [vCs_app, vCs_one, List.length_append]; exact hown3
      have HK3 := Lib.hid (show Kb w.heap.size v3.ownBlock w3 (Nst (ps ++ [(x, a2, k2)])) from
        ((((HK.out.later FV.out).later (fuwA V _)).and (((HKV.out.later (fuwA V _)).low (o := _) (by have := hf.out.size; have := HSW.out; omega) (fun k hk => .inl (Nat.lt_of_lt_of_le (hown.lt k hk).2 HSW.out.1))))).imp (fun _ h => Nst.snoc h.1 h.2)).grown hgrow hat)
      have HT4 := Lib.hid (HTT.out a2 k2)
      clear hown3 hown hownV hgrow hat c0 c1 c2 c3 c4 HTT HC
      generalize ps ++ [(x, a2, k2)] = qs at *
      go_wp2
      go_roundw
      case rel => exact ⟨i + 1, qs, by go_num, by omega, hown4, HT4, HK3, F3⟩
      case measure => simp [RowKit.intOf]; omega
    · have HB := Lib.hid (built_own hown (fun p hp => HI.out _ (List.mem_of_mem_take (i := i) (HT.out ▸ List.mem_map_of_mem hp))) HK.out)
      have HE := Lib.hid (show ps.map Prod.fst = l by rw [← HT.out, List.take_of_length_le (by omega)])
      rw [HE.out] at HB
      clear hown hps
      go_wp2
      go_ret
      exact ⟨_, rfl, HB.out, hf.out⟩
mutual
theorem copy_v : ∀ x : Vl, shV x = true → CopyAt x.ll
  | .mk k n d s l, h => by
    have h' := shV_ll h
    exact copy_by l h'.1 (copy_l l h'.2)
theorem copy_l : ∀ l : List Vl, shL l = true → ∀ x ∈ l, CopyAt x.ll
  | [], _, _, h => by cases h
  | v :: r, hl, x, h => by
    unfold shL at hl
    rw [Bool.and_eq_true] at hl
    rcases List.mem_cons.1 h with e | h
    · rw [e]; exact copy_v v hl.1
    · exact copy_l r hl.2 x h
end
/-- Copy of every list of values in memory. -/
theorem copy_any (l : List Vl) (hn : l.length ≤ 1000000) (h : shL l = true) : CopyAt l := copy_by l hn (copy_l l h)
end Go.Proofs.YtdalienglcpjbaaGreatDoor
