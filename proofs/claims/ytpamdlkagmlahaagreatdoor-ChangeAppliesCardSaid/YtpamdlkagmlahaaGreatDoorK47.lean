/-
  RbQ; M39: texts of one kind in one file; each part says what it holds.
-/
import Derived.Test.YtpamdlkagmlahaaGreatDoorK46
import Derived.Test.YtpamdlkagmlahaaGreatDoorK43
import Derived.Test.YtpamdlkagmlahaaGreatDoorK23
import Derived.Test.YtpamdlkagmlahaaGreatDoorAlA
import Derived.Test.YtpamdlkagmlahaaGreatDoorK01
import Derived.ProofKit
import Derived.Lib.SmallJoins
import Derived.OpenShut
import Derived.Deep.Slices
import Derived.ChangeSame
import Derived.Carry

set_option maxHeartbeats 12800000
set_option maxRecDepth 100000
namespace Go.Proofs.YtpamdlkagmlahaaGreatDoor
open Go.RowKit
theorem applies_walk (g : Gr) (an ae : Option Addr) (cn ce : Nat) (c : Ch) (a : Option Addr) (k : Nat) (w : World) (hg : GIn w g an ae cn ce) (hi : ChIn w c a k) (hGd : Good w) :
  Calls Tryz.prog 3 #[grv g an ae cn ce, .agg (chC c a k)] w (FwB w true) := by
 obtain ⟨W, hW⟩ : ∃ W, W = (w.alloc (.cells #[.slice an g.ns.length cn, .slice ae g.es.length ce, .int .i64 g.nn, .int .i64 g.ne] 25)).alloc (.cells (chC c a k) 30) := ⟨_, rfl⟩
 have fW : Fuw w W := by rw [hW]; exact (fuwA _ _).trans (fuwA _ _)
 have HBW := Lib.hid (show Bk W w.heap.size #[.slice an g.ns.length cn, .slice ae g.es.length ce, .int .i64 g.nn, .int .i64 g.ne] 25 from by rw [hW]; exact (Bk.new w _ _).on (fuwA _ _))
 have HCW := Lib.hid (show Bk W (w.heap.size + 1) (chC c a k) 30 from by
  rw [hW]
  have := Bk.new (w.alloc (.cells #[.slice an g.ns.length cn, .slice ae g.es.length ce, .int .i64 g.nn, .int .i64 g.ne] 25)) (chC c a k) 30
  simpa using this)
 obtain ⟨V, hV⟩ : ∃ V, V = W.alloc (.cells (chC c a k) 30) := ⟨_, rfl⟩
 have fV : Fuw W V := by rw [hV]; exact fuwA _ _
 have HSM := Lib.hid (show Calls Tryz.prog 5 #[grv g an ae cn ce, .slice (some ⟨W.heap.size, 0, none⟩) 1 1] V (FwB V (smC g [c] 40)) from
  smallc_any g an ae cn ce [c] (some ⟨W.heap.size, 0, none⟩) 1 w V (hg.on (fW.trans fV)) (slC_one (by rw [hV]; exact Bk.new _ _ _) hi (fW.trans fV)))
 have HAL := Lib.hid (fun (w' : World) (hf : Fuw w w') => alivec_any w' (hGd.onw hf))
 have HAP := Lib.hid (fun (w' : World) (hf : Fuw w w') => apply_any g an ae cn ce c a k w' (hg.on hf) (hi.on hf))
 have HRP := Lib.hid (fun (w' : World) (hf : Fuw w w') => rapply8_any g an ae cn ce c a k w' (hg.on hf) (hi.on hf))
 have HK1 := Lib.hid (fun (w' : World) (hf : Fuw w w') => lchk_any c a k w' (hi.on hf))
 have HK2 := Lib.hid (fun (w' : World) (hf : Fuw w w') => rchk8_any c a k w' (hi.on hf))
 have HFV := Lib.hid (fW.trans fV)
 have HVV := Lib.hid hV
 have HCV := Lib.hid (HBW.out.on fV)
 have HDV := Lib.hid (HCW.out.on fV)
 obtain ⟨c0, c1, c2, c3⟩ := HBW.out.g4
 obtain ⟨d0, d1, d2, d3, d4, d5, d6, d7, d8, d9⟩ := HCW.out.ch
 unfold RetA1 at HAP
 unfold RetSt at HRP
 unfold chC grv at *
 rw [hV] at HSM
 generalize smC g [c] 40 = sm at *
 generalize appG g [c] = T at *
 generalize (appE g [c]).2 = R at *
 generalize chkC c = q at *
 clear fW fV hg hi hV hGd HBW HCW
 go_enter Tryz.func3, Tryz.ntmps3
 go_upto_region 1 with fail
 rw [← hW]
 clear hW
 go_wp2_with fail
 go_at_call 5; refine HSM.out.mono ?_; rintro e1 w1 ⟨rfl, f1⟩
 have f1' : Fuw V w1 := by rw [HVV.out]; exact f1
 have HF1 := Lib.hid (HFV.out.trans f1')
 have HB1 := Lib.hid (HCV.out.on f1')
 have HD1 := Lib.hid (HDV.out.on f1')
 clear c0 c1 c2 c3 d0 d1 d2 d3 d4 d5 d6 d7 d8 d9 f1 f1' HSM HVV HFV HCV HDV
 cases sm with
 | false =>
  go_wp2_with fail
  go_at_call 6; refine (HAL.out _ HF1.out).mono ?_; rintro e2 w2 ⟨rfl, f2⟩
  have HF2 := Lib.hid (HF1.out.trans f2)
  clear f2
  go_wp2
  go_ret
  exact ⟨rfl, HF2.out⟩
 | true =>
  obtain ⟨c0, c1, c2, c3⟩ := HB1.out.g4
  obtain ⟨d0, d1, d2, d3, d4, d5, d6, d7, d8, d9⟩ := HD1.out.ch
  go_wp2_with fail
  go_at_call 7; refine (HAP.out _ HF1.out).mono ?_; rintro e2 w2 ⟨xn, xe, yn, ye, rfl, hgc, f2⟩
  clear c0 c1 c2 c3 d0 d1 d2 d3 d4 d5 d6 d7 d8 d9
  obtain ⟨X, hX⟩ : ∃ X, X = w2.alloc (.cells #[.slice xn T.ns.length yn, .slice xe T.es.length ye, .int .i64 T.nn, .int .i64 T.ne] 25) := ⟨_, rfl⟩
  have fX : Fuw w2 X := by rw [hX]; exact fuwA _ _
  have HF2 := Lib.hid ((HF1.out.trans f2).trans fX)
  have HB2 := Lib.hid ((HB1.out.on f2).on fX)
  have HD2 := Lib.hid ((HD1.out.on f2).on fX)
  have HE2 := Lib.hid (show Bk X w2.heap.size #[.slice xn T.ns.length yn, .slice xe T.es.length ye, .int .i64 T.nn, .int .i64 T.ne] 25 from by rw [hX]; exact Bk.new _ _ _)
  have HGC := Lib.hid (hgc.on fX)
  clear f2 fX hgc HF1 HB1 HD1
  go_upto_region 4 with fail
  rw [← hX]
  clear hX
  generalize w2.heap.size = B2 at *
  obtain ⟨c0, c1, c2, c3⟩ := HB2.out.g4
  obtain ⟨d0, d1, d2, d3, d4, d5, d6, d7, d8, d9⟩ := HD2.out.ch
  go_wp2_with fail
  go_at_call 8; refine (HRP.out _ HF2.out).mono ?_; rintro e3 w3 ⟨bn, be, dn, de, rfl, hgt, f3⟩
  clear c0 c1 c2 c3 d0 d1 d2 d3 d4 d5 d6 d7 d8 d9
  obtain ⟨Y, hY⟩ : ∃ Y, Y = w3.alloc (.cells #[.slice bn T.ns.length dn, .slice be T.es.length de, .int .i64 T.nn, .int .i64 T.ne] 25) := ⟨_, rfl⟩
  have fY : Fuw w3 Y := by rw [hY]; exact fuwA _ _
  have HF3 := Lib.hid ((HF2.out.trans f3).trans fY)
  have HD3 := Lib.hid ((HD2.out.on f3).on fY)
  have HE3 := Lib.hid ((HE2.out.on f3).on fY)
  have HT3 := Lib.hid (show Bk Y w3.heap.size #[.slice bn T.ns.length dn, .slice be T.es.length de, .int .i64 T.nn, .int .i64 T.ne] 25 from by rw [hY]; exact Bk.new _ _ _)
  have HGK := Lib.hid ((HGC.out.on f3).on fY)
  have HGT := Lib.hid (hgt.on fY)
  have HSA := Lib.hid (fun (w' : World) (hf : Fuw Y w') => show Calls Tryz.prog 11 #[.agg #[.slice xn T.ns.length yn, .slice xe T.es.length ye, .int .i64 T.nn, .int .i64 T.ne], .agg #[.slice bn T.ns.length dn, .slice be T.es.length de, .int .i64 T.nn, .int .i64 T.ne]] w' (FwB w' true) from by
   rw [← samG_self T]; exact rsame_any T T xn xe bn be yn ye dn de w' (HGK.out.on hf) (HGT.out.on hf))
  have HYF := Lib.hid (show ∀ w', Fuw Y w' → Fuw w w' from fun w' hf => HF3.out.trans hf)
  clear f3 fY hgt HF2 HB2 HD2 HE2 HGC
  go_upto_region 5 with fail
  rw [← hY]
  clear hY
  generalize w3.heap.size = B3 at *
  have hqq : (q == q) = true := beq_self_eq_true q
  have hrr : (R == R) = true := beq_self_eq_true R
  obtain ⟨S, hS⟩ : ∃ S : World → Prop, S = (fun w8 => Fuw Y w8) := ⟨_, rfl⟩
  have HSS := Lib.hid hS
  clear hS
  refine lst_start [18] S (by kernel_rfl) ?_
  have HZ0 := Lib.hid (Fuw.drew (Fuw.refl Y))
  have hS0 : S Y.drew := by rw [HSS.out]; exact HZ0.out
  refine takeL (i := 0) (d := some 27) (v := ?_) rfl rfl (by kernel_rfl) (by kernel_rfl) (by kernel_rfl) (by kernel_rfl) (by kernel_rfl) (fun _ _ _ h => h) (Or.inl ⟨by rfl, ?_⟩) (by assumption) ?_
  rotate_left
  ·intro w8 hSw
   rw [HSS.out] at hSw
   have t0 := (HD3.out.on hSw).c 0; have t1 := (HD3.out.on hSw).c 1; have t2 := (HD3.out.on hSw).c 2; have t3 := (HD3.out.on hSw).c 3; have t4 := (HD3.out.on hSw).c 4; have t5 := (HD3.out.on hSw).c 5; have t6 := (HD3.out.on hSw).c 6; have t7 := (HD3.out.on hSw).c 7; have t8 := (HD3.out.on hSw).c 8; have t9 := (HD3.out.on hSw).c 9
   go_simp
   try with_reducible rfl
  try simp only [Act.put, List.setIfInBounds_toArray, List.set_cons_succ, List.set_cons_zero]
  refine takeL (i := 2) (d := some 29) (v := ?_) rfl rfl (by kernel_rfl) (by kernel_rfl) (by kernel_rfl) (by kernel_rfl) (by kernel_rfl) (fun _ _ _ h => h) (Or.inl ⟨by rfl, ?_⟩) (by assumption) ?_
  rotate_left
  ·intro w8 hSw
   rw [HSS.out] at hSw
   have t0 := (HD3.out.on hSw).c 0; have t1 := (HD3.out.on hSw).c 1; have t2 := (HD3.out.on hSw).c 2; have t3 := (HD3.out.on hSw).c 3; have t4 := (HD3.out.on hSw).c 4; have t5 := (HD3.out.on hSw).c 5; have t6 := (HD3.out.on hSw).c 6; have t7 := (HD3.out.on hSw).c 7; have t8 := (HD3.out.on hSw).c 8; have t9 := (HD3.out.on hSw).c 9
   go_simp
   try with_reducible rfl
  try simp only [Act.put, List.setIfInBounds_toArray, List.set_cons_succ, List.set_cons_zero]
  refine oneL (i := 1) rfl (by kernel_rfl) (fun K8 hK8 => ?_)
  go_simp
  go_at_call 9; refine (HK1.out _ (HYF.out _ HZ0.out)).mono ?_; rintro e5 w5 ⟨rfl, f5⟩
  have HZ5 := Lib.hid (HZ0.out.trans f5)
  clear f5
  go_simp
  refine hK8 _ _ (by rw [HSS.out]; exact HZ5.out) ?_
  have hS5 : S w5 := by rw [HSS.out]; exact HZ5.out
  try simp only [Act.put, List.setIfInBounds_toArray, List.set_cons_succ, List.set_cons_zero]
  clear hS0
  refine oneL (i := 3) rfl (by kernel_rfl) (fun K8 hK8 => ?_)
  go_simp
  go_at_call 10; refine (HK2.out _ (HYF.out _ HZ5.out)).mono ?_; rintro e6 w6 ⟨rfl, f6⟩
  have HZ6 := Lib.hid (HZ5.out.trans f6)
  clear f6
  go_simp
  refine hK8 _ _ (by rw [HSS.out]; exact HZ6.out) ?_
  have hS6 : S w6 := by rw [HSS.out]; exact HZ6.out
  try simp only [Act.put, List.setIfInBounds_toArray, List.set_cons_succ, List.set_cons_zero]
  clear hS5
  refine takeP (i := 4) (d := some 31) (v := ?_) rfl rfl (by kernel_rfl) (by kernel_rfl) (by kernel_rfl) (by kernel_rfl) (by kernel_rfl) (fun _ _ _ h => h) (Or.inl ⟨by rfl, ?_⟩) (by first | exact Or.inr (by assumption) | exact Or.inl (by kernel_rfl)) ?_
  rotate_left
  ·((intro w8 _; go_simp); first | done | with_reducible rfl)
  try simp only [Act.put, List.setIfInBounds_toArray, List.set_cons_succ, List.set_cons_zero]
  refine takeP (i := 5) (d := some 32) (v := ?_) rfl rfl (by kernel_rfl) (by kernel_rfl) (by kernel_rfl) (by kernel_rfl) (by kernel_rfl) (fun _ _ _ h => h) (Or.inl ⟨by rfl, ?_⟩) (by first | exact Or.inr (by assumption) | exact Or.inl (by kernel_rfl)) ?_
  rotate_left
  ·((intro w8 _; go_simp); first | done | with_reducible rfl)
  try simp only [Act.put, List.setIfInBounds_toArray, List.set_cons_succ, List.set_cons_zero]
  refine takeP (i := 6) (d := some 33) (v := ?_) rfl rfl (by kernel_rfl) (by kernel_rfl) (by kernel_rfl) (by kernel_rfl) (by kernel_rfl) (fun _ _ _ h => h) (Or.inl ⟨by rfl, ?_⟩) (by first | exact Or.inr (by assumption) | exact Or.inl (by kernel_rfl)) ?_
  rotate_left
  ·((intro w8 _; go_simp); first | done | with_reducible rfl)
  try simp only [Act.put, List.setIfInBounds_toArray, List.set_cons_succ, List.set_cons_zero]
  refine takeP (i := 7) (d := some 34) (v := ?_) rfl rfl (by kernel_rfl) (by kernel_rfl) (by kernel_rfl) (by kernel_rfl) (by kernel_rfl) (fun _ _ _ h => h) (Or.inl ⟨by rfl, ?_⟩) (by first | exact Or.inr (by assumption) | exact Or.inl (by kernel_rfl)) ?_
  rotate_left
  ·((intro w8 _; go_simp); first | done | with_reducible rfl)
  try simp only [Act.put, List.setIfInBounds_toArray, List.set_cons_succ, List.set_cons_zero]
  refine takeP (i := 8) (d := some 35) (v := ?_) rfl rfl (by kernel_rfl) (by kernel_rfl) (by kernel_rfl) (by kernel_rfl) (by kernel_rfl) (fun _ _ _ h => h) (Or.inl ⟨by rfl, ?_⟩) (by first | exact Or.inr (by assumption) | exact Or.inl (by kernel_rfl)) ?_
  rotate_left
  ·((intro w8 _; go_simp); first | done | with_reducible rfl)
  try simp only [Act.put, List.setIfInBounds_toArray, List.set_cons_succ, List.set_cons_zero]
  refine takeP (i := 9) (d := some 36) (v := ?_) rfl rfl (by kernel_rfl) (by kernel_rfl) (by kernel_rfl) (by kernel_rfl) (by kernel_rfl) (fun _ _ _ h => h) (Or.inl ⟨by rfl, ?_⟩) (by first | exact Or.inr (by assumption) | exact Or.inl (by kernel_rfl)) ?_
  rotate_left
  ·((intro w8 _; go_simp); first | done | with_reducible rfl)
  try simp only [Act.put, List.setIfInBounds_toArray, List.set_cons_succ, List.set_cons_zero]
  refine takeP (i := 10) (d := some 37) (v := ?_) rfl rfl (by kernel_rfl) (by kernel_rfl) (by kernel_rfl) (by kernel_rfl) (by kernel_rfl) (fun _ _ _ h => h) (Or.inl ⟨by rfl, ?_⟩) (by first | exact Or.inr (by assumption) | exact Or.inl (by kernel_rfl)) ?_
  rotate_left
  ·((intro w8 _; go_simp); first | done | with_reducible rfl)
  try simp only [Act.put, List.setIfInBounds_toArray, List.set_cons_succ, List.set_cons_zero]
  refine takeL (i := 11) (d := some 38) (v := ?_) rfl rfl (by kernel_rfl) (by kernel_rfl) (by kernel_rfl) (by kernel_rfl) (by kernel_rfl) (fun _ _ _ h => h) (Or.inl ⟨by rfl, ?_⟩) (by assumption) ?_
  rotate_left
  ·intro w8 hSw
   rw [HSS.out] at hSw
   obtain ⟨t0, t1, t2, t3⟩ := (HE3.out.on hSw).g4
   go_simp
   try with_reducible rfl
  try simp only [Act.put, List.setIfInBounds_toArray, List.set_cons_succ, List.set_cons_zero]
  refine takeL (i := 12) (d := some 39) (v := ?_) rfl rfl (by kernel_rfl) (by kernel_rfl) (by kernel_rfl) (by kernel_rfl) (by kernel_rfl) (fun _ _ _ h => h) (Or.inl ⟨by rfl, ?_⟩) (by assumption) ?_
  rotate_left
  ·intro w8 hSw
   rw [HSS.out] at hSw
   obtain ⟨t0, t1, t2, t3⟩ := (HT3.out.on hSw).g4
   go_simp
   try with_reducible rfl
  try simp only [Act.put, List.setIfInBounds_toArray, List.set_cons_succ, List.set_cons_zero]
  refine oneL (i := 13) rfl (by kernel_rfl) (fun K8 hK8 => ?_)
  go_simp
  go_at_call 11; refine (HSA.out _ HZ6.out).mono ?_; rintro e7 w7 ⟨rfl, f7⟩
  have HZ7 := Lib.hid (HZ6.out.trans f7)
  clear f7
  go_simp
  refine hK8 _ _ (by rw [HSS.out]; exact HZ7.out) ?_
  have hS7 : S w7 := by rw [HSS.out]; exact HZ7.out
  try simp only [Act.put, List.setIfInBounds_toArray, List.set_cons_succ, List.set_cons_zero]
  clear hS6
  refine takeP (i := 14) (d := some 41) (v := ?_) rfl rfl (by kernel_rfl) (by kernel_rfl) (by kernel_rfl) (by kernel_rfl) (by kernel_rfl) (fun _ _ _ h => h) (Or.inl ⟨by rfl, ?_⟩) (by first | exact Or.inr (by assumption) | exact Or.inl (by kernel_rfl)) ?_
  rotate_left
  ·((intro w8 _; go_simp); first | done | with_reducible rfl)
  try simp only [Act.put, List.setIfInBounds_toArray, List.set_cons_succ, List.set_cons_zero]
  refine takeP (i := 15) (d := some 42) (v := ?_) rfl rfl (by kernel_rfl) (by kernel_rfl) (by kernel_rfl) (by kernel_rfl) (by kernel_rfl) (fun _ _ _ h => h) (Or.inl ⟨by rfl, ?_⟩) (by first | exact Or.inr (by assumption) | exact Or.inl (by kernel_rfl)) ?_
  rotate_left
  ·((intro w8 _; go_simp); first | done | with_reducible rfl)
  try simp only [Act.put, List.setIfInBounds_toArray, List.set_cons_succ, List.set_cons_zero]
  refine oneL (i := 16) rfl (by kernel_rfl) (fun K8 hK8 => ?_)
  go_simp
  go_at_call 6; refine (HAL.out _ (HYF.out _ HZ7.out)).mono ?_; rintro e9 w9 ⟨rfl, f9⟩
  have HZ9 := Lib.hid (HZ7.out.trans f9)
  clear f9
  go_simp
  refine hK8 _ _ (by rw [HSS.out]; exact HZ9.out) ?_
  have hS9 : S w9 := by rw [HSS.out]; exact HZ9.out
  try simp only [Act.put, List.setIfInBounds_toArray, List.set_cons_succ, List.set_cons_zero]
  clear hS7
  refine takeP (i := 17) (d := some 44) (v := ?_) rfl rfl (by kernel_rfl) (by kernel_rfl) (by kernel_rfl) (by kernel_rfl) (by kernel_rfl) (fun _ _ _ h => h) (Or.inl ⟨by rfl, ?_⟩) (by first | exact Or.inr (by assumption) | exact Or.inl (by kernel_rfl)) ?_
  rotate_left
  ·((intro w8 _; go_simp); first | done | with_reducible rfl)
  try simp only [Act.put, List.setIfInBounds_toArray, List.set_cons_succ, List.set_cons_zero]
  refine outL (i := 18) rfl (by kernel_rfl) (by kernel_rfl) (fun K8 hK8 => ?_)
  go_simp
  refine hK8 _ _ ?_
  try simp only [Act.put, List.setIfInBounds_toArray, List.set_cons_succ, List.set_cons_zero]
  refine lst_done (by kernel_rfl) ?_ _
  have HZZ := HZ9
  clear hS9
  go_wp2
  go_ret
  exact ⟨rfl, HYF.out _ HZZ.out⟩
end Go.Proofs.YtpamdlkagmlahaaGreatDoor

namespace Go.Proofs.YtpamdlkagmlahaaGreatDoor
open Go.ChangeShapes Go.WideShapes Go.ChangeAt Go.RowKit Go.Joins
theorem i64_of {n : Int} (h : (Lit.int .i64 n).wf = true) : -9223372036854775808 ≤ n ∧ n ≤ 9223372036854775807 := by
 simp [Lit.wf, IntKind.min, IntKind.max, IntKind.signed, IntKind.bits] at h
 omega
theorem cellsV : Tryz.prog.cellsOf 28 = 5 := by kernel_rfl
theorem cells1 : Tryz.prog.cellsOf 3 = 1 ∧ Tryz.prog.cellsOf 9 = 1 ∧ Tryz.prog.cellsOf 26 = 1 := ⟨by kernel_rfl, by kernel_rfl, by kernel_rfl⟩
theorem VE_all (w : World) : ∀ (len b o : Nat), (∀ i, i < len → ∃ x, VC w x b (o + i * 5)) → ∃ l : List Vl, l.length = len ∧ VE w l b o
 | 0, _, _, _ => ⟨[], rfl, by unfold VE; trivial⟩
 | n + 1, b, o, h => by
  obtain ⟨x, hx⟩ := h 0 (by omega)
  obtain ⟨l, hl, hv⟩ := VE_all w n b (o + 5) (fun i hi => by
   obtain ⟨y, hy⟩ := h (i + 1) (by omega)
   exact ⟨y, by rwa [show o + 5 + i * 5 = o + (i + 1) * 5 by omega]⟩)
  refine ⟨x :: l, by rw [List.length_cons, hl], ?_⟩
  unfold VE
  exact ⟨by simpa using hx, hv⟩
theorem at_plain {w : World} {a : Addr} {v : Value} (h : w.cell? (a.add 0) = some v) : ∃ b o, a = ⟨b, o, none⟩ := by
 obtain ⟨b, o, spot⟩ := a
 have hspot : spot = none := by simpa [Addr.add] using World.cell?_spot h
 subst hspot
 exact ⟨b, o, rfl⟩
def Cells5 (w : World) (cs : List Value) : Prop := ∃ x ao cap, cs = [.int .i64 x.kd, .int .i64 x.nn, .int .i64 x.dd, .string (bs x.ss), .slice ao x.ll.length cap] ∧ Vin x ∧ SlV w ao x.ll cap
theorem tr_slice {H : Type} {enc : TypeId × Value → H} {w : World} {sp : Nat → Bool} {fuel : Nat} {cs : List Value} {x : DataW H × List MemPlace}
  (ih : ∀ n cs y, n < fuel → DataW.trod enc Tryz.prog w 0 sp true n 28 cs = some y → Cells5 w cs)
  (h : DataW.trod enc Tryz.prog w 0 sp true fuel 26 cs = some x) : ∃ ao l cap, cs = [.slice ao l.length cap] ∧ SlV w ao l cap := by
 rcases DataW.trod_slice Tryz.underlying26 h with ⟨rfl, -⟩ | ⟨a, len, cap, elems, rest, n, hn, rfl, -, -, hl, hm, hlen, hel, -⟩
 ·exact ⟨none, [], 0, rfl, ⟨Nat.le_refl _, Nat.zero_le _, fun _ => rfl, fun h => absurd h (by decide)⟩⟩
 ·have hc : ∀ i, i < len → ∃ cs', w.cells? 0 (a.add (i * 5)) 5 = some cs' ∧ Cells5 w cs' := fun i hi => by
   have e := hel i hi
   rw [cellsV, List.getElem?_eq_getElem (by omega)] at e
   obtain ⟨cs', h1, h2⟩ := Option.bind_eq_some_iff.1 e
   exact ⟨cs', h1, ih n cs' _ (by omega) h2⟩
  rcases Nat.eq_zero_or_pos len with hz | hp
  ·subst hz
   exact ⟨some a, [], cap, rfl, ⟨hl, hm, (fun e => by cases e), fun h => absurd h (by decide)⟩⟩
  ·have hpl : ∃ b o, a = ⟨b, o, none⟩ := by
    obtain ⟨cs', h1, x0, ao0, cap0, rfl, -⟩ := hc 0 hp
    obtain ⟨-, -, hat⟩ := World.cells?_some h1
    have k := hat 0 (by decide)
    rw [Nat.zero_mul] at k
    have e : a.add 0 = a := by simp [Addr.add]
    rw [e] at k
    exact at_plain k
   obtain ⟨b, o, rfl⟩ := hpl
   obtain ⟨l, hl2, hv⟩ := VE_all w len b o (fun i hi => by
    obtain ⟨cs', h1, x0, ao0, cap0, rfl, hi0, hs0⟩ := hc i hi
    obtain ⟨-, -, hat⟩ := World.cells?_some h1
    have k : ∀ j, j < 5 → w.cell? ⟨b, o + i * 5 + j, none⟩ = ([.int .i64 x0.kd, .int .i64 x0.nn, .int .i64 x0.dd, .string (bs x0.ss), .slice ao0 x0.ll.length cap0] : List Value)[j]? := fun j hj => by
     have := hat j hj
     rw [Go.WideShapes.add_plain, Go.WideShapes.add_plain] at this
     exact this
    exact ⟨x0, VC_mk hi0 (k 0 (by decide)) (k 1 (by decide)) (k 2 (by decide)) (k 3 (by decide)) (k 4 (by decide)) hs0⟩)
   subst hl2
   exact ⟨_, l, cap, rfl, ⟨hl, hm, (fun e => by cases e), fun _ => ⟨b, o, rfl, hv⟩⟩⟩
theorem tr_val {H : Type} {enc : TypeId × Value → H} {w : World} {sp : Nat → Bool} : ∀ (fuel m : Nat), m ≤ fuel → ∀ (cs : List Value) (y : DataW H × List MemPlace), DataW.trod enc Tryz.prog w 0 sp true m 28 cs = some y → Cells5 w cs := by
 intro fuel
 induction fuel with
 | zero =>
  intro m hm cs y h
  obtain rfl : m = 0 := by omega
  simp [DataW.trod] at h
 | succ f ih =>
  intro m hm cs y h
  obtain ⟨xs, n, rfl, -, hlen, hxl, hf⟩ := DataW.trod_struct Tryz.underlying28 h
  rw [cellsV] at hlen
  match cs, hlen with
  | [v0, v1, v2, v3, v4], _ =>
   have f0 : DataW.trod enc Tryz.prog w 0 sp true n 3 (([v0, v1, v2, v3, v4].drop 0).take (Tryz.prog.cellsOf 3)) = xs[0]? := hf 0 _ rfl
   have f1 : DataW.trod enc Tryz.prog w 0 sp true n 3 (([v0, v1, v2, v3, v4].drop 1).take (Tryz.prog.cellsOf 3)) = xs[1]? := hf 1 _ rfl
   have f2 : DataW.trod enc Tryz.prog w 0 sp true n 3 (([v0, v1, v2, v3, v4].drop 2).take (Tryz.prog.cellsOf 3)) = xs[2]? := hf 2 _ rfl
   have f3 : DataW.trod enc Tryz.prog w 0 sp true n 9 (([v0, v1, v2, v3, v4].drop 3).take (Tryz.prog.cellsOf 9)) = xs[3]? := hf 3 _ rfl
   have f4 : DataW.trod enc Tryz.prog w 0 sp true n 26 (([v0, v1, v2, v3, v4].drop 4).take (Tryz.prog.cellsOf 26)) = xs[4]? := hf 4 _ rfl
   simp only [cells1.1, cells1.2.1, cells1.2.2, List.drop_zero, List.drop_succ_cons, List.take_succ_cons, List.take_zero] at f0 f1 f2 f3 f4
   have g : ∀ (j : Nat), j < 5 → ∃ z, xs[j]? = some z := fun j hj => by
    refine ⟨_, List.getElem?_eq_getElem ?_⟩
    have : xs.length = 5 := hxl
    omega
   obtain ⟨z0, e0⟩ := g 0 (by decide)
   obtain ⟨z1, e1⟩ := g 1 (by decide)
   obtain ⟨z2, e2⟩ := g 2 (by decide)
   obtain ⟨z3, e3⟩ := g 3 (by decide)
   obtain ⟨z4, e4⟩ := g 4 (by decide)
   rw [e0] at f0; rw [e1] at f1; rw [e2] at f2; rw [e3] at f3; rw [e4] at f4
   obtain ⟨k, hk, -, wk⟩ := DataW.trod_int Tryz.underlying3 f0
   obtain ⟨a, ha, -, wa⟩ := DataW.trod_int Tryz.underlying3 f1
   obtain ⟨d, hd, -, wd⟩ := DataW.trod_int Tryz.underlying3 f2
   obtain ⟨s, hs, -, ws⟩ := DataW.trod_string Tryz.underlying9 f3
   obtain ⟨ao, l, cap, hl, hsl⟩ := tr_slice (fun n' cs' y' hn' h' => ih n' (by omega) cs' y' h') f4
   obtain rfl : v0 = .int .i64 k := by simpa using hk
   obtain rfl : v1 = .int .i64 a := by simpa using ha
   obtain rfl : v2 = .int .i64 d := by simpa using hd
   obtain rfl : v3 = .string s := by simpa using hs
   obtain rfl : v4 = .slice ao l.length cap := by simpa using hl
   refine ⟨.mk k a d s.data.toList l, ao, cap, rfl, ⟨i64_of wk, i64_of wa, i64_of wd, ?_⟩, hsl⟩
   show s.data.toList.length ≤ maxLen
   rw [Array.length_toList]; exact ws
end Go.Proofs.YtpamdlkagmlahaaGreatDoor
namespace Go.Proofs.YtpamdlkagmlahaaGreatDoor
open Go.ChangeShapes Go.WideShapes Go.ChangeAt Go.RowKit Go.Joins
theorem list_of {α : Type} (Q : Nat → α → Prop) : ∀ n, (∀ i, i < n → ∃ x, Q i x) → ∃ l : List α, l.length = n ∧ ∀ (i : Nat) (h : i < l.length), Q i l[i]
 | 0, _ => ⟨[], rfl, fun i h => absurd h (Nat.not_lt_zero i)⟩
 | n + 1, h => by
  obtain ⟨l, hl, hq⟩ := list_of Q n (fun i hi => h i (by omega))
  obtain ⟨x, hx⟩ := h n (by omega)
  refine ⟨l ++ [x], by rw [List.length_append, hl]; rfl, fun i hi => ?_⟩
  rw [List.length_append, hl] at hi
  have hi' : i < n + 1 := hi
  by_cases g : i < n
  ·rw [List.getElem_append_left (by omega)]; exact hq i (by omega)
  ·obtain rfl : i = n := by omega
   rw [List.getElem_append_right (by omega)]
   simpa [hl] using hx
section
variable {H : Type} {enc : TypeId × Value → H} {w : World} {sp : Nat → Bool}
theorem tr_sl {α : Type} {P : World → α → Nat → Nat → Prop} {t e : TypeId} {k fuel : Nat} {cs : List Value} {x : DataW H × List MemPlace} (ht : Tryz.prog.underlying t = some (.slice e)) (hk : Tryz.prog.cellsOf e = k) (k0 : 0 < k)
  (hQ : ∀ n cs y, DataW.trod enc Tryz.prog w 0 sp true n e cs = some y → ∀ b o, (∀ j, j < k → w.cell? ⟨b, o + j, none⟩ = cs[j]?) → ∃ x, P w x b o)
  (h : DataW.trod enc Tryz.prog w 0 sp true fuel t cs = some x) : ∃ ao l cap, cs = [.slice ao l.length cap] ∧ Sl k P w ao l cap := by
 rcases DataW.trod_slice ht h with ⟨rfl, -⟩ | ⟨a, len, cap, elems, rest, n, hn, rfl, -, -, hl, hm, hlen, hel, -⟩
 ·exact ⟨none, [], 0, rfl, Sl.empty _⟩
 ·have hc : ∀ i, i < len → ∃ cs' y, w.cells? 0 (a.add (i * k)) k = some cs' ∧ DataW.trod enc Tryz.prog w 0 sp true n e cs' = some y := fun i hi => by
   have e := hel i hi
   rw [hk, List.getElem?_eq_getElem (by omega)] at e
   obtain ⟨cs', h1, h2⟩ := Option.bind_eq_some_iff.1 e
   exact ⟨cs', _, h1, h2⟩
  rcases Nat.eq_zero_or_pos len with hz | hp
  ·subst hz
   exact ⟨some a, [], cap, rfl, ⟨hl, hm, (fun e => by cases e), fun h => absurd h (Nat.lt_irrefl 0)⟩⟩
  ·have hpl : ∃ b o, a = ⟨b, o, none⟩ := by
    obtain ⟨cs', y, h1, -⟩ := hc 0 hp
    obtain ⟨-, hln, hat⟩ := World.cells?_some h1
    have q := hat 0 k0
    rw [Nat.zero_mul] at q
    have e : a.add 0 = a := by simp [Addr.add]
    rw [e] at q
    have hcs : 0 < cs'.length := by omega
    rw [List.getElem?_eq_getElem hcs] at q
    exact at_plain q
   obtain ⟨b, o, rfl⟩ := hpl
   obtain ⟨l, hl2, hv⟩ := list_of (fun i x => P w x b (o + i * k)) len (fun i hi => by
    obtain ⟨cs', y, h1, h2⟩ := hc i hi
    obtain ⟨-, -, hat⟩ := World.cells?_some h1
    refine hQ n cs' y h2 b (o + i * k) fun j hj => ?_
    have := hat j hj
    rw [Go.WideShapes.add_plain, Go.WideShapes.add_plain] at this
    exact this)
   subst hl2
   exact ⟨_, l, cap, rfl, ⟨hl, hm, (fun e => by cases e), fun _ => ⟨b, o, rfl, hv⟩⟩⟩
theorem cells6 : Tryz.prog.cellsOf 48 = 6 ∧ Tryz.prog.cellsOf 51 = 3 ∧ Tryz.prog.cellsOf 53 = 5 ∧ Tryz.prog.cellsOf 25 = 4 := ⟨by kernel_rfl, by kernel_rfl, by kernel_rfl, by kernel_rfl⟩
theorem cells1b : Tryz.prog.cellsOf 46 = 1 ∧ Tryz.prog.cellsOf 49 = 1 ∧ Tryz.prog.cellsOf 22 = 1 ∧ Tryz.prog.cellsOf 23 = 1 := ⟨by kernel_rfl, by kernel_rfl, by kernel_rfl, by kernel_rfl⟩
theorem tr_str {n : Nat} {cs : List Value} {y : DataW H × List MemPlace} (h : DataW.trod enc Tryz.prog w 0 sp true n 9 cs = some y) : ∃ s : List UInt8, cs = [.string (bs s)] ∧ s.length ≤ maxLen := by
 obtain ⟨s, hs, -, ws⟩ := DataW.trod_string Tryz.underlying9 h
 refine ⟨s.data.toList, by rw [hs]; simp [bs], ?_⟩
 rw [Array.length_toList]; exact ws
theorem tr_strs {fuel : Nat} {cs : List Value} {x : DataW H × List MemPlace} (h : DataW.trod enc Tryz.prog w 0 sp true fuel 46 cs = some x) : ∃ ao l cap, cs = [.slice ao l.length cap] ∧ SlS w ao l cap :=
 tr_sl Tryz.underlying46 cells1.2.1 (by decide) (fun n cs y hy b o hc => by
  obtain ⟨s, rfl, hs⟩ := tr_str hy
  exact ⟨s, hs, hc 0 (by decide)⟩) h
theorem tr_prop {m : Nat} {cs : List Value} {y : DataW H × List MemPlace} (h : DataW.trod enc Tryz.prog w 0 sp true m 48 cs = some y) (b o : Nat) (hc : ∀ j, j < 6 → w.cell? ⟨b, o + j, none⟩ = cs[j]?) : ∃ p, PC w p b o := by
 obtain ⟨xs, n, -, -, hlen, hxl, hf⟩ := DataW.trod_struct Tryz.underlying48 h
 rw [cells6.1] at hlen
 match cs, hlen with
 | [v0, v1, v2, v3, v4, v5], _ =>
  have f0 : DataW.trod enc Tryz.prog w 0 sp true n 9 (([v0, v1, v2, v3, v4, v5].drop 0).take (Tryz.prog.cellsOf 9)) = xs[0]? := hf 0 _ rfl
  have f1 : DataW.trod enc Tryz.prog w 0 sp true n 28 (([v0, v1, v2, v3, v4, v5].drop 1).take (Tryz.prog.cellsOf 28)) = xs[1]? := hf 1 _ rfl
  simp only [cells1.2.1, cellsV, List.drop_zero, List.drop_succ_cons, List.take_succ_cons, List.take_zero] at f0 f1
  have hx2 : xs.length = 2 := hxl
  rw [List.getElem?_eq_getElem (show 0 < xs.length by omega)] at f0
  rw [List.getElem?_eq_getElem (show 1 < xs.length by omega)] at f1
  obtain ⟨s, hs, hl⟩ := tr_str f0
  obtain ⟨z, ao, cap, he, hi, hsl⟩ := tr_val n n (Nat.le_refl _) _ _ f1
  obtain rfl : v0 = .string (bs s) := by simpa using hs
  simp only [List.cons.injEq, and_true] at he
  obtain ⟨rfl, rfl, rfl, rfl, rfl⟩ := he
  exact ⟨⟨s, z⟩, hl, hc 0 (by decide), VC_mk hi (hc 1 (by decide)) (hc 2 (by decide)) (hc 3 (by decide)) (hc 4 (by decide)) (hc 5 (by decide)) hsl⟩
theorem tr_props {fuel : Nat} {cs : List Value} {x : DataW H × List MemPlace} (h : DataW.trod enc Tryz.prog w 0 sp true fuel 49 cs = some x) : ∃ ao l cap, cs = [.slice ao l.length cap] ∧ SlP w ao l cap :=
 tr_sl Tryz.underlying49 cells6.1 (by decide) (fun n cs y hy b o hc => tr_prop hy b o hc) h
theorem tr_node {m : Nat} {cs : List Value} {y : DataW H × List MemPlace} (h : DataW.trod enc Tryz.prog w 0 sp true m 51 cs = some y) (b o : Nat) (hc : ∀ j, j < 3 → w.cell? ⟨b, o + j, none⟩ = cs[j]?) : ∃ p, NC w p b o := by
 obtain ⟨xs, n, -, -, hlen, hxl, hf⟩ := DataW.trod_struct Tryz.underlying51 h
 rw [cells6.2.1] at hlen
 match cs, hlen with
 | [v0, v1, v2], _ =>
  have f0 : DataW.trod enc Tryz.prog w 0 sp true n 3 (([v0, v1, v2].drop 0).take (Tryz.prog.cellsOf 3)) = xs[0]? := hf 0 _ rfl
  have f1 : DataW.trod enc Tryz.prog w 0 sp true n 46 (([v0, v1, v2].drop 1).take (Tryz.prog.cellsOf 46)) = xs[1]? := hf 1 _ rfl
  have f2 : DataW.trod enc Tryz.prog w 0 sp true n 49 (([v0, v1, v2].drop 2).take (Tryz.prog.cellsOf 49)) = xs[2]? := hf 2 _ rfl
  simp only [cells1.1, cells1b.1, cells1b.2.1, List.drop_zero, List.drop_succ_cons, List.take_succ_cons, List.take_zero] at f0 f1 f2
  have hx3 : xs.length = 3 := hxl
  rw [List.getElem?_eq_getElem (show 0 < xs.length by omega)] at f0
  rw [List.getElem?_eq_getElem (show 1 < xs.length by omega)] at f1
  rw [List.getElem?_eq_getElem (show 2 < xs.length by omega)] at f2
  obtain ⟨k, hk, -, wk⟩ := DataW.trod_int Tryz.underlying3 f0
  obtain ⟨a1, l1, c1, e1, s1⟩ := tr_strs f1
  obtain ⟨a2, l2, c2, e2, s2⟩ := tr_props f2
  obtain rfl : v0 = .int .i64 k := by simpa using hk
  obtain rfl : v1 = .slice a1 l1.length c1 := by simpa using e1
  obtain rfl : v2 = .slice a2 l2.length c2 := by simpa using e2
  exact ⟨⟨k, l1, l2⟩, i64_of wk, hc 0 (by decide), ⟨a1, c1, hc 1 (by decide), s1⟩, a2, c2, hc 2 (by decide), s2⟩
theorem tr_edge {m : Nat} {cs : List Value} {y : DataW H × List MemPlace} (h : DataW.trod enc Tryz.prog w 0 sp true m 53 cs = some y) (b o : Nat) (hc : ∀ j, j < 5 → w.cell? ⟨b, o + j, none⟩ = cs[j]?) : ∃ p, EC w p b o := by
 obtain ⟨xs, n, -, -, hlen, hxl, hf⟩ := DataW.trod_struct Tryz.underlying53 h
 rw [cells6.2.2.1] at hlen
 match cs, hlen with
 | [v0, v1, v2, v3, v4], _ =>
  have f0 : DataW.trod enc Tryz.prog w 0 sp true n 3 (([v0, v1, v2, v3, v4].drop 0).take (Tryz.prog.cellsOf 3)) = xs[0]? := hf 0 _ rfl
  have f1 : DataW.trod enc Tryz.prog w 0 sp true n 3 (([v0, v1, v2, v3, v4].drop 1).take (Tryz.prog.cellsOf 3)) = xs[1]? := hf 1 _ rfl
  have f2 : DataW.trod enc Tryz.prog w 0 sp true n 3 (([v0, v1, v2, v3, v4].drop 2).take (Tryz.prog.cellsOf 3)) = xs[2]? := hf 2 _ rfl
  have f3 : DataW.trod enc Tryz.prog w 0 sp true n 9 (([v0, v1, v2, v3, v4].drop 3).take (Tryz.prog.cellsOf 9)) = xs[3]? := hf 3 _ rfl
  have f4 : DataW.trod enc Tryz.prog w 0 sp true n 49 (([v0, v1, v2, v3, v4].drop 4).take (Tryz.prog.cellsOf 49)) = xs[4]? := hf 4 _ rfl
  simp only [cells1.1, cells1.2.1, cells1b.2.1, List.drop_zero, List.drop_succ_cons, List.take_succ_cons, List.take_zero] at f0 f1 f2 f3 f4
  have hx5 : xs.length = 5 := hxl
  rw [List.getElem?_eq_getElem (show 0 < xs.length by omega)] at f0
  rw [List.getElem?_eq_getElem (show 1 < xs.length by omega)] at f1
  rw [List.getElem?_eq_getElem (show 2 < xs.length by omega)] at f2
  rw [List.getElem?_eq_getElem (show 3 < xs.length by omega)] at f3
  rw [List.getElem?_eq_getElem (show 4 < xs.length by omega)] at f4
  obtain ⟨k, hk, -, wk⟩ := DataW.trod_int Tryz.underlying3 f0
  obtain ⟨k1, hk1, -, wk1⟩ := DataW.trod_int Tryz.underlying3 f1
  obtain ⟨k2, hk2, -, wk2⟩ := DataW.trod_int Tryz.underlying3 f2
  obtain ⟨s, hs, hl⟩ := tr_str f3
  obtain ⟨a4, l4, c4, e4, s4⟩ := tr_props f4
  obtain rfl : v0 = .int .i64 k := by simpa using hk
  obtain rfl : v1 = .int .i64 k1 := by simpa using hk1
  obtain rfl : v2 = .int .i64 k2 := by simpa using hk2
  obtain rfl : v3 = .string (bs s) := by simpa using hs
  obtain rfl : v4 = .slice a4 l4.length c4 := by simpa using e4
  exact ⟨⟨k, k1, k2, s, l4⟩, i64_of wk, i64_of wk1, i64_of wk2, hl, hc 0 (by decide), hc 1 (by decide), hc 2 (by decide), hc 3 (by decide), a4, c4, hc 4 (by decide), s4⟩
theorem open_graph {v : Value} {base : Nat} {d : DataW H} {p : List MemPlace} (hv : Value.okWide Tryz.prog w .any base 25 v) (h : DataW.Trod enc Tryz.prog w 0 sp true 25 v d p) :
  ∃ g an ae cn ce, v = grv g an ae cn ce ∧ GIn w g an ae cn ce := by
 obtain ⟨cs, rfl, hsz⟩ := okWide_struct Tryz.underlying25 hv
 obtain ⟨l⟩ := cs
 obtain ⟨fuel, hf0⟩ := h
 obtain ⟨xs, n, -, -, hlen, hxl, hf⟩ := DataW.trod_struct Tryz.underlying25 hf0
 match l, hsz.trans cells6.2.2.2 with
 | [v0, v1, v2, v3], _ =>
  have f0 : DataW.trod enc Tryz.prog w 0 sp true n 22 (([v0, v1, v2, v3].drop 0).take (Tryz.prog.cellsOf 22)) = xs[0]? := hf 0 _ rfl
  have f1 : DataW.trod enc Tryz.prog w 0 sp true n 23 (([v0, v1, v2, v3].drop 1).take (Tryz.prog.cellsOf 23)) = xs[1]? := hf 1 _ rfl
  have f2 : DataW.trod enc Tryz.prog w 0 sp true n 3 (([v0, v1, v2, v3].drop 2).take (Tryz.prog.cellsOf 3)) = xs[2]? := hf 2 _ rfl
  have f3 : DataW.trod enc Tryz.prog w 0 sp true n 3 (([v0, v1, v2, v3].drop 3).take (Tryz.prog.cellsOf 3)) = xs[3]? := hf 3 _ rfl
  simp only [cells1.1, cells1b.2.2.1, cells1b.2.2.2, List.drop_zero, List.drop_succ_cons, List.take_succ_cons, List.take_zero] at f0 f1 f2 f3
  have hx4 : xs.length = 4 := hxl
  rw [List.getElem?_eq_getElem (show 0 < xs.length by omega)] at f0
  rw [List.getElem?_eq_getElem (show 1 < xs.length by omega)] at f1
  rw [List.getElem?_eq_getElem (show 2 < xs.length by omega)] at f2
  rw [List.getElem?_eq_getElem (show 3 < xs.length by omega)] at f3
  obtain ⟨a0, l0, c0, e0, s0⟩ := tr_sl (P := NC) Tryz.underlying22 cells6.2.1 (by decide) (fun n cs y hy b o hc => tr_node hy b o hc) f0
  obtain ⟨a1, l1, c1, e1, s1⟩ := tr_sl (P := EC) Tryz.underlying23 cells6.2.2.1 (by decide) (fun n cs y hy b o hc => tr_edge hy b o hc) f1
  obtain ⟨k2, hk2, -, wk2⟩ := DataW.trod_int Tryz.underlying3 f2
  obtain ⟨k3, hk3, -, wk3⟩ := DataW.trod_int Tryz.underlying3 f3
  obtain rfl : v0 = .slice a0 l0.length c0 := by simpa using e0
  obtain rfl : v1 = .slice a1 l1.length c1 := by simpa using e1
  obtain rfl : v2 = .int .i64 k2 := by simpa using hk2
  obtain rfl : v3 = .int .i64 k3 := by simpa using hk3
  exact ⟨⟨l0, l1, k2, k3⟩, a0, a1, c0, c1, rfl, s0, s1, i64_of wk2, i64_of wk3⟩
end
end Go.Proofs.YtpamdlkagmlahaaGreatDoor
