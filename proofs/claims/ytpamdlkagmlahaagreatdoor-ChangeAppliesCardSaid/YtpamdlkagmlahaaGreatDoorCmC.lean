import Derived.Test.YtpamdlkagmlahaaGreatDoorM17
import Derived.Test.YtpamdlkagmlahaaGreatDoorK11
import Derived.Test.YtpamdlkagmlahaaGreatDoorK01
import Derived.Deep.RegionHeld3
namespace Go.Proofs.YtpamdlkagmlahaaGreatDoor
open Go.RowKit
theorem sign_cases (t : Int) : t.sign = 0 ∨ t.sign = 1 ∨ t.sign = -1 := by
 rcases Int.lt_trichotomy t 0 with h | h | h
 ·exact .inr (.inr (Int.sign_eq_neg_one_of_neg h))
 ·subst h; exact .inl rfl
 ·exact .inr (.inl (Int.sign_eq_one_of_pos h))
theorem sum_bd {an bn : Int} {Da Db : Nat} (ha1 : -1000000000000000 ≤ an) (ha2 : an ≤ 1000000000000000) (hb1 : -1000000000000000 ≤ bn) (hb2 : bn ≤ 1000000000000000) (hDa : Da ≤ 1000000000000000) (hDb : Db ≤ 1000000000000000) :
  an.natAbs * Db + bn.natAbs * Da < 1000 ^ 14 := by
 have a := Nat.mul_le_mul (show an.natAbs ≤ 1000000000000000 by omega) hDb
 have b := Nat.mul_le_mul (show bn.natAbs ≤ 1000000000000000 by omega) hDa
 have c : 1000000000000000 * 1000000000000000 + 1000000000000000 * 1000000000000000 < 1000 ^ 14 := by decide
 omega
theorem rsum_at {an bn : Int} {Da Db : Nat} (ha1 : -1000000000000000 ≤ an) (ha2 : an ≤ 1000000000000000) (hb1 : -1000000000000000 ≤ bn) (hb2 : bn ≤ 1000000000000000) (hDa : Da ≤ 1000000000000000) (hDb : Db ≤ 1000000000000000) (pa : 0 < Da) (pb : 0 < Db)
  (ao bo : Option Addr) (x y : List Int) (ca cb : Nat) (w : World) (ha : IsS w ao x ca) (hb : IsS w bo y cb) (hx : Wide x (an.natAbs * Db)) (hy : Wide y (bn.natAbs * Da)) :
  Calls Tryz.prog 146 #[.int .i64 an.sign, .slice ao 14 ca, .int .i64 bn.sign, .slice bo 14 cb] w (RwIW w (an * (Db : Int) + bn * (Da : Int)).sign (an * (Db : Int) + bn * (Da : Int)).natAbs) := by
 have ea : (an * (Db : Int)).natAbs = an.natAbs * Db := by rw [Int.natAbs_mul, Int.natAbs_natCast]
 have eb : (bn * (Da : Int)).natAbs = bn.natAbs * Da := by rw [Int.natAbs_mul, Int.natAbs_natCast]
 have sa : (an * (Db : Int)).sign = an.sign := by rw [Int.sign_mul, Int.sign_eq_one_of_pos (show (0 : Int) < Db by omega), Int.mul_one]
 have sb : (bn * (Da : Int)).sign = bn.sign := by rw [Int.sign_mul, Int.sign_eq_one_of_pos (show (0 : Int) < Da by omega), Int.mul_one]
 have k := rsum_any (an * (Db : Int)) (bn * (Da : Int)) ao bo x y ca cb w ha hb (by rw [ea]; exact hx) (by rw [eb]; exact hy) (by rw [ea, eb]; exact sum_bd ha1 ha2 hb1 hb2 hDa hDb)
 rwa [sa, sb] at k
theorem box2w (w : World) (a b c d : Int) :
  Box ((w.alloc (.cells #[.int .i64 a, .int .i64 b] 122)).alloc (.cells #[.int .i64 c, .int .i64 d] 122)) w.heap.size a b ∧
  Box ((w.alloc (.cells #[.int .i64 a, .int .i64 b] 122)).alloc (.cells #[.int .i64 c, .int .i64 d] 122)) (w.heap.size + 1) c d ∧
  Fuw w ((w.alloc (.cells #[.int .i64 a, .int .i64 b] 122)).alloc (.cells #[.int .i64 c, .int .i64 d] 122)) := by
 have p0 : Box (w.alloc (.cells #[.int .i64 a, .int .i64 b] 122)) w.heap.size a b := by
  show (w.heap.push _)[w.heap.size]? = _
  rw [Array.getElem?_push, if_pos rfl]
 have f0 : Fuw w (w.alloc (.cells #[.int .i64 a, .int .i64 b] 122)) := (Fuw.refl w).alloc _
 have s0 : (w.alloc (.cells #[.int .i64 a, .int .i64 b] 122)).heap.size = w.heap.size + 1 := by simp
 generalize w.alloc (.cells #[.int .i64 a, .int .i64 b] 122) = w1 at *
 have p1 : Box (w1.alloc (.cells #[.int .i64 c, .int .i64 d] 122)) (w.heap.size + 1) c d := by
  show (w1.heap.push _)[w.heap.size + 1]? = _
  rw [← s0, Array.getElem?_push, if_pos rfl]
 have f1 : Fuw w1 (w1.alloc (.cells #[.int .i64 c, .int .i64 d] 122)) := (Fuw.refl w1).alloc _
 exact ⟨p0.onw f1, p1, f0.trans f1⟩
theorem box_put {W : World} {B : Nat} {n d : Int} (h : Box W B n d) (u v : Int) : Box ((W.setCell ⟨B, 0, none⟩ (.int .i64 u)).setCell ⟨B, 1, none⟩ (.int .i64 v)) B u v := by
 unfold Box at *
 simp [World.setCell, Array.getElem?_modify, h]
theorem box_far {W : World} {B C : Nat} {n d : Int} (hne : C ≠ B) (h : Box W B n d) (u v : Value) : Box ((W.setCell ⟨C, 0, none⟩ u).setCell ⟨C, 1, none⟩ v) B n d := by
 unfold Box at *
 simp [World.setCell, Array.getElem?_modify, h, hne]
theorem ok_nat {n d : Int} (h : okF n d = true) : ∃ D : Nat, d = (D : Int) ∧ OkF n D ∧ fv n D = fz n d := by
 have o := okF_t h
 have e : ((d.toNat : Nat) : Int) = d := by have := o.d1; omega
 exact ⟨d.toNat, e.symm, by rw [e]; exact o, by rw [e]; exact fz_t h⟩
theorem wrap_neg (n : Int) : IntKind.i64.wrap (-n.sign) = -n.sign := by
 rcases sign_cases n with h | h | h <;> rw [h] <;> rfl
set_option maxHeartbeats 6400000 in
set_option maxRecDepth 100000 in
theorem rcmp_tt (an ad bn bd : Int) (w : World) (va : okF an ad = true) (vb : okF bn bd = true) :
  Calls Tryz.prog 104 #[.agg #[.int .i64 an, .int .i64 ad], .agg #[.int .i64 bn, .int .i64 bd]] w (RwI w (cmpQ (fz an ad) (fz bn bd))) := by
 obtain ⟨p0, p1, f0⟩ := box2w w an ad bn bd
 have VA := Lib.hid (fun w => (rvalid_any an ad w).mono fun _ _ h => RetB.w h)
 have VB := Lib.hid (fun w => (rvalid_any bn bd w).mono fun _ _ h => RetB.w h)
 rw [va] at VA
 rw [vb] at VB
 have hne : ¬ (w.heap.size = w.heap.size + 1) := by omega
 have hne2 : ¬ (w.heap.size + 1 = w.heap.size) := by omega
 have HA := Lib.hid (ok_nat va)
 have HB := Lib.hid (ok_nat vb)
 clear va vb
 go_enter Tryz.func104, Tryz.ntmps104
 go_wp2_with fail
 go_at_call 145; refine (VA.out _).mono ?_; rintro e1 w1 ⟨rfl, f1⟩
 replace p0 := p0.onw f1
 replace p1 := p1.onw f1
 replace f0 := f0.trans f1
 have c00 := p0.c0
 have c01 := p0.c1
 have z00 := p0.f0 0
 have z01 := p0.f0 1
 have c10 := p1.c0
 have c11 := p1.c1
 go_wp2_with fail
 go_at_call 145; refine (VB.out _).mono ?_; rintro e1 w2 ⟨rfl, f2⟩
 clear c00 c01 z00 z01 c10 c11
 replace p0 := p0.onw f2
 replace p1 := p1.onw f2
 replace f0 := f0.trans f2
 clear f1 f2 VA VB
 have c00 := p0.c0
 have c01 := p0.c1
 have c10 := p1.c0
 have c11 := p1.c1
 have z10 := p1.f0 0
 have z11 := p1.f0 1
 go_wp2_with fail
 clear c00 c01 c10 c11 z10 z11
 generalize w2 = W at *
 obtain ⟨D1, rfl, o1, e1⟩ := HA.out
 obtain ⟨D2, rfl, o2, e2⟩ := HB.out
 have HE := Lib.hid (show (an * (D2 : Int) + -bn * (D1 : Int)).sign = cmpQ (fz _ _) (fz _ _) by rw [cmp_sign o1 o2, e1, e2])
 have a1 := o1.n1; have a2 := o1.n2; have a3 := o2.n1; have a4 := o2.n2; have a5 := o1.d2; have a6 := o2.d2; have a7 := o1.d1; have a8 := o2.d1
 have CS := rsum_at (an := an) (bn := -bn) (Da := D1) (Db := D2) a1 a2 (by omega) (by omega) (by omega) (by omega) (by omega) (by omega)
 rw [Int.natAbs_neg, Int.sign_neg] at CS
 have HS := Lib.hid CS
 clear CS o1 o2 e1 e2 HA HB
 have hw := wrap_neg bn
 have c00 := p0.c0
 have c01 := p0.c1
 have c10 := p1.c0
 have c11 := p1.c1
 go_region_held3 (fun w' => Fuw W w' ∧ w'.cell? ⟨w.heap.size, 0, none⟩ = some (.int .i64 an) ∧ w'.cell? ⟨w.heap.size, 1, none⟩ = some (.int .i64 (D1 : Int)) ∧ w'.cell? ⟨w.heap.size + 1, 0, none⟩ = some (.int .i64 bn) ∧ w'.cell? ⟨w.heap.size + 1, 1, none⟩ = some (.int .i64 (D2 : Int)))
  (first
   | (refine ⟨Fuw.drew (Fuw.refl _), ?_, ?_, ?_, ?_⟩ <;> simp [*]; done)
   | go_keep
   | (refine ⟨Fuw.trans ?_ (by assumption), cellOnw (by assumption) ?_, cellOnw (by assumption) ?_, cellOnw (by assumption) ?_, cellOnw (by assumption) ?_⟩ <;> simp [*]))
  (first
   | (go_at_call 147; refine (rsign_any _ _).mono ?_; rintro e w' ⟨rfl, rfl⟩)
   | (go_at_call 149; refine (rsize_any _ ?_ ?_ _).mono ?_; (first | omega | skip); (first | omega | skip); rintro e w' ⟨rfl, rfl⟩)
   | (go_at_call 148; refine (rtimes_any _ _ ?_ ?_ _).mono ?_; omega; omega; rintro e wb ⟨zs2, ao2, c2, hW2, rfl, hI2, hf2⟩)
   | (go_at_call 146; refine (HS.out _ _ _ _ _ _ _ (IsS.onw (by assumption) hf2) hI2 (by assumption) hW2).mono ?_; rintro e w4 ⟨zs3, ao3, c3, hW3, rfl, hI3, hf3⟩))
 have hS : Fuw W w4 ∧ w4.cell? ⟨w.heap.size, 0, none⟩ = some (.int .i64 an) ∧ w4.cell? ⟨w.heap.size, 1, none⟩ = some (.int .i64 (D1 : Int)) ∧ w4.cell? ⟨w.heap.size + 1, 0, none⟩ = some (.int .i64 bn) ∧ w4.cell? ⟨w.heap.size + 1, 1, none⟩ = some (.int .i64 (D2 : Int)) := by assumption
 have ff := f0.trans hS.1
 go_wp2
 go_ret
 exact ⟨ret_int HE.out, ff⟩
set_option maxHeartbeats 6400000 in
set_option maxRecDepth 100000 in
theorem rcmp_tf (an ad bn bd : Int) (w : World) (va : okF an ad = true) (vb : okF bn bd = false) :
  Calls Tryz.prog 104 #[.agg #[.int .i64 an, .int .i64 ad], .agg #[.int .i64 bn, .int .i64 bd]] w (RwI w (cmpQ (fz an ad) (fz bn bd))) := by
 obtain ⟨p0, p1, f0⟩ := box2w w an ad bn bd
 have VA := Lib.hid (fun w => (rvalid_any an ad w).mono fun _ _ h => RetB.w h)
 have VB := Lib.hid (fun w => (rvalid_any bn bd w).mono fun _ _ h => RetB.w h)
 rw [va] at VA
 rw [vb] at VB
 have hne : ¬ (w.heap.size = w.heap.size + 1) := by omega
 have hne2 : ¬ (w.heap.size + 1 = w.heap.size) := by omega
 have HA := Lib.hid (ok_nat va)
 have HB := Lib.hid (fz_f vb)
 clear va vb
 go_enter Tryz.func104, Tryz.ntmps104
 go_wp2_with fail
 go_at_call 145; refine (VA.out _).mono ?_; rintro e1 w1 ⟨rfl, f1⟩
 replace p0 := p0.onw f1
 replace p1 := p1.onw f1
 replace f0 := f0.trans f1
 have c00 := p0.c0
 have c01 := p0.c1
 have z00 := p0.f0 0
 have z01 := p0.f0 1
 have c10 := p1.c0
 have c11 := p1.c1
 go_wp2_with fail
 go_at_call 145; refine (VB.out _).mono ?_; rintro e1 w2 ⟨rfl, f2⟩
 clear c00 c01 z00 z01 c10 c11
 replace p0 := p0.onw f2
 replace p1 := p1.onw f2
 replace f0 := f0.trans f2
 clear f1 f2 VA VB
 have c00 := p0.c0
 have c01 := p0.c1
 have c10 := p1.c0
 have c11 := p1.c1
 have z10 := p1.f0 0
 have z11 := p1.f0 1
 go_wp2_with fail
 clear c00 c01 c10 c11 z10 z11
 replace p0 := box_far (by omega) p0 (.int .i64 0) (.int .i64 1)
 replace p1 := box_put p1 0 1
 replace f0 := fuw_put f0 (show w.heap.size ≤ w.heap.size + 1 by omega) (.int .i64 0) (.int .i64 1)
 generalize ((w2.setCell ⟨w.heap.size + 1, 0, none⟩ (.int .i64 0)).setCell ⟨w.heap.size + 1, 1, none⟩ (.int .i64 1)) = W at *
 obtain ⟨D1, rfl, o1, e1⟩ := HA.out
 obtain ⟨bn, D2, p1, o2, e2⟩ : ∃ (n : Int) (D2 : Nat), Box W (w.heap.size + 1) n D2 ∧ OkF n D2 ∧ fv n D2 = fz bn bd := ⟨0, 1, p1, ok01, HB.out⟩
 have HE := Lib.hid (show (an * (D2 : Int) + -bn * (D1 : Int)).sign = cmpQ (fz _ _) (fz _ _) by rw [cmp_sign o1 o2, e1, e2])
 have a1 := o1.n1; have a2 := o1.n2; have a3 := o2.n1; have a4 := o2.n2; have a5 := o1.d2; have a6 := o2.d2; have a7 := o1.d1; have a8 := o2.d1
 have CS := rsum_at (an := an) (bn := -bn) (Da := D1) (Db := D2) a1 a2 (by omega) (by omega) (by omega) (by omega) (by omega) (by omega)
 rw [Int.natAbs_neg, Int.sign_neg] at CS
 have HS := Lib.hid CS
 clear CS o1 o2 e1 e2 HA HB
 have hw := wrap_neg bn
 have c00 := p0.c0
 have c01 := p0.c1
 have c10 := p1.c0
 have c11 := p1.c1
 go_region_held3 (fun w' => Fuw W w' ∧ w'.cell? ⟨w.heap.size, 0, none⟩ = some (.int .i64 an) ∧ w'.cell? ⟨w.heap.size, 1, none⟩ = some (.int .i64 (D1 : Int)) ∧ w'.cell? ⟨w.heap.size + 1, 0, none⟩ = some (.int .i64 bn) ∧ w'.cell? ⟨w.heap.size + 1, 1, none⟩ = some (.int .i64 (D2 : Int)))
  (first
   | (refine ⟨Fuw.drew (Fuw.refl _), ?_, ?_, ?_, ?_⟩ <;> simp [*]; done)
   | go_keep
   | (refine ⟨Fuw.trans ?_ (by assumption), cellOnw (by assumption) ?_, cellOnw (by assumption) ?_, cellOnw (by assumption) ?_, cellOnw (by assumption) ?_⟩ <;> simp [*]))
  (first
   | (go_at_call 147; refine (rsign_any _ _).mono ?_; rintro e w' ⟨rfl, rfl⟩)
   | (go_at_call 149; refine (rsize_any _ ?_ ?_ _).mono ?_; (first | omega | skip); (first | omega | skip); rintro e w' ⟨rfl, rfl⟩)
   | (go_at_call 148; refine (rtimes_any _ _ ?_ ?_ _).mono ?_; omega; omega; rintro e wb ⟨zs2, ao2, c2, hW2, rfl, hI2, hf2⟩)
   | (go_at_call 146; refine (HS.out _ _ _ _ _ _ _ (IsS.onw (by assumption) hf2) hI2 (by assumption) hW2).mono ?_; rintro e w4 ⟨zs3, ao3, c3, hW3, rfl, hI3, hf3⟩))
 have hS : Fuw W w4 ∧ w4.cell? ⟨w.heap.size, 0, none⟩ = some (.int .i64 an) ∧ w4.cell? ⟨w.heap.size, 1, none⟩ = some (.int .i64 (D1 : Int)) ∧ w4.cell? ⟨w.heap.size + 1, 0, none⟩ = some (.int .i64 bn) ∧ w4.cell? ⟨w.heap.size + 1, 1, none⟩ = some (.int .i64 (D2 : Int)) := by assumption
 have ff := f0.trans hS.1
 go_wp2
 go_ret
 exact ⟨ret_int HE.out, ff⟩
set_option maxHeartbeats 6400000 in
set_option maxRecDepth 100000 in
theorem rcmp_ft (an ad bn bd : Int) (w : World) (va : okF an ad = false) (vb : okF bn bd = true) :
  Calls Tryz.prog 104 #[.agg #[.int .i64 an, .int .i64 ad], .agg #[.int .i64 bn, .int .i64 bd]] w (RwI w (cmpQ (fz an ad) (fz bn bd))) := by
 obtain ⟨p0, p1, f0⟩ := box2w w an ad bn bd
 have VA := Lib.hid (fun w => (rvalid_any an ad w).mono fun _ _ h => RetB.w h)
 have VB := Lib.hid (fun w => (rvalid_any bn bd w).mono fun _ _ h => RetB.w h)
 rw [va] at VA
 rw [vb] at VB
 have hne : ¬ (w.heap.size = w.heap.size + 1) := by omega
 have hne2 : ¬ (w.heap.size + 1 = w.heap.size) := by omega
 have HA := Lib.hid (fz_f va)
 have HB := Lib.hid (ok_nat vb)
 clear va vb
 go_enter Tryz.func104, Tryz.ntmps104
 go_wp2_with fail
 go_at_call 145; refine (VA.out _).mono ?_; rintro e1 w1 ⟨rfl, f1⟩
 replace p0 := p0.onw f1
 replace p1 := p1.onw f1
 replace f0 := f0.trans f1
 have c00 := p0.c0
 have c01 := p0.c1
 have z00 := p0.f0 0
 have z01 := p0.f0 1
 have c10 := p1.c0
 have c11 := p1.c1
 go_wp2_with fail
 go_at_call 145; refine (VB.out _).mono ?_; rintro e1 w2 ⟨rfl, f2⟩
 clear c00 c01 z00 z01 c10 c11
 replace p1 := box_far (by omega) p1 (.int .i64 0) (.int .i64 1)
 replace p0 := box_put p0 0 1
 replace f0 := fuw_put f0 (Nat.le_refl w.heap.size) (.int .i64 0) (.int .i64 1)
 replace p0 := p0.onw f2
 replace p1 := p1.onw f2
 replace f0 := f0.trans f2
 clear f1 f2 VA VB
 have c00 := p0.c0
 have c01 := p0.c1
 have c10 := p1.c0
 have c11 := p1.c1
 have z10 := p1.f0 0
 have z11 := p1.f0 1
 go_wp2_with fail
 clear c00 c01 c10 c11 z10 z11
 generalize w2 = W at *
 obtain ⟨an, D1, p0, o1, e1⟩ : ∃ (n : Int) (D1 : Nat), Box W w.heap.size n D1 ∧ OkF n D1 ∧ fv n D1 = fz an ad := ⟨0, 1, p0, ok01, HA.out⟩
 obtain ⟨D2, rfl, o2, e2⟩ := HB.out
 have HE := Lib.hid (show (an * (D2 : Int) + -bn * (D1 : Int)).sign = cmpQ (fz _ _) (fz _ _) by rw [cmp_sign o1 o2, e1, e2])
 have a1 := o1.n1; have a2 := o1.n2; have a3 := o2.n1; have a4 := o2.n2; have a5 := o1.d2; have a6 := o2.d2; have a7 := o1.d1; have a8 := o2.d1
 have CS := rsum_at (an := an) (bn := -bn) (Da := D1) (Db := D2) a1 a2 (by omega) (by omega) (by omega) (by omega) (by omega) (by omega)
 rw [Int.natAbs_neg, Int.sign_neg] at CS
 have HS := Lib.hid CS
 clear CS o1 o2 e1 e2 HA HB
 have hw := wrap_neg bn
 have c00 := p0.c0
 have c01 := p0.c1
 have c10 := p1.c0
 have c11 := p1.c1
 go_region_held3 (fun w' => Fuw W w' ∧ w'.cell? ⟨w.heap.size, 0, none⟩ = some (.int .i64 an) ∧ w'.cell? ⟨w.heap.size, 1, none⟩ = some (.int .i64 (D1 : Int)) ∧ w'.cell? ⟨w.heap.size + 1, 0, none⟩ = some (.int .i64 bn) ∧ w'.cell? ⟨w.heap.size + 1, 1, none⟩ = some (.int .i64 (D2 : Int)))
  (first
   | (refine ⟨Fuw.drew (Fuw.refl _), ?_, ?_, ?_, ?_⟩ <;> simp [*]; done)
   | go_keep
   | (refine ⟨Fuw.trans ?_ (by assumption), cellOnw (by assumption) ?_, cellOnw (by assumption) ?_, cellOnw (by assumption) ?_, cellOnw (by assumption) ?_⟩ <;> simp [*]))
  (first
   | (go_at_call 147; refine (rsign_any _ _).mono ?_; rintro e w' ⟨rfl, rfl⟩)
   | (go_at_call 149; refine (rsize_any _ ?_ ?_ _).mono ?_; (first | omega | skip); (first | omega | skip); rintro e w' ⟨rfl, rfl⟩)
   | (go_at_call 148; refine (rtimes_any _ _ ?_ ?_ _).mono ?_; omega; omega; rintro e wb ⟨zs2, ao2, c2, hW2, rfl, hI2, hf2⟩)
   | (go_at_call 146; refine (HS.out _ _ _ _ _ _ _ (IsS.onw (by assumption) hf2) hI2 (by assumption) hW2).mono ?_; rintro e w4 ⟨zs3, ao3, c3, hW3, rfl, hI3, hf3⟩))
 have hS : Fuw W w4 ∧ w4.cell? ⟨w.heap.size, 0, none⟩ = some (.int .i64 an) ∧ w4.cell? ⟨w.heap.size, 1, none⟩ = some (.int .i64 (D1 : Int)) ∧ w4.cell? ⟨w.heap.size + 1, 0, none⟩ = some (.int .i64 bn) ∧ w4.cell? ⟨w.heap.size + 1, 1, none⟩ = some (.int .i64 (D2 : Int)) := by assumption
 have ff := f0.trans hS.1
 go_wp2
 go_ret
 exact ⟨ret_int HE.out, ff⟩
set_option maxHeartbeats 6400000 in
set_option maxRecDepth 100000 in
theorem rcmp_ff (an ad bn bd : Int) (w : World) (va : okF an ad = false) (vb : okF bn bd = false) :
  Calls Tryz.prog 104 #[.agg #[.int .i64 an, .int .i64 ad], .agg #[.int .i64 bn, .int .i64 bd]] w (RwI w (cmpQ (fz an ad) (fz bn bd))) := by
 obtain ⟨p0, p1, f0⟩ := box2w w an ad bn bd
 have VA := Lib.hid (fun w => (rvalid_any an ad w).mono fun _ _ h => RetB.w h)
 have VB := Lib.hid (fun w => (rvalid_any bn bd w).mono fun _ _ h => RetB.w h)
 rw [va] at VA
 rw [vb] at VB
 have hne : ¬ (w.heap.size = w.heap.size + 1) := by omega
 have hne2 : ¬ (w.heap.size + 1 = w.heap.size) := by omega
 have HA := Lib.hid (fz_f va)
 have HB := Lib.hid (fz_f vb)
 clear va vb
 go_enter Tryz.func104, Tryz.ntmps104
 go_wp2_with fail
 go_at_call 145; refine (VA.out _).mono ?_; rintro e1 w1 ⟨rfl, f1⟩
 replace p0 := p0.onw f1
 replace p1 := p1.onw f1
 replace f0 := f0.trans f1
 have c00 := p0.c0
 have c01 := p0.c1
 have z00 := p0.f0 0
 have z01 := p0.f0 1
 have c10 := p1.c0
 have c11 := p1.c1
 go_wp2_with fail
 go_at_call 145; refine (VB.out _).mono ?_; rintro e1 w2 ⟨rfl, f2⟩
 clear c00 c01 z00 z01 c10 c11
 replace p1 := box_far (by omega) p1 (.int .i64 0) (.int .i64 1)
 replace p0 := box_put p0 0 1
 replace f0 := fuw_put f0 (Nat.le_refl w.heap.size) (.int .i64 0) (.int .i64 1)
 replace p0 := p0.onw f2
 replace p1 := p1.onw f2
 replace f0 := f0.trans f2
 clear f1 f2 VA VB
 have c00 := p0.c0
 have c01 := p0.c1
 have c10 := p1.c0
 have c11 := p1.c1
 have z10 := p1.f0 0
 have z11 := p1.f0 1
 go_wp2_with fail
 clear c00 c01 c10 c11 z10 z11
 replace p0 := box_far (by omega) p0 (.int .i64 0) (.int .i64 1)
 replace p1 := box_put p1 0 1
 replace f0 := fuw_put f0 (show w.heap.size ≤ w.heap.size + 1 by omega) (.int .i64 0) (.int .i64 1)
 generalize ((w2.setCell ⟨w.heap.size + 1, 0, none⟩ (.int .i64 0)).setCell ⟨w.heap.size + 1, 1, none⟩ (.int .i64 1)) = W at *
 obtain ⟨an, D1, p0, o1, e1⟩ : ∃ (n : Int) (D1 : Nat), Box W w.heap.size n D1 ∧ OkF n D1 ∧ fv n D1 = fz an ad := ⟨0, 1, p0, ok01, HA.out⟩
 obtain ⟨bn, D2, p1, o2, e2⟩ : ∃ (n : Int) (D2 : Nat), Box W (w.heap.size + 1) n D2 ∧ OkF n D2 ∧ fv n D2 = fz bn bd := ⟨0, 1, p1, ok01, HB.out⟩
 have HE := Lib.hid (show (an * (D2 : Int) + -bn * (D1 : Int)).sign = cmpQ (fz _ _) (fz _ _) by rw [cmp_sign o1 o2, e1, e2])
 have a1 := o1.n1; have a2 := o1.n2; have a3 := o2.n1; have a4 := o2.n2; have a5 := o1.d2; have a6 := o2.d2; have a7 := o1.d1; have a8 := o2.d1
 have CS := rsum_at (an := an) (bn := -bn) (Da := D1) (Db := D2) a1 a2 (by omega) (by omega) (by omega) (by omega) (by omega) (by omega)
 rw [Int.natAbs_neg, Int.sign_neg] at CS
 have HS := Lib.hid CS
 clear CS o1 o2 e1 e2 HA HB
 have hw := wrap_neg bn
 have c00 := p0.c0
 have c01 := p0.c1
 have c10 := p1.c0
 have c11 := p1.c1
 go_region_held3 (fun w' => Fuw W w' ∧ w'.cell? ⟨w.heap.size, 0, none⟩ = some (.int .i64 an) ∧ w'.cell? ⟨w.heap.size, 1, none⟩ = some (.int .i64 (D1 : Int)) ∧ w'.cell? ⟨w.heap.size + 1, 0, none⟩ = some (.int .i64 bn) ∧ w'.cell? ⟨w.heap.size + 1, 1, none⟩ = some (.int .i64 (D2 : Int)))
  (first
   | (refine ⟨Fuw.drew (Fuw.refl _), ?_, ?_, ?_, ?_⟩ <;> simp [*]; done)
   | go_keep
   | (refine ⟨Fuw.trans ?_ (by assumption), cellOnw (by assumption) ?_, cellOnw (by assumption) ?_, cellOnw (by assumption) ?_, cellOnw (by assumption) ?_⟩ <;> simp [*]))
  (first
   | (go_at_call 147; refine (rsign_any _ _).mono ?_; rintro e w' ⟨rfl, rfl⟩)
   | (go_at_call 149; refine (rsize_any _ ?_ ?_ _).mono ?_; (first | omega | skip); (first | omega | skip); rintro e w' ⟨rfl, rfl⟩)
   | (go_at_call 148; refine (rtimes_any _ _ ?_ ?_ _).mono ?_; omega; omega; rintro e wb ⟨zs2, ao2, c2, hW2, rfl, hI2, hf2⟩)
   | (go_at_call 146; refine (HS.out _ _ _ _ _ _ _ (IsS.onw (by assumption) hf2) hI2 (by assumption) hW2).mono ?_; rintro e w4 ⟨zs3, ao3, c3, hW3, rfl, hI3, hf3⟩))
 have hS : Fuw W w4 ∧ w4.cell? ⟨w.heap.size, 0, none⟩ = some (.int .i64 an) ∧ w4.cell? ⟨w.heap.size, 1, none⟩ = some (.int .i64 (D1 : Int)) ∧ w4.cell? ⟨w.heap.size + 1, 0, none⟩ = some (.int .i64 bn) ∧ w4.cell? ⟨w.heap.size + 1, 1, none⟩ = some (.int .i64 (D2 : Int)) := by assumption
 have ff := f0.trans hS.1
 go_wp2
 go_ret
 exact ⟨ret_int HE.out, ff⟩
theorem rcmp_any (an ad bn bd : Int) (w : World) :
  Calls Tryz.prog 104 #[.agg #[.int .i64 an, .int .i64 ad], .agg #[.int .i64 bn, .int .i64 bd]] w (RwI w (cmpQ (fz an ad) (fz bn bd))) := by
 cases va : okF an ad <;> cases vb : okF bn bd
 ·exact rcmp_ff an ad bn bd w va vb
 ·exact rcmp_ft an ad bn bd w va vb
 ·exact rcmp_tf an ad bn bd w va vb
 ·exact rcmp_tt an ad bn bd w va vb
end Go.Proofs.YtpamdlkagmlahaaGreatDoor
