/-
  Package frac: Cmp compares the values of two fractions, where one that is not valid counts as 0. For every two pairs of ints; nothing that was there turns.
-/
import Derived.Test.YteonkiajgfkieaaGreatDoorM10
import Derived.Test.YteonkiajgfkieaaGreatDoorM06
namespace Go.Proofs.YteonkiajgfkieaaGreatDoor
open Go.RowKit

theorem cmp_fz (an ad bn bd : Int) : (ozN an ad * ozD bn bd + -ozN bn bd * ozD an ad).sign = cmpQ (fz an ad) (fz bn bd) := by
  obtain ⟨o1, e1⟩ := oz_ok an ad
  obtain ⟨o2, e2⟩ := oz_ok bn bd
  have d1 := o1.d1; have d2 := o2.d1
  obtain ⟨D1, h1⟩ : ∃ D1 : Nat, ozD an ad = (D1 : Int) := ⟨(ozD an ad).toNat, by omega⟩
  obtain ⟨D2, h2⟩ : ∃ D2 : Nat, ozD bn bd = (D2 : Int) := ⟨(ozD bn bd).toNat, by omega⟩
  rw [h1] at o1 e1 ⊢
  rw [h2] at o2 e2 ⊢
  rw [cmp_sign o1 o2, e1, e2]
set_option maxHeartbeats 1600000 in
set_option maxRecDepth 100000 in
theorem nf_cmp (an ad bn bd : Int) (w : World) :
    Calls Tryz.prog 45 #[.agg #[.int .i64 an, .int .i64 ad], .agg #[.int .i64 bn, .int .i64 bd]] w (RetI w (cmpQ (fz an ad) (fz bn bd))) := by
  obtain ⟨p0, p1, f0⟩ := box2 w an ad bn bd
  have hne : ¬ (w.heap.size = w.heap.size + 1) := by omega
  have hne2 : ¬ (w.heap.size + 1 = w.heap.size) := by omega
  rw [← cmp_fz]
  have o1 := (oz_ok an ad).1
  have o2 := (oz_ok bn bd).1
  have E1 := Lib.hid (fun w => orZero_any an ad w)
  have E2 := Lib.hid (fun w => orZero_any bn bd w)
  obtain ⟨W, hW⟩ : ∃ W, ((w.alloc (.cells #[.int .i64 an, .int .i64 ad] 37)).alloc (.cells #[.int .i64 bn, .int .i64 bd] 37)) = W := ⟨_, rfl⟩
  go_enter Tryz.func45, Tryz.ntmps45
  go_upto_region 1 with fail
  rw [hW] at p0 p1 f0
  clear hW
  have ff : Fur W W.drew := Fur.drew (Fur.refl W)
  replace p0 : Box W.drew w.heap.size an ad := p0.on ff
  replace p1 : Box W.drew (w.heap.size + 1) bn bd := p1.on ff
  have k00 := p0.c0
  have k01 := p0.c1
  have k10 := p1.c0
  have k11 := p1.c1
  go_cut [] from 5 to 8 (fun wx => Box wx w.heap.size (ozN an ad) (ozD an ad) ∧ Box wx (w.heap.size + 1) (ozN bn bd) (ozD bn bd) ∧ Fur w wx)
  case first =>
    go_region_with (first
        | (go_at_call 78; refine (orZero_any _ _ _).mono ?_; rintro e w4 ⟨rfl, f4⟩
           replace ff := ff.trans f4
           replace p0 := p0.on f4; replace p1 := p1.on f4
           have k00 := p0.c0; have k01 := p0.c1; have k10 := p1.c0; have k11 := p1.c1; have z00 := p0.f0 0; have z01 := p0.f0 1; have z10 := p1.f0 0; have z11 := p1.f0 1))
    all_goals (go_wp2_with fail; go_meet)
    all_goals (exact ⟨(p0.put _ _).other (by omega) _ _, (p1.other (by omega) _ _).put _ _, fur_put (fur_put (f0.trans ff) (by omega) _ _) (by omega) _ _⟩)
  case rest =>
    clear ff k00 k01 k10 k11 p0 p1 f0 E1 E2
    obtain ⟨p0, p1, f0⟩ := hcut
    generalize ozN an ad = N1 at *
    generalize ozD an ad = D1 at *
    generalize ozN bn bd = N2 at *
    generalize ozD bn bd = D2 at *
    have a1 := o1.d1; have a2 := o1.d2; have a3 := o1.n1; have a4 := o1.n2
    have b1 := o2.d1; have b2 := o2.d2; have b3 := o2.n1; have b4 := o2.n2
    have t1 := mul_bound a3 a4 (show 0 ≤ D2 by omega) b2
    have t2 := mul_bound (x := -N2) (by omega) (by omega) (show 0 ≤ D1 by omega) a2
    have l0 : -1000000000000000000000000000000000000 < N1 * D2 + -N2 * D1 := by omega
    have l1 : N1 * D2 + -N2 * D1 < 1000000000000000000000000000000000000 := by omega
    have L := Lib.hid (And.intro l0 l1)
    have wN : IntKind.i64.wrap (-N2) = -N2 := IntWalk.i64_in (-N2) (by omega)
    have wN' : wrap64 (-N2) = -N2 := IntWalk.wrap64_in (-N2) (by omega)
    clear t1 t2 o1 o2 l0 l1
    have c00 := p0.c0
    have c01 := p0.c1
    have c10 := p1.c0
    have c11 := p1.c1
    have ff : Fur wc wc.drew := Fur.drew (Fur.refl wc)
    go_upto_region 2 with fail
    go_region_held3 (fun w' => Fur wc w' ∧ w'.cell? ⟨w.heap.size, 0, none⟩ = some (.int .i64 N1) ∧ w'.cell? ⟨w.heap.size, 1, none⟩ = some (.int .i64 D1) ∧ w'.cell? ⟨w.heap.size + 1, 0, none⟩ = some (.int .i64 N2) ∧ w'.cell? ⟨w.heap.size + 1, 1, none⟩ = some (.int .i64 D2))
      (first
        | exact keep4 ff c00 c01 c10 c11)
      (first
        | (go_at_call 79; refine (product_any _ _ ?_ ?_ ?_ ?_ _).mono ?_; omega; omega; omega; omega; rintro e w4 ⟨rfl, f4⟩; replace ff := ff.trans f4)
        | (go_at_call 80; refine (plus_any _ _ _).mono ?_; rintro e w5 ⟨rfl, f5⟩; replace ff := ff.trans f5)
        | (go_at_call 81; refine (sign_any _ L.out.1 L.out.2 _).mono ?_; rintro e w6 ⟨rfl, f6⟩; replace ff := ff.trans f6))
    go_wp2
    go_ret
    exact ⟨rfl, f0.trans ff⟩
end Go.Proofs.YteonkiajgfkieaaGreatDoor
