/-
  The reference of package frac: Mul gives the fraction of the product of two valid fractions and true, or no fraction and false. For every two pairs of ints; nothing that was there turns.
-/
import Derived.Test.YtdkmfhlmeildmaaDoorFrI
namespace Go.Proofs.YtdkmfhlmeildmaaDoor
open Go.RowKit

theorem cell_far2 {W : World} {B b j : Nat} {u v : Value} (h : B ≠ b) : ((W.setCell ⟨B, 0, none⟩ u).setCell ⟨B, 1, none⟩ v).cell? ⟨b, j, none⟩ = W.cell? ⟨b, j, none⟩ := by
  rw [World.cell?_setCell_far _ _ _ _ h, World.cell?_setCell_far _ _ _ _ h]
theorem cell_far2d {W : World} {B b j : Nat} {u v : Value} (h : B ≠ b) : ((W.setCell ⟨B, 0, none⟩ u).setCell ⟨B, 1, none⟩ v).drew.cell? ⟨b, j, none⟩ = W.cell? ⟨b, j, none⟩ :=
  cell_far2 (W := W) h

set_option maxHeartbeats 12800000 in
set_option maxRecDepth 100000 in
theorem rmul_core (an bn : Int) (ad bd g h A1 B1 Da Db : Nat) (p P : Int) (N D : Int) (c : Bool) (w : World) (va : okF an ad = true) (vb : okF bn bd = true) (hg0 : 0 < g) (hh0 : 0 < h)
    (CG : Hid (∀ w : World, Calls Tryd.prog 35 #[.int .i64 (an.natAbs : Int), .int .i64 bd] w (RetQ w g)))
    (CG2 : Hid (∀ w : World, Calls Tryd.prog 35 #[.int .i64 (bn.natAbs : Int), .int .i64 ad] w (RetQ w h)))
    (ha1 : -1000000000000000 ≤ an) (ha2 : an ≤ 1000000000000000) (hb1 : -1000000000000000 ≤ bn) (hb2 : bn ≤ 1000000000000000) (hd1 : ad ≤ 1000000000000000) (hd2 : bd ≤ 1000000000000000)
    (hA1 : A1 ≤ 1000000000000000) (hB1 : B1 ≤ 1000000000000000) (hDa : Da ≤ 1000000000000000) (hDb : Db ≤ 1000000000000000)
    (qa : Hid (an.natAbs / g = A1)) (qb : Hid (bn.natAbs / h = B1)) (qc : Hid (ad / h = Da)) (qd : Hid (bd / g = Db))
    (hp : Hid (IntKind.i64.wrap (an.sign * bn.sign) = p)) (hP : Hid (A1 * B1 ≤ 1000000000000000 → IntKind.i64.wrap (p * ((A1 * B1 : Nat) : Int)) = P))
    (H1 : Hid (A1 * B1 ≤ 1000000000000000 → Da * Db ≤ 1000000000000000 → N = P ∧ D = (Da * Db : Nat) ∧ c = true))
    (H2 : Hid ((¬ A1 * B1 ≤ 1000000000000000 ∨ ¬ Da * Db ≤ 1000000000000000) → N = 0 ∧ D = 0 ∧ c = false)) :
    Calls Tryd.prog 19 #[.agg #[.int .i64 an, .int .i64 ad], .agg #[.int .i64 bn, .int .i64 bd]] w (RetFB w N D c) := by
  obtain ⟨p0, p1, p2, f0⟩ := box3 w an ad bn bd 0 0 23 rfl
  have hgI : (0 : Int) < g := by omega
  have hhI : (0 : Int) < h := by omega
  have VA := Lib.hid (fun w => rvalid_any an ad w)
  have VB := Lib.hid (fun w => rvalid_any bn bd w)
  rw [va] at VA
  rw [vb] at VB
  have CZa := Lib.hid (fun (w : World) => rsize_any an (by omega) (by omega) w)
  have CZb := Lib.hid (fun (w : World) => rsize_any bn (by omega) (by omega) w)
  clear va vb
  go_enter Tryd.func19, Tryd.ntmps19
  go_wp2_with fail
  go_at_call 12; refine (VA.out _).mono ?_; rintro e1 w1 ⟨rfl, f1⟩
  replace p0 := p0.on f1
  replace p1 := p1.on f1
  replace p2 := p2.on f1
  replace f0 := f0.trans f1
  have c10 := p1.c0
  have c11 := p1.c1
  go_wp2_with fail
  go_at_call 12; refine (VB.out _).mono ?_; rintro e1 w2 ⟨rfl, f2⟩
  clear c10 c11
  replace p0 := p0.on f2
  replace p1 := p1.on f2
  replace p2 := p2.on f2
  replace f0 := f0.trans f2
  clear f1 f2 VA VB
  have c00 := p0.c0
  have c01 := p0.c1
  have c10 := p1.c0
  have c11 := p1.c1
  have CQa := Lib.hid (fun k => Calls.quiet_of_same (n := k) (CZa.out (w2.drewN k)))
  have CQg := Lib.hid (fun k => Calls.quiet_of (n := k) ((CG.out (w2.drewN k)).mono fun _ _ ⟨q, he, hw⟩ => ⟨he, q, hw⟩))
  go_wp2_with fail
  go_quiet (first | (go_at_call 36; exact CQa.out _) | (go_at_call 35; exact CQg.out _))
  clear CQa CQg c00 c01 c10 c11
  have F3 : Fur w2 (w2.drewN nq) := fur_drewN _ _
  replace p0 := p0.on F3
  replace p1 := p1.on F3
  replace p2 := p2.on F3
  replace f0 := f0.trans F3
  clear F3
  generalize w2.drewN nq = w3 at *
  have c00 := p0.c0
  have c01 := p0.c1
  have c10 := p1.c0
  have c11 := p1.c1
  have CQb := Lib.hid (fun k => Calls.quiet_of_same (n := k) (CZb.out (w3.drewN k)))
  have CQh := Lib.hid (fun k => Calls.quiet_of (n := k) ((CG2.out (w3.drewN k)).mono fun _ _ ⟨q, he, hw⟩ => ⟨he, q, hw⟩))
  go_wp2_with fail
  go_quiet (first | (go_at_call 36; exact CQb.out _) | (go_at_call 35; exact CQh.out _))
  clear CQb CQh c00 c01 c10 c11 CG CG2 CZa CZb
  have F3 : Fur w3 (w3.drewN nq) := fur_drewN _ _
  replace p0 := p0.on F3
  replace p1 := p1.on F3
  replace p2 := p2.on F3
  replace f0 := f0.trans F3
  clear F3
  generalize w3.drewN nq = w4 at *
  have c00 := p0.c0
  have c01 := p0.c1
  have c10 := p1.c0
  have c11 := p1.c1
  obtain ⟨q1, q3⟩ := quo_w qa.out (by omega)
  obtain ⟨q2, q4⟩ := quo_w qb.out (by omega)
  have hgne : ¬ (g = 0) := by omega
  have hhne : ¬ (h = 0) := by omega
  go_wp2_with fail
  go_region_held3 (fun w' => Fur w4 w' ∧ w'.cell? ⟨w.heap.size, 0, none⟩ = some (.int .i64 an) ∧ w'.cell? ⟨w.heap.size + 1, 0, none⟩ = some (.int .i64 bn))
    (first
      | (refine ⟨Fur.drew (Fur.refl _), ?_, ?_⟩ <;> simp [*]; done)
      | go_keep
      | (refine ⟨Fur.trans ?_ (by assumption), cellOn (by assumption) ?_, cellOn (by assumption) ?_⟩ <;> simp [*]))
    (first
      | (go_at_call 36; refine (rsize_any _ ?_ ?_ _).mono ?_; (first | omega | skip); (first | omega | skip); rintro e w' ⟨rfl, rfl⟩)
      | (go_at_call 45; refine (rtimes_any _ _ ?_ ?_ _).mono ?_; omega; omega; rintro e wb ⟨zs2, ao2, c2, hW2, rfl, hI2, hf2⟩)
      | (go_at_call 47; refine (rnarrow_any _ _ _ _ _ hI2 hW2).mono ?_; rintro e w5 ⟨rfl, f5⟩))
  have hS : Fur w4 w5 ∧ w5.cell? ⟨w.heap.size, 0, none⟩ = some (.int .i64 an) ∧ w5.cell? ⟨w.heap.size + 1, 0, none⟩ = some (.int .i64 bn) := by assumption
  have f45 := hS.1
  clear q1 q2 q3 q4 c00 c01 c10 c11 hI2 hW2 hf2 f5 hS
  replace p0 := p0.on f45
  replace p1 := p1.on f45
  replace p2 := p2.on f45
  replace f0 := f0.trans f45
  clear f45
  have c00 := p0.c0
  have c01 := p0.c1
  have c10 := p1.c0
  have c11 := p1.c1
  obtain ⟨q1, q3⟩ := quo_w qc.out hd1
  obtain ⟨q2, q4⟩ := quo_w qd.out hd2
  go_wp2_with fail
  go_region_held3 (fun w' => Fur w5 w' ∧ w'.cell? ⟨w.heap.size, 1, none⟩ = some (.int .i64 (ad : Int)) ∧ w'.cell? ⟨w.heap.size + 1, 1, none⟩ = some (.int .i64 (bd : Int)))
    (first
      | (refine ⟨Fur.drew (Fur.refl _), ?_, ?_⟩ <;> simp [*]; done)
      | go_keep
      | (refine ⟨Fur.trans ?_ (by assumption), cellOn (by assumption) ?_, cellOn (by assumption) ?_⟩ <;> simp [*]))
    (first
      | (go_at_call 45; refine (rtimes_any _ _ ?_ ?_ _).mono ?_; omega; omega; rintro e wb ⟨zs3, ao3, c3, hW3, rfl, hI3, hf3⟩)
      | (go_at_call 47; refine (rnarrow_any _ _ _ _ _ hI3 hW3).mono ?_; rintro e w6 ⟨rfl, f6⟩))
  have hS : Fur w5 w6 ∧ w6.cell? ⟨w.heap.size, 1, none⟩ = some (.int .i64 (ad : Int)) ∧ w6.cell? ⟨w.heap.size + 1, 1, none⟩ = some (.int .i64 (bd : Int)) := by assumption
  have f56 := hS.1
  clear q1 q2 q3 q4 c00 c01 c10 c11 hI3 hW3 hf3 f6 hS hgne hhne
  replace p0 := p0.on f56
  replace p1 := p1.on f56
  replace p2 := p2.on f56
  replace f0 := f0.trans f56
  clear f56
  have c20 := p2.c0
  have c21 := p2.c1
  have z20 := p2.f0 0
  have z21 := p2.f0 1
  by_cases hk : A1 * B1 ≤ 1000000000000000
  · have HPP := Lib.hid (hP.out hk)
    by_cases he : Da * Db ≤ 1000000000000000
    · obtain ⟨hN, hD, rfl⟩ := H1.out hk he
      rw [(nr_t hk).1, (nr_t hk).2, (nr_t he).1, (nr_t he).2]
      obtain ⟨k, hkk⟩ : ∃ k, k = A1 * B1 := ⟨_, rfl⟩
      obtain ⟨de, hde⟩ : ∃ de, de = Da * Db := ⟨_, rfl⟩
      rw [← hkk] at hk HPP ⊢
      rw [← hde] at hD he ⊢
      have HD := Lib.hid hD
      have HN := Lib.hid hN
      clear H1 H2 hD hN hde hkk hP
      have c00 := p0.c0
      have c10 := p1.c0
      have e1 := hp.out
      have e2 := HPP.out
      go_wp2_with fail
      go_region_with (go_at_call 44; refine (rsign_any _ _).mono ?_; rintro e w' ⟨rfl, rfl⟩)
      all_goals
        go_wp2
        try simp only [Exit.inBlock, Exit.then]
        rw [HN.out, HD.out]
        first | exact fr_ret_put rfl rfl rfl p2 f0 (by omega) | exact fr_ret_put rfl rfl rfl (W := w6.drew) p2 f0.drew (by omega)
    · obtain ⟨rfl, rfl, rfl⟩ := H2.out (.inr he)
      rw [(nr_t hk).1, (nr_t hk).2, (nr_f he).1, (nr_f he).2]
      clear H1 H2 he hP HPP
      go_wp2
      try simp only [Exit.inBlock, Exit.then]
      exact fr_ret_put rfl rfl rfl p2 f0 (by omega)
  · obtain ⟨rfl, rfl, rfl⟩ := H2.out (.inl hk)
    rw [(nr_f hk).1, (nr_f hk).2]
    generalize nrB (Da * Db) = b2
    generalize nrV (Da * Db) = v2
    clear H1 H2 hk hP
    go_wp2
    try simp only [Exit.inBlock, Exit.then]
    exact fr_ret_put rfl rfl rfl p2 f0 (by omega)
end Go.Proofs.YtdkmfhlmeildmaaDoor
