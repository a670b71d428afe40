/-
  The reference of package frac: Add gives the fraction of the sum of two valid fractions and true, or no fraction and false. For every two pairs of ints; nothing that was there turns.
-/
import Derived.Test.YtdkmfhlmeildmaaDoorFrB
import Derived.Test.YtdkmfhlmeildmaaDoorFrC
import Derived.Test.YtdkmfhlmeildmaaDoorFrF
import Derived.Test.YtdkmfhlmeildmaaDoorFrQ
import Derived.Deep.RegionHeld3
namespace Go.Proofs.YtdkmfhlmeildmaaDoor
open Go.RowKit

theorem quo_w {a g q : Nat} (h : a / g = q) (ha : a ≤ 1000000000000000) : IntKind.i64.wrap ((a : Int).tdiv (g : Int)) = q ∧ IntKind.i64.wrap ((a : Int) / (g : Int)) = q := by
  have e : (a : Int) / (g : Int) = (q : Int) := by rw [← h, Int.natCast_ediv]
  have b : q ≤ a := by rw [← h]; exact Nat.div_le_self _ _
  rw [Int.tdiv_eq_ediv_of_nonneg (by omega), e]
  have k := IntWalk.i64_in (q : Int) (by omega)
  exact ⟨k, k⟩

set_option maxHeartbeats 12800000 in
set_option maxRecDepth 100000 in
theorem radd_core (an bn : Int) (ad bd Da Db g m r h k e : Nat) (s N D : Int) (c : Bool) (w : World) (va : okF an ad = true) (vb : okF bn bd = true) (hg0 : 0 < g) (hg1 : g ≤ 1000000000000000) (hh0 : 0 < h) (hh1 : h ≤ 1000000000000000)
    (CG : Hid (∀ w : World, Calls Tryd.prog 35 #[.int .i64 ad, .int .i64 bd] w (RetQ w g)))
    (CG2 : Hid (∀ w : World, Calls Tryd.prog 35 #[.int .i64 g, .int .i64 r] w (RetQ w h)))
    (ha1 : -1000000000000000 ≤ an) (ha2 : an ≤ 1000000000000000) (hb1 : -1000000000000000 ≤ bn) (hb2 : bn ≤ 1000000000000000) (hDa : Da ≤ 1000000000000000) (hDb : Db ≤ 1000000000000000) (hd1 : ad ≤ 1000000000000000) (hd2 : bd ≤ 1000000000000000) (he1 : e ≤ 1000000000000000)
    (CS : Hid (∀ (ao bo : Option Addr) (x y : List Int) (ca cb : Nat) (w : World), IsS w ao x ca → IsS w bo y cb → Wide x (an.natAbs * Db) → Wide y (bn.natAbs * Da) → Calls Tryd.prog 43 #[.int .i64 an.sign, .slice ao 14 ca, .int .i64 bn.sign, .slice bo 14 cb] w (RetIW w s m)))
    (qa : Hid (ad / g = Da)) (qb : Hid (bd / g = Db)) (qr : Hid (m % g = r)) (qk : Hid (m / h = k)) (qe : Hid (bd / h = e)) (hs : s = 0 ∨ s = 1 ∨ s = -1)
    (H0 : Hid (s = 0 → N = 0 ∧ D = 1 ∧ c = true)) (H1 : Hid (s ≠ 0 → k ≤ 1000000000000000 → Da * e ≤ 1000000000000000 → N = s * k ∧ D = (Da * e : Nat) ∧ c = true))
    (H2 : Hid (s ≠ 0 → (¬ k ≤ 1000000000000000 ∨ ¬ Da * e ≤ 1000000000000000) → N = 0 ∧ D = 0 ∧ c = false)) :
    Calls Tryd.prog 15 #[.agg #[.int .i64 an, .int .i64 ad], .agg #[.int .i64 bn, .int .i64 bd]] w (RetFB w N D c) := by
  obtain ⟨p0, p1, p2, f0⟩ := box3 w an ad bn bd 0 0 23 rfl
  have hgI : (0 : Int) < g := by omega
  have VA := Lib.hid (fun w => rvalid_any an ad w)
  have VB := Lib.hid (fun w => rvalid_any bn bd w)
  rw [va] at VA
  rw [vb] at VB
  clear va vb
  go_enter Tryd.func15, Tryd.ntmps15
  go_wp2_with fail
  go_at_call 12; refine (VA.out _).mono ?_; rintro e1 w1 ⟨rfl, f1⟩
  replace p0 := p0.on f1
  replace p1 := p1.on f1
  replace p2 := p2.on f1
  replace f0 := f0.trans f1
  have c10 := p1.c0
  have c11 := p1.c1
  go_wp2_with fail
  go_at_call 12; refine (VB.out _).mono ?_; rintro e1 w2 ⟨rfl, f2⟩
  clear c10 c11
  replace p0 := p0.on f2
  replace p1 := p1.on f2
  replace p2 := p2.on f2
  replace f0 := f0.trans f2
  clear f1 f2 VA VB
  have c00 := p0.c0
  have c01 := p0.c1
  have c10 := p1.c0
  have c11 := p1.c1
  go_wp2_with fail
  go_at_call 35; refine (CG.out _).mono ?_; rintro e1 w3 ⟨q, rfl, rfl⟩
  obtain ⟨q1, q3⟩ := quo_w qa.out hd1
  obtain ⟨q2, q4⟩ := quo_w qb.out hd2
  have hgne : ¬ (g = 0) := by omega
  go_wp2_with fail
  go_region_held3 (fun w' => Fur w2 w' ∧ w'.cell? ⟨w.heap.size, 0, none⟩ = some (.int .i64 an) ∧ w'.cell? ⟨w.heap.size, 1, none⟩ = some (.int .i64 (ad : Int)) ∧ w'.cell? ⟨w.heap.size + 1, 0, none⟩ = some (.int .i64 bn) ∧ w'.cell? ⟨w.heap.size + 1, 1, none⟩ = some (.int .i64 (bd : Int)))
    (first
      | (refine ⟨Fur.drew (fur_drewN _ _), ?_, ?_, ?_, ?_⟩ <;> simp [*]; done)
      | go_keep
      | (refine ⟨Fur.trans ?_ (by assumption), cellOn (by assumption) ?_, cellOn (by assumption) ?_, cellOn (by assumption) ?_, cellOn (by assumption) ?_⟩ <;> simp [*]))
    (first
      | (go_at_call 44; refine (rsign_any _ _).mono ?_; rintro e w' ⟨rfl, rfl⟩)
      | (go_at_call 36; refine (rsize_any _ ?_ ?_ _).mono ?_; (first | omega | skip); (first | omega | skip); rintro e w' ⟨rfl, rfl⟩)
      | (go_at_call 45; refine (rtimes_any _ _ ?_ ?_ _).mono ?_; omega; omega; rintro e wb ⟨zs2, ao2, c2, hW2, rfl, hI2, hf2⟩)
      | (go_at_call 43; refine (CS.out _ _ _ _ _ _ _ (IsS.on (by assumption) hf2) hI2 (by assumption) hW2).mono ?_; rintro e w4 ⟨zs3, ao3, c3, hW3, rfl, hI3, hf3⟩))
  have hS : Fur w2 w4 ∧ w4.cell? ⟨w.heap.size, 0, none⟩ = some (.int .i64 an) ∧ w4.cell? ⟨w.heap.size, 1, none⟩ = some (.int .i64 (ad : Int)) ∧ w4.cell? ⟨w.heap.size + 1, 0, none⟩ = some (.int .i64 bn) ∧ w4.cell? ⟨w.heap.size + 1, 1, none⟩ = some (.int .i64 (bd : Int)) := by assumption
  clear q1 q2 q3 q4 hgne c00 c01 c10 c11 hI2 hW2 hf2 hf3
  obtain ⟨f4, c00, c01, c10, c11⟩ := hS
  have c01S := c01
  have c11S := c11
  have p2' := p2.on f4
  have f04 := f0.trans f4
  clear p0 p1 p2 f0
  have c20 := p2'.c0
  have c21 := p2'.c1
  have z20 := p2'.f0 0
  have z21 := p2'.f0 1
  rcases hs with rfl | hs
  · obtain ⟨rfl, rfl, rfl⟩ := H0.out rfl
    clear H0 H1 H2
    go_wp2
    try simp only [Exit.inBlock, Exit.then]
    exact fr_ret_put rfl rfl rfl p2' f04 (by omega)
  · have hsne : (s == 0) = false := by rw [beq_eq_false_iff_ne]; omega
    have HSN := Lib.hid (show s ≠ 0 by omega)
    have CP1 := Lib.hid (fun (w : World) (hh : IsS w ao3 zs3 c3) => rparts_any ao3 zs3 c3 m g w hh hW3 hg0 hg1)
    have CP2 := Lib.hid (fun (w : World) (hh : IsS w ao3 zs3 c3) => rparts_any ao3 zs3 c3 m h w hh hW3 hh0 hh1)
    rw [qr.out] at CP1
    rw [qk.out] at CP2
    generalize m / g = mg at CP1
    generalize m % h = mh at CP2
    have QA := Lib.hid (quo_w qa.out hd1)
    have QE := Lib.hid (quo_w qe.out hd2)
    clear c00 c01 c10 c11 c20 c21 z20 z21 qr qk H0
    have d01 := Lib.hid c01S
    have d11 := Lib.hid c11S
    clear c01S c11S
    go_wp2_with fail
    go_at_call 46; refine (CP1.out _ hI3).mono ?_; rintro e1 w5 ⟨zs5, ao5, c5, hW5, rfl, hI5, f5⟩
    go_wp2_with fail
    go_at_call 35; refine (CG2.out _).mono ?_; rintro e1 w6 ⟨q6, rfl, rfl⟩
    go_wp2_with fail
    go_at_call 46; refine (CP2.out _ ((hI3.on f5).on (fur_drewN _ _))).mono ?_; rintro e1 w6 ⟨zs6, ao6, c6, hW6, rfl, hI6, f6⟩
    go_wp2_with fail
    go_at_call 47; refine (rnarrow_any _ _ _ _ _ hI6 hW6).mono ?_; rintro e1 w7 ⟨rfl, f7⟩
    have f47 := f5.trans ((fur_drewN w5 q6).trans (f6.trans f7))
    have p2s := p2'.on f47
    have f07 := f04.trans f47
    have c01 := cellOn f47 d01.out
    have c11 := cellOn f47 d11.out
    clear hI3 hW3 hI5 hW5 hI6 hW6 f5 f6 f7 p2' f04 f4 f47 d01 d11
    obtain ⟨q1, q3⟩ := QA.out
    obtain ⟨q2, q4⟩ := QE.out
    have hgne : ¬ (g = 0) := by omega
    have hhne : ¬ (h = 0) := by omega
    go_wp2_with fail
    go_region_held3 (fun w' => Fur w7 w' ∧ w'.cell? ⟨w.heap.size, 1, none⟩ = some (.int .i64 (ad : Int)) ∧ w'.cell? ⟨w.heap.size + 1, 1, none⟩ = some (.int .i64 (bd : Int)))
      (first
      | (refine ⟨Fur.drew (Fur.refl _), ?_, ?_⟩ <;> simp [*]; done)
      | go_keep
      | (refine ⟨Fur.trans ?_ (by assumption), cellOn (by assumption) ?_, cellOn (by assumption) ?_⟩ <;> simp [*]))
      (first
        | (go_at_call 45; refine (rtimes_any _ _ ?_ ?_ _).mono ?_; omega; omega; rintro e wb ⟨zs8, ao8, c8, hW8, rfl, hI8, hf8⟩)
        | (go_at_call 47; refine (rnarrow_any _ _ _ _ _ hI8 hW8).mono ?_; rintro e w9 ⟨rfl, f9⟩))
    have hS : Fur w7 w9 ∧ w9.cell? ⟨w.heap.size, 1, none⟩ = some (.int .i64 (ad : Int)) ∧ w9.cell? ⟨w.heap.size + 1, 1, none⟩ = some (.int .i64 (bd : Int)) := by assumption
    have p2' := p2s.on hS.1
    have f04 := f07.trans hS.1
    clear q1 q2 q3 q4 hgne hhne c01 c11 hI8 hW8 hf8 f9 hS p2s f07
    have c20 := p2'.c0
    have c21 := p2'.c1
    have z20 := p2'.f0 0
    have z21 := p2'.f0 1
    by_cases hk : k ≤ 1000000000000000
    · by_cases he : Da * e ≤ 1000000000000000
      · obtain ⟨hN, hD, rfl⟩ := H1.out HSN.out hk he
        rw [(nr_t hk).1, (nr_t hk).2, (nr_t he).1, (nr_t he).2]
        obtain ⟨de, hde⟩ : ∃ de, de = Da * e := ⟨_, rfl⟩
        rw [← hde] at hD he ⊢
        have HD := Lib.hid hD
        clear H1 H2 hsne HSN hD hde
        rcases hs with rfl | rfl
        · rw [Int.one_mul] at hN
          have HN := Lib.hid hN
          clear hN
          go_wp2
          try simp only [Exit.inBlock, Exit.then]
          rw [HN.out, HD.out]
          exact fr_ret_put rfl rfl rfl p2' f04 (by omega)
        · rw [Int.neg_one_mul] at hN
          have HN := Lib.hid hN
          clear hN
          go_wp2
          try simp only [Exit.inBlock, Exit.then]
          rw [HN.out, HD.out]
          exact fr_ret_put rfl rfl rfl p2' f04 (by omega)
      · obtain ⟨rfl, rfl, rfl⟩ := H2.out HSN.out (.inr he)
        rw [(nr_t hk).1, (nr_t hk).2, (nr_f he).1, (nr_f he).2]
        clear H1 H2 hsne HSN he
        go_wp2
        try simp only [Exit.inBlock, Exit.then]
        exact fr_ret_put rfl rfl rfl p2' f04 (by omega)
    · obtain ⟨rfl, rfl, rfl⟩ := H2.out HSN.out (.inl hk)
      rw [(nr_f hk).1, (nr_f hk).2]
      generalize nrB (Da * e) = b2
      generalize nrV (Da * e) = v2
      clear H1 H2 hsne HSN hk
      go_wp2
      try simp only [Exit.inBlock, Exit.then]
      exact fr_ret_put rfl rfl rfl p2' f04 (by omega)
end Go.Proofs.YtdkmfhlmeildmaaDoor
