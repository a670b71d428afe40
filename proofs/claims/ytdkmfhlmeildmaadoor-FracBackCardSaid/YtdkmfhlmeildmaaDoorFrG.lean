/-
  The reference of package frac: Of gives the fraction of two ints in lowest terms and true, or no fraction and false. For every two ints; nothing that was there turns.
-/
import Derived.Test.YtdkmfhlmeildmaaDoorFrB
import Derived.Test.YtdkmfhlmeildmaaDoorFrR
namespace Go.Proofs.YtdkmfhlmeildmaaDoor
open Go.RowKit

theorem ofO_none {n d : Int} (h : ¬ (-1000000000000000 ≤ n ∧ n ≤ 1000000000000000 ∧ -1000000000000000 ≤ d ∧ d ≤ 1000000000000000 ∧ d ≠ 0)) : ofO n d = none := if_neg h
theorem tdiv_ex {n u : Int} {g : Nat} (hg : 0 < g) (h : n = (g : Int) * u) : n.tdiv (g : Int) = u := by rw [h, Int.mul_tdiv_cancel_left _ (by omega)]
theorem ediv_ex {n v g : Nat} (hg : 0 < g) (h : n = g * v) : ((n : Int) / (g : Int)) = v := by rw [h, Int.natCast_mul, Int.mul_ediv_cancel_left _ (by omega)]

set_option maxHeartbeats 1600000 in
theorem rof_any (n d : Int) (w : World) : Calls Tryd.prog 10 #[.int .i64 n, .int .i64 d] w (RetFB w (rN (ofO n d)) (rD (ofO n d)) (rB (ofO n d))) := by
  by_cases hr : -1000000000000000 ≤ n ∧ n ≤ 1000000000000000 ∧ -1000000000000000 ≤ d ∧ d ≤ 1000000000000000 ∧ d ≠ 0
  rotate_left
  · rw [ofO_none hr, r_n.1, r_n.2.1, r_n.2.2]
    have hc : n < -1000000000000000 ∨ (-1000000000000000 ≤ n ∧ 1000000000000000 < n) ∨ (-1000000000000000 ≤ n ∧ n ≤ 1000000000000000 ∧ d < -1000000000000000) ∨ (-1000000000000000 ≤ n ∧ n ≤ 1000000000000000 ∧ -1000000000000000 ≤ d ∧ 1000000000000000 < d) ∨ (-1000000000000000 ≤ n ∧ n ≤ 1000000000000000 ∧ d = 0) := by omega
    clear hr
    rcases hc with h | ⟨g1, h⟩ | ⟨g1, g2, h⟩ | ⟨g1, g2, g3, h⟩ | ⟨g1, g2, h⟩
    rotate_right
    · subst h
      go_enter Tryd.func10, Tryd.ntmps10
      go_wp2
      try simp only [Exit.inBlock, Exit.then]
      refine fr_ret rfl rfl rfl (cell_new w _ _ _).1 (cell_new w _ _ _).2 ⟨rfl, (Fur.refl w).alloc _⟩
    all_goals
      go_enter Tryd.func10, Tryd.ntmps10
      go_wp2
      try simp only [Exit.inBlock, Exit.then]
      refine fr_ret rfl rfl rfl (cell_new w _ _ _).1 (cell_new w _ _ _).2 ⟨rfl, (Fur.refl w).alloc _⟩
  obtain ⟨g1, g2, g3, g4, g5⟩ := hr
  obtain ⟨g, hg⟩ : ∃ g, g = Nat.gcd n.natAbs d.natAbs := ⟨_, rfl⟩
  obtain ⟨u, v, hu, hv, r1, r2, r3, u1, v0, v1, g0⟩ := of_low g1 g2 g3 g4 g5 hg
  rw [r1, r2, r3]
  have HG := Lib.hid (fun (w : World) => rgcd_any n.natAbs d.natAbs (by omega) (by omega) w)
  rw [← hg] at HG
  have hgI : (0 : Int) < g := by omega
  have hgz : ((g : Int) == 0) = false := by rw [beq_eq_false_iff_ne]; omega
  have HV := Lib.hid (show 0 ≤ (v : Int) ∧ (v : Int) ≤ 1000000000000000 by omega)
  clear r1 r2 r3 hg
  by_cases hd : 0 < d
  · rw [Int.sign_eq_one_of_pos hd, Int.mul_one] at hu
    have q1 := Lib.hid (tdiv_ex g0 hu)
    have q2 := Lib.hid (show d / (g : Int) = v by
      have e := ediv_ex g0 hv
      rwa [show ((d.natAbs : Nat) : Int) = d by omega] at e)
    have hne : (d == 0) = false := by rw [beq_eq_false_iff_ne]; omega
    clear hu hv g5
    go_enter Tryd.func10, Tryd.ntmps10
    go_wp2_with fail
    go_at_call 36; refine (rsize_any n (by omega) (by omega) _).mono ?_; rintro e w' ⟨rfl, rfl⟩
    go_wp2_with fail
    go_at_call 36; refine (rsize_any d (by omega) (by omega) _).mono ?_; rintro e w' ⟨rfl, rfl⟩
    go_wp2_with fail
    go_at_call 35; refine (HG.out _).mono ?_; rintro e w' ⟨q, rfl, rfl⟩
    have e1 := q1.out
    have e2 := q2.out
    go_wp2
    go_region
    go_wp2
    try simp only [Exit.inBlock, Exit.then]
    exact fr_ret_put rfl rfl rfl (heap_new w _ _) (((Fur.refl w).alloc _).trans (fur_drewN _ _)) (Nat.le_refl _)
  · have hd' : d < 0 := by omega
    rw [Int.sign_eq_neg_one_of_neg hd', Int.mul_neg_one] at hu
    have q1 := Lib.hid (tdiv_ex g0 hu)
    have q2 := Lib.hid (show d.tdiv (g : Int) = -(v : Int) from tdiv_ex g0 (by
      rw [Int.mul_neg, ← Int.natCast_mul, ← hv]
      omega))
    have hne : (d == 0) = false := by rw [beq_eq_false_iff_ne]; omega
    clear hu hv g5 hd
    go_enter Tryd.func10, Tryd.ntmps10
    go_wp2_with fail
    go_at_call 36; refine (rsize_any n (by omega) (by omega) _).mono ?_; rintro e w' ⟨rfl, rfl⟩
    go_wp2_with fail
    go_at_call 36; refine (rsize_any d (by omega) (by omega) _).mono ?_; rintro e w' ⟨rfl, rfl⟩
    go_wp2_with fail
    go_at_call 35; refine (HG.out _).mono ?_; rintro e w' ⟨q, rfl, rfl⟩
    have e1 := q1.out
    have e2 := q2.out
    go_wp2
    go_region
    go_wp2
    try simp only [Exit.inBlock, Exit.then]
    exact fr_ret_put rfl rfl rfl (heap_new w _ _) (((Fur.refl w).alloc _).trans (fur_drewN _ _)) (Nat.le_refl _)
end Go.Proofs.YtdkmfhlmeildmaaDoor
