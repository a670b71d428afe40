/-
  Package value: truth, known, Not, And, Or, class; Go's cmp.Compare of ints and of strings. Nothing that was there turns.
-/
import Derived.Test.YtieicceceggglaaGreatDoorVx
import Derived.Deep.RegionHeld3
namespace Go.Proofs.YtieicceceggglaaGreatDoor
open Go.RowKit

/-- A truth value. -/
def triV (a : Int) : Int := if a = 0 ∨ a = 2 then a else 1
theorem triV_c (a : Int) : (a = 0 ∧ triV a = 0) ∨ (a = 2 ∧ triV a = 2) ∨ (a ≠ 0 ∧ a ≠ 2 ∧ triV a = 1) := by
  unfold triV
  by_cases h0 : a = 0
  · exact .inl ⟨h0, by rw [if_pos (.inl h0), h0]⟩
  · by_cases h2 : a = 2
    · exact .inr (.inl ⟨h2, by rw [if_pos (.inr h2), h2]⟩)
    · exact .inr (.inr ⟨h0, h2, by rw [if_neg (by omega)]⟩)
theorem triV_3 (a : Int) : triV a = 0 ∨ triV a = 2 ∨ triV a = 1 := by rcases triV_c a with h | h | h <;> omega
theorem triV_d (a : Int) : (a = 0 ∧ triV a = 0) ∨ (a = 2 ∧ triV a = 2) ∨ ((a == 0) = false ∧ (a == 2) = false ∧ triV a = 1) := by
  rcases triV_c a with h | h | ⟨h0, h2, h⟩
  · exact .inl h
  · exact .inr (.inl h)
  · exact .inr (.inr ⟨beq_eq_false_iff_ne.2 h0, beq_eq_false_iff_ne.2 h2, h⟩)
theorem ltruth_any (a : Int) (w : World) : Calls Tryz.prog 139 #[.int .i64 a] w fun e w' => e = .returned (.int .i64 (triV a)) ∧ w' = w := by
  rcases triV_d a with ⟨rfl, e⟩ | ⟨rfl, e⟩ | ⟨g0, g2, e⟩ <;> rw [e] <;> clear e
  all_goals
    go_enter Tryz.func139, Tryz.ntmps139
    go_wp2
    go_ret
    exact ⟨rfl, rfl⟩
theorem land_any (a b : Int) (w : World) : Calls Tryz.prog 116 #[.int .i64 a, .int .i64 b] w fun e w' => e = .returned (.int .i64 (min (triV a) (triV b))) ∧ w' = w := by
  rcases triV_d a with ⟨rfl, e⟩ | ⟨rfl, e⟩ | ⟨g0, g2, e⟩ <;> rcases triV_d b with ⟨rfl, e'⟩ | ⟨rfl, e'⟩ | ⟨g0', g2', e'⟩ <;> simp only [e, e'] <;> clear e e'
  all_goals
    go_enter Tryz.func116, Tryz.ntmps116
    go_wp2
    go_ret
    exact ⟨rfl, rfl⟩
theorem lknown_any (b : Bool) (w : World) : Calls Tryz.prog 52 #[.bool b] w fun e w' => e = .returned (.int .i64 (if b = true then 2 else 0)) ∧ w' = w := by
  cases b
  all_goals
    go_enter Tryz.func52, Tryz.ntmps52
    go_wp2
    go_ret
    exact ⟨rfl, rfl⟩

/-! Go's Compare. -/
theorem lcmpi_any (a b : Int) (w : World) : Calls Tryz.prog 89 #[.int .i64 a, .int .i64 b] w fun e w' => e = .returned (.int .i64 (intc a b)) ∧ w' = w := by
  by_cases h1 : a < b
  · rw [show intc a b = -1 by unfold intc; rw [if_pos h1]]
    go_enter Tryz.func89, Tryz.ntmps89
    go_wp2
    go_ret
    exact ⟨rfl, rfl⟩
  · by_cases h2 : b < a
    · rw [show intc a b = 1 by unfold intc; rw [if_neg h1, if_pos h2]]
      go_enter Tryz.func89, Tryz.ntmps89
      go_wp2
      go_ret
      exact ⟨rfl, rfl⟩
    · rw [show intc a b = 0 by unfold intc; rw [if_neg h1, if_neg h2]]
      go_enter Tryz.func89, Tryz.ntmps89
      go_wp2
      go_ret
      exact ⟨rfl, rfl⟩
/-- The class, as the code has it. -/
def classG (k : Int) : Int := if k = 1 then 1 else if k = 2 ∨ k = 3 then 2 else if k = 4 then 3 else if k = 5 then 4 else if k = 6 then 5 else if k = 8 then 6 else if k = 7 then 7 else 0
theorem classG_ok {k : Int} (h0 : 0 ≤ k) (h8 : k ≤ 8) : classG k = classV k := by
  unfold classG classV
  have : k = 0 ∨ k = 1 ∨ k = 2 ∨ k = 3 ∨ k = 4 ∨ k = 5 ∨ k = 6 ∨ k = 7 ∨ k = 8 := by omega
  rcases this with rfl | rfl | rfl | rfl | rfl | rfl | rfl | rfl | rfl <;> decide
theorem lclass_any (x : Vl) (ao : Option Addr) (cap : Nat) (w : World) : Calls Tryz.prog 65 #[vlv x ao cap] w (RetI w (classG x.kd)) := by
  obtain ⟨p0, f0⟩ := bx1 w x ao cap
  have c0 := p0.c0
  clear p0
  unfold vlv
  generalize x.kd = k at *
  by_cases h1 : k = 1
  · subst h1
    rw [show classG 1 = 1 from rfl]
    go_enter Tryz.func65, Tryz.ntmps65
    go_wp2
    go_ret
    exact ⟨rfl, f0⟩
  have g1 : (k == 1) = false := beq_eq_false_iff_ne.2 h1
  by_cases h2 : k = 2
  · subst h2
    rw [show classG 2 = 2 from rfl]
    go_enter Tryz.func65, Tryz.ntmps65
    go_wp2
    go_ret
    exact ⟨rfl, f0⟩
  have g2 : (k == 2) = false := beq_eq_false_iff_ne.2 h2
  by_cases h3 : k = 3
  · subst h3
    rw [show classG 3 = 2 from rfl]
    go_enter Tryz.func65, Tryz.ntmps65
    go_wp2
    go_ret
    exact ⟨rfl, f0⟩
  have g3 : (k == 3) = false := beq_eq_false_iff_ne.2 h3
  by_cases h4 : k = 4
  · subst h4
    rw [show classG 4 = 3 from rfl]
    go_enter Tryz.func65, Tryz.ntmps65
    go_wp2
    go_ret
    exact ⟨rfl, f0⟩
  have g4 : (k == 4) = false := beq_eq_false_iff_ne.2 h4
  by_cases h5 : k = 5
  · subst h5
    rw [show classG 5 = 4 from rfl]
    go_enter Tryz.func65, Tryz.ntmps65
    go_wp2
    go_ret
    exact ⟨rfl, f0⟩
  have g5 : (k == 5) = false := beq_eq_false_iff_ne.2 h5
  by_cases h6 : k = 6
  · subst h6
    rw [show classG 6 = 5 from rfl]
    go_enter Tryz.func65, Tryz.ntmps65
    go_wp2
    go_ret
    exact ⟨rfl, f0⟩
  have g6 : (k == 6) = false := beq_eq_false_iff_ne.2 h6
  by_cases h8 : k = 8
  · subst h8
    rw [show classG 8 = 6 from rfl]
    go_enter Tryz.func65, Tryz.ntmps65
    go_wp2
    go_ret
    exact ⟨rfl, f0⟩
  have g8 : (k == 8) = false := beq_eq_false_iff_ne.2 h8
  by_cases h7 : k = 7
  · subst h7
    rw [show classG 7 = 7 from rfl]
    go_enter Tryz.func65, Tryz.ntmps65
    go_wp2
    go_ret
    exact ⟨rfl, f0⟩
  have g7 : (k == 7) = false := beq_eq_false_iff_ne.2 h7
  rw [show classG k = 0 by unfold classG; rw [if_neg h1, if_neg (by omega), if_neg h4, if_neg h5, if_neg h6, if_neg h8, if_neg h7]]
  clear h1 h2 h3 h4 h5 h6 h7 h8
  go_enter Tryz.func65, Tryz.ntmps65
  go_wp2
  go_ret
  exact ⟨rfl, f0⟩
end Go.Proofs.YtieicceceggglaaGreatDoor
