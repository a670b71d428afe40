/-
  Package value: truth, known, Not, And, Or, class; Go's cmp.Compare of ints and of strings. Nothing that was there turns.
-/
import Derived.Test.YtcadeijloobbmaaMd
import Derived.Deep.RegionHeld3
namespace Go.Proofs.Ytcadeijloobbmaa
open Go.RowKit

/-- A truth value. -/
def triV (a : Int) : Int := if a = 0 ∨ a = 2 then a else 1
theorem triV_c (a : Int) : (a = 0 ∧ triV a = 0) ∨ (a = 2 ∧ triV a = 2) ∨ (a ≠ 0 ∧ a ≠ 2 ∧ triV a = 1) := by
  unfold triV
  by_cases h0 : a = 0
  · exact .inl ⟨h0, by rw [if_pos (.inl h0), h0]⟩
  · by_cases h2 : a = 2
    · exact .inr (.inl ⟨h2, by rw [if_pos (.inr h2), h2]⟩)
    · exact .inr (.inr ⟨h0, h2, by rw [if_neg (by omega)]⟩)
theorem triV_3 (a : Int) : triV a = 0 ∨ triV a = 2 ∨ triV a = 1 := by rcases triV_c a with h | h | h <;> omega
theorem triV_d (a : Int) : (a = 0 ∧ triV a = 0) ∨ (a = 2 ∧ triV a = 2) ∨ ((a == 0) = false ∧ (a == 2) = false ∧ triV a = 1) := by
  rcases triV_c a with h | h | ⟨h0, h2, h⟩
  · exact .inl h
  · exact .inr (.inl h)
  · exact .inr (.inr ⟨beq_eq_false_iff_ne.2 h0, beq_eq_false_iff_ne.2 h2, h⟩)
/-! Go's Compare. -/
/-- The class, as the code has it. -/
def classG (k : Int) : Int := if k = 1 then 1 else if k = 2 ∨ k = 3 then 2 else if k = 4 then 3 else if k = 5 then 4 else if k = 6 then 5 else if k = 8 then 6 else if k = 7 then 7 else 0
theorem classG_ok {k : Int} (h0 : 0 ≤ k) (h8 : k ≤ 8) : classG k = classV k := by
  unfold classG classV
  have : k = 0 ∨ k = 1 ∨ k = 2 ∨ k = 3 ∨ k = 4 ∨ k = 5 ∨ k = 6 ∨ k = 7 ∨ k = 8 := by omega
  rcases this with rfl | rfl | rfl | rfl | rfl | rfl | rfl | rfl | rfl <;> decide
end Go.Proofs.Ytcadeijloobbmaa
