/-
  Plain mathematics of a division of 128 bits by 64 (the school method with two digits of 32 bits). No program, no world.
-/
import Derived.WalkKit
namespace Go.Proofs.YtdkmfhlmeildmaaDoor

/-- One digit: q is an estimate that is not too small, r the rest of the leading part. -/
structure Dg (U Y u h l q r : Nat) : Prop where
  eq : q * h + r = U
  up : (U * 4294967296 + u) / Y ≤ q
  top : q ≤ 4294967297
  r0 : r < 4294967296
theorem dg_start {U Y u h l : Nat} (hY : Y = h * 4294967296 + l) (hh : 2147483648 ≤ h) (hl : l < 4294967296) (hU : U < Y) (hu : u < 4294967296) (hh' : h < 4294967296) : Dg U Y u h l (U / h) (U % h) := by
  have h0 : 0 < h := by omega
  have e := Nat.div_add_mod U h
  have r := Nat.mod_lt U h0
  refine ⟨by rw [Nat.mul_comm]; exact e, ?_, ?_, by omega⟩
  · have hY0 : 0 < Y := by omega
    apply Nat.le_of_lt_succ
    rw [Nat.div_lt_iff_lt_mul hY0]
    have k : (U / h).succ * Y = (U / h) * h * 4294967296 + (U / h) * l + h * 4294967296 + l := by
      rw [hY, Nat.succ_mul, Nat.mul_add, ← Nat.mul_assoc]; omega
    rw [k]
    have e2 : U / h * h = U - U % h := by rw [Nat.mul_comm]; omega
    rw [e2]
    have := Nat.zero_le (U / h * l)
    omega
  · have k : U / h < 4294967298 := by
      rw [Nat.div_lt_iff_lt_mul h0]
      omega
    omega
/-- The true digit is below 2^32. -/
theorem dg_lt {U Y u : Nat} (hU : U < Y) (hu : u < 4294967296) : (U * 4294967296 + u) / Y < 4294967296 := by
  rw [Nat.div_lt_iff_lt_mul (by omega), Nat.mul_comm]
  omega
/-- The estimate is right when the product fits. -/
theorem dg_fit {U Y u h l q r : Nat} (hY : Y = h * 4294967296 + l) (hY0 : 0 < Y) (eq : q * h + r = U) (up : (U * 4294967296 + u) / Y ≤ q) (k : q * l ≤ 4294967296 * r + u) : q = (U * 4294967296 + u) / Y := by
  apply Nat.le_antisymm _ up
  rw [Nat.le_div_iff_mul_le hY0, hY, Nat.mul_add, ← Nat.mul_assoc]
  have e : q * h * 4294967296 + r * 4294967296 = U * 4294967296 := by rw [← eq, Nat.add_mul]
  omega
/-- Too great: one less is still not too small. -/
theorem dg_big {U Y u h l q r : Nat} (hY : Y = h * 4294967296 + l) (hU : U < Y) (hu : u < 4294967296) (d : Dg U Y u h l q r) (k : 4294967296 ≤ q ∨ 4294967296 * r + u < q * l) : 0 < q ∧ (U * 4294967296 + u) / Y ≤ q - 1 ∧ (q - 1) * h + (r + h) = U := by
  have hY0 : 0 < Y := by omega
  have q0 : 0 < q := by
    rcases Nat.eq_zero_or_pos q with z | z
    · subst z; omega
    · exact z
  have lt : (U * 4294967296 + u) / Y < q := by
    rcases k with k | k
    · have := dg_lt hU hu; omega
    · rw [Nat.div_lt_iff_lt_mul hY0, hY, Nat.mul_add, ← Nat.mul_assoc]
      have e : q * h * 4294967296 + r * 4294967296 = U * 4294967296 := by rw [← d.eq, Nat.add_mul]
      omega
  refine ⟨q0, by omega, ?_⟩
  have e := d.eq
  obtain ⟨p, rfl⟩ : ∃ p, q = p + 1 := ⟨q - 1, by omega⟩
  rw [Nat.add_mul] at e
  rw [Nat.add_sub_cancel]
  omega
theorem dg_next {U Y u h l q r : Nat} (hY : Y = h * 4294967296 + l) (hU : U < Y) (hu : u < 4294967296) (d : Dg U Y u h l q r) (k : 4294967296 ≤ q ∨ 4294967296 * r + u < q * l) (hr : r + h < 4294967296) : Dg U Y u h l (q - 1) (r + h) := by
  obtain ⟨a, b, c⟩ := dg_big hY hU hu d k
  exact ⟨c, b, by have := d.top; omega, hr⟩
theorem dg_break {U Y u h l q r : Nat} (hY : Y = h * 4294967296 + l) (hl : l < 4294967296) (hU : U < Y) (hu : u < 4294967296) (d : Dg U Y u h l q r) (k : 4294967296 ≤ q ∨ 4294967296 * r + u < q * l) (hr : 4294967296 ≤ r + h) : q - 1 = (U * 4294967296 + u) / Y := by
  obtain ⟨a, b, c⟩ := dg_big hY hU hu d k
  refine dg_fit hY (by omega) c b ?_
  have t := d.top
  have m : (q - 1) * l ≤ 4294967296 * 4294967295 := Nat.mul_le_mul (by omega) (by omega)
  omega
/-- Division in steps. -/
theorem div_two {N Y : Nat} (B : Nat) {u1 u0 U : Nat} (hY : 0 < Y) (hN : N = (U * B + u1) * B + u0) :
    N / Y = (U * B + u1) / Y * B + ((U * B + u1) % Y * B + u0) / Y ∧ N % Y = ((U * B + u1) % Y * B + u0) % Y := by
  have e := Nat.div_add_mod (U * B + u1) Y
  generalize (U * B + u1) / Y = q at *
  generalize (U * B + u1) % Y = r at *
  have k : N = r * B + u0 + Y * (q * B) := by
    rw [hN, ← e, Nat.add_mul, Nat.mul_assoc]; omega
  rw [k, Nat.add_mul_div_left _ _ hY, Nat.add_mul_mod_self_left]
  exact ⟨Nat.add_comm _ _, rfl⟩
end Go.Proofs.YtdkmfhlmeildmaaDoor
