/-
  Plain mathematics of decimal digits of lists of limbs: the low digits of a number, digit by digit, and when they are its decimal numeral. No program, no world.
-/
import Derived.Test.YtebmkbfbfmnbbaaDoorNatPow
import Derived.Lib.ItoaNum
namespace Go.Proofs.YtebmkbfbfmnbbaaDoor
open Go.Lib (decDigits)

/-- The digit at place j. -/
def dgt (V j : Nat) : UInt8 := UInt8.ofNat (48 + V / 10 ^ j % 10)
/-- The m low digits, the highest first. -/
def lowD : Nat → Nat → List UInt8
  | 0, _ => []
  | m + 1, V => dgt V m :: lowD m V
theorem lowD_len : ∀ (m V : Nat), (lowD m V).length = m
  | 0, _ => rfl
  | m + 1, V => by rw [lowD, List.length_cons, lowD_len m V]
theorem lowD_snoc : ∀ (m V : Nat), lowD (m + 1) V = lowD m (V / 10) ++ [UInt8.ofNat (48 + V % 10)]
  | 0, V => by simp [lowD, dgt]
  | m + 1, V => by
    rw [lowD, lowD_snoc m V, lowD]
    have e : dgt V (m + 1) = dgt (V / 10) m := by
      unfold dgt
      rw [Nat.div_div_eq_div_mul, Nat.pow_succ, Nat.mul_comm 10]
    rw [e]
    rfl
theorem lowD_dec : ∀ (m V : Nat), V < 10 ^ (m + 1) → (m = 0 ∨ 10 ^ m ≤ V) → lowD (m + 1) V = decDigits V
  | 0, V, h, _ => by
    have h' : V < 10 := by simpa using h
    rw [decDigits, dif_pos h']
    simp [lowD, dgt, Nat.mod_eq_of_lt h']
  | m + 1, V, h, hm => by
    have h2 : 10 ^ (m + 1) ≤ V := by
      rcases hm with e | e
      · cases e
      · exact e
    rw [Nat.pow_succ] at h h2
    have p : 1 ≤ 10 ^ m := Nat.pow_pos (by decide)
    rw [lowD_snoc, decDigits, dif_neg (by omega), lowD_dec m (V / 10) (by rw [Nat.pow_succ]; rw [Nat.pow_succ] at h; omega) (.inr (by omega))]
/-- A leading zero may be struck. -/
theorem low_strike {m V : Nat} (h : V < 10 ^ (m + 1)) (hz : dgt V m = 48) : V < 10 ^ m := by
  have k := congrArg UInt8.toNat hz
  unfold dgt at k
  have h1 : V / 10 ^ m % 10 < 10 := Nat.mod_lt _ (by decide)
  rw [UInt8.toNat_ofNat'] at k
  have k2 : (48 : UInt8).toNat = 48 := rfl
  rw [k2] at k
  have p : 0 < 10 ^ m := Nat.pow_pos (by decide)
  rw [Nat.pow_succ] at h
  have h3 : V / 10 ^ m < 10 := Nat.div_lt_of_lt_mul h
  have h4 : V / 10 ^ m = 0 := by
    generalize V / 10 ^ m = D at k h3
    omega
  rcases Nat.div_eq_zero_iff.1 h4 with g | g <;> omega
theorem low_stay {m V : Nat} (hz : dgt V m ≠ 48) : 10 ^ m ≤ V := by
  rcases Nat.lt_or_ge V (10 ^ m) with g | g
  · exfalso; apply hz
    unfold dgt
    rw [Nat.div_eq_of_lt g]
    rfl
  · exact g
theorem pow9 (i : Nat) : (1000000000 : Nat) ^ i = 10 ^ (9 * i) := by
  rw [Nat.pow_mul]
/-- The digit of a number at a place, by its limb. -/
theorem limb_dgt {x : List Int} {i j : Nat} (hi : i < x.length) (hd : Digs x) (hj : j < 9) : dgt (vl x) (9 * i + j) = dgt (x.getD i 0).toNat j := by
  unfold dgt
  congr 2
  have s := vl_split i hi
  have a := vl_lt (digs_take hd i)
  rw [List.length_take, Nat.min_eq_left (by omega)] at a
  rw [s, Nat.pow_add, ← pow9, ← Nat.div_div_eq_div_mul, Nat.add_mul_div_left _ _ (Nat.pow_pos (by decide)), Nat.div_eq_of_lt a, Nat.zero_add]
  generalize (x.getD i 0).toNat = z
  generalize vl (x.drop (i + 1)) = R
  have e : (1000000000 : Nat) = 10 ^ j * (10 * 10 ^ (8 - j)) := by
    rw [← Nat.mul_assoc, ← Nat.pow_succ, ← Nat.pow_add, show j + 1 + (8 - j) = 9 by omega]
  rw [e, Nat.mul_assoc, Nat.add_mul_div_left _ _ (Nat.pow_pos (by decide)), Nat.mul_assoc, Nat.add_mul_mod_self_left]
theorem vl_lt10 {x : List Int} (hd : Digs x) : vl x < 10 ^ (9 * x.length) := by rw [← pow9]; exact vl_lt hd
end Go.Proofs.YtebmkbfbfmnbbaaDoor
