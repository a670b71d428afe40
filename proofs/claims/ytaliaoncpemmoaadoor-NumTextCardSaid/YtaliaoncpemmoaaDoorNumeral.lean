/-
  Plain mathematics of decimal numerals: the library's parse gives back the integer of which a numeral was made, for every int value; and what follows for Parse of package num. No condition on any world.
-/
import Derived.Test.YtaliaoncpemmoaaDoorText
namespace Go.Proofs.YtaliaoncpemmoaaDoor
open Go.Lib

theorem parse_append : ∀ (l r : List UInt8) (acc a : Nat), parseUint10 acc l = .ok a → parseUint10 acc (l ++ r) = parseUint10 a r
  | [], r, acc, a, h => by
    simp only [parseUint10] at h
    injection h with h
    rw [h]; rfl
  | c :: l, r, acc, a, h => by
    rw [List.cons_append]
    simp only [parseUint10] at h ⊢
    split at h
    · rename_i hd
      rw [if_pos hd]
      split at h
      · cases h
      · rename_i h1
        rw [if_neg h1]
        split at h
        · cases h
        · rename_i h2
          rw [if_neg h2]
          exact parse_append l r _ a h
    · cases h
theorem digit_nat {u : Nat} (h : u < 10) : (UInt8.ofNat (48 + u)).toNat = 48 + u := by
  rw [UInt8.toNat_ofNat']; omega
theorem parse_one {acc u : Nat} (h : u < 10) (h1 : acc < 1844674407370955162) (h2 : acc * 10 + u < 18446744073709551616) : parseUint10 acc [UInt8.ofNat (48 + u)] = .ok (acc * 10 + u) := by
  simp only [parseUint10, digit_nat h]
  rw [if_pos (by omega), if_neg (by omega), if_neg (by omega)]
  congr 1
  omega
theorem parse_digits (u : Nat) (h : u < 18446744073709551616) : parseUint10 0 (decDigits u) = .ok u := by
  induction u using Nat.strongRecOn with
  | _ u ih =>
    by_cases h1 : u < 10
    · rw [decDigits, dif_pos h1, parse_one h1 (by decide) (by omega)]
      congr 1
      omega
    · rw [decDigits, dif_neg h1, parse_append _ _ 0 (u / 10) (ih (u / 10) (by omega) (by omega)), parse_one (Nat.mod_lt _ (by decide)) (by omega) (by omega)]
      congr 1
      omega
theorem digits_head (u : Nat) : ∃ c r, decDigits u = c :: r ∧ 48 ≤ c.toNat ∧ c.toNat ≤ 57 := by
  induction u using Nat.strongRecOn with
  | _ u ih =>
    by_cases h1 : u < 10
    · refine ⟨_, _, by rw [decDigits, dif_pos h1], ?_, ?_⟩ <;> rw [digit_nat h1] <;> omega
    · obtain ⟨c, r, e, h2, h3⟩ := ih (u / 10) (by omega)
      exact ⟨c, r ++ [UInt8.ofNat (48 + u % 10)], by rw [decDigits, dif_neg h1, e]; rfl, h2, h3⟩
theorem mag_digits (u : Nat) (h : u < 18446744073709551616) : parseMag (decDigits u) = .ok u := by
  obtain ⟨c, r, e, _, _⟩ := digits_head u
  unfold parseMag
  rw [if_neg (by rw [e]; simp), parse_digits u h]

/-- The library's parse gives back the int of which the numeral was made. -/
theorem atoi_itoa (n : Int) (h0 : -9223372036854775808 ≤ n) (h1 : n ≤ 9223372036854775807) : atoiAll (itoa n) = .ok n := by
  by_cases hneg : n < 0
  · have e : itoa n = 45 :: decDigits n.natAbs := by unfold itoa; rw [if_pos hneg]
    have hm := mag_digits n.natAbs (by omega)
    rw [e]
    unfold atoiAll
    have e45 : (45 : UInt8).toNat = 45 := rfl
    simp only [e45, or_true, if_true, hm, not_true_eq_false, false_and, if_false, true_and]
    rw [if_neg (by omega)]
    congr 1
    omega
  · have e : itoa n = decDigits n.toNat := by unfold itoa; rw [if_neg hneg]
    have hm := mag_digits n.toNat (by omega)
    obtain ⟨c, r, hc, c1, c2⟩ := digits_head n.toNat
    rw [e]
    rw [hc] at hm ⊢
    unfold atoiAll
    simp only []
    rw [if_neg (by omega), hm]
    simp only []
    rw [if_neg (by omega), if_neg (by omega), if_neg (by omega)]
    congr 1
    omega

theorem txt_list (n : Int) : (txt n).data.toList = itoa n := by simp [txt]
theorem parB_txt (n : Int) (h0 : -9223372036854775808 ≤ n) (h1 : n ≤ 9223372036854775807) : parB (txt n) = inB n := by
  unfold parB; rw [txt_list, atoi_itoa n h0 h1]; simp [okOf]
theorem parV_txt (n : Int) (h0 : -9223372036854775808 ≤ n) (h1 : n ≤ 9223372036854775807) : parV (txt n) = if inB n = true then n else 0 := by
  unfold parV; rw [txt_list, atoi_itoa n h0 h1]; simp [okOf]
theorem parB_t {s : ByteArray} (h : parB s = true) : inB (parV s) = true ∧ ((txt (parV s)).toList == s.toList) = true := by
  unfold parB at h
  unfold parV
  cases hk : okOf (atoiAll s.data.toList) with
  | none => rw [hk] at h; cases h
  | some v =>
    rw [hk] at h
    simp only at h ⊢
    rw [if_pos h]
    simpa using h
end Go.Proofs.YtaliaoncpemmoaaDoor
