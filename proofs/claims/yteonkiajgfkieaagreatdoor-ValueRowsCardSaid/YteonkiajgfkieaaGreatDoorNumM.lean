/-
  Plain mathematics of decimal numerals: the first digits of a text, read as a number, are the number whose numeral stands there. No program, no world.
-/
import Derived.Test.YteonkiajgfkieaaGreatDoorM00
import Derived.Lib.ItoaLen
namespace Go.Proofs.YteonkiajgfkieaaGreatDoor
open Go.Lib (decDigits)

/-- Reading digits: the number so far, the bytes that are left. -/
def numF : Nat → List UInt8 → Nat × List UInt8
  | n, [] => (n, [])
  | n, c :: r => if 48 ≤ c.toNat ∧ c.toNat ≤ 57 ∧ n ≤ 1000000000000000 then numF (n * 10 + (c.toNat - 48)) r else (n, c :: r)
theorem dig_nat {u : Nat} (h : u < 10) : (UInt8.ofNat (48 + u)).toNat = 48 + u := by
  rw [UInt8.toNat_ofNat']; omega
theorem numF_dig {n u : Nat} (hu : u < 10) (hn : n ≤ 1000000000000000) (r : List UInt8) : numF n (UInt8.ofNat (48 + u) :: r) = numF (n * 10 + u) r := by
  show (if _ then _ else _) = _
  rw [dig_nat hu, if_pos (by omega), show 48 + u - 48 = u by omega]
theorem numF_digits (u : Nat) : ∀ r : List UInt8, u ≤ 10000000000000009 → numF 0 (decDigits u ++ r) = numF u r := by
  induction u using Nat.strongRecOn with
  | _ u ih =>
    intro r hu
    by_cases h1 : u < 10
    · rw [Lib.decDigits_one h1]
      show numF 0 (UInt8.ofNat (48 + u) :: r) = _
      rw [numF_dig h1 (by decide)]
      congr 1
      omega
    · have e : decDigits u = decDigits (u / 10) ++ [UInt8.ofNat (48 + u % 10)] := by rw [decDigits, dif_neg h1]
      rw [e, List.append_assoc]
      show numF 0 (decDigits (u / 10) ++ (UInt8.ofNat (48 + u % 10) :: r)) = _
      rw [ih (u / 10) (by omega) _ (by omega), numF_dig (Nat.mod_lt _ (by decide)) (by omega)]
      congr 1
      omega
theorem numF_nil (n : Nat) : numF n [] = (n, []) := rfl
theorem numF_slash (n : Nat) (r : List UInt8) : numF n (47 :: r) = (n, 47 :: r) := by
  show (if _ then _ else _) = _
  rw [if_neg (by intro h; exact absurd h.1 (by decide))]
theorem digs_head (u : Nat) : ∃ c r, decDigits u = c :: r ∧ 48 ≤ c.toNat ∧ c.toNat ≤ 57 := by
  induction u using Nat.strongRecOn with
  | _ u ih =>
    by_cases h1 : u < 10
    · refine ⟨_, _, Lib.decDigits_one h1, ?_, ?_⟩ <;> rw [dig_nat h1] <;> omega
    · obtain ⟨c, r, e, h2, h3⟩ := ih (u / 10) (by omega)
      exact ⟨c, r ++ [UInt8.ofNat (48 + u % 10)], by rw [decDigits, dif_neg h1, e]; rfl, h2, h3⟩
end Go.Proofs.YteonkiajgfkieaaGreatDoor
