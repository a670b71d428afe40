/-
  Plain mathematics of Parse and Text of package frac: what the reference reads off the text of a valid fraction is that fraction; so Parse's answer is told by 'this valid fraction has the text s'. No program, no world.
-/
import Derived.Test.YtdkmfhlmeildmaaDoorFrS
namespace Go.Proofs.YtdkmfhlmeildmaaDoor
open Go.Lib (decDigits)

theorem dig_nat {u : Nat} (h : u < 10) : (UInt8.ofNat (48 + u)).toNat = 48 + u := by
  rw [UInt8.toNat_ofNat']; omega
theorem numF_dig {n u : Nat} (hu : u < 10) (hn : n ≤ 1000000000000000) (r : List UInt8) : numF n (UInt8.ofNat (48 + u) :: r) = numF (n * 10 + u) r := by
  show (if _ then _ else _) = _
  rw [dig_nat hu, if_pos (by omega), show 48 + u - 48 = u by omega]
theorem numF_digits (u : Nat) : ∀ r : List UInt8, u ≤ 10000000000000009 → numF 0 (decDigits u ++ r) = numF u r := by
  induction u using Nat.strongRecOn with
  | _ u ih =>
    intro r hu
    by_cases h1 : u < 10
    · rw [Lib.decDigits_one h1]
      show numF 0 (UInt8.ofNat (48 + u) :: r) = _
      rw [numF_dig h1 (by decide)]
      congr 1
      omega
    · have e : decDigits u = decDigits (u / 10) ++ [UInt8.ofNat (48 + u % 10)] := by rw [decDigits, dif_neg h1]
      rw [e, List.append_assoc]
      show numF 0 (decDigits (u / 10) ++ (UInt8.ofNat (48 + u % 10) :: r)) = _
      rw [ih (u / 10) (by omega) _ (by omega), numF_dig (Nat.mod_lt _ (by decide)) (by omega)]
      congr 1
      omega
theorem numF_nil (n : Nat) : numF n [] = (n, []) := rfl
theorem numF_slash (n : Nat) (r : List UInt8) : numF n (47 :: r) = (n, 47 :: r) := by
  show (if _ then _ else _) = _
  rw [if_neg (by intro h; exact absurd h.1 (by decide))]
theorem digs_head (u : Nat) : ∃ c r, decDigits u = c :: r ∧ 48 ≤ c.toNat ∧ c.toNat ≤ 57 := by
  induction u using Nat.strongRecOn with
  | _ u ih =>
    by_cases h1 : u < 10
    · refine ⟨_, _, Lib.decDigits_one h1, ?_, ?_⟩ <;> rw [dig_nat h1] <;> omega
    · obtain ⟨c, r, e, h2, h3⟩ := ih (u / 10) (by omega)
      exact ⟨c, r ++ [UInt8.ofNat (48 + u % 10)], by rw [decDigits, dif_neg h1, e]; rfl, h2, h3⟩
/-- Behind the numerator: nothing, or a slash and the denominator. -/
theorem read_at (n : Int) (rest : List UInt8) (hn : n.natAbs ≤ 1000000000000000) (hr : ∀ u, numF u rest = (u, rest)) :
    cN (Lib.itoa n ++ rest) = n ∧ (numF 0 ((Lib.itoa n ++ rest).drop (cK (Lib.itoa n ++ rest)))).2 = rest := by
  by_cases h : n < 0
  · have e : Lib.itoa n = 45 :: decDigits n.natAbs := by unfold Lib.itoa; rw [if_pos h]
    have k : numF 0 (decDigits n.natAbs ++ rest) = (n.natAbs, rest) := by rw [numF_digits _ _ (by omega), hr]
    rw [e, List.cons_append]
    constructor
    · unfold cN
      rw [if_pos (List.head?_cons ..), List.drop_succ_cons, List.drop_zero, k]
      show -((n.natAbs : Nat) : Int) = n
      omega
    · unfold cK
      rw [if_pos (List.head?_cons ..), List.drop_succ_cons, List.drop_zero, k]
  · have e : Lib.itoa n = decDigits n.natAbs := by unfold Lib.itoa; rw [if_neg h, show n.toNat = n.natAbs by omega]
    have k : numF 0 (decDigits n.natAbs ++ rest) = (n.natAbs, rest) := by rw [numF_digits _ _ (by omega), hr]
    have hh : ¬ (decDigits n.natAbs ++ rest).head? = some 45 := by
      obtain ⟨c, r, e, h1, h2⟩ := digs_head n.natAbs
      rw [e]
      intro h
      have := Option.some.inj h
      subst this
      exact absurd h1 (by decide)
    rw [e]
    constructor
    · unfold cN
      rw [if_neg hh, k]
      show ((n.natAbs : Nat) : Int) = n
      omega
    · unfold cK
      rw [if_neg hh, List.drop_zero, k]

theorem fracTxt_one (n : Int) : (fracTxt n 1).data.toList = Lib.itoa n ++ [] := by
  unfold fracTxt
  rw [if_pos rfl, txt_list, List.append_nil]
theorem fracTxt_two {n d : Int} (h : d ≠ 1) : (fracTxt n d).data.toList = Lib.itoa n ++ (47 :: Lib.itoa d) := by
  unfold fracTxt
  rw [if_neg h, ByteArray.data_append, ByteArray.data_append, Array.toList_append, Array.toList_append, txt_list, txt_list, List.append_assoc]
  rfl
theorem read_frac {n d : Int} (h : OkF n d) : cN (fracTxt n d).data.toList = n ∧ cD (fracTxt n d).data.toList = d := by
  have h1 := h.n1; have h2 := h.n2; have h3 := h.d1; have h4 := h.d2
  by_cases hd : d = 1
  · subst hd
    rw [fracTxt_one]
    obtain ⟨a, b⟩ := read_at n [] (by omega) (fun u => numF_nil u)
    refine ⟨a, ?_⟩
    unfold cD
    rw [b]
  · rw [fracTxt_two hd]
    obtain ⟨a, b⟩ := read_at n (47 :: Lib.itoa d) (by omega) (fun u => numF_slash u _)
    refine ⟨a, ?_⟩
    unfold cD
    rw [b]
    have e : Lib.itoa d = decDigits d.toNat ++ [] := by unfold Lib.itoa; rw [if_neg (by omega), List.append_nil]
    show ((numF 0 (Lib.itoa d)).1 : Int) = d
    rw [e, numF_digits _ _ (by omega)]
    show ((d.toNat : Nat) : Int) = d
    omega
/-- The string is the text of this valid fraction. -/
structure HasF (s : ByteArray) (n d : Int) : Prop where
  ok : OkF n d
  tx : fracTxt n d = s
theorem pr_of {s : ByteArray} {n d : Int} (h : HasF s n d) : prN s = n ∧ prD s = d ∧ prB s = true := by
  obtain ⟨ho, rfl⟩ := h
  obtain ⟨a, b⟩ := read_frac ho
  unfold prN prD prB
  rw [a, b]
  exact an_t ho.b rfl
theorem pr_has {s : ByteArray} (h : prB s = true) : HasF s (prN s) (prD s) := by
  unfold prB anB at h
  simp only [Bool.and_eq_true, decide_eq_true_eq] at h
  obtain ⟨a, b, -⟩ := an_t h.1 h.2
  unfold prN prD
  rw [a, b]
  exact ⟨okF_t h.1, h.2⟩
theorem pr_no {s : ByteArray} (h : ∀ n d, ¬ HasF s n d) : prN s = 0 ∧ prD s = 0 ∧ prB s = false := by
  have k : okF (cN s.data.toList) (cD s.data.toList) = false ∨ fracTxt (cN s.data.toList) (cD s.data.toList) ≠ s := by
    cases e : okF (cN s.data.toList) (cD s.data.toList)
    · exact .inl rfl
    · exact .inr (fun t => h _ _ ⟨okF_t e, t⟩)
  exact an_f k
end Go.Proofs.YtdkmfhlmeildmaaDoor
