/-
  Plain mathematics of the texts of rules: the text of a rule, what is read of a text, that the text of a valid rule is read as the rule, that different valid rules have different texts. No program, no world.
-/
import Derived.Test.YtadnaakbhgacgaaDoorScM
import Derived.Lib.Join
import Derived.Lib.ItoaNum
import Derived.Lib.AtoiAll
import Derived.Lib.Strings
namespace Go.Proofs.YtadnaakbhgacgaaDoor
open Go.Lib

theorem parse_append : ∀ (l r : List UInt8) (acc a : Nat), parseUint10 acc l = .ok a → parseUint10 acc (l ++ r) = parseUint10 a r
  | [], r, acc, a, h => by
    simp only [parseUint10] at h
    injection h with h
    rw [h]; rfl
  | c :: l, r, acc, a, h => by
    rw [List.cons_append]
    simp only [parseUint10] at h ⊢
    split at h
    · rename_i hd
      rw [if_pos hd]
      split at h
      · cases h
      · rename_i h1
        rw [if_neg h1]
        split at h
        · cases h
        · rename_i h2
          rw [if_neg h2]
          exact parse_append l r _ a h
    · cases h
theorem digit_nat {u : Nat} (h : u < 10) : (UInt8.ofNat (48 + u)).toNat = 48 + u := by
  rw [UInt8.toNat_ofNat']; omega
theorem parse_one {acc u : Nat} (h : u < 10) (h1 : acc < 1844674407370955162) (h2 : acc * 10 + u < 18446744073709551616) : parseUint10 acc [UInt8.ofNat (48 + u)] = .ok (acc * 10 + u) := by
  simp only [parseUint10, digit_nat h]
  rw [if_pos (by omega), if_neg (by omega), if_neg (by omega)]
  congr 1
  omega
theorem parse_digits (u : Nat) (h : u < 18446744073709551616) : parseUint10 0 (decDigits u) = .ok u := by
  induction u using Nat.strongRecOn with
  | _ u ih =>
    by_cases h1 : u < 10
    · rw [decDigits, dif_pos h1, parse_one h1 (by decide) (by omega)]
      congr 1
      omega
    · rw [decDigits, dif_neg h1, parse_append _ _ 0 (u / 10) (ih (u / 10) (by omega) (by omega)), parse_one (Nat.mod_lt _ (by decide)) (by omega) (by omega)]
      congr 1
      omega
theorem digits_head (u : Nat) : ∃ c r, decDigits u = c :: r ∧ 48 ≤ c.toNat ∧ c.toNat ≤ 57 := by
  induction u using Nat.strongRecOn with
  | _ u ih =>
    by_cases h1 : u < 10
    · refine ⟨_, _, by rw [decDigits, dif_pos h1], ?_, ?_⟩ <;> rw [digit_nat h1] <;> omega
    · obtain ⟨c, r, e, h2, h3⟩ := ih (u / 10) (by omega)
      exact ⟨c, r ++ [UInt8.ofNat (48 + u % 10)], by rw [decDigits, dif_neg h1, e]; rfl, h2, h3⟩
theorem mag_digits (u : Nat) (h : u < 18446744073709551616) : parseMag (decDigits u) = .ok u := by
  obtain ⟨c, r, e, _, _⟩ := digits_head u
  unfold parseMag
  rw [if_neg (by rw [e]; simp), parse_digits u h]

/-- The library's parse gives back the int of which the numeral was made. -/
theorem atoi_itoa (n : Int) (h0 : -9223372036854775808 ≤ n) (h1 : n ≤ 9223372036854775807) : atoiAll (itoa n) = .ok n := by
  by_cases hneg : n < 0
  · have e : itoa n = 45 :: decDigits n.natAbs := by unfold itoa; rw [if_pos hneg]
    have hm := mag_digits n.natAbs (by omega)
    rw [e]
    unfold atoiAll
    have e45 : (45 : UInt8).toNat = 45 := rfl
    simp only [e45, or_true, if_true, hm, not_true_eq_false, false_and, if_false, true_and]
    rw [if_neg (by omega)]
    congr 1
    omega
  · have e : itoa n = decDigits n.toNat := by unfold itoa; rw [if_neg hneg]
    have hm := mag_digits n.toNat (by omega)
    obtain ⟨c, r, hc, c1, c2⟩ := digits_head n.toNat
    rw [e]
    rw [hc] at hm ⊢
    unfold atoiAll
    simp only []
    rw [if_neg (by omega), hm]
    simp only []
    rw [if_neg (by omega), if_neg (by omega), if_neg (by omega)]
    congr 1
    omega


/-! Words. -/
def hdW (k : Int) : List UInt8 :=
  if k = 1 then [117, 110, 105, 113, 117, 101]
  else if k = 2 then [101, 120, 105, 115, 116, 115]
  else if k = 3 then [107, 105, 110, 100]
  else if k = 4 then [101, 100, 103, 101, 32, 101, 120, 105, 115, 116, 115]
  else if k = 5 then [101, 100, 103, 101, 32, 107, 105, 110, 100]
  else if k = 6 then [101, 110, 100, 115]
  else if k = 7 then [109, 97, 120, 111, 117, 116] else []
def kwW (n : Int) : List UInt8 := if n = 1 then [98, 111, 111, 108] else if n = 2 then [105, 110, 116] else if n = 4 then [115, 116, 114] else []
def kwN (s : List UInt8) : Int := if s = [98, 111, 111, 108] then 1 else if s = [105, 110, 116] then 2 else if s = [115, 116, 114] then 4 else 0
def endW (s : List UInt8) : List UInt8 := if s.isEmpty = true then [42] else s
def endO (s : List UInt8) : List UInt8 := if s = [42] then [] else s
/-- What stands behind the words of its kind. -/
def wrdR (r : Rl) : List (List UInt8) :=
  if keyK r.kd = true then (if kindK r.kd = true then [r.nm, r.ky, kwW r.nn] else [r.nm, r.ky])
  else if r.kd = 6 then [r.nm, endW r.fr, endW r.tt] else [r.nm, itoa r.nn]
def txtR (r : Rl) : List UInt8 := if chkR r = 0 then join (hdW r.kd :: wrdR r) [32] else []

/-! Reading. -/
def cutA (l : List UInt8) : List UInt8 := l.takeWhile (· != 32)
def cutB (l : List UInt8) : List UInt8 := (l.dropWhile (· != 32)).drop 1
def restR (k : Int) (s : List UInt8) : List UInt8 := s.drop ((hdW k).length + 1)
/-- The word that is read as a number. -/
def numW (k : Int) (s : List UInt8) : List UInt8 := cutA (cutB (restR k s))
def rulR (k n : Int) (t : List UInt8) : Rl :=
  ⟨k, if kindK k = true then kwN (cutA (cutB (cutB t))) else if k = 7 then n else 0, cutA t, if keyK k = true then cutA (cutB t) else [], if k = 6 then endO (cutA (cutB t)) else [], if k = 6 then endO (cutA (cutB (cutB t))) else []⟩
/-- n: the number that the word is read as. -/
def readR (k n : Int) (s : List UInt8) : Option Rl := if hasPrefix s (hdW k ++ [32]) = true then some (rulR k n (restR k s)) else none

def NoSp (l : List UInt8) : Prop := ∀ c ∈ l, (c != 32) = true
theorem cutA_app {x : List UInt8} (h : NoSp x) (y : List UInt8) : cutA (x ++ 32 :: y) = x := by
  unfold cutA
  rw [List.takeWhile_append_of_pos h]
  simp
theorem cutB_app {x : List UInt8} (h : NoSp x) (y : List UInt8) : cutB (x ++ 32 :: y) = y := by
  unfold cutB
  rw [List.dropWhile_append_of_pos h]
  simp
theorem cutA_one {x : List UInt8} (h : NoSp x) : cutA x = x := by
  unfold cutA
  have := List.takeWhile_append_of_pos (l₂ := []) h
  simpa using this
theorem nosp_name {s : List UInt8} (h : nameV s = true) : NoSp s := by
  intro c hc
  unfold nameV at h
  simp only [Bool.and_eq_true, List.all_eq_true] at h
  have k := h.2 c hc
  rw [bne_iff_ne]
  rintro rfl
  revert k; decide
theorem name_ne {s : List UInt8} (h : nameV s = true) : s ≠ [] := by rintro rfl; revert h; decide
theorem name_star : nameV [42] = false := by decide
theorem nosp_kw (n : Int) : NoSp (kwW n) := by
  unfold kwW NoSp
  split
  · decide
  · split
    · decide
    · split <;> decide
theorem end_nosp {s : List UInt8} (h : endR s = true) : NoSp (endW s) := by
  unfold endR at h
  unfold endW
  cases e : s.isEmpty with
  | true => rw [if_pos rfl]; unfold NoSp; decide
  | false => rw [e, Bool.false_or] at h; rw [if_neg Bool.false_ne_true]; exact nosp_name h
theorem end_back {s : List UInt8} (h : endR s = true) : endO (endW s) = s := by
  unfold endR at h
  unfold endW endO
  cases e : s.isEmpty with
  | true => rw [if_pos rfl, if_pos rfl]; exact (List.isEmpty_iff.1 e).symm
  | false =>
    rw [e, Bool.false_or] at h
    rw [if_neg Bool.false_ne_true, if_neg]
    rintro rfl
    rw [name_star] at h; cases h
theorem kw_back {n : Int} (h : kwV n = true) : kwN (kwW n) = n := by
  unfold kwV at h
  rcases (by simpa using h : (n = 1 ∨ n = 2) ∨ n = 4) with (rfl | rfl) | rfl <;> decide
theorem join2 (a b c : List UInt8) : join [a, b, c] [32] = a ++ 32 :: (b ++ 32 :: c) := by simp [join, List.intercalate]
theorem join3 (a b c d : List UInt8) : join [a, b, c, d] [32] = a ++ 32 :: (b ++ 32 :: (c ++ 32 :: d)) := by simp [join, List.intercalate]
theorem pre_app (a y : List UInt8) : hasPrefix (a ++ 32 :: y) (a ++ [32]) = true := by
  unfold hasPrefix
  rw [List.isPrefixOf_iff_prefix]
  exact ⟨y, by simp⟩
theorem rest_app (k : Int) (y : List UInt8) : restR k (hdW k ++ 32 :: y) = y := by
  unfold restR
  rw [show hdW k ++ 32 :: y = (hdW k ++ [32]) ++ y by simp, List.drop_append_of_le_length (by simp)]
  simp
/-- What a valid rule is. -/
theorem chk_0 {r : Rl} (h : chkR r = 0) : isK r.kd = true ∧ moreR r = true ∧ numR r = true ∧ nmsR r = true := by
  unfold chkR at h
  split at h
  · rename_i k
    rw [Bool.and_eq_true, Bool.and_eq_true] at k
    split at h
    · rename_i m; exact ⟨k.1, k.2.1, k.2.2, m⟩
    · cases h
  · cases h
theorem decD_nosp (u : Nat) : NoSp (decDigits u) := by
  induction u using Nat.strongRecOn with
  | _ u ih =>
    intro c hc
    have dg : ∀ v : Nat, v < 10 → (UInt8.ofNat (48 + v) != 32) = true := by decide
    rw [decDigits] at hc
    split at hc
    · rename_i h
      rw [List.mem_singleton] at hc
      subst hc; exact dg u h
    · rename_i h
      rcases List.mem_append.1 hc with q | q
      · exact ih (u / 10) (by omega) c q
      · rw [List.mem_singleton] at q
        subst q; exact dg _ (Nat.mod_lt _ (by decide))
theorem itoa_nosp {n : Int} (h : 0 ≤ n) : NoSp (itoa n) := by
  unfold itoa
  rw [if_neg (by omega)]
  exact decD_nosp _
theorem isK_cases {k : Int} (h : isK k = true) : k = 1 ∨ k = 2 ∨ k = 3 ∨ k = 4 ∨ k = 5 ∨ k = 6 ∨ k = 7 := by
  unfold isK at h
  simp only [Bool.and_eq_true, decide_eq_true_eq] at h
  omega
/-- The text of a valid rule: the words of its kind, a space, the rest. -/
theorem txt_hd {r : Rl} (h : chkR r = 0) : ∃ y, txtR r = hdW r.kd ++ 32 :: y := by
  unfold txtR wrdR
  rw [if_pos h]
  split
  · split
    · exact ⟨_, join3 _ _ _ _⟩
    · exact ⟨_, join2 _ _ _⟩
  · split
    · exact ⟨_, join3 _ _ _ _⟩
    · exact ⟨_, join2 _ _ _⟩
theorem txt_read {r : Rl} (h : chkR r = 0) : (r.kd = 7 → numW r.kd (txtR r) = itoa r.nn) ∧ ∀ n, (r.kd = 7 → n = r.nn) → readR r.kd n (txtR r) = some r := by
  obtain ⟨h1, h2, h3, h4⟩ := chk_0 h
  have hk := isK_cases h1
  unfold moreR at h2
  unfold numR at h3
  unfold nmsR at h4
  unfold txtR wrdR
  rw [if_pos h]
  obtain ⟨k, nn, nm, ky, fr, tt⟩ := r
  simp only [Bool.and_eq_true] at h2 h3 h4 hk ⊢
  obtain ⟨h5, h6, h7, h8⟩ := h4
  have s1 := nosp_name h5
  clear h h1
  rcases hk with rfl | rfl | rfl | rfl | rfl | rfl | rfl
  · simp [keyK, kindK] at h2 h3 h6 ⊢
    obtain ⟨rfl, rfl⟩ := h2
    subst h3
    rw [join2]
    have s2 := nosp_name h6
    intro n
    unfold readR
    rw [if_pos (pre_app _ _), rest_app]
    simp [rulR, keyK, kindK, cutA_app s1, cutB_app s1, cutA_one s2]
  · simp [keyK, kindK] at h2 h3 h6 ⊢
    obtain ⟨rfl, rfl⟩ := h2
    subst h3
    rw [join2]
    have s2 := nosp_name h6
    intro n
    unfold readR
    rw [if_pos (pre_app _ _), rest_app]
    simp [rulR, keyK, kindK, cutA_app s1, cutB_app s1, cutA_one s2]
  · simp [keyK, kindK] at h2 h3 h6 ⊢
    obtain ⟨rfl, rfl⟩ := h2
    rw [join3]
    have s2 := nosp_name h6
    intro n
    unfold readR
    rw [if_pos (pre_app _ _), rest_app]
    simp [rulR, keyK, kindK, cutA_app s1, cutB_app s1, cutA_app s2, cutB_app s2, cutA_one (nosp_kw nn), kw_back h3]
  · simp [keyK, kindK] at h2 h3 h6 ⊢
    obtain ⟨rfl, rfl⟩ := h2
    subst h3
    rw [join2]
    have s2 := nosp_name h6
    intro n
    unfold readR
    rw [if_pos (pre_app _ _), rest_app]
    simp [rulR, keyK, kindK, cutA_app s1, cutB_app s1, cutA_one s2]
  · simp [keyK, kindK] at h2 h3 h6 ⊢
    obtain ⟨rfl, rfl⟩ := h2
    rw [join3]
    have s2 := nosp_name h6
    intro n
    unfold readR
    rw [if_pos (pre_app _ _), rest_app]
    simp [rulR, keyK, kindK, cutA_app s1, cutB_app s1, cutA_app s2, cutB_app s2, cutA_one (nosp_kw nn), kw_back h3]
  · simp [keyK, kindK] at h2 h3 h6 ⊢
    subst h2
    subst h3
    rw [join3]
    have s2 := end_nosp h7
    have s3 := end_nosp h8
    intro n
    unfold readR
    rw [if_pos (pre_app _ _), rest_app]
    simp [rulR, keyK, kindK, cutA_app s1, cutB_app s1, cutA_app s2, cutB_app s2, cutA_one s3, end_back h7, end_back h8]
  · simp [keyK, kindK] at h2 h3 h6 ⊢
    obtain ⟨rfl, rfl, rfl⟩ := h2
    rw [join2]
    have s2 := itoa_nosp h3.1
    refine ⟨?_, ?_⟩
    · unfold numW
      rw [rest_app, cutB_app s1, cutA_one s2]
    · unfold readR
      rw [if_pos (pre_app _ _), rest_app]
      simp [rulR, keyK, kindK, cutA_app s1]
/-- No text of one kind's words begins with another kind's. -/
theorem hd_unlike {k j : Int} (hk : isK k = true) (hj : isK j = true) {x y : List UInt8} (h : hdW k ++ 32 :: x = hdW j ++ 32 :: y) : k = j := by
  have a : (hdW k ++ [32]).isPrefixOf (hdW j ++ [32]) = true ∨ (hdW j ++ [32]).isPrefixOf (hdW k ++ [32]) = true := by
    have p : (hdW k ++ [32]) <+: hdW j ++ 32 :: y := ⟨x, by rw [← h]; simp⟩
    have q : (hdW j ++ [32]) <+: hdW j ++ 32 :: y := ⟨y, by simp⟩
    rcases Nat.le_total (hdW k ++ [32]).length (hdW j ++ [32]).length with l | l
    · exact .inl (List.isPrefixOf_iff_prefix.2 (List.prefix_of_prefix_length_le p q l))
    · exact .inr (List.isPrefixOf_iff_prefix.2 (List.prefix_of_prefix_length_le q p l))
  clear h
  rcases isK_cases hk with rfl | rfl | rfl | rfl | rfl | rfl | rfl <;> rcases isK_cases hj with rfl | rfl | rfl | rfl | rfl | rfl | rfl <;> first | rfl | (exfalso; revert a; decide)
theorem txt_kd {r : Rl} (h : chkR r = 0) {k : Int} (hk : isK k = true) (hp : hasPrefix (txtR r) (hdW k ++ [32]) = true) : r.kd = k := by
  obtain ⟨y, hy⟩ := txt_hd h
  unfold hasPrefix at hp
  rw [List.isPrefixOf_iff_prefix] at hp
  obtain ⟨z, hz⟩ := hp
  rw [hy, List.append_assoc] at hz
  exact hd_unlike (chk_0 h).1 hk (x := y) (y := z) hz.symm
/-- Different valid rules have different texts. -/
theorem txt_inj {r q : Rl} (h : chkR r = 0) (k : chkR q = 0) (e : txtR r = txtR q) : r = q := by
  have hk : r.kd = q.kd := by
    obtain ⟨y, hy⟩ := txt_hd h
    obtain ⟨z, hz⟩ := txt_hd k
    rw [hy, hz] at e
    exact hd_unlike (chk_0 h).1 (chk_0 k).1 e
  obtain ⟨a1, a2⟩ := txt_read h
  obtain ⟨b1, b2⟩ := txt_read k
  by_cases h7 : r.kd = 7
  · have i1 := a1 h7
    have i2 := b1 (hk ▸ h7)
    rw [e, hk] at i1
    have i3 : itoa r.nn = itoa q.nn := by rw [← i1, i2]
    have c1 := (chk_0 h).2.2.1
    have c2 := (chk_0 k).2.2.1
    unfold numR at c1 c2
    rw [hk] at h7
    rw [hk, h7] at c1
    rw [h7] at c2
    simp [kindK] at c1 c2
    have hn : r.nn = q.nn := by
      have u1 := atoi_itoa r.nn (by omega) (by omega)
      have u2 := atoi_itoa q.nn (by omega) (by omega)
      rw [i3, u2] at u1
      injection u1 with u1
      exact u1.symm
    have v1 := a2 q.nn (fun _ => hn.symm)
    have v2 := b2 q.nn (fun _ => rfl)
    rw [e, hk, v2] at v1
    exact (Option.some.inj v1).symm
  · have v1 := a2 0 (fun g => absurd g h7)
    have v2 := b2 0 (fun g => absurd (hk.trans g) h7)
    rw [e, hk, v2] at v1
    exact (Option.some.inj v1).symm
end Go.Proofs.YtadnaakbhgacgaaDoor
