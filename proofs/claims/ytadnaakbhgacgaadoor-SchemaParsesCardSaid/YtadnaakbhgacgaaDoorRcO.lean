/-
  The reference of package schema: of a valid rule's text the words, and of them the rule; which rule Parse must answer. Nothing that was there turns.
-/
import Derived.Test.YtadnaakbhgacgaaDoorRcK
import Derived.Test.YtadnaakbhgacgaaDoorRcL
import Derived.Test.YtadnaakbhgacgaaDoorScV
namespace Go.Proofs.YtadnaakbhgacgaaDoor
open Go.RowKit
open Go.Lib (itoa join decDigits)

theorem spl_len : ∀ (l x : List UInt8), x ∈ spl l → x.length ≤ l.length
  | [], x, h => by
    have : x = [] := by simpa [spl] using h
    subst this; simp
  | c :: t, x, h => by
    rw [spl_c] at h
    split at h
    · rcases List.mem_cons.1 h with rfl | h
      · simp
      · have := spl_len t x h; simp; omega
    · obtain ⟨y, r, e⟩ := spl_ne t
      rw [e] at h
      rcases List.mem_cons.1 h with rfl | h
      · have := spl_len t y (by rw [e]; simp); simp; omega
      · have := spl_len t x (by rw [e]; exact List.mem_cons_of_mem _ h); simp; omega
theorem spl_cnt : ∀ (l : List UInt8), (spl l).length ≤ l.length + 1
  | [] => by simp [spl]
  | c :: t => by
    have := spl_cnt t
    rw [spl_c]
    split
    · simp; omega
    · obtain ⟨y, r, e⟩ := spl_ne t
      rw [e] at this ⊢
      simp at this ⊢; omega
theorem words_ok (l : List UInt8) : (wordsV l).length ≤ 300 ∧ ∀ x ∈ wordsV l, x.length ≤ 200 := by
  unfold wordsV
  split
  · exact ⟨by simp, fun x hx => by cases hx⟩
  · have h1 := spl_cnt l
    exact ⟨by omega, fun x hx => by have := spl_len l x hx; omega⟩
theorem numG_in : ∀ (l : List UInt8) (n : Int), I64 n → I64 (numG l n)
  | [], n, h => h
  | c :: r, n, h => by
    unfold numG
    split
    · exact numG_in r _ (w64_in _)
    · exact h
theorem endO_len (s : List UInt8) : (endO s).length ≤ s.length := by
  unfold endO; split
  · simp
  · exact Nat.le_refl _
theorem gs_in (l : List (List UInt8)) (hm : ∀ x ∈ l, x.length ≤ 200) : RIn (gsV l) := by
  have z : (0 : Nat) ≤ maxLen := Nat.zero_le _
  have L2 : (200 : Nat) ≤ maxLen := by unfold maxLen; decide
  match l, hm with
  | [], _ => exact nilR_in
  | [_], _ => exact nilR_in
  | [_, _], _ => exact nilR_in
  | x0 :: x1 :: x2 :: t, hm =>
    have a1 := hm x1 (by simp)
    have a2 := hm x2 (by simp)
    have ah : (t.headD []).length ≤ 200 := by
      cases t with
      | nil => simp
      | cons y r => exact hm y (by simp)
    have e2 := endO_len x2
    have eh := endO_len (t.headD [])
    have cI : ∀ k : Int, 0 ≤ k → k ≤ 9 → I64 k := fun k h1 h2 => by unfold I64; omega
    rw [gsV]
    split
    · split
      · exact ⟨cI 4 (by decide) (by decide), i0, by show x2.length ≤ _; omega, by show (t.headD []).length ≤ _; omega, z, z⟩
      · split
        · exact ⟨cI 5 (by decide) (by decide), kwN_in _, by show x2.length ≤ _; omega, by show (t.headD []).length ≤ _; omega, z, z⟩
        · exact nilR_in
    · split
      · exact ⟨cI 1 (by decide) (by decide), i0, by show x1.length ≤ _; omega, by show x2.length ≤ _; omega, z, z⟩
      · split
        · exact ⟨cI 2 (by decide) (by decide), i0, by show x1.length ≤ _; omega, by show x2.length ≤ _; omega, z, z⟩
        · split
          · exact ⟨cI 3 (by decide) (by decide), kwN_in _, by show x1.length ≤ _; omega, by show x2.length ≤ _; omega, z, z⟩
          · split
            · exact ⟨cI 6 (by decide) (by decide), i0, by show x1.length ≤ _; omega, z, by show (endO x2).length ≤ _; omega, by show (endO (t.headD [])).length ≤ _; omega⟩
            · exact ⟨cI 7 (by decide) (by decide), numG_in _ _ i0, by show x1.length ≤ _; omega, z, z, z⟩
theorem numG_digits (m : Nat) : m ≤ 4000 → ∀ t, numG (decDigits m ++ t) 0 = numG t (m : Int) := by
  induction m using Nat.strongRecOn with
  | _ m ih =>
    intro hm t
    have st : ∀ (k d : Nat), k ≤ 400 → d < 10 → ∀ t, numG (UInt8.ofNat (48 + d) :: t) (k : Int) = numG t ((k * 10 + d : Nat) : Int) := fun k d hk hd t => by
      conv => lhs; unfold numG
      rw [if_pos (by omega), digit_nat hd]
      congr 1
      rw [IntWalk.wrap64_in ((k : Int) * 10) (by omega), IntWalk.wrap64_in (((48 + d : Nat)) : Int) (by omega), IntWalk.wrap64_in ((k : Int) * 10 + ((48 + d : Nat) : Int)) (by omega), IntWalk.wrap64_in ((k : Int) * 10 + ((48 + d : Nat) : Int) - 48) (by omega)]
      omega
    by_cases h1 : m < 10
    · rw [decDigits, dif_pos h1]
      have := st 0 m (by omega) h1 t
      simpa using this
    · rw [decDigits, dif_neg h1, List.append_assoc, ih (m / 10) (by omega) (by omega)]
      have := st (m / 10) (m % 10) (by omega) (Nat.mod_lt _ (by decide)) t
      rw [show m / 10 * 10 + m % 10 = m by omega] at this
      exact this
theorem numG_itoa {n : Int} (h0 : 0 ≤ n) (h1 : n ≤ 4000) : numG (itoa n) 0 = n := by
  obtain ⟨m, rfl⟩ : ∃ m : Nat, n = (m : Int) := ⟨n.toNat, by omega⟩
  have e : itoa (m : Int) = decDigits m := by unfold itoa; rw [if_neg (by omega)]; rfl
  have := numG_digits m (by omega) []
  rw [List.append_nil] at this
  rw [e, this]; rfl
/-- Of a valid rule's text. -/
theorem gs_txt {r : Rl} (h : chkR r = 0) : gsV (wordsV (txtR r)) = r := by
  obtain ⟨h1, h2, h3, h4⟩ := chk_0 h
  have hk := isK_cases h1
  unfold moreR at h2
  unfold numR at h3
  unfold nmsR at h4
  unfold txtR wrdR
  rw [if_pos h]
  obtain ⟨k, nn, nm, ky, fr, tt⟩ := r
  simp only [Bool.and_eq_true] at h2 h3 h4 hk ⊢
  obtain ⟨h5, h6, h7, h8⟩ := h4
  have s1 := nosp_name h5
  have l1 := name_len h5
  clear h h1
  rcases hk with rfl | rfl | rfl | rfl | rfl | rfl | rfl
  · simp [keyK, kindK] at h2 h3 h6
    obtain ⟨rfl, rfl⟩ := h2
    subst h3
    have n1 : NoSp (ky) := nosp_name h6
    have m1 := name_len h6
    rw [show hdW 1 = [117, 110, 105, 113, 117, 101] from by decide]
    have e : join ([117, 110, 105, 113, 117, 101] :: [nm, ky]) [32] = ([117, 110, 105, 113, 117, 101] : List UInt8) ++ 32 :: (nm ++ 32 :: (ky)) := by rw [join2]; first | done | simp
    have ew : wordsV (join ([117, 110, 105, 113, 117, 101] :: [nm, ky]) [32]) = [[117, 110, 105, 113, 117, 101], nm, ky] := by
      unfold wordsV
      rw [if_neg (by rw [e]; simp; omega), e, spl_app (show NoSp [117, 110, 105, 113, 117, 101] by unfold NoSp; decide), spl_app s1, spl_one n1]
    simp [keyK, kindK, ew, gsV]
  · simp [keyK, kindK] at h2 h3 h6
    obtain ⟨rfl, rfl⟩ := h2
    subst h3
    have n1 : NoSp (ky) := nosp_name h6
    have m1 := name_len h6
    rw [show hdW 2 = [101, 120, 105, 115, 116, 115] from by decide]
    have e : join ([101, 120, 105, 115, 116, 115] :: [nm, ky]) [32] = ([101, 120, 105, 115, 116, 115] : List UInt8) ++ 32 :: (nm ++ 32 :: (ky)) := by rw [join2]; first | done | simp
    have ew : wordsV (join ([101, 120, 105, 115, 116, 115] :: [nm, ky]) [32]) = [[101, 120, 105, 115, 116, 115], nm, ky] := by
      unfold wordsV
      rw [if_neg (by rw [e]; simp; omega), e, spl_app (show NoSp [101, 120, 105, 115, 116, 115] by unfold NoSp; decide), spl_app s1, spl_one n1]
    simp [keyK, kindK, ew, gsV]
  · simp [keyK, kindK] at h2 h3 h6
    obtain ⟨rfl, rfl⟩ := h2
    have n1 : NoSp (ky) := nosp_name h6
    have m1 := name_len h6
    have n2 : NoSp (kwW nn) := nosp_kw nn
    have m2 := kw_len nn
    rw [show hdW 3 = [107, 105, 110, 100] from by decide]
    have e : join ([107, 105, 110, 100] :: [nm, ky, kwW nn]) [32] = ([107, 105, 110, 100] : List UInt8) ++ 32 :: (nm ++ 32 :: (ky ++ 32 :: (kwW nn))) := by rw [join3]; first | done | simp
    have ew : wordsV (join ([107, 105, 110, 100] :: [nm, ky, kwW nn]) [32]) = [[107, 105, 110, 100], nm, ky, kwW nn] := by
      unfold wordsV
      rw [if_neg (by rw [e]; simp; omega), e, spl_app (show NoSp [107, 105, 110, 100] by unfold NoSp; decide), spl_app s1, spl_app n1, spl_one n2]
    simp [keyK, kindK, ew, gsV, kw_back h3]
  · simp [keyK, kindK] at h2 h3 h6
    obtain ⟨rfl, rfl⟩ := h2
    subst h3
    have n1 : NoSp (ky) := nosp_name h6
    have m1 := name_len h6
    rw [show hdW 4 = [101, 100, 103, 101, 32, 101, 120, 105, 115, 116, 115] from by decide]
    have e : join ([101, 100, 103, 101, 32, 101, 120, 105, 115, 116, 115] :: [nm, ky]) [32] = ([101, 100, 103, 101] : List UInt8) ++ 32 :: (([101, 120, 105, 115, 116, 115] : List UInt8) ++ 32 :: (nm ++ 32 :: (ky))) := by rw [join2]; first | done | simp
    have ew : wordsV (join ([101, 100, 103, 101, 32, 101, 120, 105, 115, 116, 115] :: [nm, ky]) [32]) = [[101, 100, 103, 101], [101, 120, 105, 115, 116, 115], nm, ky] := by
      unfold wordsV
      rw [if_neg (by rw [e]; simp; omega), e, spl_app (show NoSp [101, 100, 103, 101] by unfold NoSp; decide), spl_app (show NoSp [101, 120, 105, 115, 116, 115] by unfold NoSp; decide), spl_app s1, spl_one n1]
    simp [keyK, kindK, ew, gsV]
  · simp [keyK, kindK] at h2 h3 h6
    obtain ⟨rfl, rfl⟩ := h2
    have n1 : NoSp (ky) := nosp_name h6
    have m1 := name_len h6
    have n2 : NoSp (kwW nn) := nosp_kw nn
    have m2 := kw_len nn
    rw [show hdW 5 = [101, 100, 103, 101, 32, 107, 105, 110, 100] from by decide]
    have e : join ([101, 100, 103, 101, 32, 107, 105, 110, 100] :: [nm, ky, kwW nn]) [32] = ([101, 100, 103, 101] : List UInt8) ++ 32 :: (([107, 105, 110, 100] : List UInt8) ++ 32 :: (nm ++ 32 :: (ky ++ 32 :: (kwW nn)))) := by rw [join3]; first | done | simp
    have ew : wordsV (join ([101, 100, 103, 101, 32, 107, 105, 110, 100] :: [nm, ky, kwW nn]) [32]) = [[101, 100, 103, 101], [107, 105, 110, 100], nm, ky, kwW nn] := by
      unfold wordsV
      rw [if_neg (by rw [e]; simp; omega), e, spl_app (show NoSp [101, 100, 103, 101] by unfold NoSp; decide), spl_app (show NoSp [107, 105, 110, 100] by unfold NoSp; decide), spl_app s1, spl_app n1, spl_one n2]
    simp [keyK, kindK, ew, gsV, kw_back h3]
  · simp [keyK, kindK] at h2 h3
    subst h2
    subst h3
    have n1 : NoSp (endW fr) := end_nosp h7
    have m1 := endW_len h7
    have n2 : NoSp (endW tt) := end_nosp h8
    have m2 := endW_len h8
    rw [show hdW 6 = [101, 110, 100, 115] from by decide]
    have e : join ([101, 110, 100, 115] :: [nm, endW fr, endW tt]) [32] = ([101, 110, 100, 115] : List UInt8) ++ 32 :: (nm ++ 32 :: (endW fr ++ 32 :: (endW tt))) := by rw [join3]; first | done | simp
    have ew : wordsV (join ([101, 110, 100, 115] :: [nm, endW fr, endW tt]) [32]) = [[101, 110, 100, 115], nm, endW fr, endW tt] := by
      unfold wordsV
      rw [if_neg (by rw [e]; simp; omega), e, spl_app (show NoSp [101, 110, 100, 115] by unfold NoSp; decide), spl_app s1, spl_app n1, spl_one n2]
    simp [keyK, ew, gsV, end_back h7, end_back h8]
  · simp [keyK, kindK] at h2 h3
    obtain ⟨rfl, rfl, rfl⟩ := h2
    have n1 : NoSp (itoa nn) := itoa_nosp h3.1
    have m1 := Lib.itoa_length_le nn (by omega) (by omega)
    rw [show hdW 7 = [109, 97, 120, 111, 117, 116] from by decide]
    have e : join ([109, 97, 120, 111, 117, 116] :: [nm, itoa nn]) [32] = ([109, 97, 120, 111, 117, 116] : List UInt8) ++ 32 :: (nm ++ 32 :: (itoa nn)) := by rw [join2]; first | done | simp
    have ew : wordsV (join ([109, 97, 120, 111, 117, 116] :: [nm, itoa nn]) [32]) = [[109, 97, 120, 111, 117, 116], nm, itoa nn] := by
      unfold wordsV
      rw [if_neg (by rw [e]; simp; omega), e, spl_app (show NoSp [109, 97, 120, 111, 117, 116] by unfold NoSp; decide), spl_app s1, spl_one n1]
    simp [keyK, ew, gsV, numG_itoa h3.1 h3.2]
theorem par_ne {l : List UInt8} {r : Rl} : ∀ n, parG l n = some r → l ≠ []
  | 0, h => by cases h
  | n + 1, h => by
    unfold parG at h
    split at h
    · rename_i q hq
      have h1 := hit_rd hq
      unfold readR at h1
      split at h1
      · rename_i hp
        rintro rfl
        have : (hdW (7 - n : Int) ++ [32]).isPrefixOf [] = true := hp
        cases e : hdW (7 - n : Int) with
        | nil => rw [e] at this; cases this
        | cons c d => rw [e] at this; cases this
      · cases h1
    · exact par_ne n h
/-- What Parse must answer: the one rule that the words allow, if its text is the text. -/
theorem par_is (l : List UInt8) : (chkR (gsV (wordsV l)) = 0 ∧ txtR (gsV (wordsV l)) = l ∧ parR l = some (gsV (wordsV l))) ∨ (¬ (chkR (gsV (wordsV l)) = 0 ∧ txtR (gsV (wordsV l)) = l) ∧ parR l = none) := by
  by_cases h : chkR (gsV (wordsV l)) = 0 ∧ txtR (gsV (wordsV l)) = l
  · refine .inl ⟨h.1, h.2, ?_⟩
    have := par_self h.1
    rwa [h.2] at this
  · refine .inr ⟨h, ?_⟩
    cases hp : parR l with
    | none => rfl
    | some r =>
      exfalso
      have ht := par_txt hp
      have hc : chkR r = 0 := txt_chk (by rw [ht]; exact par_ne 7 hp)
      have e := gs_txt hc
      rw [ht] at e
      exact h (by rw [e]; exact ⟨hc, ht⟩)
end Go.Proofs.YtadnaakbhgacgaaDoor
