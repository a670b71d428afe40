/-
  Parse of the reference returns what Parse of package num returns, for every string of at most 281474976710656 bytes. No condition on the world, which has only grown.
-/
import Derived.Test.YtaliaoncpemmoaaDoorRefText
namespace Go.Proofs.YtaliaoncpemmoaaDoor
open Go.RowKit Go.Lib

def dstep (a : Nat) (c : UInt8) : Nat := if 48 ≤ c.toNat ∧ c.toNat ≤ 57 then a * 10 + (c.toNat - 48) else a
def refN (l : List UInt8) : Nat := l.foldl dstep 0
def refI (l : List UInt8) : Int := refN l
theorem refN_snoc (l : List UInt8) (c : UInt8) : refN (l ++ [c]) = dstep (refN l) c := by unfold refN; rw [List.foldl_append]; rfl
theorem refN_lt (l : List UInt8) : refN l < 10 ^ l.length := by
  suffices h : ∀ (l : List UInt8) (a k : Nat), a < 10 ^ k → l.foldl dstep a < 10 ^ (k + l.length) by
    have := h l 0 0 (by decide); rwa [Nat.zero_add] at this
  intro l
  induction l with
  | nil => intro a k h; exact h
  | cons c r ih =>
    intro a k h
    rw [List.foldl_cons, List.length_cons, show k + (r.length + 1) = (k + 1) + r.length by omega]
    refine ih _ (k + 1) ?_
    unfold dstep
    rw [Nat.pow_succ]
    split <;> omega
theorem refI_0 (l : List UInt8) : 0 ≤ refI l := by unfold refI; omega
theorem refI_small {l : List UInt8} (h : l.length ≤ 17) : refI l ≤ 100000000000000000 := by
  have a := refN_lt l
  have b : 10 ^ l.length ≤ 10 ^ 17 := Nat.pow_le_pow_right (by decide) h
  unfold refI
  omega
theorem refI_dig {l : List UInt8} {c : UInt8} (h0 : 48 ≤ (c.toNat : Int)) (h1 : (c.toNat : Int) ≤ 57) : refI (l ++ [c]) = refI l * 10 + ((c.toNat : Int) - 48) := by
  unfold refI; rw [refN_snoc]; unfold dstep; rw [if_pos ⟨by omega, by omega⟩]; omega
theorem refI_not {l : List UInt8} {c : UInt8} (h : ¬ (48 ≤ (c.toNat : Int) ∧ (c.toNat : Int) ≤ 57)) : refI (l ++ [c]) = refI l := by
  unfold refI; rw [refN_snoc]; unfold dstep; rw [if_neg (by omega)]
theorem take_snoc (s : ByteArray) (k : Nat) (h : k < s.size) : s.data.toList.take (k + 1) = s.data.toList.take k ++ [s[k]] := by
  rw [List.take_succ_eq_append_getElem (by simpa using h)]; rfl

theorem refN_digits (u : Nat) : refN (decDigits u) = u := by
  induction u using Nat.strongRecOn with
  | _ u ih =>
    by_cases h : u < 10
    · rw [decDigits, dif_pos h]
      show dstep 0 _ = u
      unfold dstep
      rw [digit_nat h, if_pos (by omega)]
      omega
    · rw [decDigits, dif_neg h, refN_snoc, ih (u / 10) (by omega)]
      unfold dstep
      rw [digit_nat (by omega), if_pos (by omega)]
      omega
theorem refI_neg (u : Nat) : refI (45 :: decDigits u) = u := by
  unfold refI
  have e : refN (45 :: decDigits u) = refN (decDigits u) := by
    unfold refN
    rw [List.foldl_cons]
    rfl
  rw [e, refN_digits]
theorem refI_pos (u : Nat) : refI (decDigits u) = u := by unfold refI; rw [refN_digits]

/-- What the reference reckons: the digits' number, negative behind a minus. -/
def refS (l : List UInt8) : Int := if l.head? = some 45 then -(refI l) else refI l
theorem refS_itoa (n : Int) : refS (itoa n) = n := by
  unfold itoa
  split
  · rename_i h
    unfold refS
    rw [if_pos (by rfl), refI_neg]
    omega
  · rename_i h
    obtain ⟨c, r, e, c1, c2⟩ := digits_head n.toNat
    unfold refS
    rw [if_neg (by
      rw [e]
      intro k
      have k' : c = 45 := by simpa using k
      rw [k'] at c1
      exact absurd c1 (by decide)), refI_pos]
    omega
theorem nDigits_le : ∀ (k u : Nat), u < 10 ^ (k + 1) → nDigits u ≤ k + 1
  | 0, u, h => by rw [nDigits_small (by simpa using h)]; exact Nat.le_refl _
  | k + 1, u, h => by
    by_cases h1 : u < 10
    · rw [nDigits_small h1]; omega
    · rw [nDigits_big h1]
      have := nDigits_le k (u / 10) (by rw [Nat.pow_succ] at h; omega)
      omega
theorem itoa_short {n : Int} (h0 : -1000000000000000 ≤ n) (h1 : n ≤ 1000000000000000) : (itoa n).length ≤ 17 := by
  have h := nDigits_le 15 n.natAbs (by have : (10 : Nat) ^ (15 + 1) = 10000000000000000 := by decide
                                       omega)
  unfold itoa
  split
  · rw [List.length_cons, decDigits_length]; omega
  · rw [decDigits_length, show n.toNat = n.natAbs by omega]; omega

theorem str_of {a b : ByteArray} (h : (a.toList == b.toList) = true) : a = b := by
  apply ByteArray.ext
  apply Array.toList_inj.1
  rw [← ByteArray.toList_eq, ← ByteArray.toList_eq]
  simpa using h
theorem parV_f {s : ByteArray} (h : parB s = false) : parV s = 0 := by
  unfold parB at h
  unfold parV
  cases hk : okOf (atoiAll s.data.toList) with
  | none => rfl
  | some v =>
    rw [hk] at h
    simp only at h ⊢
    rw [if_neg (by rw [h]; decide)]
theorem par_string {s : ByteArray} (h : parB s = true) : s = txt (parV s) ∧ s.data.toList = itoa (parV s) := by
  have e : s = txt (parV s) := (str_of (parB_t h).2).symm
  refine ⟨e, ?_⟩
  have k := txt_list (parV s)
  rw [← e] at k
  exact k
theorem par_long {s : ByteArray} (h : 17 < s.size) : parB s = false := by
  cases hb : parB s
  · rfl
  · obtain ⟨a, b⟩ := inB_t (parB_t hb).1
    have k := itoa_short a b
    rw [← (par_string hb).2] at k
    have e : s.data.toList.length = s.size := Array.length_toList
    omega
theorem par_refS {s : ByteArray} (h : parB s = true) : refS s.data.toList = parV s := by rw [(par_string h).2, refS_itoa]

theorem ret_pair {a b : Int} {c d : Bool} (h1 : a = b) (h2 : c = d) : Ending.returned (.tuple #[.int .i64 a, .bool c]) = .returned (.tuple #[.int .i64 b, .bool d]) := by rw [h1, h2]
theorem ref_yes {s : ByteArray} {N : Int} (hi : inB N = true) (he : ((txt N).toList == s.toList) = true) : parV s = N ∧ parB s = true := by
  obtain ⟨a, b⟩ := inB_t hi
  have e := str_of he
  subst e
  rw [parB_txt N (by omega) (by omega), parV_txt N (by omega) (by omega), if_pos hi]
  exact ⟨rfl, hi⟩
theorem ref_no {s : ByteArray} {N : Int} (hN : refS s.data.toList = N) (h : inB N = false ∨ ((txt N).toList == s.toList) = false) : parV s = 0 ∧ parB s = false := by
  cases hb : parB s
  · exact ⟨parV_f hb, rfl⟩
  · have e := (par_refS hb).symm.trans hN
    obtain ⟨a, b⟩ := parB_t hb
    rw [e] at a b
    rcases h with h | h
    · rw [a] at h; cases h
    · rw [b] at h; cases h
theorem head_of (s : ByteArray) (hp : 0 < s.size) : s.data.toList.head? = some (s[0]'hp) := by
  rw [List.head?_eq_getElem?, List.getElem?_eq_getElem (by simpa using hp)]
  rfl
theorem refS_min {s : ByteArray} (hp : 0 < s.size) (h : ((s[0]'hp).toNat : Int) = 45) : refS s.data.toList = -(refI s.data.toList) := by
  unfold refS
  rw [head_of s hp, if_pos (by
    congr 1
    exact UInt8.toNat_inj.1 (by show _ = 45; omega))]
theorem refS_plus {s : ByteArray} (hp : 0 < s.size) (h : ¬ ((s[0]'hp).toNat : Int) = 45) : refS s.data.toList = refI s.data.toList := by
  unfold refS
  rw [head_of s hp, if_neg (by
    intro k
    injection k with k
    rw [k] at h
    exact h rfl)]
theorem refS_none {s : ByteArray} (hp : ¬ 0 < s.size) : refS s.data.toList = refI s.data.toList := by
  unfold refS
  have e : s.data.toList = [] := by
    have : s.data.toList.length = s.size := Array.length_toList
    exact List.length_eq_zero_iff.1 (by omega)
  rw [e, if_neg (by decide)]

set_option maxHeartbeats 1600000 in
theorem rparse_loop (s : ByteArray) (hs : s.size ≤ 17) (w : World) :
    Calls Tryd.prog 26 #[.string s] w fun e w' => e = .returned (.tuple #[.int .i64 (parV s), .bool (parB s)]) ∧ Fur w w' := by
  go_enter Tryd.func26, Tryd.ntmps26
  go_wp2
  go_loop [4, 5] (fun n i => ∃ k : Nat, k ≤ s.size ∧ i = .int .i64 k ∧ n = .int .i64 (refI (s.data.toList.take k))) (fun _ i => s.size - (RowKit.intOf i).toNat)
  case atStart => exact ⟨0, Nat.zero_le _, rfl, rfl⟩
  case round =>
    obtain ⟨k, hk, rfl, rfl⟩ := hrel
    have l1 : (s.data.toList.take k).length ≤ 17 := Nat.le_trans (List.length_take_le _ _) (by omega)
    have i0 := refI_0 (s.data.toList.take k)
    have i1 := refI_small l1
    clear l1
    by_cases hlt : k < s.size
    · have hts := take_snoc s k hlt
      by_cases hd : 48 ≤ (s[k].toNat : Int) ∧ (s[k].toNat : Int) ≤ 57
      · have HS := Lib.hid ((congrArg refI hts).trans (refI_dig hd.1 hd.2))
        obtain ⟨c0, c1⟩ := hd
        clear hts
        go_wp2
        all_goals
          go_round
          case rel => exact ⟨k + 1, by omega, by go_num, by rw [HS.out]⟩
          case measure => simp [RowKit.intOf]; omega
      · have HS := Lib.hid ((congrArg refI hts).trans (refI_not hd))
        clear hts
        go_wp2
        all_goals
          go_round
          case rel => exact ⟨k + 1, by omega, by go_num, by rw [HS.out]⟩
          case measure => simp [RowKit.intOf]; omega
    · have e : k = s.size := by omega
      subst e
      have et : s.data.toList.take s.size = s.data.toList := List.take_of_length_le (by
        have : s.data.toList.length = s.size := Array.length_toList
        omega)
      rw [et] at i0 i1
      obtain ⟨R, hR⟩ : ∃ R, refI s.data.toList = R := ⟨_, rfl⟩
      rw [hR] at i0 i1
      have hT : refI (s.data.toList.take s.size) = R := by rw [et, hR]
      clear et hlt hk
      by_cases hp : 0 < s.size
      · by_cases h45 : ((s[0]'hp).toNat : Int) = 45
        · have hN := refS_min hp h45
          rw [hR] at hN
          clear hR
          cases hi : inB (-R)
          · obtain ⟨v1, v2⟩ := ref_no hN (.inl hi)
            have V1 := Lib.hid v1; have V2 := Lib.hid v2; clear v1 v2
            have HN := Lib.hid hN; clear hN
            go_wp2_with (first
              | (go_at_call 23; refine (rin_any _ _).mono ?_; rintro e w' ⟨rfl, rfl⟩)
              | (go_at_call 28; refine (rtext_any _ (by omega) (by omega) _).mono ?_; rintro e w' ⟨rfl, hf⟩))
            go_ret2
            exact ⟨ret_pair V1.out.symm V2.out.symm, Fur.refl _⟩
          · cases he : ((txt (-R)).toList == s.toList)
            · obtain ⟨v1, v2⟩ := ref_no hN (.inr he)
              have V1 := Lib.hid v1; have V2 := Lib.hid v2; clear v1 v2
              have HN := Lib.hid hN; clear hN
              go_wp2_with (first
                | (go_at_call 23; refine (rin_any _ _).mono ?_; rintro e w' ⟨rfl, rfl⟩)
                | (go_at_call 28; refine (rtext_any _ (by omega) (by omega) _).mono ?_; rintro e w' ⟨rfl, hf⟩))
              go_ret2
              exact ⟨ret_pair V1.out.symm V2.out.symm, hf⟩
            · obtain ⟨v1, v2⟩ := ref_yes hi he
              have V1 := Lib.hid v1; have V2 := Lib.hid v2; clear v1 v2
              have HN := Lib.hid hN; clear hN
              go_wp2_with (first
                | (go_at_call 23; refine (rin_any _ _).mono ?_; rintro e w' ⟨rfl, rfl⟩)
                | (go_at_call 28; refine (rtext_any _ (by omega) (by omega) _).mono ?_; rintro e w' ⟨rfl, hf⟩))
              go_ret2
              exact ⟨ret_pair V1.out.symm V2.out.symm, hf⟩
        · have hN := refS_plus hp h45
          rw [hR] at hN
          clear hR
          cases hi : inB (R)
          · obtain ⟨v1, v2⟩ := ref_no hN (.inl hi)
            have V1 := Lib.hid v1; have V2 := Lib.hid v2; clear v1 v2
            have HN := Lib.hid hN; clear hN
            go_wp2_with (first
              | (go_at_call 23; refine (rin_any _ _).mono ?_; rintro e w' ⟨rfl, rfl⟩)
              | (go_at_call 28; refine (rtext_any _ (by omega) (by omega) _).mono ?_; rintro e w' ⟨rfl, hf⟩))
            go_ret2
            exact ⟨ret_pair V1.out.symm V2.out.symm, Fur.refl _⟩
          · cases he : ((txt (R)).toList == s.toList)
            · obtain ⟨v1, v2⟩ := ref_no hN (.inr he)
              have V1 := Lib.hid v1; have V2 := Lib.hid v2; clear v1 v2
              have HN := Lib.hid hN; clear hN
              go_wp2_with (first
                | (go_at_call 23; refine (rin_any _ _).mono ?_; rintro e w' ⟨rfl, rfl⟩)
                | (go_at_call 28; refine (rtext_any _ (by omega) (by omega) _).mono ?_; rintro e w' ⟨rfl, hf⟩))
              go_ret2
              exact ⟨ret_pair V1.out.symm V2.out.symm, hf⟩
            · obtain ⟨v1, v2⟩ := ref_yes hi he
              have V1 := Lib.hid v1; have V2 := Lib.hid v2; clear v1 v2
              have HN := Lib.hid hN; clear hN
              go_wp2_with (first
                | (go_at_call 23; refine (rin_any _ _).mono ?_; rintro e w' ⟨rfl, rfl⟩)
                | (go_at_call 28; refine (rtext_any _ (by omega) (by omega) _).mono ?_; rintro e w' ⟨rfl, hf⟩))
              go_ret2
              exact ⟨ret_pair V1.out.symm V2.out.symm, hf⟩
      · have hN := refS_none hp
        rw [hR] at hN
        clear hR
        cases hi : inB (R)
        · obtain ⟨v1, v2⟩ := ref_no hN (.inl hi)
          have V1 := Lib.hid v1; have V2 := Lib.hid v2; clear v1 v2
          have HN := Lib.hid hN; clear hN
          go_wp2_with (first
            | (go_at_call 23; refine (rin_any _ _).mono ?_; rintro e w' ⟨rfl, rfl⟩)
            | (go_at_call 28; refine (rtext_any _ (by omega) (by omega) _).mono ?_; rintro e w' ⟨rfl, hf⟩))
          go_ret2
          exact ⟨ret_pair V1.out.symm V2.out.symm, Fur.refl _⟩
        · cases he : ((txt (R)).toList == s.toList)
          · obtain ⟨v1, v2⟩ := ref_no hN (.inr he)
            have V1 := Lib.hid v1; have V2 := Lib.hid v2; clear v1 v2
            have HN := Lib.hid hN; clear hN
            go_wp2_with (first
              | (go_at_call 23; refine (rin_any _ _).mono ?_; rintro e w' ⟨rfl, rfl⟩)
              | (go_at_call 28; refine (rtext_any _ (by omega) (by omega) _).mono ?_; rintro e w' ⟨rfl, hf⟩))
            go_ret2
            exact ⟨ret_pair V1.out.symm V2.out.symm, hf⟩
          · obtain ⟨v1, v2⟩ := ref_yes hi he
            have V1 := Lib.hid v1; have V2 := Lib.hid v2; clear v1 v2
            have HN := Lib.hid hN; clear hN
            go_wp2_with (first
              | (go_at_call 23; refine (rin_any _ _).mono ?_; rintro e w' ⟨rfl, rfl⟩)
              | (go_at_call 28; refine (rtext_any _ (by omega) (by omega) _).mono ?_; rintro e w' ⟨rfl, hf⟩))
            go_ret2
            exact ⟨ret_pair V1.out.symm V2.out.symm, hf⟩

theorem rparse_any (s : ByteArray) (hs : s.size ≤ maxLen) (w : World) :
    Calls Tryd.prog 26 #[.string s] w fun e w' => e = .returned (.tuple #[.int .i64 (parV s), .bool (parB s)]) ∧ Fur w w' := by
  by_cases h : s.size ≤ 17
  · exact rparse_loop s h w
  · have h1 := par_long (s := s) (by omega)
    have h2 := parV_f h1
    rw [h1, h2]; clear h1 h2
    have h' : 17 < s.size := by omega
    unfold maxLen at hs
    clear h
    go_enter Tryd.func26, Tryd.ntmps26
    go_wp2
    go_ret2
    exact ⟨rfl, Fur.refl _⟩
end Go.Proofs.YtaliaoncpemmoaaDoor
