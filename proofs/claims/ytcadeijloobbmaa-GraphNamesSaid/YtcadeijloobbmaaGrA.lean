/-
  Package graph and its reference: which strings are names; which ids may come next. Nothing turns.
-/
import Derived.Test.YtcadeijloobbmaaGrMem
namespace Go.Proofs.Ytcadeijloobbmaa
open Go.RowKit

def PureB (w : World) (b : Bool) (e : Ending) (w' : World) : Prop := e = .returned (.bool b) ∧ w = w'
def PureI (w : World) (n : Int) (e : Ending) (w' : World) : Prop := e = .returned (.int .i64 n) ∧ w = w'

theorem let_any (c : UInt8) (w : World) : Calls Try.prog 53 #[.int .u8 (c.toNat : Int)] w (PureB w (letV c)) := by
  have hc := c.toNat_lt
  have HL := Lib.hid (show letV c = ((decide (97 ≤ c.toNat) && decide (c.toNat ≤ 122)) || (decide (65 ≤ c.toNat) && decide (c.toNat ≤ 90))) from rfl)
  generalize letV c = L at *
  go_enter Try.func53, Try.ntmps53
  go_wp2
  all_goals
    go_ret
    exact ⟨ret_bool (by rw [HL.out, Bool.eq_iff_iff]; simp; omega), rfl⟩
theorem dig_any (c : UInt8) (w : World) : Calls Try.prog 54 #[.int .u8 (c.toNat : Int)] w (PureB w (digV c)) := by
  have hc := c.toNat_lt
  have HL := Lib.hid (show digV c = (decide (48 ≤ c.toNat) && decide (c.toNat ≤ 57)) from rfl)
  generalize digV c = L at *
  go_enter Try.func54, Try.ntmps54
  go_wp2
  all_goals
    go_ret
    exact ⟨ret_bool (by rw [HL.out, Bool.eq_iff_iff]; simp; omega), rfl⟩
theorem rlet_any (c : UInt8) (w : World) : Calls Try.prog 55 #[.int .u8 (c.toNat : Int)] w (PureB w (letV c)) := by
  have hc := c.toNat_lt
  have HL := Lib.hid (show letV c = ((decide (97 ≤ c.toNat) && decide (c.toNat ≤ 122)) || (decide (65 ≤ c.toNat) && decide (c.toNat ≤ 90))) from rfl)
  generalize letV c = L at *
  go_enter Try.func55, Try.ntmps55
  go_wp2
  all_goals
    go_ret
    exact ⟨ret_bool (by rw [HL.out, Bool.eq_iff_iff]; simp; omega), rfl⟩
theorem next_any (n : Int) (w : World) : Calls Try.prog 50 #[.int .i64 n] w (PureB w (nxtV n)) := by
  have HL := Lib.hid (show nxtV n = (decide (1 ≤ n) && decide (n ≤ 1000001)) from rfl)
  generalize nxtV n = L at *
  go_enter Try.func50, Try.ntmps50
  go_wp2
  all_goals
    go_ret
    exact ⟨ret_bool (by rw [HL.out, Bool.eq_iff_iff]; simp; omega), rfl⟩
theorem nbyte (s : ByteArray) (k : Nat) (h : k < s.size) : s.data.toList.drop k = s[k] :: s.data.toList.drop (k + 1) := by
  rw [List.drop_eq_getElem_cons (by simpa using h)]
  rfl
theorem name_0 : nameV [] = false := rfl
theorem name_long {s : ByteArray} (h : 20 < s.size) : nameV s.data.toList = false := by
  unfold nameV
  rw [Array.length_toList, decide_eq_false (show ¬ s.data.size ≤ 20 from by have : s.data.size = s.size := rfl; omega)]
  simp
theorem name_first {s : ByteArray} (h0 : 0 < s.size) (h : letV s[0] = false) : nameV s.data.toList = false := by
  have e := nbyte s 0 h0
  rw [List.drop_zero] at e
  unfold nameV
  rw [show s.data.toList.headD 0 = s[0] by rw [e]; rfl, h]
  simp
theorem name_rest {s : ByteArray} (h0 : 0 < s.size) (hl : s.size ≤ 20) (h : letV s[0] = true) : nameV s.data.toList = (s.data.toList.drop 0).all chrV := by
  have e := nbyte s 0 h0
  rw [List.drop_zero] at e
  unfold nameV
  rw [Array.length_toList, decide_eq_true (show s.data.size ≤ 20 from hl), show s.data.toList.headD 0 = s[0] by rw [e]; rfl, h, show s.data.toList.isEmpty = false by rw [e]; rfl, List.drop_zero]
  simp
theorem name_rest1 {s : ByteArray} (h0 : 0 < s.size) (hl : s.size ≤ 20) (h : letV s[0] = true) : nameV s.data.toList = (s.data.toList.drop 1).all chrV := by
  rw [name_rest h0 hl h, nbyte s 0 h0, List.all_cons, chr_let h, Bool.true_and]
theorem chr_step (s : ByteArray) (i : Nat) (h : i < s.size) : (s.data.toList.drop i).all chrV = (chrV s[i] && (s.data.toList.drop (i + 1)).all chrV) := by rw [nbyte s i h]; rfl
theorem chr_end (s : ByteArray) (i : Nat) (h : s.size ≤ i) : (s.data.toList.drop i).all chrV = true := by
  rw [List.drop_of_length_le (by rw [Array.length_toList]; exact h)]; rfl

theorem toL (s : ByteArray) : s.toList = s.data.toList := ByteArray.toList_eq s
theorem ne_list {s : ByteArray} (h : 0 < s.size) : ¬ s.toList = [] := by
  rw [toL]; intro e
  have : s.data.toList.length = 0 := by rw [e]; rfl
  rw [Array.length_toList] at this
  have : s.data.size = s.size := rfl
  omega
theorem ne_empty {s : ByteArray} (h : 0 < s.size) : s.toList.isEmpty = false := by
  have := ne_list h
  cases e : s.toList with
  | nil => exact absurd e this
  | cons _ _ => rfl
theorem empty_of {s : ByteArray} (h : s.size = 0) : s = ⟨#[]⟩ := by
  cases s with | mk d =>
  have : d.size = 0 := h
  rw [Array.eq_empty_of_size_eq_zero this]

set_option maxHeartbeats 3200000 in
set_option maxRecDepth 100000 in
theorem name_any (s : ByteArray) (w : World) (hs : s.size ≤ maxLen) : Calls Try.prog 26 #[.string s] w (PureB w (nameV s.data.toList)) := by
  unfold maxLen at hs
  rcases Nat.eq_zero_or_pos s.size with h0 | h0
  · obtain rfl := empty_of h0
    clear h0
    go_enter Try.func26, Try.ntmps26
    go_wp2
    go_ret
    exact ⟨rfl, rfl⟩
  · have e1 := ne_list h0
    have e2 := ne_empty h0
    by_cases hl : 20 < s.size
    · have HE := Lib.hid (name_long hl)
      have hl' : 20 < (s.size : Int) := by omega
      clear hl
      go_enter Try.func26, Try.ntmps26
      go_wp2
      go_ret
      exact ⟨ret_bool HE.out.symm, rfl⟩
    · have hl' : ¬ 20 < (s.size : Int) := by omega
      have h0' : 0 < (s.size : Int) := by omega
      cases hf : letV s[0] with
      | false =>
        have HE := Lib.hid (name_first h0 hf)
        go_enter Try.func26, Try.ntmps26
        go_wp2_with (go_at_call 53; refine (let_any _ _).mono ?_; rintro e w' ⟨rfl, rfl⟩)
        go_ret
        exact ⟨ret_bool HE.out.symm, rfl⟩
      | true =>
        have HE := Lib.hid (name_rest h0 (by omega) hf)
        go_enter Try.func26, Try.ntmps26
        go_wp2_with (go_at_call 53; refine (let_any _ _).mono ?_; rintro e w' ⟨rfl, rfl⟩)
        clear hf
        go_loop [19] (fun iv => ∃ i : Nat, iv = .int .i64 i ∧ i ≤ s.size ∧ Hid (nameV s.data.toList = (s.data.toList.drop i).all chrV)) (fun iv => s.size - (RowKit.intOf iv).toNat)
        case atStart => exact ⟨0, rfl, Nat.zero_le _, HE.out⟩
        case round =>
          obtain ⟨i, rfl, hi, HN⟩ := hrel
          by_cases hlt : i < s.size
          · have hA := chr_step s i hlt
            have HU := Lib.hid (show chrV s[i] = (letV s[i] || digV s[i] || decide (s[i].toNat = 95)) from rfl)
            have HC := Lib.hid (HN.out.trans hA)
            clear hA HN HE
            have hB : (((s[i].toNat : Int)) != 95) = true ∨ (s[i].toNat : Int) = 95 := by
              by_cases g : (s[i].toNat : Int) = 95
              · exact .inr g
              · exact .inl (by simpa using g)
            cases hL : letV s[i] with
            | true =>
              have HD := Lib.hid (show nameV s.data.toList = (s.data.toList.drop (i + 1)).all chrV by rw [HC.out, HU.out, hL]; rfl)
              clear hB
              go_wp2_with (go_at_call 53; refine (let_any _ _).mono ?_; rintro e w' ⟨rfl, rfl⟩)
              go_round
              case rel => exact ⟨i + 1, by go_num, by omega, HD.out⟩
              case measure => simp [RowKit.intOf]; omega
            | false =>
              cases hD : digV s[i] with
              | true =>
                have HD := Lib.hid (show nameV s.data.toList = (s.data.toList.drop (i + 1)).all chrV by rw [HC.out, HU.out, hL, hD]; rfl)
                clear hB
                go_wp2_with (first | (go_at_call 53; refine (let_any _ _).mono ?_; rintro e w' ⟨rfl, rfl⟩) | (go_at_call 54; refine (dig_any _ _).mono ?_; rintro e w' ⟨rfl, rfl⟩))
                go_round
                case rel => exact ⟨i + 1, by go_num, by omega, HD.out⟩
                case measure => simp [RowKit.intOf]; omega
              | false =>
                rcases hB with hB | hB
                · have HD := Lib.hid (show nameV s.data.toList = false by
                    have h95 : decide (s[i].toNat = 95) = false := by
                      have : ¬ ((s[i].toNat : Int)) = 95 := by simpa using hB
                      exact decide_eq_false (by omega)
                    rw [HC.out, HU.out, hL, hD, h95]; rfl)
                  go_wp2_with (first | (go_at_call 53; refine (let_any _ _).mono ?_; rintro e w' ⟨rfl, rfl⟩) | (go_at_call 54; refine (dig_any _ _).mono ?_; rintro e w' ⟨rfl, rfl⟩))
                  go_ret
                  exact ⟨ret_bool HD.out.symm, rfl⟩
                · have HD := Lib.hid (show nameV s.data.toList = (s.data.toList.drop (i + 1)).all chrV by
                    rw [HC.out, HU.out, hL, hD, decide_eq_true (show s[i].toNat = 95 by omega)]; rfl)
                  have hB' : ((s[i].toNat : Int) != 95) = false := by rw [hB]; rfl
                  clear hB
                  go_wp2_with (first | (go_at_call 53; refine (let_any _ _).mono ?_; rintro e w' ⟨rfl, rfl⟩) | (go_at_call 54; refine (dig_any _ _).mono ?_; rintro e w' ⟨rfl, rfl⟩))
                  go_round
                  case rel => exact ⟨i + 1, by go_num, by omega, HD.out⟩
                  case measure => simp [RowKit.intOf]; omega
          · have HD := Lib.hid (show nameV s.data.toList = true by rw [HN.out, chr_end s i (by omega)])
            clear HN HE
            go_wp2
            go_ret
            exact ⟨ret_bool HD.out.symm, rfl⟩
end Go.Proofs.Ytcadeijloobbmaa
