/-
  Package graph and its reference: the reference's Name; slices of strings that are all names, that increase; the keys of properties. Nothing that was there turns.
-/
import Derived.Test.YtcadeijloobbmaaGrA
import Derived.Laws.Cover1
import Derived.Laws.MakeOwn
import Derived.Deep.RegionHeld3
namespace Go.Proofs.Ytcadeijloobbmaa
open Go.RowKit

theorem chr_u (c : UInt8) : chrV c = (letV c || digV c || decide (c.toNat = 95)) := rfl
set_option maxHeartbeats 3200000 in
set_option maxRecDepth 100000 in
theorem rname_any (s : ByteArray) (w : World) (hs : s.size ≤ maxLen) : Calls Try.prog 27 #[.string s] w (PureB w (nameV s.data.toList)) := by
  unfold maxLen at hs
  rcases Nat.eq_zero_or_pos s.size with h0 | h0
  · obtain rfl := empty_of h0
    clear h0
    go_enter Try.func27, Try.ntmps27
    go_wp2
    go_ret
    exact ⟨rfl, rfl⟩
  · have h1 : ¬ (s.size : Int) < 1 := by omega
    by_cases hl : 20 < s.size
    · have HE := Lib.hid (name_long hl)
      have hl' : 20 < (s.size : Int) := by omega
      clear hl
      go_enter Try.func27, Try.ntmps27
      go_wp2
      go_ret
      exact ⟨ret_bool HE.out.symm, rfl⟩
    · have hl' : ¬ 20 < (s.size : Int) := by omega
      have h0' : 0 < (s.size : Int) := by omega
      cases hf : letV s[0] with
      | false =>
        have HE := Lib.hid (name_first h0 hf)
        go_enter Try.func27, Try.ntmps27
        go_wp2_with (go_at_call 55; refine (rlet_any _ _).mono ?_; rintro e w' ⟨rfl, rfl⟩)
        go_ret
        exact ⟨ret_bool HE.out.symm, rfl⟩
      | true =>
        have HE := Lib.hid (name_rest1 h0 (by omega) hf)
        go_enter Try.func27, Try.ntmps27
        go_wp2_with (go_at_call 55; refine (rlet_any _ _).mono ?_; rintro e w' ⟨rfl, rfl⟩)
        clear hf
        go_loop [3] (fun iv => ∃ i : Nat, iv = .int .i64 i ∧ i ≤ s.size ∧ Hid (nameV s.data.toList = (s.data.toList.drop i).all chrV)) (fun iv => s.size - (RowKit.intOf iv).toNat)
        case atStart => exact ⟨1, rfl, by omega, HE.out⟩
        case round =>
          obtain ⟨i, rfl, hi, HN⟩ := hrel
          by_cases hlt : i < s.size
          · have hA := chr_step s i hlt
            have HU := Lib.hid (chr_u s[i])
            have HC := Lib.hid (HN.out.trans hA)
            have HDG := Lib.hid (show digV s[i] = (decide (48 ≤ s[i].toNat) && decide (s[i].toNat ≤ 57)) from rfl)
            clear hA HN HE
            cases hL : letV s[i] with
            | true =>
              have HD := Lib.hid (show nameV s.data.toList = (s.data.toList.drop (i + 1)).all chrV by rw [HC.out, HU.out, hL]; rfl)
              go_wp2_with (go_at_call 55; refine (rlet_any _ _).mono ?_; rintro e w' ⟨rfl, rfl⟩)
              go_round
              case rel => exact ⟨i + 1, by go_num, by omega, HD.out⟩
              case measure => simp [RowKit.intOf]; omega
            | false =>
              by_cases h95 : s[i].toNat = 95
              · have HD := Lib.hid (show nameV s.data.toList = (s.data.toList.drop (i + 1)).all chrV by
                  rw [HC.out, HU.out, hL, decide_eq_true h95, Bool.or_true]; rfl)
                have hB : ((s[i].toNat : Int) != 95) = false := by rw [h95]; rfl
                clear h95
                go_wp2_with (go_at_call 55; refine (rlet_any _ _).mono ?_; rintro e w' ⟨rfl, rfl⟩)
                go_round
                case rel => exact ⟨i + 1, by go_num, by omega, HD.out⟩
                case measure => simp [RowKit.intOf]; omega
              · have hB : ((s[i].toNat : Int) != 95) = true := by
                  have : (s[i].toNat : Int) ≠ 95 := by omega
                  simpa using this
                have HX := Lib.hid (show chrV s[i] = digV s[i] by rw [HU.out, hL, decide_eq_false h95]; simp)
                clear h95
                by_cases g1 : (s[i].toNat : Int) < 48
                · have HD := Lib.hid (show nameV s.data.toList = false by
                    rw [HC.out, HX.out, HDG.out, decide_eq_false (show ¬ 48 ≤ s[i].toNat by omega)]; rfl)
                  go_wp2_with (go_at_call 55; refine (rlet_any _ _).mono ?_; rintro e w' ⟨rfl, rfl⟩)
                  go_ret
                  exact ⟨ret_bool HD.out.symm, rfl⟩
                · by_cases g2 : 57 < (s[i].toNat : Int)
                  · have HD := Lib.hid (show nameV s.data.toList = false by
                      rw [HC.out, HX.out, HDG.out, decide_eq_false (show ¬ s[i].toNat ≤ 57 by omega), Bool.and_false]; rfl)
                    go_wp2_with (go_at_call 55; refine (rlet_any _ _).mono ?_; rintro e w' ⟨rfl, rfl⟩)
                    go_ret
                    exact ⟨ret_bool HD.out.symm, rfl⟩
                  · have HD := Lib.hid (show nameV s.data.toList = (s.data.toList.drop (i + 1)).all chrV by
                      rw [HC.out, HX.out, HDG.out, decide_eq_true (show 48 ≤ s[i].toNat by omega), decide_eq_true (show s[i].toNat ≤ 57 by omega)]; rfl)
                    go_wp2_with (go_at_call 55; refine (rlet_any _ _).mono ?_; rintro e w' ⟨rfl, rfl⟩)
                    go_round
                    case rel => exact ⟨i + 1, by go_num, by omega, HD.out⟩
                    case measure => simp [RowKit.intOf]; omega
          · have HD := Lib.hid (show nameV s.data.toList = true by rw [HN.out, chr_end s i (by omega)])
            clear HN HE
            go_wp2
            go_ret
            exact ⟨ret_bool HD.out.symm, rfl⟩

theorem all_drop {α : Type} (f : α → Bool) (l : List α) (i : Nat) (h : i < l.length) : (l.drop i).all f = (f l[i] && (l.drop (i + 1)).all f) := by rw [List.drop_eq_getElem_cons h]; rfl
theorem all_end {α : Type} (f : α → Bool) (l : List α) (i : Nat) (h : l.length ≤ i) : (l.drop i).all f = true := by rw [List.drop_of_length_le h]; rfl
set_option maxHeartbeats 1600000 in
set_option maxRecDepth 100000 in
theorem names_any (l : List (List UInt8)) (ao : Option Addr) (cap : Nat) (w : World) (hs : SlS w ao l cap) : Calls Try.prog 99 #[.slice ao l.length cap] w (PureB w (l.all nameV)) := by
  have hl := hs.len
  have HS := Lib.hid hs
  clear hs
  go_enter Try.func99, Try.ntmps99
  go_wp2
  go_loop [7] (fun iv => ∃ i : Nat, iv = .int .i64 i ∧ i ≤ l.length ∧ Hid (l.all nameV = (l.drop i).all nameV)) (fun iv => l.length - (RowKit.intOf iv).toNat)
  case atStart => exact ⟨0, rfl, Nat.zero_le _, rfl⟩
  case round =>
    obtain ⟨i, rfl, hi, HN⟩ := hrel
    by_cases hlt : i < l.length
    · obtain ⟨b, o, rfl, hz, hc⟩ := HS.out.get hlt
      have hA := all_drop nameV l i hlt
      have HC := Lib.hid (HN.out.trans hA)
      rw [Nat.mul_one] at hc
      have HM := Lib.hid (name_any (bs l[i]) w (by rw [bs_size]; exact hz))
      rw [bs_data] at HM
      clear hA HN hz
      generalize l[i] = s at *
      generalize nameV s = r at *
      go_wp2_with (go_at_call 26; refine HM.out.mono ?_; rintro e w' ⟨rfl, rfl⟩)
      · have HD := Lib.hid (show l.all nameV = false by rw [HC.out]; simp_all)
        go_ret
        exact ⟨ret_bool HD.out.symm, rfl⟩
      · have HD := Lib.hid (show l.all nameV = (l.drop (i + 1)).all nameV by rw [HC.out]; simp_all)
        go_round
        case rel => exact ⟨i + 1, by go_num, by omega, HD.out⟩
        case measure => simp [RowKit.intOf]; omega
    · have HD := Lib.hid (show l.all nameV = true by rw [HN.out, all_end _ _ _ (by omega)])
      clear HN
      go_wp2
      go_ret
      exact ⟨ret_bool HD.out.symm, rfl⟩
end Go.Proofs.Ytcadeijloobbmaa
