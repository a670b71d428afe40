/-
  The reference of package value: In (of the numbers), str: which strings may be values. Nothing turns.
-/
import Derived.Test.YtcadeijloobbmaaGreatRvB
namespace Go.Proofs.YtcadeijloobbmaaGreat
open Go.RowKit

def inV (n : Int) : Bool := decide (-1000000000000000 ≤ n) && decide (n ≤ 1000000000000000)
theorem rin_any (n : Int) (w : World) : Calls Tryz.prog 136 #[.int .i64 n] w fun e w' => e = .returned (.bool (inV n)) ∧ w' = w := by
  unfold inV
  go_enter Tryz.func136, Tryz.ntmps136
  go_wp2
  all_goals
    go_ret
    exact ⟨ret_bool (by rw [Bool.eq_iff_iff]; simp; omega), rfl⟩

theorem rbyte (s : ByteArray) (k : Nat) (h : k < s.size) : s.data.toList.drop k = s[k] :: s.data.toList.drop (k + 1) := by
  rw [List.drop_eq_getElem_cons (by simpa using h)]
  rfl
set_option maxHeartbeats 1600000 in
theorem rstr_any (s : ByteArray) (hs : s.size ≤ maxLen) (w : World) :
    Calls Tryz.prog 137 #[.string s] w fun e w' => e = .returned (.bool (okStr s.data.toList)) ∧ w' = w := by
  unfold maxLen at hs
  have HLN := Lib.hid (show s.data.toList.length = s.size from Array.length_toList)
  go_enter Tryz.func137, Tryz.ntmps137
  go_wp2
  go_loop [3] (fun iv => ∃ i : Nat, iv = .int .i64 i ∧ i ≤ s.size ∧ Hid (s.data.toList.all okC = (s.data.toList.drop i).all okC)) (fun iv => s.size - (RowKit.intOf iv).toNat)
  case atStart => exact ⟨0, rfl, Nat.zero_le _, rfl⟩
  case round =>
    obtain ⟨i, rfl, hi, HN⟩ := hrel
    by_cases hlt : i < s.size
    · have hb := rbyte s i hlt
      have hA : s.data.toList.all okC = (okC s[i] && (s.data.toList.drop (i + 1)).all okC) := by
        rw [HN.out, hb]; rfl
      clear hb HN
      rcases (show (s[i].toNat : Int) < 32 ∨ 126 < (s[i].toNat : Int) ∨ (32 ≤ (s[i].toNat : Int) ∧ (s[i].toNat : Int) ≤ 126) by omega) with g | g | ⟨g1, g2⟩
      · have HE := Lib.hid (show okStr s.data.toList = false by
          rw [okStr_eq, hA]
          have : okC s[i] = false := by unfold okC; rw [decide_eq_false (by omega)]; rfl
          rw [this]; rfl)
        clear hA
        go_wp2
        go_ret
        exact ⟨ret_bool HE.out.symm, rfl⟩
      · have HE := Lib.hid (show okStr s.data.toList = false by
          rw [okStr_eq, hA]
          have : okC s[i] = false := by unfold okC; rw [decide_eq_false (show ¬ s[i].toNat ≤ 126 by omega), Bool.and_false]
          rw [this]; rfl)
        have g' : 32 ≤ (s[i].toNat : Int) := by omega
        clear hA
        go_wp2
        go_ret
        exact ⟨ret_bool HE.out.symm, rfl⟩
      · have HE := Lib.hid (show s.data.toList.all okC = (s.data.toList.drop (i + 1)).all okC by
          rw [hA]
          have : okC s[i] = true := by unfold okC; rw [decide_eq_true (show 32 ≤ s[i].toNat by omega), decide_eq_true (show s[i].toNat ≤ 126 by omega)]; rfl
          rw [this]; rfl)
        clear hA
        go_wp2
        go_round
        case rel => exact ⟨i + 1, by go_num, by omega, HE.out⟩
        case measure => simp [RowKit.intOf]; omega
    · have HE := Lib.hid (show okStr s.data.toList = decide ((s.size : Int) ≤ 100) by
        rw [okStr_eq, HN.out, List.drop_of_length_le (by rw [HLN.out]; omega), HLN.out]
        by_cases h : s.size ≤ 100
        · rw [decide_eq_true h, decide_eq_true (by omega)]; rfl
        · rw [decide_eq_false h, decide_eq_false (by omega)]; rfl)
      have hge : s.size ≤ i := by omega
      clear hlt HN
      go_wp2
      go_ret
      exact ⟨ret_bool HE.out.symm, rfl⟩
end Go.Proofs.YtcadeijloobbmaaGreat
