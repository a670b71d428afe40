/-
  RvA; RvB; RvC: texts of one kind in one file; each part says what it holds.
-/
import Derived.Test.YtcadeijloobbmaaMg

/-! The reference of package value: tri, Not, And, Or, yes, ints, class: of ints. Nothing that was there turns. -/
namespace Go.Proofs.Ytcadeijloobbmaa
open Go.RowKit

theorem ryes_any (b : Bool) (w : World) : Calls Try.prog 38 #[.bool b] w fun e w' => e = .returned (.int .i64 (if b = true then 2 else 0)) ∧ w' = w := by
  cases b
  · go_enter Try.func38, Try.ntmps38
    go_wp2
    go_ret
    exact ⟨rfl, rfl⟩
  · go_enter Try.func38, Try.ntmps38
    go_wp2
    go_ret
    exact ⟨rfl, rfl⟩
theorem rints_any (a b : Int) (w : World) : Calls Try.prog 40 #[.int .i64 a, .int .i64 b] w fun e w' => e = .returned (.int .i64 (intc a b)) ∧ w' = w := by
  by_cases h1 : a < b
  · rw [show intc a b = -1 by unfold intc; rw [if_pos h1]]
    go_enter Try.func40, Try.ntmps40
    go_wp2
    go_ret
    exact ⟨rfl, rfl⟩
  · by_cases h2 : b < a
    · rw [show intc a b = 1 by unfold intc; rw [if_neg h1, if_pos h2]]
      go_enter Try.func40, Try.ntmps40
      go_wp2
      go_ret
      exact ⟨rfl, rfl⟩
    · rw [show intc a b = 0 by unfold intc; rw [if_neg h1, if_neg h2]]
      go_enter Try.func40, Try.ntmps40
      go_wp2
      go_ret
      exact ⟨rfl, rfl⟩
end Go.Proofs.Ytcadeijloobbmaa

/-! The reference of package value: class, bare (which fields are zero). Nothing that was there turns. -/
namespace Go.Proofs.Ytcadeijloobbmaa
open Go.RowKit

theorem rclass_any (k : Int) (w : World) : Calls Try.prog 41 #[.int .i64 k] w fun e w' => e = .returned (.int .i64 (classV k)) ∧ w' = w := by
  by_cases h0 : k = 0
  · subst h0
    go_enter Try.func41, Try.ntmps41
    go_wp2
    go_ret
    exact ⟨rfl, rfl⟩
  by_cases h1 : k = 1
  · subst h1
    go_enter Try.func41, Try.ntmps41
    go_wp2
    go_ret
    exact ⟨rfl, rfl⟩
  by_cases h2 : k = 2
  · subst h2
    go_enter Try.func41, Try.ntmps41
    go_wp2
    go_ret
    exact ⟨rfl, rfl⟩
  by_cases h3 : k = 3
  · subst h3
    go_enter Try.func41, Try.ntmps41
    go_wp2
    go_ret
    exact ⟨rfl, rfl⟩
  by_cases h4 : k = 4
  · subst h4
    go_enter Try.func41, Try.ntmps41
    go_wp2
    go_ret
    exact ⟨rfl, rfl⟩
  by_cases h5 : k = 5
  · subst h5
    go_enter Try.func41, Try.ntmps41
    go_wp2
    go_ret
    exact ⟨rfl, rfl⟩
  by_cases h6 : k = 6
  · subst h6
    go_enter Try.func41, Try.ntmps41
    go_wp2
    go_ret
    exact ⟨rfl, rfl⟩
  by_cases h8 : k = 8
  · subst h8
    go_enter Try.func41, Try.ntmps41
    go_wp2
    go_ret
    exact ⟨rfl, rfl⟩
  have g0 : (k == 0) = false := beq_eq_false_iff_ne.2 h0
  have g1 : (k == 1) = false := beq_eq_false_iff_ne.2 h1
  have g2 : (k == 2) = false := beq_eq_false_iff_ne.2 h2
  have g3 : (k == 3) = false := beq_eq_false_iff_ne.2 h3
  have g4 : (k == 4) = false := beq_eq_false_iff_ne.2 h4
  have g5 : (k == 5) = false := beq_eq_false_iff_ne.2 h5
  have g6 : (k == 6) = false := beq_eq_false_iff_ne.2 h6
  have g8 : (k == 8) = false := beq_eq_false_iff_ne.2 h8
  rw [show classV k = 7 by unfold classV; rw [if_neg h0, if_neg h1, if_neg (by omega), if_neg h4, if_neg h5, if_neg h6, if_neg h8]]
  clear h0 h1 h2 h3 h4 h5 h6 h8
  go_enter Try.func41, Try.ntmps41
  go_wp2
  go_ret
  exact ⟨rfl, rfl⟩

set_option maxHeartbeats 6400000 in
theorem rbare_any (x : Vl) (ao : Option Addr) (cap : Nat) (w : World) (bn bd b2 bl : Bool) : Calls Try.prog 78 #[vlv x ao cap, .bool bn, .bool bd, .bool b2, .bool bl] w (RetB w (bareV x.nn x.dd x.ss x.ll bn bd b2 bl)) := by
  unfold vlv
  cases bn <;> cases bd <;> cases b2 <;> cases bl
  all_goals
    go_enter Try.func78, Try.ntmps78
    go_wp2
    all_goals
      go_ret
      refine ⟨ret_bool ?_, (Fur.refl _).alloc _⟩
      unfold bareV
      (try rw [len0])
      simp_all [bs_list]
end Go.Proofs.Ytcadeijloobbmaa

/-! The reference of package value: In (of the numbers), str: which strings may be values. Nothing turns. -/
namespace Go.Proofs.Ytcadeijloobbmaa
open Go.RowKit

def inV (n : Int) : Bool := decide (-1000000000000000 ≤ n) && decide (n ≤ 1000000000000000)
theorem rin_any (n : Int) (w : World) : Calls Try.prog 79 #[.int .i64 n] w fun e w' => e = .returned (.bool (inV n)) ∧ w' = w := by
  unfold inV
  go_enter Try.func79, Try.ntmps79
  go_wp2
  all_goals
    go_ret
    exact ⟨ret_bool (by rw [Bool.eq_iff_iff]; simp; omega), rfl⟩

theorem rbyte (s : ByteArray) (k : Nat) (h : k < s.size) : s.data.toList.drop k = s[k] :: s.data.toList.drop (k + 1) := by
  rw [List.drop_eq_getElem_cons (by simpa using h)]
  rfl
set_option maxHeartbeats 1600000 in
theorem rstr_any (s : ByteArray) (hs : s.size ≤ maxLen) (w : World) :
    Calls Try.prog 80 #[.string s] w fun e w' => e = .returned (.bool (okStr s.data.toList)) ∧ w' = w := by
  unfold maxLen at hs
  have HLN := Lib.hid (show s.data.toList.length = s.size from Array.length_toList)
  go_enter Try.func80, Try.ntmps80
  go_wp2
  go_loop [3] (fun iv => ∃ i : Nat, iv = .int .i64 i ∧ i ≤ s.size ∧ Hid (s.data.toList.all okC = (s.data.toList.drop i).all okC)) (fun iv => s.size - (RowKit.intOf iv).toNat)
  case atStart => exact ⟨0, rfl, Nat.zero_le _, rfl⟩
  case round =>
    obtain ⟨i, rfl, hi, HN⟩ := hrel
    by_cases hlt : i < s.size
    · have hb := rbyte s i hlt
      have hA : s.data.toList.all okC = (okC s[i] && (s.data.toList.drop (i + 1)).all okC) := by
        rw [HN.out, hb]; rfl
      clear hb HN
      rcases (show (s[i].toNat : Int) < 32 ∨ 126 < (s[i].toNat : Int) ∨ (32 ≤ (s[i].toNat : Int) ∧ (s[i].toNat : Int) ≤ 126) by omega) with g | g | ⟨g1, g2⟩
      · have HE := Lib.hid (show okStr s.data.toList = false by
          rw [okStr_eq, hA]
          have : okC s[i] = false := by unfold okC; rw [decide_eq_false (by omega)]; rfl
          rw [this]; rfl)
        clear hA
        go_wp2
        go_ret
        exact ⟨ret_bool HE.out.symm, rfl⟩
      · have HE := Lib.hid (show okStr s.data.toList = false by
          rw [okStr_eq, hA]
          have : okC s[i] = false := by unfold okC; rw [decide_eq_false (show ¬ s[i].toNat ≤ 126 by omega), Bool.and_false]
          rw [this]; rfl)
        have g' : 32 ≤ (s[i].toNat : Int) := by omega
        clear hA
        go_wp2
        go_ret
        exact ⟨ret_bool HE.out.symm, rfl⟩
      · have HE := Lib.hid (show s.data.toList.all okC = (s.data.toList.drop (i + 1)).all okC by
          rw [hA]
          have : okC s[i] = true := by unfold okC; rw [decide_eq_true (show 32 ≤ s[i].toNat by omega), decide_eq_true (show s[i].toNat ≤ 126 by omega)]; rfl
          rw [this]; rfl)
        clear hA
        go_wp2
        go_round
        case rel => exact ⟨i + 1, by go_num, by omega, HE.out⟩
        case measure => simp [RowKit.intOf]; omega
    · have HE := Lib.hid (show okStr s.data.toList = decide ((s.size : Int) ≤ 100) by
        rw [okStr_eq, HN.out, List.drop_of_length_le (by rw [HLN.out]; omega), HLN.out]
        by_cases h : s.size ≤ 100
        · rw [decide_eq_true h, decide_eq_true (by omega)]; rfl
        · rw [decide_eq_false h, decide_eq_false (by omega)]; rfl)
      have hge : s.size ≤ i := by omega
      clear hlt HN
      go_wp2
      go_ret
      exact ⟨ret_bool HE.out.symm, rfl⟩
end Go.Proofs.Ytcadeijloobbmaa
