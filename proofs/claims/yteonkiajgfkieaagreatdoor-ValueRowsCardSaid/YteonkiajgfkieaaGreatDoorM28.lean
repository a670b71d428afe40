/-
  RvC; FrA; FrB: texts of one kind in one file; each part says what it holds.
-/
import Derived.Test.YteonkiajgfkieaaGreatDoorRvB
import Derived.Test.YteonkiajgfkieaaGreatDoorM04
import Derived.Test.YteonkiajgfkieaaGreatDoorM00

/-! The reference of package value: In (of the numbers), str: which strings may be values. Nothing turns. -/
namespace Go.Proofs.YteonkiajgfkieaaGreatDoor
open Go.RowKit

def inV (n : Int) : Bool := decide (-1000000000000000 ≤ n) && decide (n ≤ 1000000000000000)
theorem rin_any (n : Int) (w : World) : Calls Tryz.prog 113 #[.int .i64 n] w fun e w' => e = .returned (.bool (inV n)) ∧ w' = w := by
  unfold inV
  go_enter Tryz.func113, Tryz.ntmps113
  go_wp2
  all_goals
    go_ret
    exact ⟨ret_bool (by rw [Bool.eq_iff_iff]; simp; omega), rfl⟩

theorem rbyte (s : ByteArray) (k : Nat) (h : k < s.size) : s.data.toList.drop k = s[k] :: s.data.toList.drop (k + 1) := by
  rw [List.drop_eq_getElem_cons (by simpa using h)]
  rfl
set_option maxHeartbeats 1600000 in
theorem rstr_any (s : ByteArray) (hs : s.size ≤ maxLen) (w : World) :
    Calls Tryz.prog 114 #[.string s] w fun e w' => e = .returned (.bool (okStr s.data.toList)) ∧ w' = w := by
  unfold maxLen at hs
  have HLN := Lib.hid (show s.data.toList.length = s.size from Array.length_toList)
  go_enter Tryz.func114, Tryz.ntmps114
  go_wp2
  go_loop [3] (fun iv => ∃ i : Nat, iv = .int .i64 i ∧ i ≤ s.size ∧ Hid (s.data.toList.all okC = (s.data.toList.drop i).all okC)) (fun iv => s.size - (RowKit.intOf iv).toNat)
  case atStart => exact ⟨0, rfl, Nat.zero_le _, rfl⟩
  case round =>
    obtain ⟨i, rfl, hi, HN⟩ := hrel
    by_cases hlt : i < s.size
    · have hb := rbyte s i hlt
      have hA : s.data.toList.all okC = (okC s[i] && (s.data.toList.drop (i + 1)).all okC) := by
        rw [HN.out, hb]; rfl
      clear hb HN
      rcases (show (s[i].toNat : Int) < 32 ∨ 126 < (s[i].toNat : Int) ∨ (32 ≤ (s[i].toNat : Int) ∧ (s[i].toNat : Int) ≤ 126) by omega) with g | g | ⟨g1, g2⟩
      · have HE := Lib.hid (show okStr s.data.toList = false by
          rw [okStr_eq, hA]
          have : okC s[i] = false := by unfold okC; rw [decide_eq_false (by omega)]; rfl
          rw [this]; rfl)
        clear hA
        go_wp2
        go_ret
        exact ⟨ret_bool HE.out.symm, rfl⟩
      · have HE := Lib.hid (show okStr s.data.toList = false by
          rw [okStr_eq, hA]
          have : okC s[i] = false := by unfold okC; rw [decide_eq_false (show ¬ s[i].toNat ≤ 126 by omega), Bool.and_false]
          rw [this]; rfl)
        have g' : 32 ≤ (s[i].toNat : Int) := by omega
        clear hA
        go_wp2
        go_ret
        exact ⟨ret_bool HE.out.symm, rfl⟩
      · have HE := Lib.hid (show s.data.toList.all okC = (s.data.toList.drop (i + 1)).all okC by
          rw [hA]
          have : okC s[i] = true := by unfold okC; rw [decide_eq_true (show 32 ≤ s[i].toNat by omega), decide_eq_true (show s[i].toNat ≤ 126 by omega)]; rfl
          rw [this]; rfl)
        clear hA
        go_wp2
        go_round
        case rel => exact ⟨i + 1, by go_num, by omega, HE.out⟩
        case measure => simp [RowKit.intOf]; omega
    · have HE := Lib.hid (show okStr s.data.toList = decide ((s.size : Int) ≤ 100) by
        rw [okStr_eq, HN.out, List.drop_of_length_le (by rw [HLN.out]; omega), HLN.out]
        by_cases h : s.size ≤ 100
        · rw [decide_eq_true h, decide_eq_true (by omega)]; rfl
        · rw [decide_eq_false h, decide_eq_false (by omega)]; rfl)
      have hge : s.size ≤ i := by omega
      clear hlt HN
      go_wp2
      go_ret
      exact ⟨ret_bool HE.out.symm, rfl⟩
end Go.Proofs.YteonkiajgfkieaaGreatDoor

/-! The reference of package frac: size gives the absolute value, sign the sign, gcd the greatest common divisor of ints that are not negative. The world has at most drawn. -/
namespace Go.Proofs.YteonkiajgfkieaaGreatDoor
open Go.RowKit

theorem rsize_any (n : Int) (h : -9223372036854775807 ≤ n) (h' : n ≤ 9223372036854775807) (w : World) : Calls Tryz.prog 100 #[.int .i64 n] w fun e w' => e = .returned (.int .i64 (n.natAbs : Int)) ∧ w' = w := by
  by_cases hn : n < 0
  · have e : (n.natAbs : Int) = -n := by omega
    rw [e]; clear e
    go_enter Tryz.func100, Tryz.ntmps100
    go_wp2
    go_ret
    exact ⟨rfl, rfl⟩
  · have e : (n.natAbs : Int) = n := by omega
    rw [e]; clear e
    have hn' : 0 ≤ n := by omega
    clear hn
    go_enter Tryz.func100, Tryz.ntmps100
    go_wp2
    go_ret
    exact ⟨rfl, rfl⟩
theorem rsign_any (n : Int) (w : World) : Calls Tryz.prog 98 #[.int .i64 n] w fun e w' => e = .returned (.int .i64 n.sign) ∧ w' = w := by
  rcases Int.lt_trichotomy n 0 with hn | hn | hn
  · rw [Int.sign_eq_neg_one_of_neg hn]
    go_enter Tryz.func98, Tryz.ntmps98
    go_wp2
    go_ret
    exact ⟨rfl, rfl⟩
  · subst hn
    go_enter Tryz.func98, Tryz.ntmps98
    go_wp2
    go_ret
    exact ⟨rfl, rfl⟩
  · rw [Int.sign_eq_one_of_pos hn]
    have hn' : ¬ n < 0 := by omega
    go_enter Tryz.func98, Tryz.ntmps98
    go_wp2
    go_ret
    exact ⟨rfl, rfl⟩

/-- The world has at most drawn. -/
def RetQ (w : World) (n : Int) (e : Ending) (w' : World) : Prop := ∃ q, e = .returned (.int .i64 n) ∧ w' = w.drewN q
theorem gcd_round {x y : Nat} : Nat.gcd y (x % y) = Nat.gcd x y := by
  rw [Nat.gcd_comm x y, Nat.gcd_rec y x, Nat.gcd_comm]
set_option maxHeartbeats 800000 in
theorem rgcd_any (a b : Nat) (ha : a ≤ 9223372036854775807) (hb : b ≤ 9223372036854775807) (w : World) : Calls Tryz.prog 117 #[.int .i64 a, .int .i64 b] w (RetQ w (Nat.gcd a b : Nat)) := by
  go_enter Tryz.func117, Tryz.ntmps117
  go_wp2
  go_loopw [0, 1] (fun x y wr => ∃ p q : Nat, x = .int .i64 p ∧ y = .int .i64 q ∧ p ≤ 9223372036854775807 ∧ q ≤ 9223372036854775807 ∧ Hid (Nat.gcd p q = Nat.gcd a b) ∧ ∃ n, wr = w.drewN n) (fun _ y _ => (RowKit.intOf y).toNat)
  case atStart => exact ⟨a, b, rfl, rfl, ha, hb, rfl, 0, rfl⟩
  case round =>
    obtain ⟨p, q, rfl, rfl, c1, c2, HG, n, rfl⟩ := hrel
    by_cases hq : q = 0
    · subst hq
      have HP := Lib.hid (show ((Nat.gcd a b : Nat) : Int) = (p : Int) by rw [← HG.out, Nat.gcd_zero_right])
      go_wp2
      go_ret
      exact ⟨n, ret_int HP.out.symm, rfl⟩
    · have hq0 : 0 < q := by omega
      have hne : ((q : Int) != 0) = true := by rw [bne_iff_ne]; omega
      have hlt := Nat.mod_lt p hq0
      have HG2 := Lib.hid (gcd_round.trans HG.out)
      clear hq
      go_wp2
      go_region
      go_wp2
      go_roundw
      case rel => exact ⟨q, p % q, rfl, by go_num, by omega, by omega, HG2.out, n + 1, rfl⟩
      case measure => simp [RowKit.intOf]; omega
end Go.Proofs.YteonkiajgfkieaaGreatDoor

/-! The reference of package frac: Valid tells the valid fractions. For every two ints; nothing that was there turns. -/
namespace Go.Proofs.YteonkiajgfkieaaGreatDoor
open Go.RowKit

theorem rsize_q (n : Int) (h : -9223372036854775807 ≤ n) (h' : n ≤ 9223372036854775807) (w : World) (k : Nat) : Calls Tryz.prog 100 #[.int .i64 n] (w.drewN k) fun e w' => e = .returned (.int .i64 (n.natAbs : Int)) ∧ ∃ m, w' = w.drewN m :=
  Calls.quiet_of_same (rsize_any n h h' _)
theorem rgcd_q (a b : Nat) (ha : a ≤ 9223372036854775807) (hb : b ≤ 9223372036854775807) (w : World) (k : Nat) : Calls Tryz.prog 117 #[.int .i64 a, .int .i64 b] (w.drewN k) fun e w' => e = .returned (.int .i64 (Nat.gcd a b : Nat)) ∧ ∃ m, w' = w.drewN m :=
  Calls.quiet_of ((rgcd_any a b ha hb _).mono fun _ _ ⟨q, he, hw⟩ => ⟨he, q, hw⟩)

set_option maxHeartbeats 1600000 in
theorem rvalid_any (n d : Int) (w : World) :
    Calls Tryz.prog 96 #[.agg #[.int .i64 n, .int .i64 d]] w (RetB w (okF n d)) := by
  have fin : ∀ k, Fur w ((w.alloc (Obj.cells #[Value.int IntKind.i64 n, Value.int IntKind.i64 d] 37)).drewN k) := fun k => ((Fur.refl w).alloc _).trans (fur_drewN _ k)
  have FIN := Lib.hid fin
  clear fin
  by_cases h1 : 1 ≤ d
  rotate_left
  · have e : okF n d = false := by unfold okF; rw [decide_eq_false h1]; rfl
    have g1 : decide (1 ≤ d) = false := decide_eq_false h1
    rw [e]; clear e h1
    go_enter Tryz.func96, Tryz.ntmps96
    go_wp2
    go_quiet (fail)
    go_wp2
    go_ret
    exact ⟨rfl, FIN.out _⟩
  have g1 : decide (1 ≤ d) = true := decide_eq_true h1
  by_cases h2 : d ≤ 1000000000000000
  rotate_left
  · have e : okF n d = false := by unfold okF; rw [decide_eq_false h2, Bool.and_false]; rfl
    have g2 : decide (d ≤ 1000000000000000) = false := decide_eq_false h2
    rw [e]; clear e h1 h2
    go_enter Tryz.func96, Tryz.ntmps96
    go_wp2
    go_quiet (fail)
    go_wp2
    go_ret
    exact ⟨rfl, FIN.out _⟩
  have g2 : decide (d ≤ 1000000000000000) = true := decide_eq_true h2
  by_cases h3 : -1000000000000000 ≤ n
  rotate_left
  · have e : okF n d = false := by unfold okF; rw [decide_eq_false h3, Bool.and_false]; rfl
    have g3 : decide (-1000000000000000 ≤ n) = false := decide_eq_false h3
    rw [e]; clear e h1 h2 h3
    go_enter Tryz.func96, Tryz.ntmps96
    go_wp2
    go_quiet (fail)
    go_wp2
    go_ret
    exact ⟨rfl, FIN.out _⟩
  have g3 : decide (-1000000000000000 ≤ n) = true := decide_eq_true h3
  by_cases h4 : n ≤ 1000000000000000
  rotate_left
  · have e : okF n d = false := by unfold okF; rw [decide_eq_false h4, Bool.and_false]; rfl
    have g4 : decide (n ≤ 1000000000000000) = false := decide_eq_false h4
    rw [e]; clear e h1 h2 h3 h4
    go_enter Tryz.func96, Tryz.ntmps96
    go_wp2
    go_quiet (fail)
    go_wp2
    go_ret
    exact ⟨rfl, FIN.out _⟩
  have g4 : decide (n ≤ 1000000000000000) = true := decide_eq_true h4
  obtain ⟨D, rfl⟩ : ∃ D : Nat, d = (D : Int) := ⟨d.toNat, by omega⟩
  have CS := Lib.hid (fun k => rsize_q n (by omega) (by omega) (w.alloc (Obj.cells #[Value.int IntKind.i64 n, Value.int IntKind.i64 (D : Int)] 37)) k)
  have CG := Lib.hid (fun k => rgcd_q n.natAbs D (by omega) (by omega) (w.alloc (Obj.cells #[Value.int IntKind.i64 n, Value.int IntKind.i64 (D : Int)] 37)) k)
  have HE := Lib.hid (show okF n (D : Int) = (((Nat.gcd n.natAbs D : Nat) : Int) == 1) by
    unfold okF
    rw [g1, g2, g3, g4, Int.toNat_natCast, Bool.true_and, Bool.true_and, Bool.true_and, Bool.true_and]
    by_cases h : Nat.gcd n.natAbs D = 1
    · rw [decide_eq_true h, h]; rfl
    · rw [decide_eq_false h]
      exact (beq_eq_false_iff_ne.2 (by omega)).symm)
  generalize Nat.gcd n.natAbs D = g at CG HE
  rw [HE.out]
  clear h1 h2 h3 h4 HE
  go_enter Tryz.func96, Tryz.ntmps96
  go_wp2
  go_quiet (first | (go_at_call 100; exact CS.out _) | (go_at_call 117; exact CG.out _))
  go_wp2
  go_ret
  exact ⟨rfl, FIN.out _⟩
end Go.Proofs.YteonkiajgfkieaaGreatDoor
