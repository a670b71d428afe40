
/-
  The reference of package frac: size gives the absolute value, sign the sign, gcd the greatest common divisor of ints that are not negative. The world has at most drawn.
-/
import Derived.Test.YtieicceceggglaaGreatDoorFrMem
import Derived.Test.YtieicceceggglaaGreatDoorFracM
namespace Go.Proofs.YtieicceceggglaaGreatDoor
open Go.RowKit

theorem rsize_any (n : Int) (h : -9223372036854775807 ≤ n) (h' : n ≤ 9223372036854775807) (w : World) : Calls Tryz.prog 96 #[.int .i64 n] w fun e w' => e = .returned (.int .i64 (n.natAbs : Int)) ∧ w' = w := by
  by_cases hn : n < 0
  · have e : (n.natAbs : Int) = -n := by omega
    rw [e]; clear e
    go_enter Tryz.func96, Tryz.ntmps96
    go_wp2
    go_ret
    exact ⟨rfl, rfl⟩
  · have e : (n.natAbs : Int) = n := by omega
    rw [e]; clear e
    have hn' : 0 ≤ n := by omega
    clear hn
    go_enter Tryz.func96, Tryz.ntmps96
    go_wp2
    go_ret
    exact ⟨rfl, rfl⟩
theorem rsign_any (n : Int) (w : World) : Calls Tryz.prog 137 #[.int .i64 n] w fun e w' => e = .returned (.int .i64 n.sign) ∧ w' = w := by
  rcases Int.lt_trichotomy n 0 with hn | hn | hn
  · rw [Int.sign_eq_neg_one_of_neg hn]
    go_enter Tryz.func137, Tryz.ntmps137
    go_wp2
    go_ret
    exact ⟨rfl, rfl⟩
  · subst hn
    go_enter Tryz.func137, Tryz.ntmps137
    go_wp2
    go_ret
    exact ⟨rfl, rfl⟩
  · rw [Int.sign_eq_one_of_pos hn]
    have hn' : ¬ n < 0 := by omega
    go_enter Tryz.func137, Tryz.ntmps137
    go_wp2
    go_ret
    exact ⟨rfl, rfl⟩

/-- The world has at most drawn. -/
def RetQ (w : World) (n : Int) (e : Ending) (w' : World) : Prop := ∃ q, e = .returned (.int .i64 n) ∧ w' = w.drewN q
theorem gcd_round {x y : Nat} : Nat.gcd y (x % y) = Nat.gcd x y := by
  rw [Nat.gcd_comm x y, Nat.gcd_rec y x, Nat.gcd_comm]
set_option maxHeartbeats 800000 in
theorem rgcd_any (a b : Nat) (ha : a ≤ 9223372036854775807) (hb : b ≤ 9223372036854775807) (w : World) : Calls Tryz.prog 95 #[.int .i64 a, .int .i64 b] w (RetQ w (Nat.gcd a b : Nat)) := by
  go_enter Tryz.func95, Tryz.ntmps95
  go_wp2
  go_loopw [0, 1] (fun x y wr => ∃ p q : Nat, x = .int .i64 p ∧ y = .int .i64 q ∧ p ≤ 9223372036854775807 ∧ q ≤ 9223372036854775807 ∧ Hid (Nat.gcd p q = Nat.gcd a b) ∧ ∃ n, wr = w.drewN n) (fun _ y _ => (RowKit.intOf y).toNat)
  case atStart => exact ⟨a, b, rfl, rfl, ha, hb, rfl, 0, rfl⟩
  case round =>
    obtain ⟨p, q, rfl, rfl, c1, c2, HG, n, rfl⟩ := hrel
    by_cases hq : q = 0
    · subst hq
      have HP := Lib.hid (show ((Nat.gcd a b : Nat) : Int) = (p : Int) by rw [← HG.out, Nat.gcd_zero_right])
      go_wp2
      go_ret
      exact ⟨n, ret_int HP.out.symm, rfl⟩
    · have hq0 : 0 < q := by omega
      have hne : ((q : Int) != 0) = true := by rw [bne_iff_ne]; omega
      have hlt := Nat.mod_lt p hq0
      have HG2 := Lib.hid (gcd_round.trans HG.out)
      clear hq
      go_wp2
      go_region
      go_wp2
      go_roundw
      case rel => exact ⟨q, p % q, rfl, by go_num, by omega, by omega, HG2.out, n + 1, rfl⟩
      case measure => simp [RowKit.intOf]; omega
end Go.Proofs.YtieicceceggglaaGreatDoor
