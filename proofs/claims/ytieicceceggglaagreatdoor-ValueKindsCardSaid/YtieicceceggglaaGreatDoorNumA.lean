
/-
  Package num: In, abs, Mul and Gcd return what the plain definitions below say, for every pair of int values (abs: in range); nothing that was there has turned.
-/
import Derived.Test.YtieicceceggglaaGreatDoorFrMem
import Derived.Below
import Derived.LoopTactic
import Derived.Deep.QuietTactic
import Derived.Lib.Hide
namespace Go.Proofs.YtieicceceggglaaGreatDoor
open Go.RowKit
/-! ### The plain mathematics -/
def inB (n : Int) : Bool := decide (-1000000000000000 ≤ n) && decide (n ≤ 1000000000000000)
theorem inB_t {n : Int} (h : inB n = true) : -1000000000000000 ≤ n ∧ n ≤ 1000000000000000 := by simpa [inB] using h
theorem inB_f {n : Int} (h : inB n = false) : ¬ (-1000000000000000 ≤ n ∧ n ≤ 1000000000000000) := by
  intro k; simp [inB] at h; omega
theorem inB_mk {n : Int} (h0 : -1000000000000000 ≤ n) (h1 : n ≤ 1000000000000000) : inB n = true := by simp [inB]; omega
theorem inB_no {n : Int} (h : n < -1000000000000000 ∨ 1000000000000000 < n) : inB n = false := by
  simp [inB]; omega
theorem num_in (n : Int) (w : World) : Calls Tryz.prog 68 #[.int .i64 n] w fun e w' => e = .returned (.bool (inB n)) ∧ w = w' := by
  by_cases h0 : -1000000000000000 ≤ n
  · by_cases h1 : n ≤ 1000000000000000
    · rw [inB_mk h0 h1]
      go_enter Tryz.func68, Tryz.ntmps68
      go_wp2
      go_ret
      exact ⟨rfl, rfl⟩
    · rw [inB_no (by omega)]
      go_enter Tryz.func68, Tryz.ntmps68
      go_wp2
      go_ret
      exact ⟨rfl, rfl⟩
  · rw [inB_no (by omega)]
    go_enter Tryz.func68, Tryz.ntmps68
    go_wp2
    go_ret
    exact ⟨rfl, rfl⟩
def absV (n : Int) : Int := if n < 0 then -n else n
theorem absV_0 (n : Int) : 0 ≤ absV n := by unfold absV; split <;> omega
theorem absV_le {n : Int} (h0 : -1000000000000000 ≤ n) (h1 : n ≤ 1000000000000000) : absV n ≤ 1000000000000000 := by unfold absV; split <;> omega
theorem num_abs (n : Int) (h0 : -1000000000000000 ≤ n) (h1 : n ≤ 1000000000000000) (w : World) : Calls Tryz.prog 123 #[.int .i64 n] w fun e w' => e = .returned (.int .i64 (absV n)) ∧ w = w' := by
  by_cases h : n < 0
  · have hv : absV n = -n := by unfold absV; rw [if_pos h]
    rw [hv]; clear hv
    go_enter Tryz.func123, Tryz.ntmps123
    go_wp2
    go_ret
    exact ⟨rfl, rfl⟩
  · have hv : absV n = n := by unfold absV; rw [if_neg h]
    rw [hv]; clear hv
    go_enter Tryz.func123, Tryz.ntmps123
    go_wp2
    go_ret
    exact ⟨rfl, rfl⟩


theorem absV_nat (n : Int) : absV n = (n.natAbs : Int) := by unfold absV; split <;> omega
def gcdV (a b : Int) : Int := if inB a = true ∧ inB b = true then (Int.gcd a b : Int) else 0
theorem gcd_start {a b : Int} : Int.gcd (absV a) (absV b) = Int.gcd a b := by rw [absV_nat, absV_nat]; simp [Int.gcd]
theorem gcd_step {x y : Int} (hx : 0 ≤ x) : Int.gcd y (x % y) = Int.gcd x y := by
  rw [← Int.tmod_eq_emod_of_nonneg hx]
  simp only [Int.gcd, Int.natAbs_tmod]
  rw [Nat.gcd_comm x.natAbs y.natAbs, Nat.gcd_rec y.natAbs x.natAbs, Nat.gcd_comm]
theorem gcd_end {x : Int} (h : 0 ≤ x) : ((Int.gcd x 0 : Nat) : Int) = x := by simp; omega
theorem emod_lo (x : Int) {y : Int} (hy : 0 < y) : 0 ≤ x % y ∧ x % y < y := ⟨Int.emod_nonneg _ (by omega), Int.emod_lt_of_pos _ hy⟩
theorem num_gcd (a b : Int) (w : World) : Calls Tryz.prog 94 #[.int .i64 a, .int .i64 b] w fun e w' => e = .returned (.int .i64 (gcdV a b)) ∧ Fur w w' := by
  cases ha : inB a
  · have h2 : gcdV a b = 0 := by simp [gcdV, ha]
    rw [h2]; clear h2
    go_enter Tryz.func94, Tryz.ntmps94
    go_wp2_with (go_at_call 68; refine (num_in _ _).mono ?_; rintro e w' ⟨rfl, rfl⟩)
    go_ret
    exact ⟨rfl, Fur.refl _⟩
  · cases hb : inB b
    · have h2 : gcdV a b = 0 := by simp [gcdV, hb]
      rw [h2]; clear h2
      go_enter Tryz.func94, Tryz.ntmps94
      go_wp2_with (go_at_call 68; refine (num_in _ _).mono ?_; rintro e w' ⟨rfl, rfl⟩)
      go_ret
      exact ⟨rfl, Fur.refl _⟩
    · have h2 : gcdV a b = (Int.gcd a b : Int) := by simp [gcdV, ha, hb]
      rw [h2]; clear h2
      obtain ⟨a0, a1⟩ := inB_t ha
      obtain ⟨b0, b1⟩ := inB_t hb
      have p1 := absV_0 a
      have p2 := absV_le a0 a1
      have q1 := absV_0 b
      have q2 := absV_le b0 b1
      go_enter Tryz.func94, Tryz.ntmps94
      go_wp2_with (first | (go_at_call 68; refine (num_in _ _).mono ?_; rintro e w' ⟨rfl, rfl⟩) | (go_at_call 123; refine (num_abs _ (by assumption) (by assumption) _).mono ?_; rintro e w' ⟨rfl, rfl⟩))
      go_loopw [0, 1] (fun x y wr => ∃ p q : Int, x = .int .i64 p ∧ y = .int .i64 q ∧ 0 ≤ p ∧ p ≤ 1000000000000000 ∧ 0 ≤ q ∧ q ≤ 1000000000000000 ∧ Hid (Int.gcd p q = Int.gcd a b) ∧ Fur w wr) (fun _ y _ => (intOf y).toNat)
      case atStart => exact ⟨_, _, rfl, rfl, p1, p2, q1, q2, gcd_start, Fur.refl _⟩
      case round =>
        obtain ⟨p, q, rfl, rfl, c1, c2, c3, c4, HG, hf⟩ := hrel
        by_cases hq : q = 0
        · subst hq
          have hp := gcd_end c1
          rw [HG.out] at hp
          have HP := Lib.hid hp; clear hp
          go_wp2
          go_ret
          exact ⟨ret_int HP.out.symm, hf⟩
        · have hne : (q != 0) = true := by simpa using hq
          obtain ⟨t0, t1⟩ := emod_lo p (show 0 < q by omega)
          go_wp2
          go_region
          go_wp2
          go_roundw
          case rel => exact ⟨_, _, rfl, rfl, by omega, by omega, by omega, by omega, (gcd_step c1).trans HG.out, hf.drew⟩
          case measure => simp [intOf]; omega
end Go.Proofs.YtieicceceggglaaGreatDoor
