/-
  Gcd of package num and Gcd of its reference return the greatest common divisor of two int values in range, and 0 for others; the world has at most drawn.
-/
import Derived.Test.YtaliaoncpemmoaaDoorMul
import Derived.Below
import Derived.LoopTactic
import Derived.Deep.QuietTactic
namespace Go.Proofs.YtaliaoncpemmoaaDoor
open Go.RowKit

/-- What existed before is as it was; the world has only grown. -/
def Fur (w w' : World) : Prop := Below w.heap.size w w'
theorem Fur.refl (w : World) : Fur w w := Below.refl _ _
theorem Fur.trans {a b c : World} (h : Fur a b) (k : Fur b c) : Fur a c := Below.trans h (Below.mono k (Below.size h))
theorem Fur.drew {a b : World} (h : Fur a b) : Fur a b.drew := Below.drew h

def gcdV (a b : Int) : Int := if inB a = true ∧ inB b = true then (Int.gcd a b : Int) else 0
theorem gcd_start {a b : Int} : Int.gcd (absV a) (absV b) = Int.gcd a b := by rw [absV_nat, absV_nat]; simp [Int.gcd]
theorem gcd_step {x y : Int} (hx : 0 ≤ x) : Int.gcd y (x % y) = Int.gcd x y := by
  rw [← Int.tmod_eq_emod_of_nonneg hx]
  simp only [Int.gcd, Int.natAbs_tmod]
  rw [Nat.gcd_comm x.natAbs y.natAbs, Nat.gcd_rec y.natAbs x.natAbs, Nat.gcd_comm]
theorem gcd_end {x : Int} (h : 0 ≤ x) : ((Int.gcd x 0 : Nat) : Int) = x := by simp; omega
theorem ret_int {k : IntKind} {a b : Int} (h : a = b) : Ending.returned (.int k a) = .returned (.int k b) := by rw [h]
theorem emod_lo (x : Int) {y : Int} (hy : 0 < y) : 0 ≤ x % y ∧ x % y < y := ⟨Int.emod_nonneg _ (by omega), Int.emod_lt_of_pos _ hy⟩

theorem gcd_any (a b : Int) (w : World) : Calls Tryd.prog 20 #[.int .i64 a, .int .i64 b] w fun e w' => e = .returned (.int .i64 (gcdV a b)) ∧ Fur w w' := by
  cases ha : inB a
  · have h2 : gcdV a b = 0 := by simp [gcdV, ha]
    rw [h2]; clear h2
    go_enter Tryd.func20, Tryd.ntmps20
    go_wp2_with (go_at_call 22; refine (in_any _ _).mono ?_; rintro e w' ⟨rfl, rfl⟩)
    go_ret
    exact ⟨rfl, Fur.refl _⟩
  · cases hb : inB b
    · have h2 : gcdV a b = 0 := by simp [gcdV, hb]
      rw [h2]; clear h2
      go_enter Tryd.func20, Tryd.ntmps20
      go_wp2_with (go_at_call 22; refine (in_any _ _).mono ?_; rintro e w' ⟨rfl, rfl⟩)
      go_ret
      exact ⟨rfl, Fur.refl _⟩
    · have h2 : gcdV a b = (Int.gcd a b : Int) := by simp [gcdV, ha, hb]
      rw [h2]; clear h2
      obtain ⟨a0, a1⟩ := inB_t ha
      obtain ⟨b0, b1⟩ := inB_t hb
      have p1 := absV_0 a
      have p2 := absV_le a0 a1
      have q1 := absV_0 b
      have q2 := absV_le b0 b1
      go_enter Tryd.func20, Tryd.ntmps20
      go_wp2_with (first | (go_at_call 22; refine (in_any _ _).mono ?_; rintro e w' ⟨rfl, rfl⟩) | (go_at_call 30; refine (abs_any _ (by assumption) (by assumption) _).mono ?_; rintro e w' ⟨rfl, rfl⟩))
      go_loopw [0, 1] (fun x y wr => ∃ p q : Int, x = .int .i64 p ∧ y = .int .i64 q ∧ 0 ≤ p ∧ p ≤ 1000000000000000 ∧ 0 ≤ q ∧ q ≤ 1000000000000000 ∧ Hid (Int.gcd p q = Int.gcd a b) ∧ Fur w wr) (fun _ y _ => (intOf y).toNat)
      case atStart => exact ⟨_, _, rfl, rfl, p1, p2, q1, q2, gcd_start, Fur.refl _⟩
      case round =>
        obtain ⟨p, q, rfl, rfl, c1, c2, c3, c4, HG, hf⟩ := hrel
        by_cases hq : q = 0
        · subst hq
          have hp := gcd_end c1
          rw [HG.out] at hp
          have HP := Lib.hid hp; clear hp
          go_wp2
          go_ret
          exact ⟨ret_int HP.out.symm, hf⟩
        · have hne : (q != 0) = true := by simpa using hq
          obtain ⟨t0, t1⟩ := emod_lo p (show 0 < q by omega)
          go_wp2
          go_region
          go_wp2
          go_roundw
          case rel => exact ⟨_, _, rfl, rfl, by omega, by omega, by omega, by omega, (gcd_step c1).trans HG.out, hf.drew⟩
          case measure => simp [intOf]; omega

theorem rgcd_any (a b : Int) (w : World) : Calls Tryd.prog 21 #[.int .i64 a, .int .i64 b] w fun e w' => e = .returned (.int .i64 (gcdV a b)) ∧ w = w' := by
  cases ha : inB a
  · have h2 : gcdV a b = 0 := by simp [gcdV, ha]
    rw [h2]; clear h2
    go_enter Tryd.func21, Tryd.ntmps21
    go_wp2_with (go_at_call 23; refine (rin_any _ _).mono ?_; rintro e w' ⟨rfl, rfl⟩)
    go_ret
    exact ⟨rfl, rfl⟩
  · cases hb : inB b
    · have h2 : gcdV a b = 0 := by simp [gcdV, hb]
      rw [h2]; clear h2
      go_enter Tryd.func21, Tryd.ntmps21
      go_wp2_with (go_at_call 23; refine (rin_any _ _).mono ?_; rintro e w' ⟨rfl, rfl⟩)
      go_ret
      exact ⟨rfl, rfl⟩
    · have h2 : gcdV a b = (Int.gcd a b : Int) := by simp [gcdV, ha, hb]
      rw [h2]; clear h2
      obtain ⟨a0, a1⟩ := inB_t ha
      obtain ⟨b0, b1⟩ := inB_t hb
      have p1 := absV_0 a
      have p2 := absV_le a0 a1
      have q1 := absV_0 b
      have q2 := absV_le b0 b1
      go_enter Tryd.func21, Tryd.ntmps21
      go_wp2_with (first | (go_at_call 23; refine (rin_any _ _).mono ?_; rintro e w' ⟨rfl, rfl⟩) | (go_at_call 33; refine (rabs_any _ (by assumption) (by assumption) _).mono ?_; rintro e w' ⟨rfl, rfl⟩))
      go_loop [5, 6] (fun x y => ∃ p q : Int, x = .int .i64 p ∧ y = .int .i64 q ∧ 0 ≤ p ∧ p ≤ 1000000000000000 ∧ 0 ≤ q ∧ q ≤ 1000000000000000 ∧ Hid (Int.gcd p q = Int.gcd a b)) (fun _ y => (intOf y).toNat)
      case atStart => exact ⟨_, _, rfl, rfl, p1, p2, q1, q2, gcd_start⟩
      case round =>
        obtain ⟨p, q, rfl, rfl, c1, c2, c3, c4, HG⟩ := hrel
        by_cases hq : q = 0
        · subst hq
          have hp := gcd_end c1
          rw [HG.out] at hp
          have HP := Lib.hid hp; clear hp
          go_wp2
          go_ret
          exact ⟨ret_int HP.out.symm, rfl⟩
        · have hq0 : 0 < q := by omega
          obtain ⟨t0, t1⟩ := emod_lo p hq0
          go_wp2
          go_round
          case rel => exact ⟨_, _, rfl, rfl, by omega, by omega, by omega, by omega, (gcd_step c1).trans HG.out⟩
          case measure => simp [intOf]; omega
end Go.Proofs.YtaliaoncpemmoaaDoor
