/-
  Mul, Div and Mod of package num and of its reference return what the plain definitions below say, for every pair of int values, and leave the world as it was.
-/
import Derived.Test.YtaliaoncpemmoaaDoorNum
namespace Go.Proofs.YtaliaoncpemmoaaDoor
open Go.RowKit

theorem absV_nat (n : Int) : absV n = (n.natAbs : Int) := by unfold absV; split <;> omega
theorem mul_fit {a b : Int} (h0 : a ≠ 0) (h : absV b ≤ 1000000000000000 / absV a) : -1000000000000000 ≤ a * b ∧ a * b ≤ 1000000000000000 := by
  have hp := absV_pos h0
  rw [Int.le_ediv_iff_mul_le (by omega)] at h
  rw [absV_nat, absV_nat, ← Int.natCast_mul, Nat.mul_comm, ← Int.natAbs_mul] at h
  omega
theorem mul_fat {a b : Int} (h0 : a ≠ 0) (h : 1000000000000000 / absV a < absV b) : a * b < -1000000000000000 ∨ 1000000000000000 < a * b := by
  have hp := absV_pos h0
  have h' : ¬ absV b ≤ 1000000000000000 / absV a := by omega
  rw [Int.le_ediv_iff_mul_le (by omega)] at h'
  rw [absV_nat, absV_nat, ← Int.natCast_mul, Nat.mul_comm, ← Int.natAbs_mul] at h'
  omega

def mulB (a b : Int) : Bool := inB a && inB b && inB (a * b)
def mulV (a b : Int) : Int := if mulB a b = true then a * b else 0
theorem mul_any (a b : Int) (w : World) : Calls Tryd.prog 11 #[.int .i64 a, .int .i64 b] w fun e w' => e = .returned (.tuple #[.int .i64 (mulV a b), .bool (mulB a b)]) ∧ w = w' := by
  cases ha : inB a
  · have h1 : mulB a b = false := by simp [mulB, ha]
    have h2 : mulV a b = 0 := by simp [mulV, h1]
    rw [h1, h2]; clear h1 h2
    go_enter Tryd.func11, Tryd.ntmps11
    go_wp2_with (go_at_call 22; refine (in_any _ _).mono ?_; rintro e w' ⟨rfl, rfl⟩)
    go_ret2
    exact ⟨rfl, rfl⟩
  · cases hb : inB b
    · have h1 : mulB a b = false := by simp [mulB, hb]
      have h2 : mulV a b = 0 := by simp [mulV, h1]
      rw [h1, h2]; clear h1 h2
      go_enter Tryd.func11, Tryd.ntmps11
      go_wp2_with (go_at_call 22; refine (in_any _ _).mono ?_; rintro e w' ⟨rfl, rfl⟩)
      go_ret2
      exact ⟨rfl, rfl⟩
    · obtain ⟨a0, a1⟩ := inB_t ha
      obtain ⟨b0, b1⟩ := inB_t hb
      by_cases h0 : a = 0
      · subst h0
        have h1 : mulB 0 b = true := by simp only [mulB, ha, hb, Int.zero_mul]; decide
        have h2 : mulV 0 b = 0 := by simp [mulV]
        rw [h1, h2]; clear h1 h2
        go_enter Tryd.func11, Tryd.ntmps11
        go_wp2_with (go_at_call 22; refine (in_any _ _).mono ?_; rintro e w' ⟨rfl, rfl⟩)
        go_ret2
        exact ⟨rfl, rfl⟩
      · have p1 := absV_pos h0
        have p2 := absV_le a0 a1
        have q1 := absV_0 b
        have q2 := absV_le b0 b1
        by_cases h : absV b ≤ 1000000000000000 / absV a
        · obtain ⟨m0, m1⟩ := mul_fit h0 h
          have h1 : mulB a b = true := by simp only [mulB, ha, hb, inB_mk m0 m1]; decide
          have h2 : mulV a b = a * b := by simp [mulV, h1]
          rw [h1, h2]; clear h1 h2
          go_enter Tryd.func11, Tryd.ntmps11
          go_wp2_with (first | (go_at_call 22; refine (in_any _ _).mono ?_; rintro e w' ⟨rfl, rfl⟩) | (go_at_call 30; refine (abs_any _ (by assumption) (by assumption) _).mono ?_; rintro e w' ⟨rfl, rfl⟩))
          go_ret2
          exact ⟨rfl, rfl⟩
        · have hm := mul_fat (b := b) h0 (by omega)
          have h1 : mulB a b = false := by simp only [mulB, ha, hb, inB_no hm]; decide
          have h2 : mulV a b = 0 := by simp [mulV, h1]
          rw [h1, h2]; clear h1 h2 hm
          have h' : 1000000000000000 / absV a < absV b := by omega
          clear h
          go_enter Tryd.func11, Tryd.ntmps11
          go_wp2_with (first | (go_at_call 22; refine (in_any _ _).mono ?_; rintro e w' ⟨rfl, rfl⟩) | (go_at_call 30; refine (abs_any _ (by assumption) (by assumption) _).mono ?_; rintro e w' ⟨rfl, rfl⟩))
          go_ret2
          exact ⟨rfl, rfl⟩
theorem rmul_any (a b : Int) (w : World) : Calls Tryd.prog 16 #[.int .i64 a, .int .i64 b] w fun e w' => e = .returned (.tuple #[.int .i64 (mulV a b), .bool (mulB a b)]) ∧ w = w' := by
  cases ha : inB a
  · have h1 : mulB a b = false := by simp [mulB, ha]
    have h2 : mulV a b = 0 := by simp [mulV, h1]
    rw [h1, h2]; clear h1 h2
    go_enter Tryd.func16, Tryd.ntmps16
    go_wp2_with (go_at_call 23; refine (rin_any _ _).mono ?_; rintro e w' ⟨rfl, rfl⟩)
    go_ret2
    exact ⟨rfl, rfl⟩
  · cases hb : inB b
    · have h1 : mulB a b = false := by simp [mulB, hb]
      have h2 : mulV a b = 0 := by simp [mulV, h1]
      rw [h1, h2]; clear h1 h2
      go_enter Tryd.func16, Tryd.ntmps16
      go_wp2_with (go_at_call 23; refine (rin_any _ _).mono ?_; rintro e w' ⟨rfl, rfl⟩)
      go_ret2
      exact ⟨rfl, rfl⟩
    · obtain ⟨a0, a1⟩ := inB_t ha
      obtain ⟨b0, b1⟩ := inB_t hb
      by_cases h0 : a = 0
      · subst h0
        have h1 : mulB 0 b = true := by simp only [mulB, ha, hb, Int.zero_mul]; decide
        have h2 : mulV 0 b = 0 := by simp [mulV]
        rw [h1, h2]; clear h1 h2
        go_enter Tryd.func16, Tryd.ntmps16
        go_wp2_with (go_at_call 23; refine (rin_any _ _).mono ?_; rintro e w' ⟨rfl, rfl⟩)
        go_ret2
        exact ⟨rfl, rfl⟩
      · have p1 := absV_pos h0
        have p2 := absV_le a0 a1
        have q1 := absV_0 b
        have q2 := absV_le b0 b1
        by_cases h : absV b ≤ 1000000000000000 / absV a
        · obtain ⟨m0, m1⟩ := mul_fit h0 h
          have h1 : mulB a b = true := by simp only [mulB, ha, hb, inB_mk m0 m1]; decide
          have h2 : mulV a b = a * b := by simp [mulV, h1]
          rw [h1, h2]; clear h1 h2
          go_enter Tryd.func16, Tryd.ntmps16
          go_wp2_with (first | (go_at_call 23; refine (rin_any _ _).mono ?_; rintro e w' ⟨rfl, rfl⟩) | (go_at_call 33; refine (rabs_any _ (by assumption) (by assumption) _).mono ?_; rintro e w' ⟨rfl, rfl⟩))
          go_ret2
          exact ⟨rfl, rfl⟩
        · have hm := mul_fat (b := b) h0 (by omega)
          have h1 : mulB a b = false := by simp only [mulB, ha, hb, inB_no hm]; decide
          have h2 : mulV a b = 0 := by simp [mulV, h1]
          rw [h1, h2]; clear h1 h2 hm
          have h' : 1000000000000000 / absV a < absV b := by omega
          clear h
          go_enter Tryd.func16, Tryd.ntmps16
          go_wp2_with (first | (go_at_call 23; refine (rin_any _ _).mono ?_; rintro e w' ⟨rfl, rfl⟩) | (go_at_call 33; refine (rabs_any _ (by assumption) (by assumption) _).mono ?_; rintro e w' ⟨rfl, rfl⟩))
          go_ret2
          exact ⟨rfl, rfl⟩

def dvB (a b : Int) : Bool := inB a && inB b && !(b == 0)
theorem dvs_any (a b : Int) (w : World) : Calls Tryd.prog 31 #[.int .i64 a, .int .i64 b] w fun e w' => e = .returned (.bool (dvB a b)) ∧ w = w' := by
  cases ha : inB a
  · have h1 : dvB a b = false := by simp [dvB, ha]
    rw [h1]; clear h1
    go_enter Tryd.func31, Tryd.ntmps31
    go_wp2_with (go_at_call 22; refine (in_any _ _).mono ?_; rintro e w' ⟨rfl, rfl⟩)
    go_ret
    exact ⟨rfl, rfl⟩
  · cases hb : inB b
    · have h1 : dvB a b = false := by simp [dvB, hb]
      rw [h1]; clear h1
      go_enter Tryd.func31, Tryd.ntmps31
      go_wp2_with (go_at_call 22; refine (in_any _ _).mono ?_; rintro e w' ⟨rfl, rfl⟩)
      go_ret
      exact ⟨rfl, rfl⟩
    · by_cases h0 : b = 0
      · subst h0
        have h1 : dvB a 0 = false := by simp [dvB]
        rw [h1]; clear h1
        go_enter Tryd.func31, Tryd.ntmps31
        go_wp2_with (go_at_call 22; refine (in_any _ _).mono ?_; rintro e w' ⟨rfl, rfl⟩)
        go_ret
        exact ⟨rfl, rfl⟩
      · have h1 : dvB a b = true := by simp [dvB, ha, hb, h0]
        rw [h1]; clear h1
        have hne : (b != 0) = true := by simpa using h0
        go_enter Tryd.func31, Tryd.ntmps31
        go_wp2_with (go_at_call 22; refine (in_any _ _).mono ?_; rintro e w' ⟨rfl, rfl⟩)
        go_ret
        exact ⟨rfl, rfl⟩
theorem dvB_t {a b : Int} (h : dvB a b = true) : inB a = true ∧ inB b = true ∧ b ≠ 0 := by
  simp only [dvB, Bool.and_eq_true] at h
  exact ⟨h.1.1, h.1.2, by simpa using h.2⟩
theorem tdiv_bd {a b : Int} (h0 : -1000000000000000 ≤ a) (h1 : a ≤ 1000000000000000) : -1000000000000000 ≤ a.tdiv b ∧ a.tdiv b ≤ 1000000000000000 := by
  have h := Int.natAbs_tdiv_le_natAbs a b
  omega
theorem tmod_bd {a b : Int} (h0 : -1000000000000000 ≤ a) (h1 : a ≤ 1000000000000000) : -1000000000000000 ≤ a.tmod b ∧ a.tmod b ≤ 1000000000000000 := by
  have h : (a.tmod b).natAbs ≤ a.natAbs := by rw [Int.natAbs_tmod]; exact Nat.mod_le _ _
  omega
def divV (a b : Int) : Int := if dvB a b = true then a.tdiv b else 0
def modV (a b : Int) : Int := if dvB a b = true then a.tmod b else 0
theorem div_any (a b : Int) (w : World) : Calls Tryd.prog 12 #[.int .i64 a, .int .i64 b] w fun e w' => e = .returned (.tuple #[.int .i64 (divV a b), .bool (dvB a b)]) ∧ w = w' := by
  cases hd : dvB a b
  · have h2 : divV a b = 0 := by simp [divV, hd]
    rw [h2]; clear h2
    go_enter Tryd.func12, Tryd.ntmps12
    go_wp2_with (go_at_call 31; refine (dvs_any _ _ _).mono ?_; rintro e w' ⟨rfl, rfl⟩)
    go_ret2
    exact ⟨rfl, rfl⟩
  · have h2 : divV a b = a.tdiv b := by simp [divV, hd]
    rw [h2]; clear h2
    obtain ⟨ha, hb, h0⟩ := dvB_t hd
    obtain ⟨a0, a1⟩ := inB_t ha
    obtain ⟨b0, b1⟩ := inB_t hb
    obtain ⟨q0, q1⟩ := tdiv_bd (b := b) a0 a1
    go_enter Tryd.func12, Tryd.ntmps12
    go_wp2_with (go_at_call 31; refine (dvs_any _ _ _).mono ?_; rintro e w' ⟨rfl, rfl⟩)
    go_ret2
    exact ⟨rfl, rfl⟩
theorem mod_any (a b : Int) (w : World) : Calls Tryd.prog 13 #[.int .i64 a, .int .i64 b] w fun e w' => e = .returned (.tuple #[.int .i64 (modV a b), .bool (dvB a b)]) ∧ w = w' := by
  cases hd : dvB a b
  · have h2 : modV a b = 0 := by simp [modV, hd]
    rw [h2]; clear h2
    go_enter Tryd.func13, Tryd.ntmps13
    go_wp2_with (go_at_call 31; refine (dvs_any _ _ _).mono ?_; rintro e w' ⟨rfl, rfl⟩)
    go_ret2
    exact ⟨rfl, rfl⟩
  · have h2 : modV a b = a.tmod b := by simp [modV, hd]
    rw [h2]; clear h2
    obtain ⟨ha, hb, h0⟩ := dvB_t hd
    obtain ⟨a0, a1⟩ := inB_t ha
    obtain ⟨b0, b1⟩ := inB_t hb
    obtain ⟨q0, q1⟩ := tmod_bd (b := b) a0 a1
    go_enter Tryd.func13, Tryd.ntmps13
    go_wp2_with (go_at_call 31; refine (dvs_any _ _ _).mono ?_; rintro e w' ⟨rfl, rfl⟩)
    go_ret2
    exact ⟨rfl, rfl⟩
theorem rdiv_any (a b : Int) (w : World) : Calls Tryd.prog 17 #[.int .i64 a, .int .i64 b] w fun e w' => e = .returned (.tuple #[.int .i64 (divV a b), .bool (dvB a b)]) ∧ w = w' := by
  cases ha : inB a
  · skip
    have h1 : dvB a b = false := by simp [dvB, ha]
    have h2 : divV a b = 0 := by simp [divV, h1]
    rw [h1, h2]; clear h1 h2
    go_enter Tryd.func17, Tryd.ntmps17
    go_wp2_with (go_at_call 23; refine (rin_any _ _).mono ?_; rintro e w' ⟨rfl, rfl⟩)
    go_ret2
    exact ⟨rfl, rfl⟩
  · cases hb : inB b
    · skip
      have h1 : dvB a b = false := by simp [dvB, hb]
      have h2 : divV a b = 0 := by simp [divV, h1]
      rw [h1, h2]; clear h1 h2
      go_enter Tryd.func17, Tryd.ntmps17
      go_wp2_with (go_at_call 23; refine (rin_any _ _).mono ?_; rintro e w' ⟨rfl, rfl⟩)
      go_ret2
      exact ⟨rfl, rfl⟩
    · by_cases h0 : b = 0
      · subst h0
        have h1 : dvB a 0 = false := by simp [dvB]
        have h2 : divV a 0 = 0 := by simp [divV, h1]
        rw [h1, h2]; clear h1 h2
        go_enter Tryd.func17, Tryd.ntmps17
        go_wp2_with (go_at_call 23; refine (rin_any _ _).mono ?_; rintro e w' ⟨rfl, rfl⟩)
        go_ret2
        exact ⟨rfl, rfl⟩
      · have h1 : dvB a b = true := by simp [dvB, ha, hb, h0]
        have h2 : divV a b = a.tdiv b := by simp [divV, h1]
        rw [h1, h2]; clear h1 h2
        obtain ⟨a0, a1⟩ := inB_t ha
        obtain ⟨b0, b1⟩ := inB_t hb
        obtain ⟨q0, q1⟩ := tdiv_bd (b := b) a0 a1
        go_enter Tryd.func17, Tryd.ntmps17
        go_wp2_with (go_at_call 23; refine (rin_any _ _).mono ?_; rintro e w' ⟨rfl, rfl⟩)
        go_ret2
        exact ⟨rfl, rfl⟩
theorem rmod_any (a b : Int) (w : World) : Calls Tryd.prog 18 #[.int .i64 a, .int .i64 b] w fun e w' => e = .returned (.tuple #[.int .i64 (modV a b), .bool (dvB a b)]) ∧ w = w' := by
  cases ha : inB a
  · skip
    have h1 : dvB a b = false := by simp [dvB, ha]
    have h2 : modV a b = 0 := by simp [modV, h1]
    rw [h1, h2]; clear h1 h2
    go_enter Tryd.func18, Tryd.ntmps18
    go_wp2_with (go_at_call 23; refine (rin_any _ _).mono ?_; rintro e w' ⟨rfl, rfl⟩)
    go_ret2
    exact ⟨rfl, rfl⟩
  · cases hb : inB b
    · skip
      have h1 : dvB a b = false := by simp [dvB, hb]
      have h2 : modV a b = 0 := by simp [modV, h1]
      rw [h1, h2]; clear h1 h2
      go_enter Tryd.func18, Tryd.ntmps18
      go_wp2_with (go_at_call 23; refine (rin_any _ _).mono ?_; rintro e w' ⟨rfl, rfl⟩)
      go_ret2
      exact ⟨rfl, rfl⟩
    · by_cases h0 : b = 0
      · subst h0
        have h1 : dvB a 0 = false := by simp [dvB]
        have h2 : modV a 0 = 0 := by simp [modV, h1]
        rw [h1, h2]; clear h1 h2
        go_enter Tryd.func18, Tryd.ntmps18
        go_wp2_with (go_at_call 23; refine (rin_any _ _).mono ?_; rintro e w' ⟨rfl, rfl⟩)
        go_ret2
        exact ⟨rfl, rfl⟩
      · have h1 : dvB a b = true := by simp [dvB, ha, hb, h0]
        have h2 : modV a b = a.tmod b := by simp [modV, h1]
        rw [h1, h2]; clear h1 h2
        obtain ⟨a0, a1⟩ := inB_t ha
        obtain ⟨b0, b1⟩ := inB_t hb
        obtain ⟨q0, q1⟩ := tmod_bd (b := b) a0 a1
        go_enter Tryd.func18, Tryd.ntmps18
        go_wp2_with (go_at_call 23; refine (rin_any _ _).mono ?_; rintro e w' ⟨rfl, rfl⟩)
        go_ret2
        exact ⟨rfl, rfl⟩

theorem same_any (a : Int) (c : Bool) (w : World) : Calls Tryd.prog 19 #[.int .i64 a, .bool c, .int .i64 a, .bool c] w fun e w' => e = .returned (.bool true) ∧ w = w' := by
  go_enter Tryd.func19, Tryd.ntmps19
  go_wp2
  go_ret
  exact ⟨rfl, rfl⟩
end Go.Proofs.YtaliaoncpemmoaaDoor
