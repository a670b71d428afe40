/-
  LvA; NumA; FrM; FrO; FrPut: texts of one kind in one file; each part says what it holds.
-/
import Derived.Test.YteonkiajgfkieaaGreatDoorM05
import Derived.Deep.RegionHeld3
import Derived.Test.YteonkiajgfkieaaGreatDoorM04
import Derived.Below
import Derived.LoopTactic
import Derived.Deep.QuietTactic
import Derived.Lib.Hide
import Derived.Test.YteonkiajgfkieaaGreatDoorM00
import Derived.Deep.RegionWith

/-! Package value: truth, known, Not, And, Or, class; Go's cmp.Compare of ints and of strings. Nothing that was there turns. -/
namespace Go.Proofs.YteonkiajgfkieaaGreatDoor
open Go.RowKit

/-- A truth value. -/
def triV (a : Int) : Int := if a = 0 ∨ a = 2 then a else 1
theorem triV_c (a : Int) : (a = 0 ∧ triV a = 0) ∨ (a = 2 ∧ triV a = 2) ∨ (a ≠ 0 ∧ a ≠ 2 ∧ triV a = 1) := by
  unfold triV
  by_cases h0 : a = 0
  · exact .inl ⟨h0, by rw [if_pos (.inl h0), h0]⟩
  · by_cases h2 : a = 2
    · exact .inr (.inl ⟨h2, by rw [if_pos (.inr h2), h2]⟩)
    · exact .inr (.inr ⟨h0, h2, by rw [if_neg (by omega)]⟩)
theorem triV_3 (a : Int) : triV a = 0 ∨ triV a = 2 ∨ triV a = 1 := by rcases triV_c a with h | h | h <;> omega
theorem triV_d (a : Int) : (a = 0 ∧ triV a = 0) ∨ (a = 2 ∧ triV a = 2) ∨ ((a == 0) = false ∧ (a == 2) = false ∧ triV a = 1) := by
  rcases triV_c a with h | h | ⟨h0, h2, h⟩
  · exact .inl h
  · exact .inr (.inl h)
  · exact .inr (.inr ⟨beq_eq_false_iff_ne.2 h0, beq_eq_false_iff_ne.2 h2, h⟩)
theorem ltruth_any (a : Int) (w : World) : Calls Tryz.prog 101 #[.int .i64 a] w fun e w' => e = .returned (.int .i64 (triV a)) ∧ w' = w := by
  rcases triV_d a with ⟨rfl, e⟩ | ⟨rfl, e⟩ | ⟨g0, g2, e⟩ <;> rw [e] <;> clear e
  all_goals
    go_enter Tryz.func101, Tryz.ntmps101
    go_wp2
    go_ret
    exact ⟨rfl, rfl⟩
theorem land_any (a b : Int) (w : World) : Calls Tryz.prog 76 #[.int .i64 a, .int .i64 b] w fun e w' => e = .returned (.int .i64 (min (triV a) (triV b))) ∧ w' = w := by
  rcases triV_d a with ⟨rfl, e⟩ | ⟨rfl, e⟩ | ⟨g0, g2, e⟩ <;> rcases triV_d b with ⟨rfl, e'⟩ | ⟨rfl, e'⟩ | ⟨g0', g2', e'⟩ <;> simp only [e, e'] <;> clear e e'
  all_goals
    go_enter Tryz.func76, Tryz.ntmps76
    go_wp2
    go_ret
    exact ⟨rfl, rfl⟩
theorem lknown_any (b : Bool) (w : World) : Calls Tryz.prog 34 #[.bool b] w fun e w' => e = .returned (.int .i64 (if b = true then 2 else 0)) ∧ w' = w := by
  cases b
  all_goals
    go_enter Tryz.func34, Tryz.ntmps34
    go_wp2
    go_ret
    exact ⟨rfl, rfl⟩

/-! Go's Compare. -/
theorem lcmpi_any (a b : Int) (w : World) : Calls Tryz.prog 44 #[.int .i64 a, .int .i64 b] w fun e w' => e = .returned (.int .i64 (intc a b)) ∧ w' = w := by
  by_cases h1 : a < b
  · rw [show intc a b = -1 by unfold intc; rw [if_pos h1]]
    go_enter Tryz.func44, Tryz.ntmps44
    go_wp2
    go_ret
    exact ⟨rfl, rfl⟩
  · by_cases h2 : b < a
    · rw [show intc a b = 1 by unfold intc; rw [if_neg h1, if_pos h2]]
      go_enter Tryz.func44, Tryz.ntmps44
      go_wp2
      go_ret
      exact ⟨rfl, rfl⟩
    · rw [show intc a b = 0 by unfold intc; rw [if_neg h1, if_neg h2]]
      go_enter Tryz.func44, Tryz.ntmps44
      go_wp2
      go_ret
      exact ⟨rfl, rfl⟩
/-- The class, as the code has it. -/
def classG (k : Int) : Int := if k = 1 then 1 else if k = 2 ∨ k = 3 then 2 else if k = 4 then 3 else if k = 5 then 4 else if k = 6 then 5 else if k = 8 then 6 else if k = 7 then 7 else 0
theorem classG_ok {k : Int} (h0 : 0 ≤ k) (h8 : k ≤ 8) : classG k = classV k := by
  unfold classG classV
  have : k = 0 ∨ k = 1 ∨ k = 2 ∨ k = 3 ∨ k = 4 ∨ k = 5 ∨ k = 6 ∨ k = 7 ∨ k = 8 := by omega
  rcases this with rfl | rfl | rfl | rfl | rfl | rfl | rfl | rfl | rfl <;> decide
theorem lclass_any (x : Vl) (ao : Option Addr) (cap : Nat) (w : World) : Calls Tryz.prog 33 #[vlv x ao cap] w (RetI w (classG x.kd)) := by
  obtain ⟨p0, f0⟩ := bx1 w x ao cap
  have c0 := p0.c0
  clear p0
  unfold vlv
  generalize x.kd = k at *
  by_cases h1 : k = 1
  · subst h1
    rw [show classG 1 = 1 from rfl]
    go_enter Tryz.func33, Tryz.ntmps33
    go_wp2
    go_ret
    exact ⟨rfl, f0⟩
  have g1 : (k == 1) = false := beq_eq_false_iff_ne.2 h1
  by_cases h2 : k = 2
  · subst h2
    rw [show classG 2 = 2 from rfl]
    go_enter Tryz.func33, Tryz.ntmps33
    go_wp2
    go_ret
    exact ⟨rfl, f0⟩
  have g2 : (k == 2) = false := beq_eq_false_iff_ne.2 h2
  by_cases h3 : k = 3
  · subst h3
    rw [show classG 3 = 2 from rfl]
    go_enter Tryz.func33, Tryz.ntmps33
    go_wp2
    go_ret
    exact ⟨rfl, f0⟩
  have g3 : (k == 3) = false := beq_eq_false_iff_ne.2 h3
  by_cases h4 : k = 4
  · subst h4
    rw [show classG 4 = 3 from rfl]
    go_enter Tryz.func33, Tryz.ntmps33
    go_wp2
    go_ret
    exact ⟨rfl, f0⟩
  have g4 : (k == 4) = false := beq_eq_false_iff_ne.2 h4
  by_cases h5 : k = 5
  · subst h5
    rw [show classG 5 = 4 from rfl]
    go_enter Tryz.func33, Tryz.ntmps33
    go_wp2
    go_ret
    exact ⟨rfl, f0⟩
  have g5 : (k == 5) = false := beq_eq_false_iff_ne.2 h5
  by_cases h6 : k = 6
  · subst h6
    rw [show classG 6 = 5 from rfl]
    go_enter Tryz.func33, Tryz.ntmps33
    go_wp2
    go_ret
    exact ⟨rfl, f0⟩
  have g6 : (k == 6) = false := beq_eq_false_iff_ne.2 h6
  by_cases h8 : k = 8
  · subst h8
    rw [show classG 8 = 6 from rfl]
    go_enter Tryz.func33, Tryz.ntmps33
    go_wp2
    go_ret
    exact ⟨rfl, f0⟩
  have g8 : (k == 8) = false := beq_eq_false_iff_ne.2 h8
  by_cases h7 : k = 7
  · subst h7
    rw [show classG 7 = 7 from rfl]
    go_enter Tryz.func33, Tryz.ntmps33
    go_wp2
    go_ret
    exact ⟨rfl, f0⟩
  have g7 : (k == 7) = false := beq_eq_false_iff_ne.2 h7
  rw [show classG k = 0 by unfold classG; rw [if_neg h1, if_neg (by omega), if_neg h4, if_neg h5, if_neg h6, if_neg h8, if_neg h7]]
  clear h1 h2 h3 h4 h5 h6 h7 h8
  go_enter Tryz.func33, Tryz.ntmps33
  go_wp2
  go_ret
  exact ⟨rfl, f0⟩
end Go.Proofs.YteonkiajgfkieaaGreatDoor

/-! Package num: In, abs, Mul and Gcd return what the plain definitions below say, for every pair of int values (abs: in range); nothing that was there has turned. -/
namespace Go.Proofs.YteonkiajgfkieaaGreatDoor
open Go.RowKit
/-! ### The plain mathematics -/
def inB (n : Int) : Bool := decide (-1000000000000000 ≤ n) && decide (n ≤ 1000000000000000)
theorem inB_t {n : Int} (h : inB n = true) : -1000000000000000 ≤ n ∧ n ≤ 1000000000000000 := by simpa [inB] using h
theorem inB_f {n : Int} (h : inB n = false) : ¬ (-1000000000000000 ≤ n ∧ n ≤ 1000000000000000) := by
  intro k; simp [inB] at h; omega
theorem inB_mk {n : Int} (h0 : -1000000000000000 ≤ n) (h1 : n ≤ 1000000000000000) : inB n = true := by simp [inB]; omega
theorem inB_no {n : Int} (h : n < -1000000000000000 ∨ 1000000000000000 < n) : inB n = false := by
  simp [inB]; omega
theorem num_in (n : Int) (w : World) : Calls Tryz.prog 55 #[.int .i64 n] w fun e w' => e = .returned (.bool (inB n)) ∧ w = w' := by
  by_cases h0 : -1000000000000000 ≤ n
  · by_cases h1 : n ≤ 1000000000000000
    · rw [inB_mk h0 h1]
      go_enter Tryz.func55, Tryz.ntmps55
      go_wp2
      go_ret
      exact ⟨rfl, rfl⟩
    · rw [inB_no (by omega)]
      go_enter Tryz.func55, Tryz.ntmps55
      go_wp2
      go_ret
      exact ⟨rfl, rfl⟩
  · rw [inB_no (by omega)]
    go_enter Tryz.func55, Tryz.ntmps55
    go_wp2
    go_ret
    exact ⟨rfl, rfl⟩
def absV (n : Int) : Int := if n < 0 then -n else n
theorem absV_0 (n : Int) : 0 ≤ absV n := by unfold absV; split <;> omega
theorem absV_le {n : Int} (h0 : -1000000000000000 ≤ n) (h1 : n ≤ 1000000000000000) : absV n ≤ 1000000000000000 := by unfold absV; split <;> omega
theorem num_abs (n : Int) (h0 : -1000000000000000 ≤ n) (h1 : n ≤ 1000000000000000) (w : World) : Calls Tryz.prog 110 #[.int .i64 n] w fun e w' => e = .returned (.int .i64 (absV n)) ∧ w = w' := by
  by_cases h : n < 0
  · have hv : absV n = -n := by unfold absV; rw [if_pos h]
    rw [hv]; clear hv
    go_enter Tryz.func110, Tryz.ntmps110
    go_wp2
    go_ret
    exact ⟨rfl, rfl⟩
  · have hv : absV n = n := by unfold absV; rw [if_neg h]
    rw [hv]; clear hv
    go_enter Tryz.func110, Tryz.ntmps110
    go_wp2
    go_ret
    exact ⟨rfl, rfl⟩


theorem absV_nat (n : Int) : absV n = (n.natAbs : Int) := by unfold absV; split <;> omega
def gcdV (a b : Int) : Int := if inB a = true ∧ inB b = true then (Int.gcd a b : Int) else 0
theorem gcd_start {a b : Int} : Int.gcd (absV a) (absV b) = Int.gcd a b := by rw [absV_nat, absV_nat]; simp [Int.gcd]
theorem gcd_step {x y : Int} (hx : 0 ≤ x) : Int.gcd y (x % y) = Int.gcd x y := by
  rw [← Int.tmod_eq_emod_of_nonneg hx]
  simp only [Int.gcd, Int.natAbs_tmod]
  rw [Nat.gcd_comm x.natAbs y.natAbs, Nat.gcd_rec y.natAbs x.natAbs, Nat.gcd_comm]
theorem gcd_end {x : Int} (h : 0 ≤ x) : ((Int.gcd x 0 : Nat) : Int) = x := by simp; omega
theorem emod_lo (x : Int) {y : Int} (hy : 0 < y) : 0 ≤ x % y ∧ x % y < y := ⟨Int.emod_nonneg _ (by omega), Int.emod_lt_of_pos _ hy⟩
theorem num_gcd (a b : Int) (w : World) : Calls Tryz.prog 88 #[.int .i64 a, .int .i64 b] w fun e w' => e = .returned (.int .i64 (gcdV a b)) ∧ Fur w w' := by
  cases ha : inB a
  · have h2 : gcdV a b = 0 := by simp [gcdV, ha]
    rw [h2]; clear h2
    go_enter Tryz.func88, Tryz.ntmps88
    go_wp2_with (go_at_call 55; refine (num_in _ _).mono ?_; rintro e w' ⟨rfl, rfl⟩)
    go_ret
    exact ⟨rfl, Fur.refl _⟩
  · cases hb : inB b
    · have h2 : gcdV a b = 0 := by simp [gcdV, hb]
      rw [h2]; clear h2
      go_enter Tryz.func88, Tryz.ntmps88
      go_wp2_with (go_at_call 55; refine (num_in _ _).mono ?_; rintro e w' ⟨rfl, rfl⟩)
      go_ret
      exact ⟨rfl, Fur.refl _⟩
    · have h2 : gcdV a b = (Int.gcd a b : Int) := by simp [gcdV, ha, hb]
      rw [h2]; clear h2
      obtain ⟨a0, a1⟩ := inB_t ha
      obtain ⟨b0, b1⟩ := inB_t hb
      have p1 := absV_0 a
      have p2 := absV_le a0 a1
      have q1 := absV_0 b
      have q2 := absV_le b0 b1
      go_enter Tryz.func88, Tryz.ntmps88
      go_wp2_with (first | (go_at_call 55; refine (num_in _ _).mono ?_; rintro e w' ⟨rfl, rfl⟩) | (go_at_call 110; refine (num_abs _ (by assumption) (by assumption) _).mono ?_; rintro e w' ⟨rfl, rfl⟩))
      go_loopw [0, 1] (fun x y wr => ∃ p q : Int, x = .int .i64 p ∧ y = .int .i64 q ∧ 0 ≤ p ∧ p ≤ 1000000000000000 ∧ 0 ≤ q ∧ q ≤ 1000000000000000 ∧ Hid (Int.gcd p q = Int.gcd a b) ∧ Fur w wr) (fun _ y _ => (intOf y).toNat)
      case atStart => exact ⟨_, _, rfl, rfl, p1, p2, q1, q2, gcd_start, Fur.refl _⟩
      case round =>
        obtain ⟨p, q, rfl, rfl, c1, c2, c3, c4, HG, hf⟩ := hrel
        by_cases hq : q = 0
        · subst hq
          have hp := gcd_end c1
          rw [HG.out] at hp
          have HP := Lib.hid hp; clear hp
          go_wp2
          go_ret
          exact ⟨ret_int HP.out.symm, hf⟩
        · have hne : (q != 0) = true := by simpa using hq
          obtain ⟨t0, t1⟩ := emod_lo p (show 0 < q by omega)
          go_wp2
          go_region
          go_wp2
          go_roundw
          case rel => exact ⟨_, _, rfl, rfl, by omega, by omega, by omega, by omega, (gcd_step c1).trans HG.out, hf.drew⟩
          case measure => simp [intOf]; omega
end Go.Proofs.YteonkiajgfkieaaGreatDoor

/-! The reference of package frac: Cmp compares the values of two fractions, where one that is not valid counts as 0. For every two pairs of ints; nothing that was there turns. -/
namespace Go.Proofs.YteonkiajgfkieaaGreatDoor
open Go.RowKit

theorem box2 (w : World) (a b c d : Int) :
    Box ((w.alloc (.cells #[.int .i64 a, .int .i64 b] 37)).alloc (.cells #[.int .i64 c, .int .i64 d] 37)) w.heap.size a b ∧
    Box ((w.alloc (.cells #[.int .i64 a, .int .i64 b] 37)).alloc (.cells #[.int .i64 c, .int .i64 d] 37)) (w.heap.size + 1) c d ∧
    Fur w ((w.alloc (.cells #[.int .i64 a, .int .i64 b] 37)).alloc (.cells #[.int .i64 c, .int .i64 d] 37)) := by
  have p0 : Box (w.alloc (.cells #[.int .i64 a, .int .i64 b] 37)) w.heap.size a b := by
    show (w.heap.push _)[w.heap.size]? = _
    rw [Array.getElem?_push, if_pos rfl]
  have f0 : Fur w (w.alloc (.cells #[.int .i64 a, .int .i64 b] 37)) := (Fur.refl w).alloc _
  have s0 : (w.alloc (.cells #[.int .i64 a, .int .i64 b] 37)).heap.size = w.heap.size + 1 := by simp
  generalize w.alloc (.cells #[.int .i64 a, .int .i64 b] 37) = w1 at *
  have p1 : Box (w1.alloc (.cells #[.int .i64 c, .int .i64 d] 37)) (w.heap.size + 1) c d := by
    show (w1.heap.push _)[w.heap.size + 1]? = _
    rw [← s0, Array.getElem?_push, if_pos rfl]
  have f1 : Fur w1 (w1.alloc (.cells #[.int .i64 c, .int .i64 d] 37)) := (Fur.refl w1).alloc _
  exact ⟨p0.on f1, p1, f0.trans f1⟩
theorem ok01 : OkF 0 ((1 : Nat) : Int) := ⟨by decide, by decide, by decide, by decide, by decide⟩
theorem fz_f {n d : Int} (h : okF n d = false) : fv 0 ((1 : Nat) : Int) = fz n d := by
  unfold fz
  rw [if_neg (by rw [h]; decide)]
  unfold fv
  rw [Rat.zero_mkRat]
theorem fz_t {n d : Int} (h : okF n d = true) : fv n d = fz n d := by
  unfold fz
  rw [if_pos h]
theorem cmp_sign {n1 n2 : Int} {D1 D2 : Nat} (h1 : OkF n1 D1) (h2 : OkF n2 D2) : (n1 * (D2 : Int) + -n2 * (D1 : Int)).sign = cmpQ (fv n1 D1) (fv n2 D2) := by
  obtain ⟨a, b⟩ := h1.v
  obtain ⟨c, d⟩ := h2.v
  rw [Int.toNat_natCast] at b d
  have l1 := Rat.lt_iff (fv n1 D1) (fv n2 D2)
  have l2 := Rat.lt_iff (fv n2 D2) (fv n1 D1)
  rw [a, b, c, d] at l1 l2
  rw [Int.neg_mul]
  unfold cmpQ
  rcases Int.lt_trichotomy (n1 * (D2 : Int)) (n2 * (D1 : Int)) with k | k | k
  · rw [if_pos (l1.2 k)]; exact Int.sign_eq_neg_one_of_neg (by omega)
  · rw [if_neg (fun h => by have := l1.1 h; omega), if_neg (fun h => by have := l2.1 h; omega), k, Int.add_right_neg]; rfl
  · rw [if_neg (fun h => by have := l1.1 h; omega), if_pos (l2.2 k)]; exact Int.sign_eq_one_of_pos (by omega)
end Go.Proofs.YteonkiajgfkieaaGreatDoor

/-! The reference of package frac: Floor gives the greatest int that is not greater. For every pair of ints; nothing that was there turns. -/
namespace Go.Proofs.YteonkiajgfkieaaGreatDoor
open Go.RowKit

theorem box1 (w : World) (a b : Int) : Box (w.alloc (.cells #[.int .i64 a, .int .i64 b] 37)) w.heap.size a b ∧ Fur w (w.alloc (.cells #[.int .i64 a, .int .i64 b] 37)) := by
  refine ⟨?_, (Fur.refl w).alloc _⟩
  show (w.heap.push _)[w.heap.size]? = _
  rw [Array.getElem?_push, if_pos rfl]
end Go.Proofs.YteonkiajgfkieaaGreatDoor

/-! Boxes that are stored to: the box holds the new fraction, the others stay; nothing below turns. No program's function is walked here. -/
namespace Go.Proofs.YteonkiajgfkieaaGreatDoor
open Go.RowKit

theorem Box.put {W : World} {B : Nat} {a b : Int} (h : Box W B a b) (n d : Int) : Box ((W.setCell ⟨B, 0, none⟩ (.int .i64 n)).setCell ⟨B, 1, none⟩ (.int .i64 d)) B n d := by
  unfold Box at *
  simp [World.setCell, Array.getElem?_modify, h]
theorem Box.other {W : World} {B B' : Nat} {a b : Int} (h : Box W B a b) (hB : B' ≠ B) (u v : Value) : Box ((W.setCell ⟨B', 0, none⟩ u).setCell ⟨B', 1, none⟩ v) B a b := by
  unfold Box at *
  simp [World.setCell, Array.getElem?_modify, h, hB]
end Go.Proofs.YteonkiajgfkieaaGreatDoor
