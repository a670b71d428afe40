/-
  NumA; FrM; FrO; FrPut; FrW; FzA: texts of one kind in one file; each part says what it holds.
-/
import Derived.Test.YtehmdeponbhhjaaDoorM10
import Derived.Below
import Derived.LoopTactic
import Derived.Deep.QuietTactic
import Derived.Lib.Hide
import Derived.Test.YtehmdeponbhhjaaDoorM07
import Derived.Deep.RegionWith
import Derived.Test.YtehmdeponbhhjaaDoorM11
import Derived.Deep.RegionHeld3
import Derived.WalkKit
import Derived.Test.YtehmdeponbhhjaaDoorProg
import Derived.Deep.CutBlock
import Derived.Deep.LoopGhost
import Derived.Deep.CutRange
import Derived.Shelf.Spec.BitsCarry
import Derived.Laws.ResultCell

/-! Package num: In, abs, Mul and Gcd return what the plain definitions below say, for every pair of int values (abs: in range); nothing that was there has turned. -/
namespace Go.Proofs.YtehmdeponbhhjaaDoor
open Go.RowKit
/-! ### The plain mathematics -/
def inB (n : Int) : Bool := decide (-1000000000000000 ≤ n) && decide (n ≤ 1000000000000000)
theorem inB_t {n : Int} (h : inB n = true) : -1000000000000000 ≤ n ∧ n ≤ 1000000000000000 := by simpa [inB] using h
theorem inB_f {n : Int} (h : inB n = false) : ¬ (-1000000000000000 ≤ n ∧ n ≤ 1000000000000000) := by
  intro k; simp [inB] at h; omega
theorem inB_mk {n : Int} (h0 : -1000000000000000 ≤ n) (h1 : n ≤ 1000000000000000) : inB n = true := by simp [inB]; omega
theorem inB_no {n : Int} (h : n < -1000000000000000 ∨ 1000000000000000 < n) : inB n = false := by
  simp [inB]; omega
theorem num_in (n : Int) (w : World) : Calls Tryd.prog 60 #[.int .i64 n] w fun e w' => e = .returned (.bool (inB n)) ∧ w = w' := by
  by_cases h0 : -1000000000000000 ≤ n
  · by_cases h1 : n ≤ 1000000000000000
    · rw [inB_mk h0 h1]
      go_enter Tryd.func60, Tryd.ntmps60
      go_wp2
      go_ret
      exact ⟨rfl, rfl⟩
    · rw [inB_no (by omega)]
      go_enter Tryd.func60, Tryd.ntmps60
      go_wp2
      go_ret
      exact ⟨rfl, rfl⟩
  · rw [inB_no (by omega)]
    go_enter Tryd.func60, Tryd.ntmps60
    go_wp2
    go_ret
    exact ⟨rfl, rfl⟩
def absV (n : Int) : Int := if n < 0 then -n else n
theorem absV_0 (n : Int) : 0 ≤ absV n := by unfold absV; split <;> omega
theorem absV_le {n : Int} (h0 : -1000000000000000 ≤ n) (h1 : n ≤ 1000000000000000) : absV n ≤ 1000000000000000 := by unfold absV; split <;> omega
theorem num_abs (n : Int) (h0 : -1000000000000000 ≤ n) (h1 : n ≤ 1000000000000000) (w : World) : Calls Tryd.prog 70 #[.int .i64 n] w fun e w' => e = .returned (.int .i64 (absV n)) ∧ w = w' := by
  by_cases h : n < 0
  · have hv : absV n = -n := by unfold absV; rw [if_pos h]
    rw [hv]; clear hv
    go_enter Tryd.func70, Tryd.ntmps70
    go_wp2
    go_ret
    exact ⟨rfl, rfl⟩
  · have hv : absV n = n := by unfold absV; rw [if_neg h]
    rw [hv]; clear hv
    go_enter Tryd.func70, Tryd.ntmps70
    go_wp2
    go_ret
    exact ⟨rfl, rfl⟩


theorem absV_nat (n : Int) : absV n = (n.natAbs : Int) := by unfold absV; split <;> omega
def gcdV (a b : Int) : Int := if inB a = true ∧ inB b = true then (Int.gcd a b : Int) else 0
theorem gcd_start {a b : Int} : Int.gcd (absV a) (absV b) = Int.gcd a b := by rw [absV_nat, absV_nat]; simp [Int.gcd]
theorem gcd_step {x y : Int} (hx : 0 ≤ x) : Int.gcd y (x % y) = Int.gcd x y := by
  rw [← Int.tmod_eq_emod_of_nonneg hx]
  simp only [Int.gcd, Int.natAbs_tmod]
  rw [Nat.gcd_comm x.natAbs y.natAbs, Nat.gcd_rec y.natAbs x.natAbs, Nat.gcd_comm]
theorem gcd_end {x : Int} (h : 0 ≤ x) : ((Int.gcd x 0 : Nat) : Int) = x := by simp; omega
theorem emod_lo (x : Int) {y : Int} (hy : 0 < y) : 0 ≤ x % y ∧ x % y < y := ⟨Int.emod_nonneg _ (by omega), Int.emod_lt_of_pos _ hy⟩
theorem num_gcd (a b : Int) (w : World) : Calls Tryd.prog 69 #[.int .i64 a, .int .i64 b] w fun e w' => e = .returned (.int .i64 (gcdV a b)) ∧ Fur w w' := by
  cases ha : inB a
  · have h2 : gcdV a b = 0 := by simp [gcdV, ha]
    rw [h2]; clear h2
    go_enter Tryd.func69, Tryd.ntmps69
    go_wp2_with (go_at_call 60; refine (num_in _ _).mono ?_; rintro e w' ⟨rfl, rfl⟩)
    go_ret
    exact ⟨rfl, Fur.refl _⟩
  · cases hb : inB b
    · have h2 : gcdV a b = 0 := by simp [gcdV, hb]
      rw [h2]; clear h2
      go_enter Tryd.func69, Tryd.ntmps69
      go_wp2_with (go_at_call 60; refine (num_in _ _).mono ?_; rintro e w' ⟨rfl, rfl⟩)
      go_ret
      exact ⟨rfl, Fur.refl _⟩
    · have h2 : gcdV a b = (Int.gcd a b : Int) := by simp [gcdV, ha, hb]
      rw [h2]; clear h2
      obtain ⟨a0, a1⟩ := inB_t ha
      obtain ⟨b0, b1⟩ := inB_t hb
      have p1 := absV_0 a
      have p2 := absV_le a0 a1
      have q1 := absV_0 b
      have q2 := absV_le b0 b1
      go_enter Tryd.func69, Tryd.ntmps69
      go_wp2_with (first | (go_at_call 60; refine (num_in _ _).mono ?_; rintro e w' ⟨rfl, rfl⟩) | (go_at_call 70; refine (num_abs _ (by assumption) (by assumption) _).mono ?_; rintro e w' ⟨rfl, rfl⟩))
      go_loopw [0, 1] (fun x y wr => ∃ p q : Int, x = .int .i64 p ∧ y = .int .i64 q ∧ 0 ≤ p ∧ p ≤ 1000000000000000 ∧ 0 ≤ q ∧ q ≤ 1000000000000000 ∧ Hid (Int.gcd p q = Int.gcd a b) ∧ Fur w wr) (fun _ y _ => (intOf y).toNat)
      case atStart => exact ⟨_, _, rfl, rfl, p1, p2, q1, q2, gcd_start, Fur.refl _⟩
      case round =>
        obtain ⟨p, q, rfl, rfl, c1, c2, c3, c4, HG, hf⟩ := hrel
        by_cases hq : q = 0
        · subst hq
          have hp := gcd_end c1
          rw [HG.out] at hp
          have HP := Lib.hid hp; clear hp
          go_wp2
          go_ret
          exact ⟨ret_int HP.out.symm, hf⟩
        · have hne : (q != 0) = true := by simpa using hq
          obtain ⟨t0, t1⟩ := emod_lo p (show 0 < q by omega)
          go_wp2
          go_region
          go_wp2
          go_roundw
          case rel => exact ⟨_, _, rfl, rfl, by omega, by omega, by omega, by omega, (gcd_step c1).trans HG.out, hf.drew⟩
          case measure => simp [intOf]; omega
end Go.Proofs.YtehmdeponbhhjaaDoor

/-! The reference of package frac: Cmp compares the values of two fractions, where one that is not valid counts as 0. For every two pairs of ints; nothing that was there turns. -/
namespace Go.Proofs.YtehmdeponbhhjaaDoor
open Go.RowKit

theorem box2 (w : World) (a b c d : Int) :
    Box ((w.alloc (.cells #[.int .i64 a, .int .i64 b] 45)).alloc (.cells #[.int .i64 c, .int .i64 d] 45)) w.heap.size a b ∧
    Box ((w.alloc (.cells #[.int .i64 a, .int .i64 b] 45)).alloc (.cells #[.int .i64 c, .int .i64 d] 45)) (w.heap.size + 1) c d ∧
    Fur w ((w.alloc (.cells #[.int .i64 a, .int .i64 b] 45)).alloc (.cells #[.int .i64 c, .int .i64 d] 45)) := by
  have p0 : Box (w.alloc (.cells #[.int .i64 a, .int .i64 b] 45)) w.heap.size a b := by
    show (w.heap.push _)[w.heap.size]? = _
    rw [Array.getElem?_push, if_pos rfl]
  have f0 : Fur w (w.alloc (.cells #[.int .i64 a, .int .i64 b] 45)) := (Fur.refl w).alloc _
  have s0 : (w.alloc (.cells #[.int .i64 a, .int .i64 b] 45)).heap.size = w.heap.size + 1 := by simp
  generalize w.alloc (.cells #[.int .i64 a, .int .i64 b] 45) = w1 at *
  have p1 : Box (w1.alloc (.cells #[.int .i64 c, .int .i64 d] 45)) (w.heap.size + 1) c d := by
    show (w1.heap.push _)[w.heap.size + 1]? = _
    rw [← s0, Array.getElem?_push, if_pos rfl]
  have f1 : Fur w1 (w1.alloc (.cells #[.int .i64 c, .int .i64 d] 45)) := (Fur.refl w1).alloc _
  exact ⟨p0.on f1, p1, f0.trans f1⟩
theorem ok01 : OkF 0 ((1 : Nat) : Int) := ⟨by decide, by decide, by decide, by decide, by decide⟩
theorem fz_f {n d : Int} (h : okF n d = false) : fv 0 ((1 : Nat) : Int) = fz n d := by
  unfold fz
  rw [if_neg (by rw [h]; decide)]
  unfold fv
  rw [Rat.zero_mkRat]
theorem fz_t {n d : Int} (h : okF n d = true) : fv n d = fz n d := by
  unfold fz
  rw [if_pos h]
theorem cmp_sign {n1 n2 : Int} {D1 D2 : Nat} (h1 : OkF n1 D1) (h2 : OkF n2 D2) : (n1 * (D2 : Int) + -n2 * (D1 : Int)).sign = cmpQ (fv n1 D1) (fv n2 D2) := by
  obtain ⟨a, b⟩ := h1.v
  obtain ⟨c, d⟩ := h2.v
  rw [Int.toNat_natCast] at b d
  have l1 := Rat.lt_iff (fv n1 D1) (fv n2 D2)
  have l2 := Rat.lt_iff (fv n2 D2) (fv n1 D1)
  rw [a, b, c, d] at l1 l2
  rw [Int.neg_mul]
  unfold cmpQ
  rcases Int.lt_trichotomy (n1 * (D2 : Int)) (n2 * (D1 : Int)) with k | k | k
  · rw [if_pos (l1.2 k)]; exact Int.sign_eq_neg_one_of_neg (by omega)
  · rw [if_neg (fun h => by have := l1.1 h; omega), if_neg (fun h => by have := l2.1 h; omega), k, Int.add_right_neg]; rfl
  · rw [if_neg (fun h => by have := l1.1 h; omega), if_pos (l2.2 k)]; exact Int.sign_eq_one_of_pos (by omega)
end Go.Proofs.YtehmdeponbhhjaaDoor

/-! The reference of package frac: Floor gives the greatest int that is not greater. For every pair of ints; nothing that was there turns. -/
namespace Go.Proofs.YtehmdeponbhhjaaDoor
open Go.RowKit

theorem box1 (w : World) (a b : Int) : Box (w.alloc (.cells #[.int .i64 a, .int .i64 b] 45)) w.heap.size a b ∧ Fur w (w.alloc (.cells #[.int .i64 a, .int .i64 b] 45)) := by
  refine ⟨?_, (Fur.refl w).alloc _⟩
  show (w.heap.push _)[w.heap.size]? = _
  rw [Array.getElem?_push, if_pos rfl]
end Go.Proofs.YtehmdeponbhhjaaDoor

/-! Boxes that are stored to: the box holds the new fraction, the others stay; nothing below turns. No program's function is walked here. -/
namespace Go.Proofs.YtehmdeponbhhjaaDoor
open Go.RowKit

theorem Box.put {W : World} {B : Nat} {a b : Int} (h : Box W B a b) (n d : Int) : Box ((W.setCell ⟨B, 0, none⟩ (.int .i64 n)).setCell ⟨B, 1, none⟩ (.int .i64 d)) B n d := by
  unfold Box at *
  simp [World.setCell, Array.getElem?_modify, h]
theorem Box.other {W : World} {B B' : Nat} {a b : Int} (h : Box W B a b) (hB : B' ≠ B) (u v : Value) : Box ((W.setCell ⟨B', 0, none⟩ u).setCell ⟨B', 1, none⟩ v) B a b := by
  unfold Box at *
  simp [World.setCell, Array.getElem?_modify, h, hB]
end Go.Proofs.YtehmdeponbhhjaaDoor

/-! Package frac: wide numbers (product, plus, sign, abs): each gives the number of 128 bits that it should, for every number of less than 2^126 in size. Nothing that was there turns. -/
namespace Go.Proofs.YtehmdeponbhhjaaDoor
open Go.RowKit Go.Shelf

/-- The halves of a number of 128 bits. -/
def hiW (T : Int) : Int := T / 18446744073709551616 % 18446744073709551616
def loW (T : Int) : Int := T % 18446744073709551616
def wide (T : Int) : Value := .agg #[.int .u64 (hiW T), .int .u64 (loW T)]
theorem hiW_0 (T : Int) : 0 ≤ hiW T := by unfold hiW; omega
theorem hiW_1 (T : Int) : hiW T < 18446744073709551616 := by unfold hiW; omega
theorem loW_0 (T : Int) : 0 ≤ loW T := by unfold loW; omega
theorem loW_1 (T : Int) : loW T < 18446744073709551616 := by unfold loW; omega
/-- A call's result is a wide number. -/
def RetV (w : World) (T : Int) (e : Ending) (w' : World) : Prop := e = .returned (.agg #[.int .u64 (hiW T), .int .u64 (loW T)]) ∧ Fur w w'
theorem results_cell {fn : Func} {p : Tmp} {ty : TypeId} (h : fn.results = #[.cell p ty]) (tmps : Array Value) (P : Program) (w : World) :
    (results fn tmps).run P w = ((asAddr (tmps.getD p undef)).run P w).andThen fun a w₁ => (loadVar ty a).run P w₁ := by
  simp only [results, h]
  simp [Sem.run_bind, Result.andThen]
theorem hiW_nn {T : Int} (h0 : 0 ≤ T) (h1 : T < 1000000000000000000000000000000000000) : T / 18446744073709551616 = hiW T := by unfold hiW; omega
theorem prod_nn {n d : Int} (n0 : 0 ≤ n) (n1 : n ≤ 1000000000000000) (d0 : 0 ≤ d) (d1 : d ≤ 1000000000000000) : 0 ≤ n * d ∧ n * d ≤ 1000000000000000000000000000000 := by
  refine ⟨Int.mul_nonneg n0 d0, ?_⟩
  have k := Int.mul_le_mul n1 d1 d0 (show (0 : Int) ≤ 1000000000000000 by decide)
  omega
theorem prod_neg {n d : Int} (h : n < 0) (n1 : -1000000000000000 ≤ n) (d0 : 0 ≤ d) : (((n + 18446744073709551616).toNat * d.toNat : Nat) : Int) = n * d + d * 18446744073709551616 := by
  rw [Int.natCast_mul, Int.toNat_of_nonneg (by omega), Int.toNat_of_nonneg d0, Int.add_mul, Int.mul_comm 18446744073709551616]
end Go.Proofs.YtehmdeponbhhjaaDoor

/-! Package frac: Valid, fraction, orZero and Of. For every two ints; nothing that was there turns. -/
namespace Go.Proofs.YtehmdeponbhhjaaDoor
open Go.RowKit

theorem inB_dec (n : Int) : inB n = (decide (-1000000000000000 ≤ n) && decide (n ≤ 1000000000000000)) := rfl
theorem gcd_ok {n d : Int} (h : 0 < d) : (gcdV n d == 1) = okF n d := by
  have e : Int.gcd n d = Nat.gcd n.natAbs d.toNat := by rw [show d.toNat = d.natAbs by omega]; rfl
  cases hn : inB n
  · have k := inB_f hn
    unfold gcdV okF
    rw [if_neg (by rw [hn]; intro h; cases h.1)]
    have : (decide (-1000000000000000 ≤ n) && decide (n ≤ 1000000000000000)) = false := by rw [← inB_dec]; exact hn
    simp only [Bool.and_eq_false_iff, decide_eq_false_iff_not] at this
    rcases this with t | t <;> simp [t]
  · cases hd : inB d
    · have k := inB_f hd
      unfold gcdV okF
      rw [if_neg (by rw [hd]; intro h; cases h.2)]
      have t : ¬ d ≤ 1000000000000000 := by omega
      simp [t]
    · obtain ⟨a, b⟩ := inB_t hn
      obtain ⟨a', b'⟩ := inB_t hd
      unfold gcdV okF
      rw [if_pos ⟨hn, hd⟩, e, decide_eq_true a, decide_eq_true b, decide_eq_true b', decide_eq_true (show 1 ≤ d by omega)]
      simp only [Bool.true_and]
      rw [Bool.eq_iff_iff, beq_iff_eq, decide_eq_true_iff]
      omega
theorem nf_valid (n d : Int) (w : World) : Calls Tryd.prog 61 #[.agg #[.int .i64 n, .int .i64 d]] w (RetB w (okF n d)) := by
  obtain ⟨p0, f0⟩ := box1 w n d
  by_cases h : 0 < d
  · rw [← gcd_ok h]
    have CG := Lib.hid (fun w => num_gcd n d w)
    generalize gcdV n d = G at *
    have c00 := p0.c0
    have c01 := p0.c1
    go_enter Tryd.func61, Tryd.ntmps61
    go_wp2_with fail
    go_at_call 69; refine (CG.out _).mono ?_; rintro e1 w1 ⟨rfl, f1⟩
    go_wp2
    go_ret
    exact ⟨rfl, f0.trans f1⟩
  · have e : okF n d = false := by unfold okF; rw [decide_eq_false (show ¬ 1 ≤ d by omega)]; rfl
    rw [e]
    clear e
    have c00 := p0.c0
    have c01 := p0.c1
    go_enter Tryd.func61, Tryd.ntmps61
    go_wp2
    go_ret
    exact ⟨rfl, f0⟩

/-- A fraction. -/
def RetF (w : World) (n d : Int) (e : Ending) (w' : World) : Prop := e = .returned (.agg #[.int .i64 n, .int .i64 d]) ∧ Fur w w'
theorem f_ret {fn : Func} {p : Tmp} (hres : fn.results = #[.cell p 45]) {tmps : Array Value} {B : Nat} {h l : Int} {w W : World}
    (hp : tmps.getD p undef = .pointer (some ⟨B, 0, none⟩)) (k0 : W.cell? ⟨B, 0, none⟩ = some (.int .i64 h)) (k1 : W.cell? ⟨B, 1, none⟩ = some (.int .i64 l)) (hf : Fur w W) :
    bodyPost Tryd.prog fn (RetF w h l) Exit.ret { tmps := tmps, defers := [] } W := by
  refine bodyPost_ret (v := .agg #[.int .i64 h, .int .i64 l]) ?_ rfl ⟨rfl, hf⟩
  have e : (asAddr (.pointer (some ⟨B, 0, none⟩))).run Tryd.prog W = .ok ⟨B, 0, none⟩ W := by go_simp
  have L := load_frac _ _ _ _ k0 k1
  rw [results_cell hres, hp, e]
  simp only [Result.andThen]
  exact L
/-- What an argument counts for. -/
def ozN (n d : Int) : Int := if okF n d = true then n else 0
def ozD (n d : Int) : Int := if okF n d = true then d else 1
theorem oz_ok (n d : Int) : OkF (ozN n d) (ozD n d) ∧ fv (ozN n d) (ozD n d) = fz n d := by
  unfold ozN ozD
  cases h : okF n d
  · refine ⟨?_, ?_⟩
    · exact ok01
    · have k := fz_f h
      exact k
  · exact ⟨okF_t h, fz_t h⟩
end Go.Proofs.YtehmdeponbhhjaaDoor
