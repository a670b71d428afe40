/-
  M06; M07: texts of one kind in one file; each part says what it holds.
-/
import Derived.Test.YtpamdlkagmlahaaGreatDoorK01
import Derived.Deep.RegionHeld3
import Derived.Below
import Derived.LoopTactic
import Derived.Deep.QuietTactic
import Derived.Lib.Hide
import Derived.Test.YtpamdlkagmlahaaGreatDoorK00
import Derived.Deep.RegionWith
import Derived.WalkKit
import Derived.Test.YtpamdlkagmlahaaGreatDoorShelf
import Derived.Deep.CutBlock
import Derived.Deep.LoopGhost
import Derived.Deep.CutRange
import Derived.Shelf.Spec.BitsCarry
import Derived.Laws.ResultCell
import Derived.Laws.Cover1

namespace Go.Proofs.YtpamdlkagmlahaaGreatDoor
open Go.RowKit
theorem lcmpi_any (a b : Int) (w : World) : Calls Tryz.prog 132 #[.int .i64 a, .int .i64 b] w fun e w' => e = .returned (.int .i64 (intc a b)) ∧ w' = w := by
 by_cases h1 : a < b
 ·rw [show intc a b = -1 by unfold intc; rw [if_pos h1]]
  go_enter Tryz.func132, Tryz.ntmps132
  go_wp2
  go_ret
  exact ⟨rfl, rfl⟩
 ·by_cases h2 : b < a
  ·rw [show intc a b = 1 by unfold intc; rw [if_neg h1, if_pos h2]]
   go_enter Tryz.func132, Tryz.ntmps132
   go_wp2
   go_ret
   exact ⟨rfl, rfl⟩
  ·rw [show intc a b = 0 by unfold intc; rw [if_neg h1, if_neg h2]]
   go_enter Tryz.func132, Tryz.ntmps132
   go_wp2
   go_ret
   exact ⟨rfl, rfl⟩
def classG (k : Int) : Int := if k = 1 then 1 else if k = 2 ∨ k = 3 then 2 else if k = 4 then 3 else if k = 5 then 4 else if k = 6 then 5 else if k = 8 then 6 else if k = 7 then 7 else 0
theorem classG_ok {k : Int} (h0 : 0 ≤ k) (h8 : k ≤ 8) : classG k = classV k := by
 unfold classG classV
 have : k = 0 ∨ k = 1 ∨ k = 2 ∨ k = 3 ∨ k = 4 ∨ k = 5 ∨ k = 6 ∨ k = 7 ∨ k = 8 := by omega
 rcases this with rfl | rfl | rfl | rfl | rfl | rfl | rfl | rfl | rfl <;> decide
theorem lclass_any (x : Vl) (ao : Option Addr) (cap : Nat) (w : World) : Calls Tryz.prog 133 #[vlv x ao cap] w (RetI w (classG x.kd)) := by
 obtain ⟨p0, f0⟩ := bx1 w x ao cap
 have c0 := p0.c0
 clear p0
 unfold vlv
 generalize x.kd = k at *
 by_cases h1 : k = 1
 ·subst h1
  rw [show classG 1 = 1 from rfl]
  go_enter Tryz.func133, Tryz.ntmps133
  go_wp2
  go_ret
  exact ⟨rfl, f0⟩
 have g1 : (k == 1) = false := beq_eq_false_iff_ne.2 h1
 by_cases h2 : k = 2
 ·subst h2
  rw [show classG 2 = 2 from rfl]
  go_enter Tryz.func133, Tryz.ntmps133
  go_wp2
  go_ret
  exact ⟨rfl, f0⟩
 have g2 : (k == 2) = false := beq_eq_false_iff_ne.2 h2
 by_cases h3 : k = 3
 ·subst h3
  rw [show classG 3 = 2 from rfl]
  go_enter Tryz.func133, Tryz.ntmps133
  go_wp2
  go_ret
  exact ⟨rfl, f0⟩
 have g3 : (k == 3) = false := beq_eq_false_iff_ne.2 h3
 by_cases h4 : k = 4
 ·subst h4
  rw [show classG 4 = 3 from rfl]
  go_enter Tryz.func133, Tryz.ntmps133
  go_wp2
  go_ret
  exact ⟨rfl, f0⟩
 have g4 : (k == 4) = false := beq_eq_false_iff_ne.2 h4
 by_cases h5 : k = 5
 ·subst h5
  rw [show classG 5 = 4 from rfl]
  go_enter Tryz.func133, Tryz.ntmps133
  go_wp2
  go_ret
  exact ⟨rfl, f0⟩
 have g5 : (k == 5) = false := beq_eq_false_iff_ne.2 h5
 by_cases h6 : k = 6
 ·subst h6
  rw [show classG 6 = 5 from rfl]
  go_enter Tryz.func133, Tryz.ntmps133
  go_wp2
  go_ret
  exact ⟨rfl, f0⟩
 have g6 : (k == 6) = false := beq_eq_false_iff_ne.2 h6
 by_cases h8 : k = 8
 ·subst h8
  rw [show classG 8 = 6 from rfl]
  go_enter Tryz.func133, Tryz.ntmps133
  go_wp2
  go_ret
  exact ⟨rfl, f0⟩
 have g8 : (k == 8) = false := beq_eq_false_iff_ne.2 h8
 by_cases h7 : k = 7
 ·subst h7
  rw [show classG 7 = 7 from rfl]
  go_enter Tryz.func133, Tryz.ntmps133
  go_wp2
  go_ret
  exact ⟨rfl, f0⟩
 have g7 : (k == 7) = false := beq_eq_false_iff_ne.2 h7
 rw [show classG k = 0 by unfold classG; rw [if_neg h1, if_neg (by omega), if_neg h4, if_neg h5, if_neg h6, if_neg h8, if_neg h7]]
 clear h1 h2 h3 h4 h5 h6 h7 h8
 go_enter Tryz.func133, Tryz.ntmps133
 go_wp2
 go_ret
 exact ⟨rfl, f0⟩
end Go.Proofs.YtpamdlkagmlahaaGreatDoor
namespace Go.Proofs.YtpamdlkagmlahaaGreatDoor
open Go.RowKit
def inB (n : Int) : Bool := decide (-1000000000000000 ≤ n) && decide (n ≤ 1000000000000000)
theorem inB_t {n : Int} (h : inB n = true) : -1000000000000000 ≤ n ∧ n ≤ 1000000000000000 := by simpa [inB] using h
theorem inB_f {n : Int} (h : inB n = false) : ¬ (-1000000000000000 ≤ n ∧ n ≤ 1000000000000000) := by
 intro k; simp [inB] at h; omega
theorem inB_mk {n : Int} (h0 : -1000000000000000 ≤ n) (h1 : n ≤ 1000000000000000) : inB n = true := by simp [inB]; omega
theorem inB_no {n : Int} (h : n < -1000000000000000 ∨ 1000000000000000 < n) : inB n = false := by
 simp [inB]; omega
theorem num_in (n : Int) (w : World) : Calls Tryz.prog 138 #[.int .i64 n] w fun e w' => e = .returned (.bool (inB n)) ∧ w = w' := by
 by_cases h0 : -1000000000000000 ≤ n
 ·by_cases h1 : n ≤ 1000000000000000
  ·rw [inB_mk h0 h1]
   go_enter Tryz.func138, Tryz.ntmps138
   go_wp2
   go_ret
   exact ⟨rfl, rfl⟩
  ·rw [inB_no (by omega)]
   go_enter Tryz.func138, Tryz.ntmps138
   go_wp2
   go_ret
   exact ⟨rfl, rfl⟩
 ·rw [inB_no (by omega)]
  go_enter Tryz.func138, Tryz.ntmps138
  go_wp2
  go_ret
  exact ⟨rfl, rfl⟩
def absV (n : Int) : Int := if n < 0 then -n else n
theorem absV_0 (n : Int) : 0 ≤ absV n := by unfold absV; split <;> omega
theorem absV_le {n : Int} (h0 : -1000000000000000 ≤ n) (h1 : n ≤ 1000000000000000) : absV n ≤ 1000000000000000 := by unfold absV; split <;> omega
theorem num_abs (n : Int) (h0 : -1000000000000000 ≤ n) (h1 : n ≤ 1000000000000000) (w : World) : Calls Tryz.prog 216 #[.int .i64 n] w fun e w' => e = .returned (.int .i64 (absV n)) ∧ w = w' := by
 by_cases h : n < 0
 ·have hv : absV n = -n := by unfold absV; rw [if_pos h]
  rw [hv]; clear hv
  go_enter Tryz.func216, Tryz.ntmps216
  go_wp2
  go_ret
  exact ⟨rfl, rfl⟩
 ·have hv : absV n = n := by unfold absV; rw [if_neg h]
  rw [hv]; clear hv
  go_enter Tryz.func216, Tryz.ntmps216
  go_wp2
  go_ret
  exact ⟨rfl, rfl⟩
theorem absV_nat (n : Int) : absV n = (n.natAbs : Int) := by unfold absV; split <;> omega
def gcdV (a b : Int) : Int := if inB a = true ∧ inB b = true then (Int.gcd a b : Int) else 0
theorem gcd_start {a b : Int} : Int.gcd (absV a) (absV b) = Int.gcd a b := by rw [absV_nat, absV_nat]; simp [Int.gcd]
theorem gcd_step {x y : Int} (hx : 0 ≤ x) : Int.gcd y (x % y) = Int.gcd x y := by
 rw [← Int.tmod_eq_emod_of_nonneg hx]
 simp only [Int.gcd, Int.natAbs_tmod]
 rw [Nat.gcd_comm x.natAbs y.natAbs, Nat.gcd_rec y.natAbs x.natAbs, Nat.gcd_comm]
theorem gcd_end {x : Int} (h : 0 ≤ x) : ((Int.gcd x 0 : Nat) : Int) = x := by simp; omega
theorem emod_lo (x : Int) {y : Int} (hy : 0 < y) : 0 ≤ x % y ∧ x % y < y := ⟨Int.emod_nonneg _ (by omega), Int.emod_lt_of_pos _ hy⟩
theorem num_gcd (a b : Int) (w : World) : Calls Tryz.prog 191 #[.int .i64 a, .int .i64 b] w fun e w' => e = .returned (.int .i64 (gcdV a b)) ∧ Fur w w' := by
 cases ha : inB a
 ·have h2 : gcdV a b = 0 := by simp [gcdV, ha]
  rw [h2]; clear h2
  go_enter Tryz.func191, Tryz.ntmps191
  go_wp2_with (go_at_call 138; refine (num_in _ _).mono ?_; rintro e w' ⟨rfl, rfl⟩)
  go_ret
  exact ⟨rfl, Fur.refl _⟩
 ·cases hb : inB b
  ·have h2 : gcdV a b = 0 := by simp [gcdV, hb]
   rw [h2]; clear h2
   go_enter Tryz.func191, Tryz.ntmps191
   go_wp2_with (go_at_call 138; refine (num_in _ _).mono ?_; rintro e w' ⟨rfl, rfl⟩)
   go_ret
   exact ⟨rfl, Fur.refl _⟩
  ·have h2 : gcdV a b = (Int.gcd a b : Int) := by simp [gcdV, ha, hb]
   rw [h2]; clear h2
   obtain ⟨a0, a1⟩ := inB_t ha
   obtain ⟨b0, b1⟩ := inB_t hb
   have p1 := absV_0 a
   have p2 := absV_le a0 a1
   have q1 := absV_0 b
   have q2 := absV_le b0 b1
   go_enter Tryz.func191, Tryz.ntmps191
   go_wp2_with (first | (go_at_call 138; refine (num_in _ _).mono ?_; rintro e w' ⟨rfl, rfl⟩) | (go_at_call 216; refine (num_abs _ (by assumption) (by assumption) _).mono ?_; rintro e w' ⟨rfl, rfl⟩))
   go_loopw [0, 1] (fun x y wr => ∃ p q : Int, x = .int .i64 p ∧ y = .int .i64 q ∧ 0 ≤ p ∧ p ≤ 1000000000000000 ∧ 0 ≤ q ∧ q ≤ 1000000000000000 ∧ Hid (Int.gcd p q = Int.gcd a b) ∧ Fur w wr) (fun _ y _ => (intOf y).toNat)
   case atStart => exact ⟨_, _, rfl, rfl, p1, p2, q1, q2, gcd_start, Fur.refl _⟩
   case round =>
    obtain ⟨p, q, rfl, rfl, c1, c2, c3, c4, HG, hf⟩ := hrel
    by_cases hq : q = 0
    ·subst hq
     have hp := gcd_end c1
     rw [HG.out] at hp
     have HP := Lib.hid hp; clear hp
     go_wp2
     go_ret
     exact ⟨ret_int HP.out.symm, hf⟩
    ·have hne : (q != 0) = true := by simpa using hq
     obtain ⟨t0, t1⟩ := emod_lo p (show 0 < q by omega)
     go_wp2
     go_region
     go_wp2
     go_roundw
     case rel => exact ⟨_, _, rfl, rfl, by omega, by omega, by omega, by omega, (gcd_step c1).trans HG.out, hf.drew⟩
     case measure => simp [intOf]; omega
end Go.Proofs.YtpamdlkagmlahaaGreatDoor
namespace Go.Proofs.YtpamdlkagmlahaaGreatDoor
open Go.RowKit
theorem box2 (w : World) (a b c d : Int) :
  Box ((w.alloc (.cells #[.int .i64 a, .int .i64 b] 122)).alloc (.cells #[.int .i64 c, .int .i64 d] 122)) w.heap.size a b ∧
  Box ((w.alloc (.cells #[.int .i64 a, .int .i64 b] 122)).alloc (.cells #[.int .i64 c, .int .i64 d] 122)) (w.heap.size + 1) c d ∧
  Fur w ((w.alloc (.cells #[.int .i64 a, .int .i64 b] 122)).alloc (.cells #[.int .i64 c, .int .i64 d] 122)) := by
 have p0 : Box (w.alloc (.cells #[.int .i64 a, .int .i64 b] 122)) w.heap.size a b := by
  show (w.heap.push _)[w.heap.size]? = _
  rw [Array.getElem?_push, if_pos rfl]
 have f0 : Fur w (w.alloc (.cells #[.int .i64 a, .int .i64 b] 122)) := (Fur.refl w).alloc _
 have s0 : (w.alloc (.cells #[.int .i64 a, .int .i64 b] 122)).heap.size = w.heap.size + 1 := by simp
 generalize w.alloc (.cells #[.int .i64 a, .int .i64 b] 122) = w1 at *
 have p1 : Box (w1.alloc (.cells #[.int .i64 c, .int .i64 d] 122)) (w.heap.size + 1) c d := by
  show (w1.heap.push _)[w.heap.size + 1]? = _
  rw [← s0, Array.getElem?_push, if_pos rfl]
 have f1 : Fur w1 (w1.alloc (.cells #[.int .i64 c, .int .i64 d] 122)) := (Fur.refl w1).alloc _
 exact ⟨p0.on f1, p1, f0.trans f1⟩
theorem ok01 : OkF 0 ((1 : Nat) : Int) := ⟨by decide, by decide, by decide, by decide, by decide⟩
theorem fz_f {n d : Int} (h : okF n d = false) : fv 0 ((1 : Nat) : Int) = fz n d := by
 unfold fz
 rw [if_neg (by rw [h]; decide)]
 unfold fv
 rw [Rat.zero_mkRat]
theorem fz_t {n d : Int} (h : okF n d = true) : fv n d = fz n d := by
 unfold fz
 rw [if_pos h]
theorem cmp_sign {n1 n2 : Int} {D1 D2 : Nat} (h1 : OkF n1 D1) (h2 : OkF n2 D2) : (n1 * (D2 : Int) + -n2 * (D1 : Int)).sign = cmpQ (fv n1 D1) (fv n2 D2) := by
 obtain ⟨a, b⟩ := h1.v
 obtain ⟨c, d⟩ := h2.v
 rw [Int.toNat_natCast] at b d
 have l1 := Rat.lt_iff (fv n1 D1) (fv n2 D2)
 have l2 := Rat.lt_iff (fv n2 D2) (fv n1 D1)
 rw [a, b, c, d] at l1 l2
 rw [Int.neg_mul]
 unfold cmpQ
 rcases Int.lt_trichotomy (n1 * (D2 : Int)) (n2 * (D1 : Int)) with k | k | k
 ·rw [if_pos (l1.2 k)]; exact Int.sign_eq_neg_one_of_neg (by omega)
 ·rw [if_neg (fun h => by have := l1.1 h; omega), if_neg (fun h => by have := l2.1 h; omega), k, Int.add_right_neg]; rfl
 ·rw [if_neg (fun h => by have := l1.1 h; omega), if_pos (l2.2 k)]; exact Int.sign_eq_one_of_pos (by omega)
end Go.Proofs.YtpamdlkagmlahaaGreatDoor
namespace Go.Proofs.YtpamdlkagmlahaaGreatDoor
open Go.RowKit
theorem box1 (w : World) (a b : Int) : Box (w.alloc (.cells #[.int .i64 a, .int .i64 b] 122)) w.heap.size a b ∧ Fur w (w.alloc (.cells #[.int .i64 a, .int .i64 b] 122)) := by
 refine ⟨?_, (Fur.refl w).alloc _⟩
 show (w.heap.push _)[w.heap.size]? = _
 rw [Array.getElem?_push, if_pos rfl]
end Go.Proofs.YtpamdlkagmlahaaGreatDoor
namespace Go.Proofs.YtpamdlkagmlahaaGreatDoor
open Go.RowKit
theorem Box.put {W : World} {B : Nat} {a b : Int} (h : Box W B a b) (n d : Int) : Box ((W.setCell ⟨B, 0, none⟩ (.int .i64 n)).setCell ⟨B, 1, none⟩ (.int .i64 d)) B n d := by
 unfold Box at *
 simp [World.setCell, Array.getElem?_modify, h]
theorem Box.other {W : World} {B B' : Nat} {a b : Int} (h : Box W B a b) (hB : B' ≠ B) (u v : Value) : Box ((W.setCell ⟨B', 0, none⟩ u).setCell ⟨B', 1, none⟩ v) B a b := by
 unfold Box at *
 simp [World.setCell, Array.getElem?_modify, h, hB]
end Go.Proofs.YtpamdlkagmlahaaGreatDoor
namespace Go.Proofs.YtpamdlkagmlahaaGreatDoor
open Go.RowKit Go.Shelf
theorem add64 (x y c : Int) (hx : 0 ≤ x) (hy : 0 ≤ y) (hc0 : 0 ≤ c) (hc : c ≤ 1) (hx' : x < 18446744073709551616) (hy' : y < 18446744073709551616) (w : World) : (callFunc 215 #[.int .u64 x, .int .u64 y, .int .u64 c]).run Tryz.prog w =
  .ok (.value (.tuple #[.int .u64 ((x + y + c) % 18446744073709551616), .int .u64 ((x + y + c) / 18446744073709551616)])) w := by
 obtain ⟨x, rfl⟩ := Int.eq_ofNat_of_zero_le hx
 obtain ⟨y, rfl⟩ := Int.eq_ofNat_of_zero_le hy
 obtain ⟨c, rfl⟩ := Int.eq_ofNat_of_zero_le hc0
 rw [run_callFunc_extern Tryz.func215 (by kernel_rfl) (by kernel_rfl) (by kernel_rfl) (e := add64Entry) (by kernel_rfl), run_add64 x y c (by omega) (by omega) (by omega) (by omega)]
 simp only [Result.andThen]
theorem add64_0 (x y : Int) (hx : 0 ≤ x) (hy : 0 ≤ y) (hx' : x < 18446744073709551616) (hy' : y < 18446744073709551616) (w : World) : (callFunc 215 #[.int .u64 x, .int .u64 y, .int .u64 0]).run Tryz.prog w =
  .ok (.value (.tuple #[.int .u64 ((x + y) % 18446744073709551616), .int .u64 ((x + y) / 18446744073709551616)])) w := by
 simpa using add64 x y 0 hx hy (Int.le_refl 0) (by decide) hx' hy' w
def hiW (T : Int) : Int := T / 18446744073709551616 % 18446744073709551616
def loW (T : Int) : Int := T % 18446744073709551616
def wide (T : Int) : Value := .agg #[.int .u64 (hiW T), .int .u64 (loW T)]
theorem hiW_0 (T : Int) : 0 ≤ hiW T := by unfold hiW; omega
theorem hiW_1 (T : Int) : hiW T < 18446744073709551616 := by unfold hiW; omega
theorem loW_0 (T : Int) : 0 ≤ loW T := by unfold loW; omega
theorem loW_1 (T : Int) : loW T < 18446744073709551616 := by unfold loW; omega
def RetV (w : World) (T : Int) (e : Ending) (w' : World) : Prop := e = .returned (.agg #[.int .u64 (hiW T), .int .u64 (loW T)]) ∧ Fur w w'
theorem load_wide (w : World) (b : Nat) (n d : Int) (h0 : w.cell? ⟨b, 0, none⟩ = some (.int .u64 n)) (h1 : w.cell? ⟨b, 1, none⟩ = some (.int .u64 d)) :
  (loadVar 195 ⟨b, 0, none⟩).run Tryz.prog w = .ok (.agg #[.int .u64 n, .int .u64 d]) w := by
 go_simp
def WBox (W : World) (B : Nat) (h l : Int) : Prop := W.heap[B]? = some (.cells #[.int .u64 h, .int .u64 l] 195 (0, 0))
theorem WBox.c0 {W : World} {B : Nat} {n d : Int} (h : WBox W B n d) : W.cell? ⟨B, 0, none⟩ = some (.int .u64 n) := by unfold WBox at h; simp [World.cell?, h]
theorem WBox.c1 {W : World} {B : Nat} {n d : Int} (h : WBox W B n d) : W.cell? ⟨B, 1, none⟩ = some (.int .u64 d) := by unfold WBox at h; simp [World.cell?, h]
theorem WBox.f0 {W : World} {B : Nat} {n d : Int} (h : WBox W B n d) (j : Nat) : W.frozen? ⟨B, j, none⟩ = false := by unfold WBox at h; simp [World.frozen?, h]
theorem WBox.lt {W : World} {B : Nat} {n d : Int} (h : WBox W B n d) : B < W.heap.size := by
 unfold WBox at h
 rcases Nat.lt_or_ge B W.heap.size with k | k
 ·exact k
 ·rw [Array.getElem?_eq_none k] at h; cases h
theorem WBox.on {W W' : World} {B : Nat} {n d : Int} (h : WBox W B n d) (hf : Fur W W') : WBox W' B n d := by
 have k := h.lt
 unfold WBox at *
 rw [Below.block hf.b B k]; exact h
theorem wbox1 (w : World) (a b : Int) : WBox (w.alloc (.cells #[.int .u64 a, .int .u64 b] 195)) w.heap.size a b ∧ Fur w (w.alloc (.cells #[.int .u64 a, .int .u64 b] 195)) := by
 refine ⟨?_, (Fur.refl w).alloc _⟩
 show (w.heap.push _)[w.heap.size]? = _
 rw [Array.getElem?_push, if_pos rfl]
theorem results_cell {fn : Func} {p : Tmp} {ty : TypeId} (h : fn.results = #[.cell p ty]) (tmps : Array Value) (P : Program) (w : World) :
  (results fn tmps).run P w = ((asAddr (tmps.getD p undef)).run P w).andThen fun a w₁ => (loadVar ty a).run P w₁ := by
 simp only [results, h]
 simp [Sem.run_bind, Result.andThen]
theorem w_ret {fn : Func} {p : Tmp} (hres : fn.results = #[.cell p 195]) {tmps : Array Value} {B : Nat} {T h l : Int} {w W : World}
  (hp : tmps.getD p undef = .pointer (some ⟨B, 0, none⟩)) (k0 : W.cell? ⟨B, 0, none⟩ = some (.int .u64 h)) (k1 : W.cell? ⟨B, 1, none⟩ = some (.int .u64 l)) (hf : Fur w W) (eh : h = hiW T) (el : l = loW T) :
  bodyPost Tryz.prog fn (RetV w T) Exit.ret { tmps := tmps, defers := [] } W := by
 refine bodyPost_ret (v := .agg #[.int .u64 h, .int .u64 l]) ?_ rfl ⟨by rw [eh, el], hf⟩
 have e : (asAddr (.pointer (some ⟨B, 0, none⟩))).run Tryz.prog W = .ok ⟨B, 0, none⟩ W := by go_simp
 have L := load_wide _ _ _ _ k0 k1
 rw [results_cell hres, hp, e]
 simp only [Result.andThen]
 exact L
theorem w_ret_new {fn : Func} {p : Tmp} (hres : fn.results = #[.cell p 195]) {tmps : Array Value} {T h l : Int} {w W : World}
  (hp : tmps.getD p undef = .pointer (some ⟨W.heap.size, 0, none⟩)) (hf : Fur w W) (eh : h = hiW T) (el : l = loW T) :
  bodyPost Tryz.prog fn (RetV w T) Exit.ret { tmps := tmps, defers := [] } (W.alloc (.cells #[.int .u64 h, .int .u64 l] 195)) :=
 w_ret hres hp (cell_new W _ _ _).1 (cell_new W _ _ _).2 (hf.alloc _) eh el
theorem w_ret_at {fn : Func} {p : Tmp} (hres : fn.results = #[.cell p 195]) {tmps : Array Value} {B : Nat} {T h l : Int} {w W : World}
  (hp : tmps.getD p undef = .pointer (some ⟨B, 0, none⟩)) (hB : B = W.heap.size) (hf : Fur w W) (eh : h = hiW T) (el : l = loW T) :
  bodyPost Tryz.prog fn (RetV w T) Exit.ret { tmps := tmps, defers := [] } (W.alloc (.cells #[.int .u64 h, .int .u64 l] 195)) := by
 subst hB
 exact w_ret_new hres hp hf eh el
theorem hiW_nn {T : Int} (h0 : 0 ≤ T) (h1 : T < 1000000000000000000000000000000000000) : T / 18446744073709551616 = hiW T := by unfold hiW; omega
theorem prod_nn {n d : Int} (n0 : 0 ≤ n) (n1 : n ≤ 1000000000000000) (d0 : 0 ≤ d) (d1 : d ≤ 1000000000000000) : 0 ≤ n * d ∧ n * d ≤ 1000000000000000000000000000000 := by
 refine ⟨Int.mul_nonneg n0 d0, ?_⟩
 have k := Int.mul_le_mul n1 d1 d0 (show (0 : Int) ≤ 1000000000000000 by decide)
 omega
set_option maxHeartbeats 800000 in
theorem product_nn (n d : Int) (n0 : 0 ≤ n) (n1 : n ≤ 1000000000000000) (d0 : 0 ≤ d) (d1 : d ≤ 1000000000000000) (w : World) :
  Calls Tryz.prog 187 #[.int .i64 n, .int .i64 d] w (RetV w (n * d)) := by
 obtain ⟨m0, m1⟩ := prod_nn n0 n1 d0 d1
 have CM := Lib.hid (fun w => Tryz.bits_Mul64 n.toNat d.toNat (by omega) (by omega) w)
 have en : ((n.toNat : Nat) : Int) = n := by omega
 have ed : ((d.toNat : Nat) : Int) = d := by omega
 rw [en, ed] at CM
 obtain ⟨M, hM⟩ : ∃ M, n.toNat * d.toNat = M := ⟨_, rfl⟩
 have hMi : n * d = (M : Int) := by rw [← hM, Int.natCast_mul, en, ed]
 rw [hM] at CM
 rw [hMi] at m0 m1 ⊢
 clear en ed hM hMi
 go_enter Tryz.func187, Tryz.ntmps187
 go_wp2_with fail
 go_at_call 214; refine (CM.out _).mono ?_; rintro e1 w1 ⟨rfl, rfl⟩
 go_wp2
 exact w_ret_new rfl rfl (Fur.refl _) (hiW_nn (by omega) (by omega)) rfl
theorem prod_neg {n d : Int} (h : n < 0) (n1 : -1000000000000000 ≤ n) (d0 : 0 ≤ d) : (((n + 18446744073709551616).toNat * d.toNat : Nat) : Int) = n * d + d * 18446744073709551616 := by
 rw [Int.natCast_mul, Int.toNat_of_nonneg (by omega), Int.toNat_of_nonneg d0, Int.add_mul, Int.mul_comm 18446744073709551616]
set_option maxHeartbeats 800000 in
theorem product_ng (n d : Int) (n0 : n < 0) (n1 : -1000000000000000 ≤ n) (d0 : 0 ≤ d) (d1 : d ≤ 1000000000000000) (w : World) :
  Calls Tryz.prog 187 #[.int .i64 n, .int .i64 d] w (RetV w (n * d)) := by
 obtain ⟨m0, m1⟩ := prod_nn (n := -n) (by omega) (by omega) d0 d1
 rw [Int.neg_mul] at m0 m1
 have CM := Lib.hid (fun w => Tryz.bits_Mul64 (n + 18446744073709551616).toNat d.toNat (by omega) (by omega) w)
 have en : (((n + 18446744073709551616).toNat : Nat) : Int) = n + 18446744073709551616 := by omega
 have ed : ((d.toNat : Nat) : Int) = d := by omega
 have k := prod_neg n0 n1 d0
 rw [en, ed] at CM
 obtain ⟨M, hM⟩ : ∃ M, (n + 18446744073709551616).toNat * d.toNat = M := ⟨_, rfl⟩
 rw [hM] at CM k
 have e1 : (M : Int) / 18446744073709551616 = (n * d) / 18446744073709551616 + d := by omega
 have e2 : (M : Int) % 18446744073709551616 = (n * d) % 18446744073709551616 := by omega
 have HM := Lib.hid (And.intro e1 e2)
 generalize n * d = T at *
 have hw : IntKind.u64.wrap n = n + 18446744073709551616 := by rw [IntKind.wrap_u64]; omega
 clear en ed hM k e1 e2
 go_enter Tryz.func187, Tryz.ntmps187
 go_wp2_with fail
 go_at_call 214; refine (CM.out _).mono ?_; rintro e1 w1 ⟨rfl, rfl⟩
 go_wp2
 exact w_ret_new rfl rfl (Fur.refl _) (by first | (rw [IntKind.wrap_u64]; unfold hiW; have := HM.out.1; omega) | (unfold hiW; have := HM.out.1; omega)) (by unfold loW; have := HM.out.2; omega)
theorem product_any (n d : Int) (n0 : -1000000000000000 ≤ n) (n1 : n ≤ 1000000000000000) (d0 : 0 ≤ d) (d1 : d ≤ 1000000000000000) (w : World) :
  Calls Tryz.prog 187 #[.int .i64 n, .int .i64 d] w (RetV w (n * d)) := by
 by_cases h : n < 0
 ·exact product_ng n d h n0 d0 d1 w
 ·exact product_nn n d (by omega) n1 d0 d1 w
end Go.Proofs.YtpamdlkagmlahaaGreatDoor

namespace Go.Proofs.YtpamdlkagmlahaaGreatDoor
open Go.RowKit
theorem inB_dec (n : Int) : inB n = (decide (-1000000000000000 ≤ n) && decide (n ≤ 1000000000000000)) := rfl
theorem gcd_ok {n d : Int} (h : 0 < d) : (gcdV n d == 1) = okF n d := by
 have e : Int.gcd n d = Nat.gcd n.natAbs d.toNat := by rw [show d.toNat = d.natAbs by omega]; rfl
 cases hn : inB n
 ·have k := inB_f hn
  unfold gcdV okF
  rw [if_neg (by rw [hn]; intro h; cases h.1)]
  have : (decide (-1000000000000000 ≤ n) && decide (n ≤ 1000000000000000)) = false := by rw [← inB_dec]; exact hn
  simp only [Bool.and_eq_false_iff, decide_eq_false_iff_not] at this
  rcases this with t | t <;> simp [t]
 ·cases hd : inB d
  ·have k := inB_f hd
   unfold gcdV okF
   rw [if_neg (by rw [hd]; intro h; cases h.2)]
   have t : ¬ d ≤ 1000000000000000 := by omega
   simp [t]
  ·obtain ⟨a, b⟩ := inB_t hn
   obtain ⟨a', b'⟩ := inB_t hd
   unfold gcdV okF
   rw [if_pos ⟨hn, hd⟩, e, decide_eq_true a, decide_eq_true b, decide_eq_true b', decide_eq_true (show 1 ≤ d by omega)]
   simp only [Bool.true_and]
   rw [Bool.eq_iff_iff, beq_iff_eq, decide_eq_true_iff]
   omega
theorem nf_valid (n d : Int) (w : World) : Calls Tryz.prog 139 #[.agg #[.int .i64 n, .int .i64 d]] w (RetB w (okF n d)) := by
 obtain ⟨p0, f0⟩ := box1 w n d
 by_cases h : 0 < d
 ·rw [← gcd_ok h]
  have CG := Lib.hid (fun w => num_gcd n d w)
  generalize gcdV n d = G at *
  have c00 := p0.c0
  have c01 := p0.c1
  go_enter Tryz.func139, Tryz.ntmps139
  go_wp2_with fail
  go_at_call 191; refine (CG.out _).mono ?_; rintro e1 w1 ⟨rfl, f1⟩
  go_wp2
  go_ret
  exact ⟨rfl, f0.trans f1⟩
 ·have e : okF n d = false := by unfold okF; rw [decide_eq_false (show ¬ 1 ≤ d by omega)]; rfl
  rw [e]
  clear e
  have c00 := p0.c0
  have c01 := p0.c1
  go_enter Tryz.func139, Tryz.ntmps139
  go_wp2
  go_ret
  exact ⟨rfl, f0⟩
def RetF (w : World) (n d : Int) (e : Ending) (w' : World) : Prop := e = .returned (.agg #[.int .i64 n, .int .i64 d]) ∧ Fur w w'
theorem f_ret {fn : Func} {p : Tmp} (hres : fn.results = #[.cell p 122]) {tmps : Array Value} {B : Nat} {h l : Int} {w W : World}
  (hp : tmps.getD p undef = .pointer (some ⟨B, 0, none⟩)) (k0 : W.cell? ⟨B, 0, none⟩ = some (.int .i64 h)) (k1 : W.cell? ⟨B, 1, none⟩ = some (.int .i64 l)) (hf : Fur w W) :
  bodyPost Tryz.prog fn (RetF w h l) Exit.ret { tmps := tmps, defers := [] } W := by
 refine bodyPost_ret (v := .agg #[.int .i64 h, .int .i64 l]) ?_ rfl ⟨rfl, hf⟩
 have e : (asAddr (.pointer (some ⟨B, 0, none⟩))).run Tryz.prog W = .ok ⟨B, 0, none⟩ W := by go_simp
 have L := load_frac _ _ _ _ k0 k1
 rw [results_cell hres, hp, e]
 simp only [Result.andThen]
 exact L
def ozN (n d : Int) : Int := if okF n d = true then n else 0
def ozD (n d : Int) : Int := if okF n d = true then d else 1
theorem oz_ok (n d : Int) : OkF (ozN n d) (ozD n d) ∧ fv (ozN n d) (ozD n d) = fz n d := by
 unfold ozN ozD
 cases h : okF n d
 ·refine ⟨?_, ?_⟩
  ·exact ok01
  ·have k := fz_f h
   exact k
 ·exact ⟨okF_t h, fz_t h⟩
set_option maxHeartbeats 800000 in
theorem orZero_any (n d : Int) (w : World) : Calls Tryz.prog 186 #[.agg #[.int .i64 n, .int .i64 d]] w (RetF w (ozN n d) (ozD n d)) := by
 obtain ⟨p0, p1, f0⟩ := box2 w n d 0 0
 have CV := Lib.hid (fun w => nf_valid n d w)
 unfold ozN ozD
 have c00 := p0.c0
 have c01 := p0.c1
 cases h : okF n d
 all_goals
  rw [h] at CV
  clear h
  go_enter Tryz.func186, Tryz.ntmps186
  go_wp2_with fail
  go_at_call 139; refine (CV.out _).mono ?_; rintro e1 w1 ⟨rfl, f1⟩
  clear c00 c01
  replace p0 := p0.on f1
  replace p1 := p1.on f1
  replace f0 := f0.trans f1
  have c00 := p0.c0
  have c01 := p0.c1
  have c10 := p1.c0
  have c11 := p1.c1
  have z10 := p1.f0 0
  have z11 := p1.f0 1
  clear f1
  go_wp2
  try simp only [Exit.inBlock, Exit.then]
  exact f_ret rfl rfl (frac_put w1 _ _ _ _ _ _ _ p1).1 (frac_put w1 _ _ _ _ _ _ _ p1).2 (fur_put f0 (by omega) _ _)
end Go.Proofs.YtpamdlkagmlahaaGreatDoor
namespace Go.Proofs.YtpamdlkagmlahaaGreatDoor
open Go.RowKit
theorem str_less' : ∀ (a b : List UInt8), (strc a b = -1 ∧ Op.bytesLess a b = true ∧ Op.bytesLess b a = false ∧ (a == b) = false) ∨ (strc a b = 0 ∧ Op.bytesLess a b = false ∧ Op.bytesLess b a = false ∧ (a == b) = true) ∨ (strc a b = 1 ∧ Op.bytesLess a b = false ∧ Op.bytesLess b a = true ∧ (a == b) = false)
 | [], [] => .inr (.inl ⟨rfl, rfl, rfl, rfl⟩)
 | [], _ :: _ => .inl ⟨rfl, rfl, rfl, rfl⟩
 | _ :: _, [] => .inr (.inr ⟨rfl, rfl, rfl, rfl⟩)
 | x :: r, y :: t => by
  have ih := str_less' r t
  show (thn (intc x.toNat y.toNat) (strc r t) = -1 ∧ (decide (x < y) || x == y && Op.bytesLess r t) = true ∧ (decide (y < x) || y == x && Op.bytesLess t r) = false ∧ (x == y && r == t) = false) ∨ (thn (intc x.toNat y.toNat) (strc r t) = 0 ∧ (decide (x < y) || x == y && Op.bytesLess r t) = false ∧ (decide (y < x) || y == x && Op.bytesLess t r) = false ∧ (x == y && r == t) = true) ∨ (thn (intc x.toNat y.toNat) (strc r t) = 1 ∧ (decide (x < y) || x == y && Op.bytesLess r t) = false ∧ (decide (y < x) || y == x && Op.bytesLess t r) = true ∧ (x == y && r == t) = false)
  have lx : x < y ↔ x.toNat < y.toNat := UInt8.lt_iff_toNat_lt
  have ly : y < x ↔ y.toNat < x.toNat := UInt8.lt_iff_toNat_lt
  rcases Nat.lt_trichotomy x.toNat y.toNat with h | h | h
  ·have ne : (x == y) = false := by rw [beq_eq_false_iff_ne]; intro e; rw [e] at h; omega
   have ne' : (y == x) = false := by rw [beq_eq_false_iff_ne]; intro e; rw [e] at h; omega
   refine .inl ⟨?_, ?_, ?_, ?_⟩
   ·unfold thn intc; rw [if_pos (show (x.toNat : Int) < y.toNat by omega)]; rfl
   ·rw [decide_eq_true (lx.2 h)]; rfl
   ·rw [decide_eq_false (fun k => by have := ly.1 k; omega), ne']; rfl
   ·rw [ne]; rfl
  ·have e : x = y := UInt8.toNat_inj.1 h
   subst e
   have f : decide (x < x) = false := decide_eq_false (fun k => by have := lx.1 k; omega)
   have z : intc x.toNat x.toNat = 0 := intc_self _
   rw [f, z, thn_0, beq_self_eq_true, Bool.false_or, Bool.true_and, Bool.false_or, Bool.true_and, Bool.true_and]
   exact ih
  ·have ne : (x == y) = false := by rw [beq_eq_false_iff_ne]; intro e; rw [e] at h; omega
   have ne' : (y == x) = false := by rw [beq_eq_false_iff_ne]; intro e; rw [e] at h; omega
   refine .inr (.inr ⟨?_, ?_, ?_, ?_⟩)
   ·unfold thn intc; rw [if_neg (show ¬ (x.toNat : Int) < y.toNat by omega), if_pos (show (y.toNat : Int) < x.toNat by omega)]; rfl
   ·rw [decide_eq_false (fun k => by have := lx.1 k; omega), ne]; rfl
   ·rw [decide_eq_true (ly.2 h)]; rfl
   ·rw [ne]; rfl
theorem lcmps_any (s t : ByteArray) (w : World) : Calls Tryz.prog 135 #[.string s, .string t] w fun e w' => e = .returned (.int .i64 (strc s.data.toList t.data.toList)) ∧ w' = w := by
 have k := str_less' s.data.toList t.data.toList
 rw [← ByteArray.toList_eq, ← ByteArray.toList_eq] at k ⊢
 have es : (s.toList == s.toList) = true := beq_self_eq_true _
 have et : (t.toList == t.toList) = true := beq_self_eq_true _
 rcases k with ⟨e, g1, g2, g3⟩ | ⟨e, g1, g2, g3⟩ | ⟨e, g1, g2, g3⟩
 all_goals
  rw [e]; clear e
  go_enter Tryz.func135, Tryz.ntmps135
  go_wp2
  go_ret
  exact ⟨rfl, rfl⟩
def frD (k d : Int) : Int := if k = 2 then 1 else d
theorem lfrac_any (x : Vl) (ao : Option Addr) (cap : Nat) (w : World) : Calls Tryz.prog 119 #[vlv x ao cap] w (RetF w x.nn (frD x.kd x.dd)) := by
 obtain ⟨p0, f0⟩ := bx1 w x ao cap
 obtain ⟨p1, f1⟩ := box1 (w.alloc (.cells #[.int .i64 x.kd, .int .i64 x.nn, .int .i64 x.dd, .string (bs x.ss), .slice ao x.ll.length cap] 28)) 0 0
 have s0 : (w.alloc (.cells #[.int .i64 x.kd, .int .i64 x.nn, .int .i64 x.dd, .string (bs x.ss), .slice ao x.ll.length cap] 28)).heap.size = w.heap.size + 1 := by simp
 rw [s0] at p1
 have q0 := p0.on f1
 replace f0 := f0.trans f1
 clear s0 p0 f1
 obtain ⟨W, hW⟩ : ∃ W, ((w.alloc (.cells #[.int .i64 x.kd, .int .i64 x.nn, .int .i64 x.dd, .string (bs x.ss), .slice ao x.ll.length cap] 28)).alloc (.cells #[.int .i64 0, .int .i64 0] 122)) = W := ⟨_, rfl⟩
 rw [hW] at p1 q0 f0
 have c0 := q0.c0; have c1 := q0.c1; have c2 := q0.c2
 have z0 := p1.f0 0; have z1 := p1.f0 1
 have k0 := p1.c0; have k1 := p1.c1
 have hlt := p1.lt
 clear q0
 unfold vlv frD
 generalize x.kd = k at *
 generalize x.nn = n at *
 generalize x.dd = d at *
 by_cases h : k = 2
 ·subst h
  rw [if_pos rfl]
  go_enter Tryz.func119, Tryz.ntmps119
  go_upto_region 1 with fail
  clear hW
  go_wp2
  try simp only [Exit.inBlock, Exit.then]
  exact f_ret rfl rfl (frac_put W _ _ _ _ _ _ _ p1).1 (frac_put W _ _ _ _ _ _ _ p1).2 (fur_put f0 (by omega) _ _)
 ·have g : (k == 2) = false := beq_eq_false_iff_ne.2 h
  rw [if_neg h]
  clear h
  go_enter Tryz.func119, Tryz.ntmps119
  go_upto_region 1 with fail
  clear hW
  go_wp2
  try simp only [Exit.inBlock, Exit.then]
  exact f_ret rfl rfl (frac_put W _ _ _ _ _ _ _ p1).1 (frac_put W _ _ _ _ _ _ _ p1).2 (fur_put f0 (by omega) _ _)
theorem lbyte (s : ByteArray) (k : Nat) (h : k < s.size) : s.data.toList.drop k = s[k] :: s.data.toList.drop (k + 1) := by
 rw [List.drop_eq_getElem_cons (by simpa using h)]
 rfl
def okC (c : UInt8) : Bool := decide (32 ≤ c.toNat) && decide (c.toNat ≤ 126)
theorem okStr_eq (s : List UInt8) : okStr s = (s.all okC && decide (s.length ≤ 100)) := rfl
set_option maxHeartbeats 1600000 in
theorem lvstr_any (s : ByteArray) (hs : s.size ≤ maxLen) (w : World) :
  Calls Tryz.prog 140 #[.string s] w fun e w' => e = .returned (.bool (okStr s.data.toList)) ∧ w' = w := by
 unfold maxLen at hs
 have HLN := Lib.hid (show s.data.toList.length = s.size from Array.length_toList)
 by_cases h100 : s.size ≤ 100
 rotate_left
 ·have g : (100 : Int) < s.size := by omega
  rw [show okStr s.data.toList = false by rw [okStr_eq, HLN.out, decide_eq_false h100, Bool.and_false]]
  clear h100 HLN
  go_enter Tryz.func140, Tryz.ntmps140
  go_wp2
  go_ret
  exact ⟨rfl, rfl⟩
 rw [show okStr s.data.toList = s.data.toList.all okC by rw [okStr_eq, HLN.out, decide_eq_true h100, Bool.and_true]]
 obtain ⟨R, hR⟩ : ∃ R, R = s.data.toList.all okC := ⟨_, rfl⟩
 rw [← hR]
 have HR := Lib.hid hR
 clear hR
 go_enter Tryz.func140, Tryz.ntmps140
 go_wp2
 go_loop [9] (fun iv => ∃ i : Nat, iv = .int .i64 i ∧ i ≤ s.size ∧ Hid (R = (s.data.toList.drop i).all okC)) (fun iv => s.size - (RowKit.intOf iv).toNat)
 case atStart => exact ⟨0, rfl, Nat.zero_le _, HR⟩
 case round =>
  obtain ⟨i, rfl, hi, HN⟩ := hrel
  by_cases hlt : i < s.size
  ·have hb := lbyte s i hlt
   have hA : R = (okC s[i] && (s.data.toList.drop (i + 1)).all okC) := by
    rw [HN.out, hb]; rfl
   clear hb HN
   rcases (show (s[i].toNat : Int) < 32 ∨ 126 < (s[i].toNat : Int) ∨ (32 ≤ (s[i].toNat : Int) ∧ (s[i].toNat : Int) ≤ 126) by omega) with g | g | ⟨g1, g2⟩
   ·have HE := Lib.hid (show R = false by
     rw [hA]
     have : okC s[i] = false := by unfold okC; rw [decide_eq_false (by omega)]; rfl
     rw [this]; rfl)
    clear hA
    go_wp2
    go_ret
    exact ⟨ret_bool HE.out.symm, rfl⟩
   ·have HE := Lib.hid (show R = false by
     rw [hA]
     have : okC s[i] = false := by unfold okC; rw [decide_eq_false (show ¬ s[i].toNat ≤ 126 by omega), Bool.and_false]
     rw [this]; rfl)
    have g' : 32 ≤ (s[i].toNat : Int) := by omega
    clear hA
    go_wp2
    go_ret
    exact ⟨ret_bool HE.out.symm, rfl⟩
   ·have HE := Lib.hid (show R = (s.data.toList.drop (i + 1)).all okC by
     rw [hA]
     have : okC s[i] = true := by unfold okC; rw [decide_eq_true (show 32 ≤ s[i].toNat by omega), decide_eq_true (show s[i].toNat ≤ 126 by omega)]; rfl
     rw [this]; rfl)
    clear hA
    go_wp2
    go_round
    case rel => exact ⟨i + 1, by go_num, by omega, HE.out⟩
    case measure => simp [RowKit.intOf]; omega
  ·have HE := Lib.hid (show R = true by
    rw [HN.out, List.drop_of_length_le (by rw [HLN.out]; omega)]; rfl)
   have hge : s.size ≤ i := by omega
   clear hlt HN
   go_wp2
   go_ret
   exact ⟨ret_bool HE.out.symm, rfl⟩
end Go.Proofs.YtpamdlkagmlahaaGreatDoor
