
/-
  The reference of package frac: Cmp compares the values of two fractions, where one that is not valid counts as 0. For every two pairs of ints; nothing that was there turns.
-/
import Derived.Test.YtieicceceggglaaGreatDoorFrMem
import Derived.Test.YtieicceceggglaaGreatDoorFracM
import Derived.Test.YtieicceceggglaaGreatDoorWideM
import Derived.Deep.RegionWith
import Derived.Test.YtieicceceggglaaGreatDoorFrQ
import Derived.Deep.RegionHeld3
namespace Go.Proofs.YtieicceceggglaaGreatDoor
open Go.RowKit

theorem box2 (w : World) (a b c d : Int) :
    Box ((w.alloc (.cells #[.int .i64 a, .int .i64 b] 28)).alloc (.cells #[.int .i64 c, .int .i64 d] 28)) w.heap.size a b ∧
    Box ((w.alloc (.cells #[.int .i64 a, .int .i64 b] 28)).alloc (.cells #[.int .i64 c, .int .i64 d] 28)) (w.heap.size + 1) c d ∧
    Fur w ((w.alloc (.cells #[.int .i64 a, .int .i64 b] 28)).alloc (.cells #[.int .i64 c, .int .i64 d] 28)) := by
  have p0 : Box (w.alloc (.cells #[.int .i64 a, .int .i64 b] 28)) w.heap.size a b := by
    show (w.heap.push _)[w.heap.size]? = _
    rw [Array.getElem?_push, if_pos rfl]
  have f0 : Fur w (w.alloc (.cells #[.int .i64 a, .int .i64 b] 28)) := (Fur.refl w).alloc _
  have s0 : (w.alloc (.cells #[.int .i64 a, .int .i64 b] 28)).heap.size = w.heap.size + 1 := by simp
  generalize w.alloc (.cells #[.int .i64 a, .int .i64 b] 28) = w1 at *
  have p1 : Box (w1.alloc (.cells #[.int .i64 c, .int .i64 d] 28)) (w.heap.size + 1) c d := by
    show (w1.heap.push _)[w.heap.size + 1]? = _
    rw [← s0, Array.getElem?_push, if_pos rfl]
  have f1 : Fur w1 (w1.alloc (.cells #[.int .i64 c, .int .i64 d] 28)) := (Fur.refl w1).alloc _
  exact ⟨p0.on f1, p1, f0.trans f1⟩
theorem ok01 : OkF 0 ((1 : Nat) : Int) := ⟨by decide, by decide, by decide, by decide, by decide⟩
theorem fz_f {n d : Int} (h : okF n d = false) : fv 0 ((1 : Nat) : Int) = fz n d := by
  unfold fz
  rw [if_neg (by rw [h]; decide)]
  unfold fv
  rw [Rat.zero_mkRat]
theorem fz_t {n d : Int} (h : okF n d = true) : fv n d = fz n d := by
  unfold fz
  rw [if_pos h]
theorem cmp_sign {n1 n2 : Int} {D1 D2 : Nat} (h1 : OkF n1 D1) (h2 : OkF n2 D2) : (n1 * (D2 : Int) + -n2 * (D1 : Int)).sign = cmpQ (fv n1 D1) (fv n2 D2) := by
  obtain ⟨a, b⟩ := h1.v
  obtain ⟨c, d⟩ := h2.v
  rw [Int.toNat_natCast] at b d
  have l1 := Rat.lt_iff (fv n1 D1) (fv n2 D2)
  have l2 := Rat.lt_iff (fv n2 D2) (fv n1 D1)
  rw [a, b, c, d] at l1 l2
  rw [Int.neg_mul]
  unfold cmpQ
  rcases Int.lt_trichotomy (n1 * (D2 : Int)) (n2 * (D1 : Int)) with k | k | k
  · rw [if_pos (l1.2 k)]; exact Int.sign_eq_neg_one_of_neg (by omega)
  · rw [if_neg (fun h => by have := l1.1 h; omega), if_neg (fun h => by have := l2.1 h; omega), k, Int.add_right_neg]; rfl
  · rw [if_neg (fun h => by have := l1.1 h; omega), if_pos (l2.2 k)]; exact Int.sign_eq_one_of_pos (by omega)
end Go.Proofs.YtieicceceggglaaGreatDoor
