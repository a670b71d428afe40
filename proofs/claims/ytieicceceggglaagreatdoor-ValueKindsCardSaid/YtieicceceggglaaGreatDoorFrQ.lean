
/-
  Fractions in blocks of their own while a call runs: their cells read as they did as long as nothing that was there turns. No program's function is walked here.
-/
import Derived.Test.YtieicceceggglaaGreatDoorFrR
namespace Go.Proofs.YtieicceceggglaaGreatDoor
open Go.RowKit

/-- A fraction lies in block B. -/
def Box (W : World) (B : Nat) (n d : Int) : Prop := W.heap[B]? = some (.cells #[.int .i64 n, .int .i64 d] 28 (0, 0))
theorem Box.c0 {W : World} {B : Nat} {n d : Int} (h : Box W B n d) : W.cell? ⟨B, 0, none⟩ = some (.int .i64 n) := by unfold Box at h; simp [World.cell?, h]
theorem Box.c1 {W : World} {B : Nat} {n d : Int} (h : Box W B n d) : W.cell? ⟨B, 1, none⟩ = some (.int .i64 d) := by unfold Box at h; simp [World.cell?, h]
theorem Box.f0 {W : World} {B : Nat} {n d : Int} (h : Box W B n d) (j : Nat) : W.frozen? ⟨B, j, none⟩ = false := by unfold Box at h; simp [World.frozen?, h]
theorem Box.lt {W : World} {B : Nat} {n d : Int} (h : Box W B n d) : B < W.heap.size := by
  unfold Box at h
  rcases Nat.lt_or_ge B W.heap.size with k | k
  · exact k
  · rw [Array.getElem?_eq_none k] at h; cases h
theorem Box.on {W W' : World} {B : Nat} {n d : Int} (h : Box W B n d) (hf : Fur W W') : Box W' B n d := by
  have k := h.lt
  unfold Box at *
  rw [Below.block hf.b B k]; exact h
theorem Box.drewN {W : World} {B : Nat} {n d : Int} (h : Box W B n d) (q : Nat) : Box (W.drewN q) B n d := h
/-- The world behind three boxes: two arguments and a result. -/
theorem box3 (w : World) (a b c d e f : Int) (t : TypeId) (ht : t = 28) :
    Box (((w.alloc (.cells #[.int .i64 a, .int .i64 b] t)).alloc (.cells #[.int .i64 c, .int .i64 d] t)).alloc (.cells #[.int .i64 e, .int .i64 f] t)) w.heap.size a b ∧
    Box (((w.alloc (.cells #[.int .i64 a, .int .i64 b] t)).alloc (.cells #[.int .i64 c, .int .i64 d] t)).alloc (.cells #[.int .i64 e, .int .i64 f] t)) (w.heap.size + 1) c d ∧
    Box (((w.alloc (.cells #[.int .i64 a, .int .i64 b] t)).alloc (.cells #[.int .i64 c, .int .i64 d] t)).alloc (.cells #[.int .i64 e, .int .i64 f] t)) (w.heap.size + 1 + 1) e f ∧
    Fur w (((w.alloc (.cells #[.int .i64 a, .int .i64 b] t)).alloc (.cells #[.int .i64 c, .int .i64 d] t)).alloc (.cells #[.int .i64 e, .int .i64 f] t)) := by
  subst ht
  have p0 : Box (w.alloc (.cells #[.int .i64 a, .int .i64 b] 28)) w.heap.size a b := by
    show (w.heap.push _)[w.heap.size]? = _
    rw [Array.getElem?_push, if_pos rfl]
  have f0 : Fur w (w.alloc (.cells #[.int .i64 a, .int .i64 b] 28)) := (Fur.refl w).alloc _
  have s0 : (w.alloc (.cells #[.int .i64 a, .int .i64 b] 28)).heap.size = w.heap.size + 1 := by simp
  generalize w.alloc (.cells #[.int .i64 a, .int .i64 b] 28) = w1 at *
  have p1 : Box (w1.alloc (.cells #[.int .i64 c, .int .i64 d] 28)) (w.heap.size + 1) c d := by
    show (w1.heap.push _)[w.heap.size + 1]? = _
    rw [← s0, Array.getElem?_push, if_pos rfl]
  have f1 : Fur w1 (w1.alloc (.cells #[.int .i64 c, .int .i64 d] 28)) := (Fur.refl w1).alloc _
  have s1 : (w1.alloc (.cells #[.int .i64 c, .int .i64 d] 28)).heap.size = w.heap.size + 1 + 1 := by simp [s0]
  generalize w1.alloc (.cells #[.int .i64 c, .int .i64 d] 28) = w2 at *
  have p2 : Box (w2.alloc (.cells #[.int .i64 e, .int .i64 f] 28)) (w.heap.size + 1 + 1) e f := by
    show (w2.heap.push _)[w.heap.size + 1 + 1]? = _
    rw [← s1, Array.getElem?_push, if_pos rfl]
  have f2 : Fur w2 (w2.alloc (.cells #[.int .i64 e, .int .i64 f] 28)) := (Fur.refl w2).alloc _
  exact ⟨(p0.on f1).on f2, p1.on f2, p2, (f0.trans f1).trans f2⟩
theorem cellOn {w w' : World} (hf : Fur w w') {p : Addr} {v : Value} (h : w.cell? p = some v) : w'.cell? p = some v := by
  rw [Below.cell hf.b (World.block_lt_of_cell? w p h)]; exact h
theorem cellOnw {w w' : World} (hf : Fuw w w') {p : Addr} {v : Value} (h : w.cell? p = some v) : w'.cell? p = some v := by
  rw [Below.cell hf (World.block_lt_of_cell? w p h)]; exact h
end Go.Proofs.YtieicceceggglaaGreatDoor
