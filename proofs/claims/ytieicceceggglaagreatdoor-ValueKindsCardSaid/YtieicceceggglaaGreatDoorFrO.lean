
/-
  The reference of package frac: Floor gives the greatest int that is not greater. For every pair of ints; nothing that was there turns.
-/
import Derived.Test.YtieicceceggglaaGreatDoorFrMem
import Derived.Test.YtieicceceggglaaGreatDoorFracM
import Derived.Test.YtieicceceggglaaGreatDoorFrQ
namespace Go.Proofs.YtieicceceggglaaGreatDoor
open Go.RowKit

theorem box1 (w : World) (a b : Int) : Box (w.alloc (.cells #[.int .i64 a, .int .i64 b] 28)) w.heap.size a b ∧ Fur w (w.alloc (.cells #[.int .i64 a, .int .i64 b] 28)) := by
  refine ⟨?_, (Fur.refl w).alloc _⟩
  show (w.heap.push _)[w.heap.size]? = _
  rw [Array.getElem?_push, if_pos rfl]
end Go.Proofs.YtieicceceggglaaGreatDoor
