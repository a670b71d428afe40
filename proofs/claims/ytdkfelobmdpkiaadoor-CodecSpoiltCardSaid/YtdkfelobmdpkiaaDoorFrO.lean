
/-
  The reference of package frac: Floor gives the greatest int that is not greater. For every pair of ints; nothing that was there turns.
-/
import Derived.Test.YtdkfelobmdpkiaaDoorFrMem
import Derived.Test.YtdkfelobmdpkiaaDoorFracM
import Derived.Test.YtdkfelobmdpkiaaDoorFrQ
namespace Go.Proofs.YtdkfelobmdpkiaaDoor
open Go.RowKit

theorem box1 (w : World) (a b : Int) : Box (w.alloc (.cells #[.int .i64 a, .int .i64 b] 67)) w.heap.size a b ∧ Fur w (w.alloc (.cells #[.int .i64 a, .int .i64 b] 67)) := by
  refine ⟨?_, (Fur.refl w).alloc _⟩
  show (w.heap.push _)[w.heap.size]? = _
  rw [Array.getElem?_push, if_pos rfl]
end Go.Proofs.YtdkfelobmdpkiaaDoor
