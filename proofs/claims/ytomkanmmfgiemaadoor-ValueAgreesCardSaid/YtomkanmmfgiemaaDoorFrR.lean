
/-
  How a function that gives back a fraction and a bool ends: the result lies in a cell of its own. No program's function is walked here.
-/
import Derived.Test.YtomkanmmfgiemaaDoorFrMem
import Derived.Laws.ResultCell
namespace Go.Proofs.YtomkanmmfgiemaaDoor
open Go.RowKit

theorem load_frac (w : World) (b : Nat) (n d : Int) (h0 : w.cell? ⟨b, 0, none⟩ = some (.int .i64 n)) (h1 : w.cell? ⟨b, 1, none⟩ = some (.int .i64 d)) :
    (loadVar 41 ⟨b, 0, none⟩).run Tryd.prog w = .ok (.agg #[.int .i64 n, .int .i64 d]) w := by
  go_simp
/-- A fraction in a block of its own. -/
theorem cell_new (w : World) (a b : Value) (t : TypeId) : (w.alloc (.cells #[a, b] t)).cell? ⟨w.heap.size, 0, none⟩ = some a ∧ (w.alloc (.cells #[a, b] t)).cell? ⟨w.heap.size, 1, none⟩ = some b := by
  have k0 := World.cell?_alloc_mark w #[a, b] t (0, 0) 0
  have k1 := World.cell?_alloc_mark w #[a, b] t (0, 0) 1
  exact ⟨k0, k1⟩
theorem frac_put (W : World) (B : Nat) (a b u v : Value) (t : TypeId) (fz : Nat × Nat) (h : W.heap[B]? = some (.cells #[a, b] t fz)) :
    ((W.setCell ⟨B, 0, none⟩ u).setCell ⟨B, 1, none⟩ v).cell? ⟨B, 0, none⟩ = some u ∧ ((W.setCell ⟨B, 0, none⟩ u).setCell ⟨B, 1, none⟩ v).cell? ⟨B, 1, none⟩ = some v := by
  constructor <;> simp [World.setCell, World.cell?, Array.getElem?_modify, h]
theorem fur_put {w W : World} {B : Nat} (hf : Fur w W) (hB : w.heap.size ≤ B) (u v : Value) : Fur w ((W.setCell ⟨B, 0, none⟩ u).setCell ⟨B, 1, none⟩ v) :=
  ⟨Below.setCell (Below.setCell hf.b hB u) hB v, hf.dr⟩
end Go.Proofs.YtomkanmmfgiemaaDoor
