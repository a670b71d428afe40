
/-
  How a function that gives back a fraction and a bool ends: the result lies in a cell of its own. No program's function is walked here.
-/
import Derived.Test.YtieicceceggglaaGreatDoorFrMem
import Derived.Laws.ResultCell
namespace Go.Proofs.YtieicceceggglaaGreatDoor
open Go.RowKit

theorem load_frac (w : World) (b : Nat) (n d : Int) (h0 : w.cell? ⟨b, 0, none⟩ = some (.int .i64 n)) (h1 : w.cell? ⟨b, 1, none⟩ = some (.int .i64 d)) :
    (loadVar 28 ⟨b, 0, none⟩).run Tryz.prog w = .ok (.agg #[.int .i64 n, .int .i64 d]) w := by
  go_simp
theorem fr_ret {fn : Func} {p u : Tmp} (hres : fn.results = #[.cell p 28, .tmp u]) {tmps : Array Value} {b : Nat} {n d : Int} {c : Bool} {w : World} {Q : Ending → World → Prop}
    (hp : tmps.getD p undef = .pointer (some ⟨b, 0, none⟩)) (hu : tmps.getD u undef = .bool c)
    (h0 : w.cell? ⟨b, 0, none⟩ = some (.int .i64 n)) (h1 : w.cell? ⟨b, 1, none⟩ = some (.int .i64 d))
    (hQ : Q (.returned (.tuple #[.agg #[.int .i64 n, .int .i64 d], .bool c])) w) : bodyPost Tryz.prog fn Q Exit.ret { tmps := tmps, defers := [] } w := by
  refine bodyPost_ret (v := .tuple #[.agg #[.int .i64 n, .int .i64 d], .bool c]) ?_ rfl hQ
  rw [results_cell_tmp hres, hp, hu]
  have e : (asAddr (.pointer (some ⟨b, 0, none⟩))).run Tryz.prog w = .ok ⟨b, 0, none⟩ w := by go_simp
  rw [e]
  simp only [Result.andThen]
  rw [load_frac w b n d h0 h1]
/-- A fraction in a block of its own. -/
theorem cell_new (w : World) (a b : Value) (t : TypeId) : (w.alloc (.cells #[a, b] t)).cell? ⟨w.heap.size, 0, none⟩ = some a ∧ (w.alloc (.cells #[a, b] t)).cell? ⟨w.heap.size, 1, none⟩ = some b := by
  have k0 := World.cell?_alloc_mark w #[a, b] t (0, 0) 0
  have k1 := World.cell?_alloc_mark w #[a, b] t (0, 0) 1
  exact ⟨k0, k1⟩
theorem frac_put (W : World) (B : Nat) (a b u v : Value) (t : TypeId) (fz : Nat × Nat) (h : W.heap[B]? = some (.cells #[a, b] t fz)) :
    ((W.setCell ⟨B, 0, none⟩ u).setCell ⟨B, 1, none⟩ v).cell? ⟨B, 0, none⟩ = some u ∧ ((W.setCell ⟨B, 0, none⟩ u).setCell ⟨B, 1, none⟩ v).cell? ⟨B, 1, none⟩ = some v := by
  constructor <;> simp [World.setCell, World.cell?, Array.getElem?_modify, h]
theorem fur_put {w W : World} {B : Nat} (hf : Fur w W) (hB : w.heap.size ≤ B) (u v : Value) : Fur w ((W.setCell ⟨B, 0, none⟩ u).setCell ⟨B, 1, none⟩ v) :=
  ⟨Below.setCell (Below.setCell hf.b hB u) hB v, hf.dr⟩
theorem heap_new (w : World) (o : Obj) (q : Nat) : ((w.alloc o).drewN q).heap[w.heap.size]? = some o := by
  show (w.heap.push o)[w.heap.size]? = some o
  rw [Array.getElem?_push, if_pos rfl]
/-- A result in a cell that has just been stored to. -/
theorem fr_ret_put {fn : Func} {p u : Tmp} (hres : fn.results = #[.cell p 28, .tmp u]) {tmps : Array Value} {B : Nat} {n d : Int} {c : Bool} {w W : World} {a b : Value} {t : TypeId} {fz : Nat × Nat}
    (hp : tmps.getD p undef = .pointer (some ⟨B, 0, none⟩)) (hu : tmps.getD u undef = .bool c) (h : W.heap[B]? = some (.cells #[a, b] t fz)) (hf : Fur w W) (hB : w.heap.size ≤ B) :
    bodyPost Tryz.prog fn (RetFB w n d c) Exit.ret { tmps := tmps, defers := [] } ((W.setCell ⟨B, 0, none⟩ (.int .i64 n)).setCell ⟨B, 1, none⟩ (.int .i64 d)) :=
  fr_ret hres hp hu (frac_put W B a b _ _ t fz h).1 (frac_put W B a b _ _ t fz h).2 ⟨rfl, fur_put hf hB _ _⟩
end Go.Proofs.YtieicceceggglaaGreatDoor
