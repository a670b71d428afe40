
/-
  Fractions in blocks of their own while a call runs: their cells read as they did as long as nothing that was there turns. No program's function is walked here.
-/
import Derived.Test.YtomkanmmfgiemaaDoorFrR
namespace Go.Proofs.YtomkanmmfgiemaaDoor
open Go.RowKit

/-- A fraction lies in block B. -/
def Box (W : World) (B : Nat) (n d : Int) : Prop := W.heap[B]? = some (.cells #[.int .i64 n, .int .i64 d] 41 (0, 0))
theorem Box.c0 {W : World} {B : Nat} {n d : Int} (h : Box W B n d) : W.cell? ⟨B, 0, none⟩ = some (.int .i64 n) := by unfold Box at h; simp [World.cell?, h]
theorem Box.c1 {W : World} {B : Nat} {n d : Int} (h : Box W B n d) : W.cell? ⟨B, 1, none⟩ = some (.int .i64 d) := by unfold Box at h; simp [World.cell?, h]
theorem Box.f0 {W : World} {B : Nat} {n d : Int} (h : Box W B n d) (j : Nat) : W.frozen? ⟨B, j, none⟩ = false := by unfold Box at h; simp [World.frozen?, h]
theorem Box.lt {W : World} {B : Nat} {n d : Int} (h : Box W B n d) : B < W.heap.size := by
  unfold Box at h
  rcases Nat.lt_or_ge B W.heap.size with k | k
  · exact k
  · rw [Array.getElem?_eq_none k] at h; cases h
theorem Box.on {W W' : World} {B : Nat} {n d : Int} (h : Box W B n d) (hf : Fur W W') : Box W' B n d := by
  have k := h.lt
  unfold Box at *
  rw [Below.block hf.b B k]; exact h
theorem Box.drewN {W : World} {B : Nat} {n d : Int} (h : Box W B n d) (q : Nat) : Box (W.drewN q) B n d := h
theorem cellOn {w w' : World} (hf : Fur w w') {p : Addr} {v : Value} (h : w.cell? p = some v) : w'.cell? p = some v := by
  rw [Below.cell hf.b (World.block_lt_of_cell? w p h)]; exact h
theorem cellOnw {w w' : World} (hf : Fuw w w') {p : Addr} {v : Value} (h : w.cell? p = some v) : w'.cell? p = some v := by
  rw [Below.cell hf (World.block_lt_of_cell? w p h)]; exact h
end Go.Proofs.YtomkanmmfgiemaaDoor
