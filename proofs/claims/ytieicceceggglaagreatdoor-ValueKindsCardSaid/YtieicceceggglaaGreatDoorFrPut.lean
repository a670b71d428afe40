
/-
  Boxes that are stored to: the box holds the new fraction, the others stay; nothing below turns. No program's function is walked here.
-/
import Derived.Test.YtieicceceggglaaGreatDoorFrQ
namespace Go.Proofs.YtieicceceggglaaGreatDoor
open Go.RowKit

theorem Box.put {W : World} {B : Nat} {a b : Int} (h : Box W B a b) (n d : Int) : Box ((W.setCell ⟨B, 0, none⟩ (.int .i64 n)).setCell ⟨B, 1, none⟩ (.int .i64 d)) B n d := by
  unfold Box at *
  simp [World.setCell, Array.getElem?_modify, h]
theorem Box.other {W : World} {B B' : Nat} {a b : Int} (h : Box W B a b) (hB : B' ≠ B) (u v : Value) : Box ((W.setCell ⟨B', 0, none⟩ u).setCell ⟨B', 1, none⟩ v) B a b := by
  unfold Box at *
  simp [World.setCell, Array.getElem?_modify, h, hB]
end Go.Proofs.YtieicceceggglaaGreatDoor
