
/-
  Package frac: Add gives the fraction of the sum of two valid fractions and true, or no fraction and false. For every two pairs of ints; nothing that was there turns.
-/
import Derived.Test.YtieicceceggglaaGreatDoorFzA
import Derived.Test.YtieicceceggglaaGreatDoorNumT
import Derived.Deep.RegionHeld3
import Derived.Test.YtieicceceggglaaGreatDoorFrX
namespace Go.Proofs.YtieicceceggglaaGreatDoor
open Go.RowKit

theorem WBox.put {W : World} {B : Nat} {a b : Int} (h : WBox W B a b) (n d : Int) : WBox ((W.setCell ⟨B, 0, none⟩ (.int .u64 n)).setCell ⟨B, 1, none⟩ (.int .u64 d)) B n d := by
  unfold WBox at *
  simp [World.setCell, Array.getElem?_modify, h]
theorem mul_bound {x p : Int} (a : -1000000000000000 ≤ x) (b : x ≤ 1000000000000000) (c : 0 ≤ p) (d : p ≤ 1000000000000000) : (x * p).natAbs ≤ 1000000000000000000000000000000 := by
  rw [Int.natAbs_mul]
  have k := Nat.mul_le_mul (show x.natAbs ≤ 1000000000000000 by omega) (show p.natAbs ≤ 1000000000000000 by omega)
  omega
theorem keep4 {v v' : World} {p0 p1 p2 p3 : Addr} {x0 x1 x2 x3 : Value} (hf : Fur v v') (h0 : v.cell? p0 = some x0) (h1 : v.cell? p1 = some x1) (h2 : v.cell? p2 = some x2) (h3 : v.cell? p3 = some x3) :
    Fur v v' ∧ v'.cell? p0 = some x0 ∧ v'.cell? p1 = some x1 ∧ v'.cell? p2 = some x2 ∧ v'.cell? p3 = some x3 := ⟨hf, cellOn hf h0, cellOn hf h1, cellOn hf h2, cellOn hf h3⟩
end Go.Proofs.YtieicceceggglaaGreatDoor
