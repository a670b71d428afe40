
/-
  Slices of int in memory, told by the list of what they hold; the relation of worlds 'nothing that was there has turned'. No program's function is walked here.
-/
import Derived.Test.YtieicceceggglaaGreatDoorNatMath
import Derived.Below
import Derived.WideShapes
import Derived.Lib.Hide
namespace Go.Proofs.YtieicceceggglaaGreatDoor
open Go.RowKit

/-- What existed before is as it was; the world has only grown, and no answer that was drawn is drawn again. -/
structure Fur (w w' : World) : Prop where
  b : Below w.heap.size w w'
  dr : w.drawn ≤ w'.drawn
theorem Fur.refl (w : World) : Fur w w := ⟨Below.refl _ _, Nat.le_refl _⟩
theorem Fur.trans {a b c : World} (h : Fur a b) (k : Fur b c) : Fur a c := ⟨Below.trans h.b (Below.mono k.b (Below.size h.b)), Nat.le_trans h.dr k.dr⟩
theorem Fur.drew {a b : World} (h : Fur a b) : Fur a b.drew := ⟨Below.drew h.b, Nat.le_trans h.dr (Nat.le_succ _)⟩
theorem Fur.size {a b : World} (h : Fur a b) : a.heap.size ≤ b.heap.size := Below.size h.b
theorem Fur.alloc {a b : World} (h : Fur a b) (o : Obj) : Fur a (b.alloc o) := ⟨Below.alloc h.b (Below.size h.b) o, h.dr⟩

/-- The same, whatever was drawn. -/
def Fuw (w w' : World) : Prop := Below w.heap.size w w'
theorem Fuw.refl (w : World) : Fuw w w := Below.refl _ _
theorem Fuw.trans {a b c : World} (h : Fuw a b) (k : Fuw b c) : Fuw a c := Below.trans h (Below.mono k (Below.size h))
theorem Fuw.drew {a b : World} (h : Fuw a b) : Fuw a b.drew := Below.drew h
theorem Fuw.size {a b : World} (h : Fuw a b) : a.heap.size ≤ b.heap.size := Below.size h
theorem Fuw.alloc {a b : World} (h : Fuw a b) (o : Obj) : Fuw a (b.alloc o) := Below.alloc h (Below.size h) o
theorem Fur.w {a b : World} (h : Fur a b) : Fuw a b := h.b

/-- A slice at ao, of capacity cap, holds the list zs of int values. -/
structure IsS (w : World) (ao : Option Addr) (zs : List Int) (cap : Nat) : Prop where
  le : zs.length ≤ cap
  max : cap ≤ maxLen
  nil : ao = none → cap = 0
  at_ : 0 < zs.length → ∃ b off, ao = some ⟨b, off, none⟩ ∧ b < w.heap.size ∧ ∀ j, j < zs.length → w.cell? ⟨b, off + j, none⟩ = some (.int .i64 (zs.getD j 0))
theorem IsS.on {w w' : World} {ao : Option Addr} {zs : List Int} {cap : Nat} (h : IsS w ao zs cap) (hf : Fur w w') : IsS w' ao zs cap :=
  ⟨h.le, h.max, h.nil, fun hp => by
    obtain ⟨b, off, e, hb, hc⟩ := h.at_ hp
    exact ⟨b, off, e, Nat.lt_of_lt_of_le hb hf.size, fun j hj => (Below.cell hf.b (p := ⟨b, off + j, none⟩) hb).trans (hc j hj)⟩⟩
theorem IsS.empty (w : World) : IsS w none [] 0 := ⟨Nat.le_refl _, Nat.zero_le _, fun _ => rfl, fun h => absurd h (by decide)⟩

/-- A result is a slice that holds zs; nothing that was there has turned. -/
def RetS (w : World) (zs : List Int) (e : Ending) (w' : World) : Prop := ∃ ao cap, e = .returned (.slice ao zs.length cap) ∧ IsS w' ao zs cap ∧ Fur w w'
/-- A slice that holds zs and a bool. -/
def RetSB (w : World) (zs : List Int) (c : Bool) (e : Ending) (w' : World) : Prop := ∃ ao cap, e = .returned (.tuple #[.slice ao zs.length cap, .bool c]) ∧ IsS w' ao zs cap ∧ Fur w w'

/-- The cells of a list. -/
def cs (zs : List Int) : List Value := zs.map (Value.int .i64)
theorem cs_len (zs : List Int) : (cs zs).length = zs.length := List.length_map ..
theorem cs_app (a b : List Int) : cs (a ++ b) = cs a ++ cs b := List.map_append ..
/-- What a call owns reads as its list. -/
theorem IsS.of_own {w : World} {base e : Nat} {v : Value} {n : Nat} {zs : List Int} (h : w.ownsRow base e 1 v n (cs zs)) : ∃ ao cap, v = .slice ao zs.length cap ∧ n = zs.length ∧ IsS w ao zs cap := by
  have hl := h.1
  rw [cs_len, Nat.mul_one] at hl
  subst hl
  rcases h.2 with ⟨rfl, h0⟩ | ⟨g, cap, cur, rfl, hb, hh, h1, h2, h3, h4⟩
  · refine ⟨none, 0, by rw [h0], rfl, by omega, Nat.zero_le _, fun _ => rfl, fun hp => absurd hp (by omega)⟩
  · refine ⟨_, cap, rfl, rfl, h1, h2, (fun k => by cases k), fun _ => ⟨g, 0, rfl, ?_, fun j hj => ?_⟩⟩
    · rcases Nat.lt_or_ge g w.heap.size with k | k
      · exact k
      · rw [Array.getElem?_eq_none k] at hh; cases hh
    · have k := h.cells (g := g) rfl j (.int .i64 (zs.getD j 0)) (by simp [cs, hj])
      rw [Go.WideShapes.add_plain] at k
      exact k
theorem ret_slice {ao : Option Addr} {cap : Nat} {n m : Nat} (h : n = m) : Ending.returned (.slice ao n cap) = .returned (.slice ao m cap) := by rw [h]
theorem ret_bool {a b : Bool} (h : a = b) : Ending.returned (.bool a) = .returned (.bool b) := by rw [h]
theorem ret_int {k : IntKind} {a b : Int} (h : a = b) : Ending.returned (.int k a) = .returned (.int k b) := by rw [h]
end Go.Proofs.YtieicceceggglaaGreatDoor
