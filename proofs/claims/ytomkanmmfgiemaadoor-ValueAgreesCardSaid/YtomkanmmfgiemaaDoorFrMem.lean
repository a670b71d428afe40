
/-
  Slices of int that a call makes and writes, and the results of package frac and its reference: a fraction, a fraction and a bool, an int, a bool, a string, a wide number. No program's function is walked here.
-/
import Derived.Test.YtomkanmmfgiemaaDoorNatMem
import Derived.Test.YtomkanmmfgiemaaDoorWideM
import Derived.Test.YtomkanmmfgiemaaDoorProg
import Derived.WalkKit
import Derived.BigCall
import Derived.BigQuiet
import Derived.RegionTactic
import Derived.LoopTactic
import Derived.Deep.QuietTactic
import Derived.OwnWalk
import Derived.Laws.AppendOwnNone
import Derived.Laws.OwnMore
import Derived.IntWalk
namespace Go.Proofs.YtomkanmmfgiemaaDoor
open Go.RowKit

theorem getD_at {l : List Int} {k : Nat} (hk : k < l.length) : l.getD k 0 = l[k] := by rw [List.getD_eq_getElem?_getD, List.getElem?_eq_getElem hk]; rfl
theorem fur_set {w w1 : World} {g j : Nat} {u : Value} (hf : Fur w w1) (hg : w.heap.size ≤ g) : Fur w (w1.setCell ⟨g, j, none⟩ u) := ⟨Below.setCell hf.b hg u, hf.dr⟩
/-- A result is a bool; nothing that was there has turned. -/
def RetB (w : World) (c : Bool) (e : Ending) (w' : World) : Prop := e = .returned (.bool c) ∧ Fur w w'
/-- An int. -/
def RetI (w : World) (n : Int) (e : Ending) (w' : World) : Prop := e = .returned (.int .i64 n) ∧ Fur w w'
/-- A string. -/
def RetT (w : World) (s : ByteArray) (e : Ending) (w' : World) : Prop := e = .returned (.string s) ∧ Fur w w'
theorem ret_str {a b : ByteArray} (h : a = b) : Ending.returned (.string a) = .returned (.string b) := by rw [h]
end Go.Proofs.YtomkanmmfgiemaaDoor
