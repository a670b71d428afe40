
/-
  The reference of package frac: digits gives the decimal numeral of an int, Text the numeral of a valid fraction, an empty string for any other one. Nothing that was there turns.
-/
import Derived.Test.YtieicceceggglaaGreatDoorFrMem
import Derived.Test.YtieicceceggglaaGreatDoorFracM
import Derived.Test.YtieicceceggglaaGreatDoorFrO
import Derived.Test.YtieicceceggglaaGreatDoorFrQ
import Derived.Laws.IdiomStrings
import Derived.Lib.ItoaLen
import Derived.Lib.Hide
import Derived.Deep.RegionHeld3
namespace Go.Proofs.YtieicceceggglaaGreatDoor
open Go.RowKit
open Go.Lib (decDigits)

/-- The numeral of an int. -/
def txt (n : Int) : ByteArray := ⟨(Lib.itoa n).toArray⟩
theorem txt_size (n : Int) (h0 : -9223372036854775808 ≤ n) (h1 : n ≤ 9223372036854775807) : (txt n).size ≤ 21 := by
  have k := Lib.itoa_length_le n h0 h1
  show (Lib.itoa n).toArray.size ≤ 21
  simpa using k
/-- The digits that are not written yet. -/
def pre (u : Nat) : List UInt8 := if u = 0 then [] else decDigits u
/-- The text of a fraction. -/
def fracTxt (n d : Int) : ByteArray := if d = 1 then txt n else txt n ++ ⟨#[47]⟩ ++ txt d
def texV (n d : Int) : ByteArray := if okF n d = true then fracTxt n d else ⟨#[]⟩

end Go.Proofs.YtieicceceggglaaGreatDoor
