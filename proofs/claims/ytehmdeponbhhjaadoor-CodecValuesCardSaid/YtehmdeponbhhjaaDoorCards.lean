/-
  DERIVED. GIVEN WITH THE SEED: THE CARDS: each row of YtehmdeponbhhjaaDoorRows.lean that lists a variable, with what it lists TIED to the program's text (the seventh form; the later family's looks); each row that meets fmt, with fmt's text TOLD by the authors' own Lean function (tested against real Go, not proved from fmt's source: count such statements apart). THE CARD IS WHAT COUNTS. Prove the row's statement (the work); the ties are given (YtehmdeponbhhjaaDoorTie.lean); close each card by the builder's one call (the guide's Derived/Test/ToyasCard.lean, 'card_holds'). Laid BY PROGRAM, IN A SANDBOX (cutbox-door.mjs). By AI agents, Wed Nov 11 2026. No macro, syntax, notation, axiom, sorry.
-/
import Derived.Test.YtehmdeponbhhjaaDoorRows
import GoSem.ClaimSeven
namespace Go.Proofs.YtehmdeponbhhjaaDoor
namespace Rows

/-- THE TIED CARD OF 'graphdblaw05.CodecValues'. -/
def codecValuesCard : Claim7 := { stood := { row := codecValuesRow, standIns := [], harness := (true, "123e800ab56b2e2c3eb2c9bf79dce0f0a3c6c28a797d5a898d2801eb93379f2c"), looks := false }, kinds := [], alts := [], laidByText := true, laidKinds := [.data], laidTests := true, laidLooks := .later }
def CodecValuesCardSaid : Prop := Claim7.holds Tryd.pinned (.plain (OpenSpec.ofChange codecValuesSpec)) codecValuesCard

/-- THE SECOND FORM's CARD OF 'graphdblaw05.CodecValues'. -/
def codecValuesUptoCard : Claim7 := { stood := { row := codecValuesUptoRow, standIns := [], harness := (true, "123e800ab56b2e2c3eb2c9bf79dce0f0a3c6c28a797d5a898d2801eb93379f2c"), looks := false }, kinds := [], alts := [], laidByText := true, laidKinds := [.data], laidTests := true, laidLooks := .later }
def CodecValuesUptoCardSaid : Prop := Claim7.holds Tryd.pinned (.plain (OpenSpec.upto codecValuesSpec)) codecValuesUptoCard
end Rows
end Go.Proofs.YtehmdeponbhhjaaDoor
