/-
  DERIVED. GIVEN WITH THE SEED: THE CARDS: each row of YtpamdlkagmlahaaGreatDoorRows.lean that lists a variable, with what it lists TIED to the program's text (the seventh form; the later family's looks); each row that meets fmt, with fmt's text TOLD by the authors' own Lean function (tested against real Go, not proved from fmt's source: count such statements apart). THE CARD IS WHAT COUNTS. Prove the row's statement (the work); the ties are given (YtpamdlkagmlahaaGreatDoorTie.lean); close each card by the builder's one call (the guide's Derived/Test/ToyasCard.lean, 'card_holds'). Laid BY PROGRAM, IN A SANDBOX (cutbox-door.mjs). By AI agents, Wed Nov 11 2026. No macro, syntax, notation, axiom, sorry.
-/
import Derived.Test.YtpamdlkagmlahaaGreatDoorRows
import GoSem.ClaimSeven
namespace Go.Proofs.YtpamdlkagmlahaaGreatDoor
namespace Rows

/-- THE TIED CARD OF 'graphdblaw08.ChangeApplies'. -/
def changeAppliesCard : Claim7 := { stood := { row := changeAppliesRow, standIns := [], harness := (true, "5d3e1299f2061a6069601752e963f5b1e078ac7de4de73b5d8284395ed682573"), looks := false }, kinds := [], alts := [], laidByText := true, laidKinds := [.data, .data, .data, .data, .pinned], laidTests := true, laidLooks := .later }
def ChangeAppliesCardSaid : Prop := Claim7.holds Tryz.pinned (.plain (OpenSpec.ofChange changeAppliesSpec)) changeAppliesCard

/-- THE TIED CARD OF 'graphdblaw08.ChangeInverse'. -/
def changeInverseCard : Claim7 := { stood := { row := changeInverseRow, standIns := [], harness := (true, "5d3e1299f2061a6069601752e963f5b1e078ac7de4de73b5d8284395ed682573"), looks := false }, kinds := [], alts := [], laidByText := true, laidKinds := [.data, .data, .data, .data, .pinned], laidTests := true, laidLooks := .later }
def ChangeInverseCardSaid : Prop := Claim7.holds Tryz.pinned (.plain (OpenSpec.ofChange changeInverseSpec)) changeInverseCard

/-- THE SECOND FORM's CARD OF 'graphdblaw08.ChangeApplies'. -/
def changeAppliesUptoCard : Claim7 := { stood := { row := changeAppliesUptoRow, standIns := [], harness := (true, "5d3e1299f2061a6069601752e963f5b1e078ac7de4de73b5d8284395ed682573"), looks := false }, kinds := [], alts := [], laidByText := true, laidKinds := [.data, .data, .data, .data, .pinned], laidTests := true, laidLooks := .later }
def ChangeAppliesUptoCardSaid : Prop := Claim7.holds Tryz.pinned (.plain (OpenSpec.upto changeAppliesSpec)) changeAppliesUptoCard

/-- THE SECOND FORM's CARD OF 'graphdblaw08.ChangeInverse'. -/
def changeInverseUptoCard : Claim7 := { stood := { row := changeInverseUptoRow, standIns := [], harness := (true, "5d3e1299f2061a6069601752e963f5b1e078ac7de4de73b5d8284395ed682573"), looks := false }, kinds := [], alts := [], laidByText := true, laidKinds := [.data, .data, .data, .data, .pinned], laidTests := true, laidLooks := .later }
def ChangeInverseUptoCardSaid : Prop := Claim7.holds Tryz.pinned (.plain (OpenSpec.upto changeInverseSpec)) changeInverseUptoCard
end Rows
end Go.Proofs.YtpamdlkagmlahaaGreatDoor
