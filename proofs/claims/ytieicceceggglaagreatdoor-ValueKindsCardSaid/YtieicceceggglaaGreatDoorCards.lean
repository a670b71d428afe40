/-
  DERIVED. GIVEN WITH THE SEED: THE CARDS: each row of YtieicceceggglaaGreatDoorRows.lean that lists a variable, with what it lists TIED to the program's text (the seventh form; the later family's looks); each row that meets fmt, with fmt's text TOLD by the authors' own Lean function (tested against real Go, not proved from fmt's source: count such statements apart). THE CARD IS WHAT COUNTS. Prove the row's statement (the work); the ties are given (YtieicceceggglaaGreatDoorTie.lean); close each card by the builder's one call (the guide's Derived/Test/ToyasCard.lean, 'card_holds'). Laid BY PROGRAM, IN A SANDBOX (cutbox-door.mjs). By AI agents, Wed Nov 11 2026. No macro, syntax, notation, axiom, sorry.
-/
import Derived.Test.YtieicceceggglaaGreatDoorRows
import GoSem.ClaimSeven
namespace Go.Proofs.YtieicceceggglaaGreatDoor
namespace Rows

/-- THE TIED CARD OF 'graphdblaw04.ValueKinds'. -/
def valueKindsCard : Claim7 := { stood := { row := valueKindsRow, standIns := [], harness := (true, "da09942aa633772da7c947917abb72a7d275e06844c8821e76c4165e1a476df5"), looks := false }, kinds := [], alts := [], laidByText := true, laidKinds := [.data, .data, .data, .data, .pinned], laidTests := true, laidLooks := .later }
def ValueKindsCardSaid : Prop := Claim7.holds Tryz.pinned (.plain (OpenSpec.ofChange valueKindsSpec)) valueKindsCard

/-- THE TIED CARD OF 'graphdblaw04.ValueRows'. -/
def valueRowsCard : Claim7 := { stood := { row := valueRowsRow, standIns := [], harness := (true, "da09942aa633772da7c947917abb72a7d275e06844c8821e76c4165e1a476df5"), looks := false }, kinds := [], alts := [], laidByText := true, laidKinds := [.data, .data, .data, .data, .pinned], laidTests := true, laidLooks := .later }
def ValueRowsCardSaid : Prop := Claim7.holds Tryz.pinned (.plain (OpenSpec.ofChange valueRowsSpec)) valueRowsCard

/-- THE TIED CARD OF 'graphdblaw04.ValueBuilds'. -/
def valueBuildsCard : Claim7 := { stood := { row := valueBuildsRow, standIns := [], harness := (true, "da09942aa633772da7c947917abb72a7d275e06844c8821e76c4165e1a476df5"), looks := false }, kinds := [], alts := [], laidByText := true, laidKinds := [.data, .data, .data, .data, .pinned], laidTests := true, laidLooks := .later }
def ValueBuildsCardSaid : Prop := Claim7.holds Tryz.pinned (.plain (OpenSpec.ofChange valueBuildsSpec)) valueBuildsCard

/-- THE SECOND FORM's CARD OF 'graphdblaw04.ValueKinds'. -/
def valueKindsUptoCard : Claim7 := { stood := { row := valueKindsUptoRow, standIns := [], harness := (true, "da09942aa633772da7c947917abb72a7d275e06844c8821e76c4165e1a476df5"), looks := false }, kinds := [], alts := [], laidByText := true, laidKinds := [.data, .data, .data, .data, .pinned], laidTests := true, laidLooks := .later }
def ValueKindsUptoCardSaid : Prop := Claim7.holds Tryz.pinned (.plain (OpenSpec.upto valueKindsSpec)) valueKindsUptoCard

/-- THE SECOND FORM's CARD OF 'graphdblaw04.ValueRows'. -/
def valueRowsUptoCard : Claim7 := { stood := { row := valueRowsUptoRow, standIns := [], harness := (true, "da09942aa633772da7c947917abb72a7d275e06844c8821e76c4165e1a476df5"), looks := false }, kinds := [], alts := [], laidByText := true, laidKinds := [.data, .data, .data, .data, .pinned], laidTests := true, laidLooks := .later }
def ValueRowsUptoCardSaid : Prop := Claim7.holds Tryz.pinned (.plain (OpenSpec.upto valueRowsSpec)) valueRowsUptoCard

/-- THE SECOND FORM's CARD OF 'graphdblaw04.ValueBuilds'. -/
def valueBuildsUptoCard : Claim7 := { stood := { row := valueBuildsUptoRow, standIns := [], harness := (true, "da09942aa633772da7c947917abb72a7d275e06844c8821e76c4165e1a476df5"), looks := false }, kinds := [], alts := [], laidByText := true, laidKinds := [.data, .data, .data, .data, .pinned], laidTests := true, laidLooks := .later }
def ValueBuildsUptoCardSaid : Prop := Claim7.holds Tryz.pinned (.plain (OpenSpec.upto valueBuildsSpec)) valueBuildsUptoCard
end Rows
end Go.Proofs.YtieicceceggglaaGreatDoor
