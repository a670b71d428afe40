/-
  DERIVED. GIVEN WITH THE SEED: THE CARDS: each row of YtadnaakbhgacgaaDoorRows.lean that lists a variable, with what it lists TIED to the program's text (the seventh form; the later family's looks); each row that meets fmt, with fmt's text TOLD by the authors' own Lean function (tested against real Go, not proved from fmt's source: count such statements apart). THE CARD IS WHAT COUNTS. Prove the row's statement (the work); the ties are given (YtadnaakbhgacgaaDoorTie.lean); close each card by the builder's one call (the guide's Derived/Test/ToyasCard.lean, 'card_holds'). Laid BY PROGRAM, IN A SANDBOX (cutbox-door.mjs). By AI agents, Wed Nov 11 2026. No macro, syntax, notation, axiom, sorry.
-/
import Derived.Test.YtadnaakbhgacgaaDoorRows
import GoSem.ClaimSeven
namespace Go.Proofs.YtadnaakbhgacgaaDoor
namespace Rows

/-- THE TIED CARD OF 'graphdblaw09.SchemaChecks'. -/
def schemaChecksCard : Claim7 := { stood := { row := schemaChecksRow, standIns := [], harness := (true, "7dbb03cabd8369913a027d1cc9bcd3ef02d72b2e77b27e1cef1b411b6e00b2d0"), looks := true }, kinds := [], alts := [], laidByText := true, laidKinds := [.data, .data, .data, .sentinel, .sentinel], laidTests := true, laidLooks := .later }
def SchemaChecksCardSaid : Prop := Claim7.holds Tryd.pinned (.plain (OpenSpec.ofChange schemaChecksSpec)) schemaChecksCard

/-- THE TIED CARD OF 'graphdblaw09.SchemaAdds'. -/
def schemaAddsCard : Claim7 := { stood := { row := schemaAddsRow, standIns := [], harness := (true, "7dbb03cabd8369913a027d1cc9bcd3ef02d72b2e77b27e1cef1b411b6e00b2d0"), looks := true }, kinds := [], alts := [], laidByText := true, laidKinds := [.data, .data, .data, .sentinel, .sentinel], laidTests := true, laidLooks := .later }
def SchemaAddsCardSaid : Prop := Claim7.holds Tryd.pinned (.plain (OpenSpec.ofChange schemaAddsSpec)) schemaAddsCard

/-- THE TIED CARD OF 'graphdblaw09.SchemaParses'. -/
def schemaParsesCard : Claim7 := { stood := { row := schemaParsesRow, standIns := [], harness := (true, "7dbb03cabd8369913a027d1cc9bcd3ef02d72b2e77b27e1cef1b411b6e00b2d0"), looks := true }, kinds := [], alts := [], laidByText := true, laidKinds := [.data, .data, .data, .sentinel, .sentinel], laidTests := true, laidLooks := .later }
def SchemaParsesCardSaid : Prop := Claim7.holds Tryd.pinned (.plain (OpenSpec.ofChange schemaParsesSpec)) schemaParsesCard

/-- THE TIED CARD OF 'graphdblaw09.SchemaUndo'. -/
def schemaUndoCard : Claim7 := { stood := { row := schemaUndoRow, standIns := [], harness := (true, "7dbb03cabd8369913a027d1cc9bcd3ef02d72b2e77b27e1cef1b411b6e00b2d0"), looks := true }, kinds := [], alts := [], laidByText := true, laidKinds := [.data, .data, .data, .sentinel, .sentinel], laidTests := true, laidLooks := .later }
def SchemaUndoCardSaid : Prop := Claim7.holds Tryd.pinned (.plain (OpenSpec.ofChange schemaUndoSpec)) schemaUndoCard

/-- THE TIED CARD OF 'graphdblaw09.SchemaBack'. -/
def schemaBackCard : Claim7 := { stood := { row := schemaBackRow, standIns := [], harness := (true, "7dbb03cabd8369913a027d1cc9bcd3ef02d72b2e77b27e1cef1b411b6e00b2d0"), looks := true }, kinds := [], alts := [], laidByText := true, laidKinds := [.data, .data, .data, .sentinel, .sentinel], laidTests := true, laidLooks := .later }
def SchemaBackCardSaid : Prop := Claim7.holds Tryd.pinned (.plain (OpenSpec.ofChange schemaBackSpec)) schemaBackCard

/-- THE SECOND FORM's CARD OF 'graphdblaw09.SchemaChecks'. -/
def schemaChecksUptoCard : Claim7 := { stood := { row := schemaChecksUptoRow, standIns := [], harness := (true, "7dbb03cabd8369913a027d1cc9bcd3ef02d72b2e77b27e1cef1b411b6e00b2d0"), looks := true }, kinds := [], alts := [], laidByText := true, laidKinds := [.data, .data, .data, .sentinel, .sentinel], laidTests := true, laidLooks := .later }
def SchemaChecksUptoCardSaid : Prop := Claim7.holds Tryd.pinned (.plain (OpenSpec.upto schemaChecksSpec)) schemaChecksUptoCard

/-- THE SECOND FORM's CARD OF 'graphdblaw09.SchemaAdds'. -/
def schemaAddsUptoCard : Claim7 := { stood := { row := schemaAddsUptoRow, standIns := [], harness := (true, "7dbb03cabd8369913a027d1cc9bcd3ef02d72b2e77b27e1cef1b411b6e00b2d0"), looks := true }, kinds := [], alts := [], laidByText := true, laidKinds := [.data, .data, .data, .sentinel, .sentinel], laidTests := true, laidLooks := .later }
def SchemaAddsUptoCardSaid : Prop := Claim7.holds Tryd.pinned (.plain (OpenSpec.upto schemaAddsSpec)) schemaAddsUptoCard

/-- THE SECOND FORM's CARD OF 'graphdblaw09.SchemaParses'. -/
def schemaParsesUptoCard : Claim7 := { stood := { row := schemaParsesUptoRow, standIns := [], harness := (true, "7dbb03cabd8369913a027d1cc9bcd3ef02d72b2e77b27e1cef1b411b6e00b2d0"), looks := true }, kinds := [], alts := [], laidByText := true, laidKinds := [.data, .data, .data, .sentinel, .sentinel], laidTests := true, laidLooks := .later }
def SchemaParsesUptoCardSaid : Prop := Claim7.holds Tryd.pinned (.plain (OpenSpec.upto schemaParsesSpec)) schemaParsesUptoCard

/-- THE SECOND FORM's CARD OF 'graphdblaw09.SchemaUndo'. -/
def schemaUndoUptoCard : Claim7 := { stood := { row := schemaUndoUptoRow, standIns := [], harness := (true, "7dbb03cabd8369913a027d1cc9bcd3ef02d72b2e77b27e1cef1b411b6e00b2d0"), looks := true }, kinds := [], alts := [], laidByText := true, laidKinds := [.data, .data, .data, .sentinel, .sentinel], laidTests := true, laidLooks := .later }
def SchemaUndoUptoCardSaid : Prop := Claim7.holds Tryd.pinned (.plain (OpenSpec.upto schemaUndoSpec)) schemaUndoUptoCard

/-- THE SECOND FORM's CARD OF 'graphdblaw09.SchemaBack'. -/
def schemaBackUptoCard : Claim7 := { stood := { row := schemaBackUptoRow, standIns := [], harness := (true, "7dbb03cabd8369913a027d1cc9bcd3ef02d72b2e77b27e1cef1b411b6e00b2d0"), looks := true }, kinds := [], alts := [], laidByText := true, laidKinds := [.data, .data, .data, .sentinel, .sentinel], laidTests := true, laidLooks := .later }
def SchemaBackUptoCardSaid : Prop := Claim7.holds Tryd.pinned (.plain (OpenSpec.upto schemaBackSpec)) schemaBackUptoCard
end Rows
end Go.Proofs.YtadnaakbhgacgaaDoor
