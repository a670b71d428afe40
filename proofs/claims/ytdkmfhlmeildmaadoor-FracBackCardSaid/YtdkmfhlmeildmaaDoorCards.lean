/-
  DERIVED. GIVEN WITH THE SEED: THE CARDS: each row of YtdkmfhlmeildmaaDoorRows.lean that lists a variable, with what it lists TIED to the program's text (the seventh form; the later family's looks); each row that meets fmt, with fmt's text TOLD by the authors' own Lean function (tested against real Go, not proved from fmt's source: count such statements apart). THE CARD IS WHAT COUNTS. Prove the row's statement (the work); the ties are given (YtdkmfhlmeildmaaDoorTie.lean); close each card by the builder's one call (the guide's Derived/Test/ToyasCard.lean, 'card_holds'). Laid BY PROGRAM, IN A SANDBOX (cutbox-door.mjs). By AI agents, Wed Nov 11 2026. No macro, syntax, notation, axiom, sorry.
-/
import Derived.Test.YtdkmfhlmeildmaaDoorRows
import GoSem.ClaimSeven
namespace Go.Proofs.YtdkmfhlmeildmaaDoor
namespace Rows

/-- THE TIED CARD OF 'graphdblaw03.FracOfs'. -/
def fracOfsCard : Claim7 := { stood := { row := fracOfsRow, standIns := [], harness := (true, "b27dac044f821d231c7209be9aa2981031929ef27f2f3a604174236ca9de470c"), looks := true }, kinds := [], alts := [], laidByText := true, laidKinds := [.data, .data, .data, .sentinel, .sentinel], laidTests := true, laidLooks := .later }
def FracOfsCardSaid : Prop := Claim7.holds Tryd.pinned (.plain (OpenSpec.ofChange fracOfsSpec)) fracOfsCard

/-- THE TIED CARD OF 'graphdblaw03.FracComputes'. -/
def fracComputesCard : Claim7 := { stood := { row := fracComputesRow, standIns := [], harness := (true, "b27dac044f821d231c7209be9aa2981031929ef27f2f3a604174236ca9de470c"), looks := true }, kinds := [], alts := [], laidByText := true, laidKinds := [.data, .data, .data, .sentinel, .sentinel], laidTests := true, laidLooks := .later }
def FracComputesCardSaid : Prop := Claim7.holds Tryd.pinned (.plain (OpenSpec.ofChange fracComputesSpec)) fracComputesCard

/-- THE TIED CARD OF 'graphdblaw03.FracTexts'. -/
def fracTextsCard : Claim7 := { stood := { row := fracTextsRow, standIns := [], harness := (true, "b27dac044f821d231c7209be9aa2981031929ef27f2f3a604174236ca9de470c"), looks := true }, kinds := [], alts := [], laidByText := true, laidKinds := [.data, .data, .data, .sentinel, .sentinel], laidTests := true, laidLooks := .later }
def FracTextsCardSaid : Prop := Claim7.holds Tryd.pinned (.plain (OpenSpec.ofChange fracTextsSpec)) fracTextsCard

/-- THE TIED CARD OF 'graphdblaw03.FracField'. -/
def fracFieldCard : Claim7 := { stood := { row := fracFieldRow, standIns := [], harness := (true, "b27dac044f821d231c7209be9aa2981031929ef27f2f3a604174236ca9de470c"), looks := true }, kinds := [], alts := [], laidByText := true, laidKinds := [.data, .data, .data, .sentinel, .sentinel], laidTests := true, laidLooks := .later }
def FracFieldCardSaid : Prop := Claim7.holds Tryd.pinned (.plain (OpenSpec.ofChange fracFieldSpec)) fracFieldCard

/-- THE TIED CARD OF 'graphdblaw03.FracOrder'. -/
def fracOrderCard : Claim7 := { stood := { row := fracOrderRow, standIns := [], harness := (true, "b27dac044f821d231c7209be9aa2981031929ef27f2f3a604174236ca9de470c"), looks := true }, kinds := [], alts := [], laidByText := true, laidKinds := [.data, .data, .data, .sentinel, .sentinel], laidTests := true, laidLooks := .later }
def FracOrderCardSaid : Prop := Claim7.holds Tryd.pinned (.plain (OpenSpec.ofChange fracOrderSpec)) fracOrderCard

/-- THE TIED CARD OF 'graphdblaw03.FracBack'. -/
def fracBackCard : Claim7 := { stood := { row := fracBackRow, standIns := [], harness := (true, "b27dac044f821d231c7209be9aa2981031929ef27f2f3a604174236ca9de470c"), looks := true }, kinds := [], alts := [], laidByText := true, laidKinds := [.data, .data, .data, .sentinel, .sentinel], laidTests := true, laidLooks := .later }
def FracBackCardSaid : Prop := Claim7.holds Tryd.pinned (.plain (OpenSpec.ofChange fracBackSpec)) fracBackCard

/-- THE SECOND FORM's CARD OF 'graphdblaw03.FracOfs'. -/
def fracOfsUptoCard : Claim7 := { stood := { row := fracOfsUptoRow, standIns := [], harness := (true, "b27dac044f821d231c7209be9aa2981031929ef27f2f3a604174236ca9de470c"), looks := true }, kinds := [], alts := [], laidByText := true, laidKinds := [.data, .data, .data, .sentinel, .sentinel], laidTests := true, laidLooks := .later }
def FracOfsUptoCardSaid : Prop := Claim7.holds Tryd.pinned (.plain (OpenSpec.upto fracOfsSpec)) fracOfsUptoCard

/-- THE SECOND FORM's CARD OF 'graphdblaw03.FracComputes'. -/
def fracComputesUptoCard : Claim7 := { stood := { row := fracComputesUptoRow, standIns := [], harness := (true, "b27dac044f821d231c7209be9aa2981031929ef27f2f3a604174236ca9de470c"), looks := true }, kinds := [], alts := [], laidByText := true, laidKinds := [.data, .data, .data, .sentinel, .sentinel], laidTests := true, laidLooks := .later }
def FracComputesUptoCardSaid : Prop := Claim7.holds Tryd.pinned (.plain (OpenSpec.upto fracComputesSpec)) fracComputesUptoCard

/-- THE SECOND FORM's CARD OF 'graphdblaw03.FracTexts'. -/
def fracTextsUptoCard : Claim7 := { stood := { row := fracTextsUptoRow, standIns := [], harness := (true, "b27dac044f821d231c7209be9aa2981031929ef27f2f3a604174236ca9de470c"), looks := true }, kinds := [], alts := [], laidByText := true, laidKinds := [.data, .data, .data, .sentinel, .sentinel], laidTests := true, laidLooks := .later }
def FracTextsUptoCardSaid : Prop := Claim7.holds Tryd.pinned (.plain (OpenSpec.upto fracTextsSpec)) fracTextsUptoCard

/-- THE SECOND FORM's CARD OF 'graphdblaw03.FracField'. -/
def fracFieldUptoCard : Claim7 := { stood := { row := fracFieldUptoRow, standIns := [], harness := (true, "b27dac044f821d231c7209be9aa2981031929ef27f2f3a604174236ca9de470c"), looks := true }, kinds := [], alts := [], laidByText := true, laidKinds := [.data, .data, .data, .sentinel, .sentinel], laidTests := true, laidLooks := .later }
def FracFieldUptoCardSaid : Prop := Claim7.holds Tryd.pinned (.plain (OpenSpec.upto fracFieldSpec)) fracFieldUptoCard

/-- THE SECOND FORM's CARD OF 'graphdblaw03.FracOrder'. -/
def fracOrderUptoCard : Claim7 := { stood := { row := fracOrderUptoRow, standIns := [], harness := (true, "b27dac044f821d231c7209be9aa2981031929ef27f2f3a604174236ca9de470c"), looks := true }, kinds := [], alts := [], laidByText := true, laidKinds := [.data, .data, .data, .sentinel, .sentinel], laidTests := true, laidLooks := .later }
def FracOrderUptoCardSaid : Prop := Claim7.holds Tryd.pinned (.plain (OpenSpec.upto fracOrderSpec)) fracOrderUptoCard

/-- THE SECOND FORM's CARD OF 'graphdblaw03.FracBack'. -/
def fracBackUptoCard : Claim7 := { stood := { row := fracBackUptoRow, standIns := [], harness := (true, "b27dac044f821d231c7209be9aa2981031929ef27f2f3a604174236ca9de470c"), looks := true }, kinds := [], alts := [], laidByText := true, laidKinds := [.data, .data, .data, .sentinel, .sentinel], laidTests := true, laidLooks := .later }
def FracBackUptoCardSaid : Prop := Claim7.holds Tryd.pinned (.plain (OpenSpec.upto fracBackSpec)) fracBackUptoCard
end Rows
end Go.Proofs.YtdkmfhlmeildmaaDoor
