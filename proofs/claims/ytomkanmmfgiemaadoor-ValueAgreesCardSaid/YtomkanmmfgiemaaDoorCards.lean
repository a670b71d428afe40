/-
  DERIVED. GIVEN WITH THE SEED: THE CARDS: each row of YtomkanmmfgiemaaDoorRows.lean that lists a variable, with what it lists TIED to the program's text (the seventh form; the later family's looks); each row that meets fmt, with fmt's text TOLD by the authors' own Lean function (tested against real Go, not proved from fmt's source: count such statements apart). THE CARD IS WHAT COUNTS. Prove the row's statement (the work); the ties are given (YtomkanmmfgiemaaDoorTie.lean); close each card by the builder's one call (the guide's Derived/Test/ToyasCard.lean, 'card_holds'). Laid BY PROGRAM, IN A SANDBOX (cutbox-door.mjs). By AI agents, Wed Nov 11 2026. No macro, syntax, notation, axiom, sorry.
-/
import Derived.Test.YtomkanmmfgiemaaDoorRows
import GoSem.ClaimSeven
namespace Go.Proofs.YtomkanmmfgiemaaDoor
namespace Rows

/-- THE TIED CARD OF 'graphdblaw04.ValueOrder'. -/
def valueOrderCard : Claim7 := { stood := { row := valueOrderRow, standIns := [], harness := (true, "9f1620c10dfd6d14234eb9e610745537a7221cc3390b9065977497f933dd9a03"), looks := false }, kinds := [], alts := [], laidByText := true, laidKinds := [.data, .data, .data, .data, .pinned], laidTests := true, laidLooks := .later }
def ValueOrderCardSaid : Prop := Claim7.holds Tryd.pinned (.plain (OpenSpec.ofChange valueOrderSpec)) valueOrderCard

/-- THE TIED CARD OF 'graphdblaw04.ValueAgrees'. -/
def valueAgreesCard : Claim7 := { stood := { row := valueAgreesRow, standIns := [], harness := (true, "9f1620c10dfd6d14234eb9e610745537a7221cc3390b9065977497f933dd9a03"), looks := false }, kinds := [], alts := [], laidByText := true, laidKinds := [.data, .data, .data, .data, .pinned], laidTests := true, laidLooks := .later }
def ValueAgreesCardSaid : Prop := Claim7.holds Tryd.pinned (.plain (OpenSpec.ofChange valueAgreesSpec)) valueAgreesCard

/-- THE TIED CARD OF 'graphdblaw04.ValueLogic'. -/
def valueLogicCard : Claim7 := { stood := { row := valueLogicRow, standIns := [], harness := (true, "9f1620c10dfd6d14234eb9e610745537a7221cc3390b9065977497f933dd9a03"), looks := false }, kinds := [], alts := [], laidByText := true, laidKinds := [.data, .data, .data, .data, .pinned], laidTests := true, laidLooks := .later }
def ValueLogicCardSaid : Prop := Claim7.holds Tryd.pinned (.plain (OpenSpec.ofChange valueLogicSpec)) valueLogicCard

/-- THE SECOND FORM's CARD OF 'graphdblaw04.ValueOrder'. -/
def valueOrderUptoCard : Claim7 := { stood := { row := valueOrderUptoRow, standIns := [], harness := (true, "9f1620c10dfd6d14234eb9e610745537a7221cc3390b9065977497f933dd9a03"), looks := false }, kinds := [], alts := [], laidByText := true, laidKinds := [.data, .data, .data, .data, .pinned], laidTests := true, laidLooks := .later }
def ValueOrderUptoCardSaid : Prop := Claim7.holds Tryd.pinned (.plain (OpenSpec.upto valueOrderSpec)) valueOrderUptoCard

/-- THE SECOND FORM's CARD OF 'graphdblaw04.ValueAgrees'. -/
def valueAgreesUptoCard : Claim7 := { stood := { row := valueAgreesUptoRow, standIns := [], harness := (true, "9f1620c10dfd6d14234eb9e610745537a7221cc3390b9065977497f933dd9a03"), looks := false }, kinds := [], alts := [], laidByText := true, laidKinds := [.data, .data, .data, .data, .pinned], laidTests := true, laidLooks := .later }
def ValueAgreesUptoCardSaid : Prop := Claim7.holds Tryd.pinned (.plain (OpenSpec.upto valueAgreesSpec)) valueAgreesUptoCard

/-- THE SECOND FORM's CARD OF 'graphdblaw04.ValueLogic'. -/
def valueLogicUptoCard : Claim7 := { stood := { row := valueLogicUptoRow, standIns := [], harness := (true, "9f1620c10dfd6d14234eb9e610745537a7221cc3390b9065977497f933dd9a03"), looks := false }, kinds := [], alts := [], laidByText := true, laidKinds := [.data, .data, .data, .data, .pinned], laidTests := true, laidLooks := .later }
def ValueLogicUptoCardSaid : Prop := Claim7.holds Tryd.pinned (.plain (OpenSpec.upto valueLogicSpec)) valueLogicUptoCard
end Rows
end Go.Proofs.YtomkanmmfgiemaaDoor
