/-
  What the walks of the statements of package codec have in common. No statement is walked here.
-/
import Derived.Test.YtolkdmhjomampaaDoorCdE
namespace Go.Proofs.YtolkdmhjomampaaDoor
open Go.RowKit
/-- A bool; nothing that was there has turned. -/
def RwC (w : World) (b : Bool) (e : Ending) (w' : World) : Prop := e = .returned (.bool b) ∧ Fuw w w'
/-- The worked examples hold. -/
def Alive5 : Prop := ∀ w, Good5 w → Calls Tryd.prog 9 #[] w (RwC w true)
end Go.Proofs.YtolkdmhjomampaaDoor
