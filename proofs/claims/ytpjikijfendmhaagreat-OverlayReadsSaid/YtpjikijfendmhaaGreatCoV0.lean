
/-
  A column that is small enough to be looked at; its entries. No program's function is walked here.
-/
import Derived.Test.YtpjikijfendmhaaGreatCoB
namespace Go.Proofs.YtpjikijfendmhaaGreat
open Go.RowKit

/-- A column that is small enough to be looked at. -/
structure Sm (c : Cm) : Prop where
  n : c.ns.length ≤ 1000000
  t : c.ts.length ≤ 1000000
  e : c.es.length ≤ 1000000
theorem ent_i64 {c : Cm} {w : World} {A : CA} (hC : CIn w c A) (hb : bndB c = true) : ∀ x ∈ entL c, I64 x.1 ∧ I64 x.2.1 ∧ I64 x.2.2 := fun _ hx =>
  ⟨slI_i64 hC.n _ (ent_fst hx), slI_i64 hC.t _ (ent_to hb hx), slI_i64 hC.e _ (ent_ed hb hx)⟩
/-- All entries of a column, if it is valid. -/
def entC (c : Cm) : List Aj := if valC c = true then entL c else []
def rowC (c : Cm) (n : Int) : List Aj := if valC c = true then rowAt c n else []
end Go.Proofs.YtpjikijfendmhaaGreat
