/-
  NARROWER THAN 'FOR EVERY INPUT', by the rows' own cells (each row's printed sentence says how): GraphLooks: loops · GraphSteps: loops · GraphMirror: loops.
  DERIVED. THE GIVEN ROWS OF THIS SEAT. 4 by the template 'for every input the law returns true; each argument reads behind the call as it read before'; 0 by the template 'total and deterministic' (their statements: YtcadeijloobbmaaTotals.lean).
  GIVEN WITH THE SEED: the statements are not yours to turn. If you find one false, say at which input.
  Laid BY PROGRAM, IN A SANDBOX (cutbox-rows.mjs): the forced cells as the released guide's own fill.sh prints them over the translation d9e7e9d3ab71d6d5… (all of the seat's roots in one cut). By AI agents, Wed Nov 11 2026. No macro, syntax, notation, axiom, sorry.
-/
import Derived.Test.YtcadeijloobbmaaChecked
import GoSem.Claim
import GoSem.ClaimJoined
import GoSem.ClaimMapViews
import Derived.JoinedTies
import Derived.KernelRfl
namespace Go.Proofs.Ytcadeijloobbmaa
/- THE CELL 'sum', in the pinned program and in every row, IS THE sha256 OF THE DUMP (.gsa) THAT YtcadeijloobbmaaProg.lean LOADS. Nothing in Lean hashes anything: it is a label: what it is worth is what the hold of that sum in a sandbox is worth. -/
noncomputable def Try.pinned : Pinned := { name := "ytcadeijloobbmaa", sum := "d9e7e9d3ab71d6d5b30b885628b42c95b64fad5d655d44af519b694ed226a6d6", checked := Try.checked }
namespace Rows
def none {H : Type} : Left H := { results := [], args := [] }

/-- 'graphdblaw07.GraphLooks': WHATEVER THE INPUT: true; the input reads as it did. -/
def graphLooksSpec : ChangeSpec := { name := "graphLooks", fn := fun _ => fun
  | [d1, d2, d3] => { results := [.lit (.bool true)], args := [d1, d2, d3] }
  | _ => none }
def graphLooksRow : OpenClaim := { program := "ytcadeijloobbmaa", sum := "d9e7e9d3ab71d6d5b30b885628b42c95b64fad5d655d44af519b694ed226a6d6", func := "graphdb/graphdblaw07.GraphLooks", spec := "graphLooks", unfollowed := true, recurses := true, loops := true, apart := false }
def GraphLooksSaid : Prop := graphLooksRow.holds Try.pinned (OpenSpec.ofChange graphLooksSpec)

/-- ITS FALSE NEIGHBOUR: 'it returns false'. Refute it at one input. -/
def graphLooksWrong : ChangeSpec := { name := "graphLooks", fn := fun _ => fun
  | [d1, d2, d3] => { results := [.lit (.bool false)], args := [d1, d2, d3] }
  | _ => none }
def GraphLooksWrongFalsely : Prop := graphLooksRow.holds Try.pinned (OpenSpec.ofChange graphLooksWrong)

/-- 'graphdblaw07.GraphSteps': WHATEVER THE INPUT: true; the input reads as it did. -/
def graphStepsSpec : ChangeSpec := { name := "graphSteps", fn := fun _ => fun
  | [d1, d2, d3] => { results := [.lit (.bool true)], args := [d1, d2, d3] }
  | _ => none }
def graphStepsRow : OpenClaim := { program := "ytcadeijloobbmaa", sum := "d9e7e9d3ab71d6d5b30b885628b42c95b64fad5d655d44af519b694ed226a6d6", func := "graphdb/graphdblaw07.GraphSteps", spec := "graphSteps", unfollowed := true, recurses := true, loops := true, apart := false }
def GraphStepsSaid : Prop := graphStepsRow.holds Try.pinned (OpenSpec.ofChange graphStepsSpec)

/-- ITS FALSE NEIGHBOUR: 'it returns false'. Refute it at one input. -/
def graphStepsWrong : ChangeSpec := { name := "graphSteps", fn := fun _ => fun
  | [d1, d2, d3] => { results := [.lit (.bool false)], args := [d1, d2, d3] }
  | _ => none }
def GraphStepsWrongFalsely : Prop := graphStepsRow.holds Try.pinned (OpenSpec.ofChange graphStepsWrong)

/-- 'graphdblaw07.GraphMirror': WHATEVER THE INPUT: true; the input reads as it did. -/
def graphMirrorSpec : ChangeSpec := { name := "graphMirror", fn := fun _ => fun
  | [d1, d2] => { results := [.lit (.bool true)], args := [d1, d2] }
  | _ => none }
def graphMirrorRow : OpenClaim := { program := "ytcadeijloobbmaa", sum := "d9e7e9d3ab71d6d5b30b885628b42c95b64fad5d655d44af519b694ed226a6d6", func := "graphdb/graphdblaw07.GraphMirror", spec := "graphMirror", unfollowed := true, recurses := true, loops := true, apart := false }
def GraphMirrorSaid : Prop := graphMirrorRow.holds Try.pinned (OpenSpec.ofChange graphMirrorSpec)

/-- ITS FALSE NEIGHBOUR: 'it returns false'. Refute it at one input. -/
def graphMirrorWrong : ChangeSpec := { name := "graphMirror", fn := fun _ => fun
  | [d1, d2] => { results := [.lit (.bool false)], args := [d1, d2] }
  | _ => none }
def GraphMirrorWrongFalsely : Prop := graphMirrorRow.holds Try.pinned (OpenSpec.ofChange graphMirrorWrong)

/-- 'graphdblaw07.GraphNames': WHATEVER THE INPUT: true; the input reads as it did. -/
def graphNamesSpec : ChangeSpec := { name := "graphNames", fn := fun _ => fun
  | [d] => { results := [.lit (.bool true)], args := [d] }
  | _ => none }
def graphNamesRow : OpenClaim := { program := "ytcadeijloobbmaa", sum := "d9e7e9d3ab71d6d5b30b885628b42c95b64fad5d655d44af519b694ed226a6d6", func := "graphdb/graphdblaw07.GraphNames", spec := "graphNames", inPlace := ["math/bits.Add64"], unfollowed := true, recurses := true, apart := false }
def GraphNamesSaid : Prop := graphNamesRow.holds Try.pinned (OpenSpec.ofChange graphNamesSpec)

/-- ITS FALSE NEIGHBOUR: 'it returns false'. Refute it at one input. -/
def graphNamesWrong : ChangeSpec := { name := "graphNames", fn := fun _ => fun
  | [d] => { results := [.lit (.bool false)], args := [d] }
  | _ => none }
def GraphNamesWrongFalsely : Prop := graphNamesRow.holds Try.pinned (OpenSpec.ofChange graphNamesWrong)

/- THE SECOND FORM. 'bulk': how many values and letters a reading holds, each counted each time it is reached (what is shared counts as often as it is met; a slice's spare places count too). A statement '..UptoSaid' is the law's where the arguments, and the package variables that the reading takes, are together of bulk at most 1048576: NARROWER than '..Said'. Prove '..Said' where nothing that the law and all that it calls make is longer than what came in: it says more and counts as full. Else prove '..UptoSaid'. A law counts once. -/
mutual
def uptoBulk {H : Type} : DataW H → Nat
  | .lit (.string bytes) => bytes.length + 1
  | .lit _ => 1
  | .nil => 1
  | .ptr d => uptoBulk d + 1
  | .slice elems spare => uptoBulkAll elems + uptoBulkAll spare + 1
  | .agg parts => uptoBulkAll parts + 1
  | .iface _ d => uptoBulk d + 1
  | .map entries => uptoBulkEntries entries + 1
  | .held _ => 1
def uptoBulkAll {H : Type} : List (DataW H) → Nat
  | [] => 0
  | d :: r => uptoBulk d + uptoBulkAll r
def uptoBulkEntries {H : Type} : List (Lit × DataW H) → Nat
  | [] => 0
  | x :: r => uptoBulkEntry x + uptoBulkEntries r
def uptoBulkEntry {H : Type} : Lit × DataW H → Nat
  | (.string bytes, d) => bytes.length + uptoBulk d + 1
  | (_, d) => uptoBulk d + 1
 end
def uptoSmall : (H : Type) → List (DataW H) → Bool := fun _ ds => decide (uptoBulkAll ds ≤ 1048576)
def OpenSpec.upto (s : _root_.Go.ChangeSpec) : _root_.Go.OpenSpec := { _root_.Go.OpenSpec.ofChange s with cond := some uptoSmall }

/-- 'graphdblaw07.GraphLooks', WHERE WHAT IT READS IS OF BULK AT MOST 1048576: true; the input reads as it did. -/
def graphLooksUptoRow : OpenClaim := { program := "ytcadeijloobbmaa", sum := "d9e7e9d3ab71d6d5b30b885628b42c95b64fad5d655d44af519b694ed226a6d6", func := "graphdb/graphdblaw07.GraphLooks", spec := "graphLooks", unfollowed := true, recurses := true, loops := true, apart := false, narrowed := true }
def GraphLooksUptoSaid : Prop := graphLooksUptoRow.holds Try.pinned (OpenSpec.upto graphLooksSpec)

/-- 'graphdblaw07.GraphSteps', WHERE WHAT IT READS IS OF BULK AT MOST 1048576: true; the input reads as it did. -/
def graphStepsUptoRow : OpenClaim := { program := "ytcadeijloobbmaa", sum := "d9e7e9d3ab71d6d5b30b885628b42c95b64fad5d655d44af519b694ed226a6d6", func := "graphdb/graphdblaw07.GraphSteps", spec := "graphSteps", unfollowed := true, recurses := true, loops := true, apart := false, narrowed := true }
def GraphStepsUptoSaid : Prop := graphStepsUptoRow.holds Try.pinned (OpenSpec.upto graphStepsSpec)

/-- 'graphdblaw07.GraphMirror', WHERE WHAT IT READS IS OF BULK AT MOST 1048576: true; the input reads as it did. -/
def graphMirrorUptoRow : OpenClaim := { program := "ytcadeijloobbmaa", sum := "d9e7e9d3ab71d6d5b30b885628b42c95b64fad5d655d44af519b694ed226a6d6", func := "graphdb/graphdblaw07.GraphMirror", spec := "graphMirror", unfollowed := true, recurses := true, loops := true, apart := false, narrowed := true }
def GraphMirrorUptoSaid : Prop := graphMirrorUptoRow.holds Try.pinned (OpenSpec.upto graphMirrorSpec)

/-- 'graphdblaw07.GraphNames', WHERE WHAT IT READS IS OF BULK AT MOST 1048576: true; the input reads as it did. -/
def graphNamesUptoRow : OpenClaim := { program := "ytcadeijloobbmaa", sum := "d9e7e9d3ab71d6d5b30b885628b42c95b64fad5d655d44af519b694ed226a6d6", func := "graphdb/graphdblaw07.GraphNames", spec := "graphNames", inPlace := ["math/bits.Add64"], unfollowed := true, recurses := true, apart := false, narrowed := true }
def GraphNamesUptoSaid : Prop := graphNamesUptoRow.holds Try.pinned (OpenSpec.upto graphNamesSpec)

end Rows
end Go.Proofs.Ytcadeijloobbmaa
