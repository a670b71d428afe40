/-
  No cell of these rows narrows 'for every input' (looked for: loops, veiled, ifaces, maps, wideKeys, modest, calm, conditions, laid).
  DERIVED. THE GIVEN ROWS OF THIS SEAT. 6 by the template 'for every input the law returns true; each argument reads behind the call as it read before'; 0 by the template 'total and deterministic' (their statements: YtmmkcnohicfjeaaTotals.lean).
  GIVEN WITH THE SEED: the statements are not yours to turn. If you find one false, say at which input.
  Laid BY PROGRAM, IN A SANDBOX (cutbox-rows.mjs): the forced cells as the released guide's own fill.sh prints them over the translation 57b857d2634c09c7… (all of the seat's roots in one cut). By AI agents, Wed Nov 11 2026. No macro, syntax, notation, axiom, sorry.
-/
import Derived.Test.YtmmkcnohicfjeaaChecked
import GoSem.Claim
import GoSem.ClaimJoined
import GoSem.ClaimMapViews
import Derived.JoinedTies
import Derived.KernelRfl
namespace Go.Proofs.Ytmmkcnohicfjeaa
/- THE CELL 'sum', in the pinned program and in every row, IS THE sha256 OF THE DUMP (.gsa) THAT YtmmkcnohicfjeaaProg.lean LOADS. Nothing in Lean hashes anything: it is a label: what it is worth is what the hold of that sum in a sandbox is worth. -/
noncomputable def Try.pinned : Pinned := { name := "ytmmkcnohicfjeaa", sum := "57b857d2634c09c7d26a21efca2f23b6c7f5393a2b14128fb0584bf9beef7394", checked := Try.checked }
namespace Rows
def none {H : Type} : Left H := { results := [], args := [] }

/-- 'graphdblaw06.IntsetTells': WHATEVER THE INPUT: true; the input reads as it did. -/
def intsetTellsSpec : ChangeSpec := { name := "intsetTells", fn := fun _ => fun
  | [d1, d2, d3] => { results := [.lit (.bool true)], args := [d1, d2, d3] }
  | _ => none }
def intsetTellsRow : OpenClaim := { program := "ytmmkcnohicfjeaa", sum := "57b857d2634c09c7d26a21efca2f23b6c7f5393a2b14128fb0584bf9beef7394", func := "graphdb/graphdblaw06.IntsetTells", spec := "intsetTells", recurses := true, apart := false }
def IntsetTellsSaid : Prop := intsetTellsRow.holds Try.pinned (OpenSpec.ofChange intsetTellsSpec)

/-- ITS FALSE NEIGHBOUR: 'it returns false'. Refute it at one input. -/
def intsetTellsWrong : ChangeSpec := { name := "intsetTells", fn := fun _ => fun
  | [d1, d2, d3] => { results := [.lit (.bool false)], args := [d1, d2, d3] }
  | _ => none }
def IntsetTellsWrongFalsely : Prop := intsetTellsRow.holds Try.pinned (OpenSpec.ofChange intsetTellsWrong)

/-- 'graphdblaw06.IntsetSeeks': WHATEVER THE INPUT: true; the input reads as it did. -/
def intsetSeeksSpec : ChangeSpec := { name := "intsetSeeks", fn := fun _ => fun
  | [d1, d2, d3] => { results := [.lit (.bool true)], args := [d1, d2, d3] }
  | _ => none }
def intsetSeeksRow : OpenClaim := { program := "ytmmkcnohicfjeaa", sum := "57b857d2634c09c7d26a21efca2f23b6c7f5393a2b14128fb0584bf9beef7394", func := "graphdb/graphdblaw06.IntsetSeeks", spec := "intsetSeeks", recurses := true, apart := false }
def IntsetSeeksSaid : Prop := intsetSeeksRow.holds Try.pinned (OpenSpec.ofChange intsetSeeksSpec)

/-- ITS FALSE NEIGHBOUR: 'it returns false'. Refute it at one input. -/
def intsetSeeksWrong : ChangeSpec := { name := "intsetSeeks", fn := fun _ => fun
  | [d1, d2, d3] => { results := [.lit (.bool false)], args := [d1, d2, d3] }
  | _ => none }
def IntsetSeeksWrongFalsely : Prop := intsetSeeksRow.holds Try.pinned (OpenSpec.ofChange intsetSeeksWrong)

/-- 'graphdblaw06.IntsetMeets': WHATEVER THE INPUT: true; the input reads as it did. -/
def intsetMeetsSpec : ChangeSpec := { name := "intsetMeets", fn := fun _ => fun
  | [d] => { results := [.lit (.bool true)], args := [d] }
  | _ => none }
def intsetMeetsRow : OpenClaim := { program := "ytmmkcnohicfjeaa", sum := "57b857d2634c09c7d26a21efca2f23b6c7f5393a2b14128fb0584bf9beef7394", func := "graphdb/graphdblaw06.IntsetMeets", spec := "intsetMeets", recurses := true, apart := false }
def IntsetMeetsSaid : Prop := intsetMeetsRow.holds Try.pinned (OpenSpec.ofChange intsetMeetsSpec)

/-- ITS FALSE NEIGHBOUR: 'it returns false'. Refute it at one input. -/
def intsetMeetsWrong : ChangeSpec := { name := "intsetMeets", fn := fun _ => fun
  | [d] => { results := [.lit (.bool false)], args := [d] }
  | _ => none }
def IntsetMeetsWrongFalsely : Prop := intsetMeetsRow.holds Try.pinned (OpenSpec.ofChange intsetMeetsWrong)

/-- 'graphdblaw06.IntsetAlgebra': WHATEVER THE INPUT: true; the input reads as it did. -/
def intsetAlgebraSpec : ChangeSpec := { name := "intsetAlgebra", fn := fun _ => fun
  | [d1, d2, d3] => { results := [.lit (.bool true)], args := [d1, d2, d3] }
  | _ => none }
def intsetAlgebraRow : OpenClaim := { program := "ytmmkcnohicfjeaa", sum := "57b857d2634c09c7d26a21efca2f23b6c7f5393a2b14128fb0584bf9beef7394", func := "graphdb/graphdblaw06.IntsetAlgebra", spec := "intsetAlgebra", recurses := true, apart := false }
def IntsetAlgebraSaid : Prop := intsetAlgebraRow.holds Try.pinned (OpenSpec.ofChange intsetAlgebraSpec)

/-- ITS FALSE NEIGHBOUR: 'it returns false'. Refute it at one input. -/
def intsetAlgebraWrong : ChangeSpec := { name := "intsetAlgebra", fn := fun _ => fun
  | [d1, d2, d3] => { results := [.lit (.bool false)], args := [d1, d2, d3] }
  | _ => none }
def IntsetAlgebraWrongFalsely : Prop := intsetAlgebraRow.holds Try.pinned (OpenSpec.ofChange intsetAlgebraWrong)

/-- 'graphdblaw06.IntsetParts': WHATEVER THE INPUT: true; the input reads as it did. -/
def intsetPartsSpec : ChangeSpec := { name := "intsetParts", fn := fun _ => fun
  | [d1, d2] => { results := [.lit (.bool true)], args := [d1, d2] }
  | _ => none }
def intsetPartsRow : OpenClaim := { program := "ytmmkcnohicfjeaa", sum := "57b857d2634c09c7d26a21efca2f23b6c7f5393a2b14128fb0584bf9beef7394", func := "graphdb/graphdblaw06.IntsetParts", spec := "intsetParts", recurses := true, apart := false }
def IntsetPartsSaid : Prop := intsetPartsRow.holds Try.pinned (OpenSpec.ofChange intsetPartsSpec)

/-- ITS FALSE NEIGHBOUR: 'it returns false'. Refute it at one input. -/
def intsetPartsWrong : ChangeSpec := { name := "intsetParts", fn := fun _ => fun
  | [d1, d2] => { results := [.lit (.bool false)], args := [d1, d2] }
  | _ => none }
def IntsetPartsWrongFalsely : Prop := intsetPartsRow.holds Try.pinned (OpenSpec.ofChange intsetPartsWrong)

/-- 'graphdblaw06.IntsetSplits': WHATEVER THE INPUT: true; the input reads as it did. -/
def intsetSplitsSpec : ChangeSpec := { name := "intsetSplits", fn := fun _ => fun
  | [d1, d2, d3] => { results := [.lit (.bool true)], args := [d1, d2, d3] }
  | _ => none }
def intsetSplitsRow : OpenClaim := { program := "ytmmkcnohicfjeaa", sum := "57b857d2634c09c7d26a21efca2f23b6c7f5393a2b14128fb0584bf9beef7394", func := "graphdb/graphdblaw06.IntsetSplits", spec := "intsetSplits", recurses := true, apart := false }
def IntsetSplitsSaid : Prop := intsetSplitsRow.holds Try.pinned (OpenSpec.ofChange intsetSplitsSpec)

/-- ITS FALSE NEIGHBOUR: 'it returns false'. Refute it at one input. -/
def intsetSplitsWrong : ChangeSpec := { name := "intsetSplits", fn := fun _ => fun
  | [d1, d2, d3] => { results := [.lit (.bool false)], args := [d1, d2, d3] }
  | _ => none }
def IntsetSplitsWrongFalsely : Prop := intsetSplitsRow.holds Try.pinned (OpenSpec.ofChange intsetSplitsWrong)

/- THE SECOND FORM. 'bulk': how many values and letters a reading holds, each counted each time it is reached (what is shared counts as often as it is met; a slice's spare places count too). A statement '..UptoSaid' is the law's where the arguments, and the package variables that the reading takes, are together of bulk at most 1048576: NARROWER than '..Said'. Prove '..Said' where nothing that the law and all that it calls make is longer than what came in: it says more and counts as full. Else prove '..UptoSaid'. A law counts once. -/
mutual
def uptoBulk {H : Type} : DataW H → Nat
  | .lit (.string bytes) => bytes.length + 1
  | .lit _ => 1
  | .nil => 1
  | .ptr d => uptoBulk d + 1
  | .slice elems spare => uptoBulkAll elems + uptoBulkAll spare + 1
  | .agg parts => uptoBulkAll parts + 1
  | .iface _ d => uptoBulk d + 1
  | .map entries => uptoBulkEntries entries + 1
  | .held _ => 1
def uptoBulkAll {H : Type} : List (DataW H) → Nat
  | [] => 0
  | d :: r => uptoBulk d + uptoBulkAll r
def uptoBulkEntries {H : Type} : List (Lit × DataW H) → Nat
  | [] => 0
  | x :: r => uptoBulkEntry x + uptoBulkEntries r
def uptoBulkEntry {H : Type} : Lit × DataW H → Nat
  | (.string bytes, d) => bytes.length + uptoBulk d + 1
  | (_, d) => uptoBulk d + 1
 end
def uptoSmall : (H : Type) → List (DataW H) → Bool := fun _ ds => decide (uptoBulkAll ds ≤ 1048576)
def OpenSpec.upto (s : _root_.Go.ChangeSpec) : _root_.Go.OpenSpec := { _root_.Go.OpenSpec.ofChange s with cond := some uptoSmall }

/-- 'graphdblaw06.IntsetTells', WHERE WHAT IT READS IS OF BULK AT MOST 1048576: true; the input reads as it did. -/
def intsetTellsUptoRow : OpenClaim := { program := "ytmmkcnohicfjeaa", sum := "57b857d2634c09c7d26a21efca2f23b6c7f5393a2b14128fb0584bf9beef7394", func := "graphdb/graphdblaw06.IntsetTells", spec := "intsetTells", recurses := true, apart := false, narrowed := true }
def IntsetTellsUptoSaid : Prop := intsetTellsUptoRow.holds Try.pinned (OpenSpec.upto intsetTellsSpec)

/-- 'graphdblaw06.IntsetSeeks', WHERE WHAT IT READS IS OF BULK AT MOST 1048576: true; the input reads as it did. -/
def intsetSeeksUptoRow : OpenClaim := { program := "ytmmkcnohicfjeaa", sum := "57b857d2634c09c7d26a21efca2f23b6c7f5393a2b14128fb0584bf9beef7394", func := "graphdb/graphdblaw06.IntsetSeeks", spec := "intsetSeeks", recurses := true, apart := false, narrowed := true }
def IntsetSeeksUptoSaid : Prop := intsetSeeksUptoRow.holds Try.pinned (OpenSpec.upto intsetSeeksSpec)

/-- 'graphdblaw06.IntsetMeets', WHERE WHAT IT READS IS OF BULK AT MOST 1048576: true; the input reads as it did. -/
def intsetMeetsUptoRow : OpenClaim := { program := "ytmmkcnohicfjeaa", sum := "57b857d2634c09c7d26a21efca2f23b6c7f5393a2b14128fb0584bf9beef7394", func := "graphdb/graphdblaw06.IntsetMeets", spec := "intsetMeets", recurses := true, apart := false, narrowed := true }
def IntsetMeetsUptoSaid : Prop := intsetMeetsUptoRow.holds Try.pinned (OpenSpec.upto intsetMeetsSpec)

/-- 'graphdblaw06.IntsetAlgebra', WHERE WHAT IT READS IS OF BULK AT MOST 1048576: true; the input reads as it did. -/
def intsetAlgebraUptoRow : OpenClaim := { program := "ytmmkcnohicfjeaa", sum := "57b857d2634c09c7d26a21efca2f23b6c7f5393a2b14128fb0584bf9beef7394", func := "graphdb/graphdblaw06.IntsetAlgebra", spec := "intsetAlgebra", recurses := true, apart := false, narrowed := true }
def IntsetAlgebraUptoSaid : Prop := intsetAlgebraUptoRow.holds Try.pinned (OpenSpec.upto intsetAlgebraSpec)

/-- 'graphdblaw06.IntsetParts', WHERE WHAT IT READS IS OF BULK AT MOST 1048576: true; the input reads as it did. -/
def intsetPartsUptoRow : OpenClaim := { program := "ytmmkcnohicfjeaa", sum := "57b857d2634c09c7d26a21efca2f23b6c7f5393a2b14128fb0584bf9beef7394", func := "graphdb/graphdblaw06.IntsetParts", spec := "intsetParts", recurses := true, apart := false, narrowed := true }
def IntsetPartsUptoSaid : Prop := intsetPartsUptoRow.holds Try.pinned (OpenSpec.upto intsetPartsSpec)

/-- 'graphdblaw06.IntsetSplits', WHERE WHAT IT READS IS OF BULK AT MOST 1048576: true; the input reads as it did. -/
def intsetSplitsUptoRow : OpenClaim := { program := "ytmmkcnohicfjeaa", sum := "57b857d2634c09c7d26a21efca2f23b6c7f5393a2b14128fb0584bf9beef7394", func := "graphdb/graphdblaw06.IntsetSplits", spec := "intsetSplits", recurses := true, apart := false, narrowed := true }
def IntsetSplitsUptoSaid : Prop := intsetSplitsUptoRow.holds Try.pinned (OpenSpec.upto intsetSplitsSpec)

end Rows
end Go.Proofs.Ytmmkcnohicfjeaa
