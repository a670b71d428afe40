/-
  No cell of these rows narrows 'for every input' (looked for: loops, veiled, ifaces, maps, wideKeys, modest, calm, conditions, laid).
  DERIVED. THE GIVEN ROWS OF THIS SEAT. 3 by the template 'for every input the law returns true; each argument reads behind the call as it read before'; 0 by the template 'total and deterministic' (their statements: YtpjikijfendmhaaTotals.lean).
  GIVEN WITH THE SEED: the statements are not yours to turn. If you find one false, say at which input.
  Laid BY PROGRAM, IN A SANDBOX (cutbox-rows.mjs): the forced cells as the released guide's own fill.sh prints them over the translation bb6c2c073fc6f7b7… (all of the seat's roots in one cut). By AI agents, Wed Nov 11 2026. No macro, syntax, notation, axiom, sorry.
-/
import Derived.Test.YtpjikijfendmhaaChecked
import GoSem.Claim
import GoSem.ClaimJoined
import GoSem.ClaimMapViews
import Derived.JoinedTies
import Derived.KernelRfl
namespace Go.Proofs.Ytpjikijfendmhaa
/- THE CELL 'sum', in the pinned program and in every row, IS THE sha256 OF THE DUMP (.gsa) THAT YtpjikijfendmhaaProg.lean LOADS. Nothing in Lean hashes anything: it is a label: what it is worth is what the hold of that sum in a sandbox is worth. -/
noncomputable def Try.pinned : Pinned := { name := "ytpjikijfendmhaa", sum := "bb6c2c073fc6f7b767f2d2c6da5628adfd0258aa0ee8f6285567f5158036e190", checked := Try.checked }
namespace Rows
def none {H : Type} : Left H := { results := [], args := [] }

/-- 'graphdblaw13.OverlayRows': WHATEVER THE INPUT: true; the input reads as it did. -/
def overlayRowsSpec : ChangeSpec := { name := "overlayRows", fn := fun _ => fun
  | [d] => { results := [.lit (.bool true)], args := [d] }
  | _ => none }
def overlayRowsRow : OpenClaim := { program := "ytpjikijfendmhaa", sum := "bb6c2c073fc6f7b767f2d2c6da5628adfd0258aa0ee8f6285567f5158036e190", func := "graphdb/graphdblaw13.OverlayRows", spec := "overlayRows", inPlace := ["slices.overlaps[int]", "slices.overlaps[graphdb/api.Adj]"], unfollowed := true, recurses := true, apart := false }
def OverlayRowsSaid : Prop := overlayRowsRow.holds Try.pinned (OpenSpec.ofChange overlayRowsSpec)

/-- ITS FALSE NEIGHBOUR: 'it returns false'. Refute it at one input. -/
def overlayRowsWrong : ChangeSpec := { name := "overlayRows", fn := fun _ => fun
  | [d] => { results := [.lit (.bool false)], args := [d] }
  | _ => none }
def OverlayRowsWrongFalsely : Prop := overlayRowsRow.holds Try.pinned (OpenSpec.ofChange overlayRowsWrong)

/-- 'graphdblaw14.TrieTells': WHATEVER THE INPUT: true; the input reads as it did. -/
def trieTellsSpec : ChangeSpec := { name := "trieTells", fn := fun _ => fun
  | [d1, d2, d3] => { results := [.lit (.bool true)], args := [d1, d2, d3] }
  | _ => none }
def trieTellsRow : OpenClaim := { program := "ytpjikijfendmhaa", sum := "bb6c2c073fc6f7b767f2d2c6da5628adfd0258aa0ee8f6285567f5158036e190", func := "graphdb/graphdblaw14.TrieTells", spec := "trieTells", unfollowed := true, recurses := true, apart := false }
def TrieTellsSaid : Prop := trieTellsRow.holds Try.pinned (OpenSpec.ofChange trieTellsSpec)

/-- ITS FALSE NEIGHBOUR: 'it returns false'. Refute it at one input. -/
def trieTellsWrong : ChangeSpec := { name := "trieTells", fn := fun _ => fun
  | [d1, d2, d3] => { results := [.lit (.bool false)], args := [d1, d2, d3] }
  | _ => none }
def TrieTellsWrongFalsely : Prop := trieTellsRow.holds Try.pinned (OpenSpec.ofChange trieTellsWrong)

/-- 'graphdblaw14.TrieReads': WHATEVER THE INPUT: true; the input reads as it did. -/
def trieReadsSpec : ChangeSpec := { name := "trieReads", fn := fun _ => fun
  | [d1, d2] => { results := [.lit (.bool true)], args := [d1, d2] }
  | _ => none }
def trieReadsRow : OpenClaim := { program := "ytpjikijfendmhaa", sum := "bb6c2c073fc6f7b767f2d2c6da5628adfd0258aa0ee8f6285567f5158036e190", func := "graphdb/graphdblaw14.TrieReads", spec := "trieReads", unfollowed := true, recurses := true, apart := false }
def TrieReadsSaid : Prop := trieReadsRow.holds Try.pinned (OpenSpec.ofChange trieReadsSpec)

/-- ITS FALSE NEIGHBOUR: 'it returns false'. Refute it at one input. -/
def trieReadsWrong : ChangeSpec := { name := "trieReads", fn := fun _ => fun
  | [d1, d2] => { results := [.lit (.bool false)], args := [d1, d2] }
  | _ => none }
def TrieReadsWrongFalsely : Prop := trieReadsRow.holds Try.pinned (OpenSpec.ofChange trieReadsWrong)

/- THE SECOND FORM. 'bulk': how many values and letters a reading holds, each counted each time it is reached (what is shared counts as often as it is met; a slice's spare places count too). A statement '..UptoSaid' is the law's where the arguments, and the package variables that the reading takes, are together of bulk at most 1048576: NARROWER than '..Said'. Prove '..Said' where nothing that the law and all that it calls make is longer than what came in: it says more and counts as full. Else prove '..UptoSaid'. A law counts once. -/
mutual
def uptoBulk {H : Type} : DataW H → Nat
  | .lit (.string bytes) => bytes.length + 1
  | .lit _ => 1
  | .nil => 1
  | .ptr d => uptoBulk d + 1
  | .slice elems spare => uptoBulkAll elems + uptoBulkAll spare + 1
  | .agg parts => uptoBulkAll parts + 1
  | .iface _ d => uptoBulk d + 1
  | .map entries => uptoBulkEntries entries + 1
  | .held _ => 1
def uptoBulkAll {H : Type} : List (DataW H) → Nat
  | [] => 0
  | d :: r => uptoBulk d + uptoBulkAll r
def uptoBulkEntries {H : Type} : List (Lit × DataW H) → Nat
  | [] => 0
  | x :: r => uptoBulkEntry x + uptoBulkEntries r
def uptoBulkEntry {H : Type} : Lit × DataW H → Nat
  | (.string bytes, d) => bytes.length + uptoBulk d + 1
  | (_, d) => uptoBulk d + 1
 end
def uptoSmall : (H : Type) → List (DataW H) → Bool := fun _ ds => decide (uptoBulkAll ds ≤ 1048576)
def OpenSpec.upto (s : _root_.Go.ChangeSpec) : _root_.Go.OpenSpec := { _root_.Go.OpenSpec.ofChange s with cond := some uptoSmall }

/-- 'graphdblaw13.OverlayRows', WHERE WHAT IT READS IS OF BULK AT MOST 1048576: true; the input reads as it did. -/
def overlayRowsUptoRow : OpenClaim := { program := "ytpjikijfendmhaa", sum := "bb6c2c073fc6f7b767f2d2c6da5628adfd0258aa0ee8f6285567f5158036e190", func := "graphdb/graphdblaw13.OverlayRows", spec := "overlayRows", inPlace := ["slices.overlaps[int]", "slices.overlaps[graphdb/api.Adj]"], unfollowed := true, recurses := true, apart := false, narrowed := true }
def OverlayRowsUptoSaid : Prop := overlayRowsUptoRow.holds Try.pinned (OpenSpec.upto overlayRowsSpec)

/-- 'graphdblaw14.TrieTells', WHERE WHAT IT READS IS OF BULK AT MOST 1048576: true; the input reads as it did. -/
def trieTellsUptoRow : OpenClaim := { program := "ytpjikijfendmhaa", sum := "bb6c2c073fc6f7b767f2d2c6da5628adfd0258aa0ee8f6285567f5158036e190", func := "graphdb/graphdblaw14.TrieTells", spec := "trieTells", unfollowed := true, recurses := true, apart := false, narrowed := true }
def TrieTellsUptoSaid : Prop := trieTellsUptoRow.holds Try.pinned (OpenSpec.upto trieTellsSpec)

/-- 'graphdblaw14.TrieReads', WHERE WHAT IT READS IS OF BULK AT MOST 1048576: true; the input reads as it did. -/
def trieReadsUptoRow : OpenClaim := { program := "ytpjikijfendmhaa", sum := "bb6c2c073fc6f7b767f2d2c6da5628adfd0258aa0ee8f6285567f5158036e190", func := "graphdb/graphdblaw14.TrieReads", spec := "trieReads", unfollowed := true, recurses := true, apart := false, narrowed := true }
def TrieReadsUptoSaid : Prop := trieReadsUptoRow.holds Try.pinned (OpenSpec.upto trieReadsSpec)

end Rows
end Go.Proofs.Ytpjikijfendmhaa
