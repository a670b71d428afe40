/-
  The reference of package schema: the only rule that can have some words as its text (guess). Nothing that was there turns.
-/
import Derived.Test.YtadnaakbhgacgaaDoorRcH
import Derived.Test.YtadnaakbhgacgaaDoorRcK
import Derived.Test.YtadnaakbhgacgaaDoorScN
namespace Go.Proofs.YtadnaakbhgacgaaDoor
open Go.RowKit

/-- The number that is read of a word. -/
def numG : List UInt8 → Int → Int
  | [], n => n
  | c :: r, n => if n ≤ 4000 then numG r (wrap64 (wrap64 (wrap64 (n * 10) + wrap64 (c.toNat : Int)) - 48)) else n
theorem numG_step (x : ByteArray) (i : Nat) (h : i < x.size) (n : Int) (hn : n ≤ 4000) : numG (x.data.toList.drop i) n = numG (x.data.toList.drop (i + 1)) (wrap64 (wrap64 (wrap64 (n * 10) + wrap64 (x[i].toNat : Int)) - 48)) := by
  rw [nbyte x i h]
  conv => lhs; unfold numG
  rw [if_pos hn]
theorem numG_big (l : List UInt8) (n : Int) (hn : ¬ n ≤ 4000) : numG l n = n := by
  cases l with
  | nil => rfl
  | cons c r => unfold numG; rw [if_neg hn]
theorem numG_end (x : ByteArray) (i : Nat) (h : x.size ≤ i) (n : Int) : numG (x.data.toList.drop i) n = n := by
  rw [List.drop_of_length_le (by rw [Array.length_toList]; exact h)]; rfl
theorem w64_in (n : Int) : I64 (wrap64 n) := by unfold wrap64 I64; omega
theorem far6 {w : World} {B g i : Nat} {v : Value} (h : w.cell? ⟨g, i, none⟩ = some v) (hp : B ≠ g) (b0 b1 b2 b3 b4 b5 : Value) : ((((((w.setCell ⟨B, 0, none⟩ b0).setCell ⟨B, 1, none⟩ b1).setCell ⟨B, 2, none⟩ b2).setCell ⟨B, 3, none⟩ b3).setCell ⟨B, 4, none⟩ b4).setCell ⟨B, 5, none⟩ b5).cell? ⟨g, i, none⟩ = some v := by
  rw [World.cell?_setCell_far _ ⟨B, 5, none⟩ ⟨g, i, none⟩ _ hp, World.cell?_setCell_far _ ⟨B, 4, none⟩ ⟨g, i, none⟩ _ hp, World.cell?_setCell_far _ ⟨B, 3, none⟩ ⟨g, i, none⟩ _ hp, World.cell?_setCell_far _ ⟨B, 2, none⟩ ⟨g, i, none⟩ _ hp, World.cell?_setCell_far _ ⟨B, 1, none⟩ ⟨g, i, none⟩ _ hp, World.cell?_setCell_far _ ⟨B, 0, none⟩ ⟨g, i, none⟩ _ hp]
  exact h
theorem far6d {w : World} {B g i : Nat} {v : Value} (h : w.cell? ⟨g, i, none⟩ = some v) (hp : B ≠ g) (b0 b1 b2 b3 b4 b5 : Value) : ((((((w.setCell ⟨B, 0, none⟩ b0).setCell ⟨B, 1, none⟩ b1).setCell ⟨B, 2, none⟩ b2).setCell ⟨B, 3, none⟩ b3).setCell ⟨B, 4, none⟩ b4).setCell ⟨B, 5, none⟩ b5).drew.cell? ⟨g, i, none⟩ = some v := cellOnw (Fuw.drew (Fuw.refl _)) (far6 h hp b0 b1 b2 b3 b4 b5)
def gsV : List (List UInt8) → Rl
  | x0 :: x1 :: x2 :: t =>
    if x0 = [101, 100, 103, 101] ∧ 0 < t.length then (if x1 = [101, 120, 105, 115, 116, 115] then ⟨4, 0, x2, t.headD [], [], []⟩ else if t.length = 2 then ⟨5, kwN (t.getD 1 []), x2, t.headD [], [], []⟩ else nilR)
    else if x0 = [117, 110, 105, 113, 117, 101] then ⟨1, 0, x1, x2, [], []⟩
    else if x0 = [101, 120, 105, 115, 116, 115] then ⟨2, 0, x1, x2, [], []⟩
    else if x0 = [107, 105, 110, 100] ∧ t.length = 1 then ⟨3, kwN (t.headD []), x1, x2, [], []⟩
    else if x0 = [101, 110, 100, 115] ∧ t.length = 1 then ⟨6, 0, x1, [], endO x2, endO (t.headD [])⟩
    else ⟨7, numG x2 0, x1, [], [], []⟩
  | _ => nilR
theorem results_cell {fn : Func} {p : Tmp} {ty : TypeId} (h : fn.results = #[.cell p ty]) (tmps : Array Value) (P : Program) (w : World) :
    (results fn tmps).run P w = ((asAddr (tmps.getD p undef)).run P w).andThen fun a w₁ => (loadVar ty a).run P w₁ := by
  simp only [results, h]
  simp [Sem.run_bind, Result.andThen]
theorem g_ret {fn : Func} {p : Tmp} (hres : fn.results = #[.cell p 23]) {tmps : Array Value} {B : Nat} {r : Rl} {w : World} {Q : Ending → World → Prop}
    (hp : tmps.getD p undef = .pointer (some ⟨B, 0, none⟩)) (h : BkR w B r)
    (hQ : Q (.returned (rlv r)) w) : bodyPost Tryd.prog fn Q Exit.ret { tmps := tmps, defers := [] } w := by
  refine bodyPost_ret (v := rlv r) ?_ rfl hQ
  rw [results_cell hres, hp]
  have e : (asAddr (.pointer (some ⟨B, 0, none⟩))).run Tryd.prog w = .ok ⟨B, 0, none⟩ w := by go_simp
  rw [e]
  simp only [Result.andThen]
  rw [load_rl w B r h.c0 h.c1 h.c2 h.c3 h.c4 h.c5]
def RetG (w : World) (r : Rl) (e : Ending) (w' : World) : Prop := e = .returned (rlv r) ∧ Fuw w w'
theorem cmpw (x k : List UInt8) : ((bs x).toList == k) = decide (x = k) := by rw [bs_list]; by_cases h : x = k <;> simp [h]
end Go.Proofs.YtadnaakbhgacgaaDoor
