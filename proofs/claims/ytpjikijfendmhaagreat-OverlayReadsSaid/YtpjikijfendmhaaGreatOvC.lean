/-
  slices.Clone at ints and entries: a row of the call's own with the same cells. Nothing that was there turns.
-/
import Derived.Test.YtpjikijfendmhaaGreatCoMem
import Derived.Laws.IdiomCopy
import Derived.Lib.SliceRun
namespace Go.Proofs.YtpjikijfendmhaaGreat
open Go.RowKit

def RetCn (w : World) (T : TypeId) (s n : Nat) (xs : List Value) (e : Ending) (w' : World) : Prop := ∃ v, e = .returned v ∧ w'.ownsRow w.heap.size T s v n xs ∧ Fuw w w'
set_option maxHeartbeats 2000000 in
set_option maxRecDepth 100000 in
theorem clone_i (xs : List Value) (n cap : Nat) (ao : Option Addr) (w : World) (hnil : ao = none → n = 0 ∧ cap = 0) (hc : ∀ p, ao = some p → ∀ j u, xs[j]? = some u → w.cell? (p.add j) = some u) (hx : xs.length = n * 1) (hn : n ≤ 100000) (h1 : ∀ u ∈ xs, u.oneCell' = true) :
    Calls Tryz.prog 74 #[.slice ao n cap] w (RetCn w 3 1 n xs) := by
  obtain ⟨i0, hi, hz0, hz1, hz2⟩ := info_parts infoI
  have q22 : ∀ (w : World) (a : Option Addr) (n c n' c' : Nat), (binOp .eql 22 (.slice a n c) (.slice none n' c')).run Tryz.prog w = .ok (.bool a.isNone) w := fun w a n c n' c' => Lib.run_eql_slice_nil w _ _ a n c n' c' Tryz.underlying22
  cases ao with
  | none =>
    obtain ⟨rfl, rfl⟩ := hnil rfl
    obtain rfl : xs = [] := List.eq_nil_of_length_eq_zero (by omega)
    clear hc hnil hx h1 hn
    go_enter Tryz.func74, Tryz.ntmps74
    go_wp2
    go_ret
    exact ⟨_, rfl, World.ownsRow_nil _ _ _ _, Fuw.refl _⟩
  | some p =>
    have HC := Lib.hid (hc p rfl)
    have HX := Lib.hid hx
    have H1 := Lib.hid h1
    clear hc hx h1 hnil
    go_enter Tryz.func74, Tryz.ntmps74
    go_wp2_with (at_builtin; refine wpList_append_own _ rfl _ _ 22 rfl w.heap.size 3 i0 _ 1 8 Tryz.underlying22 hi hz0 hz1 hz2 rfl (by decide) _ _ _ rfl (World.ownsRow_made w #[] 0 (Nat.le_refl _) (Nat.zero_le _) (by simp)) p n cap xs rfl ?qc1 ?qc2 ?qc3 ?qc4 ?qc5 ?qc6 ?_)
    case qc1 => have := HX.out; omega
    case qc2 =>
      intro j u hj
      exact cellOnw (fuwA w _) (HC.out j u hj)
    case qc3 => exact H1.out
    case qc4 => unfold maxLen; omega
    case qc5 => omega
    case qc6 => simp
    intro v' w1 hown hgrow hnil
    have HO := Lib.hid (show w1.ownsRow w.heap.size 3 1 v' n xs from by simpa using hown)
    have HG := Lib.hid (show Fuw w w1 from ((Below.refl _ w).alloc (Nat.le_refl _) _).grown hgrow (by simp) (by intro k hk; simp [Value.ownBlock] at hk; omega))
    clear hown hgrow hnil
    go_wp2
    go_ret
    exact ⟨v', rfl, HO.out, HG.out⟩
set_option maxHeartbeats 2000000 in
set_option maxRecDepth 100000 in
theorem clone_j (xs : List Value) (n cap : Nat) (ao : Option Addr) (w : World) (hnil : ao = none → n = 0 ∧ cap = 0) (hc : ∀ p, ao = some p → ∀ j u, xs[j]? = some u → w.cell? (p.add j) = some u) (hx : xs.length = n * 3) (hn : n ≤ 100000) (h1 : ∀ u ∈ xs, u.oneCell' = true) :
    Calls Tryz.prog 63 #[.slice ao n cap] w (RetCn w 42 3 n xs) := by
  obtain ⟨i0, hi, hz0, hz1, hz2⟩ := info_parts infoJ
  have q22 : ∀ (w : World) (a : Option Addr) (n c n' c' : Nat), (binOp .eql 25 (.slice a n c) (.slice none n' c')).run Tryz.prog w = .ok (.bool a.isNone) w := fun w a n c n' c' => Lib.run_eql_slice_nil w _ _ a n c n' c' Tryz.underlying25
  cases ao with
  | none =>
    obtain ⟨rfl, rfl⟩ := hnil rfl
    obtain rfl : xs = [] := List.eq_nil_of_length_eq_zero (by omega)
    clear hc hnil hx h1 hn
    go_enter Tryz.func63, Tryz.ntmps63
    go_wp2
    go_ret
    exact ⟨_, rfl, World.ownsRow_nil _ _ _ _, Fuw.refl _⟩
  | some p =>
    have HC := Lib.hid (hc p rfl)
    have HX := Lib.hid hx
    have H1 := Lib.hid h1
    clear hc hx h1 hnil
    go_enter Tryz.func63, Tryz.ntmps63
    go_wp2_with (at_builtin; refine wpList_append_own _ rfl _ _ 25 rfl w.heap.size 42 i0 _ 3 24 Tryz.underlying25 hi hz0 hz1 hz2 rfl (by decide) _ _ _ rfl (World.ownsRow_made w #[] 0 (Nat.le_refl _) (Nat.zero_le _) (by simp)) p n cap xs rfl ?qc1 ?qc2 ?qc3 ?qc4 ?qc5 ?qc6 ?_)
    case qc1 => have := HX.out; omega
    case qc2 =>
      intro j u hj
      exact cellOnw (fuwA w _) (HC.out j u hj)
    case qc3 => exact H1.out
    case qc4 => unfold maxLen; omega
    case qc5 => omega
    case qc6 => simp
    intro v' w1 hown hgrow hnil
    have HO := Lib.hid (show w1.ownsRow w.heap.size 42 3 v' n xs from by simpa using hown)
    have HG := Lib.hid (show Fuw w w1 from ((Below.refl _ w).alloc (Nat.le_refl _) _).grown hgrow (by simp) (by intro k hk; simp [Value.ownBlock] at hk; omega))
    clear hown hgrow hnil
    go_wp2
    go_ret
    exact ⟨v', rfl, HO.out, HG.out⟩
end Go.Proofs.YtpjikijfendmhaaGreat
