
/-
  A box of slices of ints, each a row of the call's own: a family of rows, one of which grows. No program's function is walked here.
-/
import Derived.Test.YtpjikijfendmhaaGreatCoB
import Derived.OneCell
namespace Go.Proofs.YtpjikijfendmhaaGreat
open Go.RowKit

/-- Block B of cells of type t holds a family of rows of the call's own, in the blocks from base on, none of them in another's block. -/
structure Fam (w : World) (base B : Nat) (t : TypeId) (vs : List Value) (ls : List (List Int)) : Prop where
  b : Bk w B vs.toArray t
  hB : base ≤ B
  n : vs.length = ls.length
  o : ∀ (j : Nat) (h : j < vs.length) (h' : j < ls.length), w.ownsRow base 3 1 vs[j] ls[j].length (cs ls[j])
  d : ∀ (i j : Nat) (hi : i < vs.length) (hj : j < vs.length), i ≠ j → ∀ k, vs[i].ownBlock = some k → vs[j].ownBlock ≠ some k
section
variable {w w' : World} {base B : Nat} {t : TypeId} {vs : List Value} {ls : List (List Int)}
theorem Fam.on (h : Fam w base B t vs ls) (hf : Fuw w w') : Fam w' base B t vs ls := ⟨h.b.on hf, h.hB, h.n, fun j a b => own_on (h.o j a b) hf, h.d⟩
theorem Fam.c (h : Fam w base B t vs ls) (j : Nat) : w.cell? ⟨B, j, none⟩ = vs[j]? := by
  rw [h.b.c j, List.getElem?_toArray]
theorem Fam.f (h : Fam w base B t vs ls) (j : Nat) : w.frozen? ⟨B, j, none⟩ = false := h.b.f j
theorem own_type {w : World} {base e s n : Nat} {v : Value} {xs : List Value} (h : w.ownsRow base e s v n xs) {k : Nat} (hk : v.ownBlock = some k) : ∃ cur, w.heap[k]? = some (.cells cur e (0, 0)) := by
  rcases h.2 with ⟨rfl, -⟩ | ⟨g, cap, cur, rfl, -, hg, -⟩
  · cases hk
  · cases hk; exact ⟨cur, hg⟩
theorem own_ne {w : World} {base e s n B : Nat} {v : Value} {xs : List Value} {vc : Array Value} {t : TypeId} (h : w.ownsRow base e s v n xs) (hb : Bk w B vc t) (ht : t ≠ e) : v.ownBlock ≠ some B := fun k => by
  obtain ⟨cur, hc⟩ := own_type h k
  unfold Bk at hb
  rw [hb] at hc
  simp only [Option.some.injEq, Obj.cells.injEq] at hc
  exact ht hc.2.1
theorem own_kept {w w' : World} {base e s n : Nat} {v : Value} {xs : List Value} {g : Option Nat} (h : w.ownsRow base e s v n xs) (hg : w.grownBy w' g) (hne : ∀ k, v.ownBlock = some k → g ≠ some k) : w'.ownsRow base e s v n xs := by
  refine h.kept hg ?_
  cases hv : v.ownBlock with
  | none => exact .inl rfl
  | some k => exact .inr fun e => hne k hv e.symm
/-- One row of the family has grown by one, and its new slice is stored. -/
theorem Fam.app (h : Fam w base B t vs ls) (ht : t ≠ 3) {j : Nat} (hj : j < vs.length) (hj' : j < ls.length) {x : Int} {v' : Value}
    (ho : w'.ownsRow base 3 1 v' (ls[j].length + 1) (cs ls[j] ++ [.int .i64 x])) (hg : w.grownBy w' vs[j].ownBlock) (ha : v'.ownBlock = vs[j].ownBlock ∨ v'.ownBlock = some w.heap.size) :
    Fam (w'.setCell ⟨B, j, none⟩ v') base B t (vs.set j v') (ls.set j (ls[j] ++ [x])) := by
  have hBne := own_ne (h.o j hj hj') h.b ht
  have hb' : Bk w' B vs.toArray t := by
    have hl := h.b.lt
    have hb := h.b
    unfold Bk at *
    rw [hg.block B hl fun e => hBne e.symm]; exact hb
  refine ⟨?_, h.hB, by rw [List.length_set, List.length_set]; exact h.n, fun i a b => ?_, fun i i' a b hne k hk => ?_⟩
  · have := hb'.set_ j v'
    rwa [List.setIfInBounds_toArray] at this
  · have a' : i < vs.length := by simpa using a
    have b' : i < ls.length := by simpa using b
    by_cases e : j = i
    · subst e
      rw [List.getElem_set_self, List.getElem_set_self]
      refine ownsRow_setCell_other ?_ (own_ne ho hb' ht) _
      rw [List.length_append, cs_app]; exact ho
    · rw [List.getElem_set_ne e, List.getElem_set_ne e]
      have o1 := own_kept (h.o i a' b') hg fun k hk => h.d i j a' hj (fun q => e q.symm) k hk
      exact ownsRow_setCell_other o1 (own_ne o1 hb' ht) _
  · have a' : i < vs.length := by simpa using a
    have b' : i' < vs.length := by simpa using b
    have fresh : ∀ (m : Nat) (hm : m < vs.length), vs[m].ownBlock ≠ some w.heap.size := fun m hm q => by
      have := ((h.o m hm (by rw [← h.n]; exact hm)).lt _ q).2; omega
    by_cases e : j = i
    · subst e
      rw [List.getElem_set_self] at hk
      rw [List.getElem_set_ne hne]
      rcases ha with ha | ha
      · rw [ha] at hk; exact h.d j i' hj b' hne k hk
      · rw [ha] at hk; cases hk; exact fresh i' b'
    · rw [List.getElem_set_ne e] at hk
      by_cases e' : j = i'
      · subst e'
        rw [List.getElem_set_self]
        rcases ha with ha | ha
        · rw [ha]; exact h.d i j a' hj hne k hk
        · rw [ha]; intro q; cases q; exact fresh i a' hk
      · rw [List.getElem_set_ne e']; exact h.d i i' a' b' hne k hk
theorem Fam.appW {w0 : World} (h : Fam w w0.heap.size B t vs ls) (hf : Fuw w0 w) {j : Nat} (hj : j < vs.length) (hj' : j < ls.length) (hg : w.grownBy w' vs[j].ownBlock) (v' : Value) : Fuw w0 (w'.setCell ⟨B, j, none⟩ v') :=
  fuwS (fuw_grown hf (h.o j hj hj') hg) h.hB
end
end Go.Proofs.YtpjikijfendmhaaGreat
