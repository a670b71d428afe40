
/-
  Memory as columns need it: what was there has not turned; slices told by the list of what they hold; ints and entries as cells; blocks of a call's own. No program's function is walked here.
-/
import Derived.Test.YtpjikijfendmhaaGreatCoM
import Derived.Test.YtpjikijfendmhaaGreatProg
import Derived.Below
import Derived.WideShapes
import Derived.WalkKit
import Derived.BigCall
import Derived.BigQuiet
import Derived.RegionTactic
import Derived.LoopTactic
import Derived.IntWalk
import Derived.OwnWalk
import Derived.Lib.Hide
import Derived.Deep.Cut
import Derived.Deep.CutBlock
import Derived.Deep.CutRange
import Derived.Deep.QuietTactic
import Derived.Deep.LoopGhost
import Derived.Deep.RegionHeld3
import Derived.Deep.RegionWith
import Derived.Laws.Cover1
import Derived.Laws.MakeOwn
import Derived.Laws.OwnMore
import Derived.Laws.AppendOwnNone
import Derived.Laws.ResultCell
import Derived.Maps.AppendAt
import Derived.Deep.AppendLies
namespace Go.Proofs.YtpjikijfendmhaaGreat
open Go.RowKit

/-- What existed before is as it was; the world has only grown, and no answer that was drawn is drawn again. -/
structure Fur (w w' : World) : Prop where
  b : Below w.heap.size w w'
  dr : w.drawn ≤ w'.drawn
theorem Fur.refl (w : World) : Fur w w := ⟨Below.refl _ _, Nat.le_refl _⟩
theorem Fur.trans {a b c : World} (h : Fur a b) (k : Fur b c) : Fur a c := ⟨Below.trans h.b (Below.mono k.b (Below.size h.b)), Nat.le_trans h.dr k.dr⟩
theorem Fur.drew {a b : World} (h : Fur a b) : Fur a b.drew := ⟨Below.drew h.b, Nat.le_trans h.dr (Nat.le_succ _)⟩
theorem Fur.size {a b : World} (h : Fur a b) : a.heap.size ≤ b.heap.size := Below.size h.b
theorem Fur.alloc {a b : World} (h : Fur a b) (o : Obj) : Fur a (b.alloc o) := ⟨Below.alloc h.b (Below.size h.b) o, h.dr⟩
/-- The same, whatever was drawn. -/
def Fuw (w w' : World) : Prop := Below w.heap.size w w'
theorem Fuw.refl (w : World) : Fuw w w := Below.refl _ _
theorem Fuw.trans {a b c : World} (h : Fuw a b) (k : Fuw b c) : Fuw a c := Below.trans h (Below.mono k (Below.size h))
theorem Fuw.drew {a b : World} (h : Fuw a b) : Fuw a b.drew := Below.drew h
theorem Fuw.size {a b : World} (h : Fuw a b) : a.heap.size ≤ b.heap.size := Below.size h
theorem Fuw.alloc {a b : World} (h : Fuw a b) (o : Obj) : Fuw a (b.alloc o) := Below.alloc h (Below.size h) o
theorem Fur.w {a b : World} (h : Fur a b) : Fuw a b := h.b
theorem cellOn {w w' : World} (hf : Fur w w') {p : Addr} {v : Value} (h : w.cell? p = some v) : w'.cell? p = some v := by
  rw [Below.cell hf.b (World.block_lt_of_cell? w p h)]; exact h
theorem cellOnw {w w' : World} (hf : Fuw w w') {p : Addr} {v : Value} (h : w.cell? p = some v) : w'.cell? p = some v := by
  rw [Below.cell hf (World.block_lt_of_cell? w p h)]; exact h
theorem fuwA (w : World) (o : Obj) : Fuw w (w.alloc o) := (Fuw.refl w).alloc o
theorem fuwS {w w1 : World} {g j : Nat} {u : Value} (hf : Fuw w w1) (hg : w.heap.size ≤ g) : Fuw w (w1.setCell ⟨g, j, none⟩ u) := Below.setCell hf hg u
theorem fuw_dr (w : World) (n : Nat) : Fuw w (w.drewN n) := ⟨rfl, rfl, rfl, Nat.le_refl _, fun _ _ => rfl⟩
theorem ret_bool {a b : Bool} (h : a = b) : Ending.returned (.bool a) = .returned (.bool b) := by rw [h]
theorem ret_int {k : IntKind} {a b : Int} (h : a = b) : Ending.returned (.int k a) = .returned (.int k b) := by rw [h]
def PureB (w : World) (b : Bool) (e : Ending) (w' : World) : Prop := e = .returned (.bool b) ∧ w = w'
def PureI (w : World) (n : Int) (e : Ending) (w' : World) : Prop := e = .returned (.int .i64 n) ∧ w = w'
def RetI (w : World) (n : Int) (e : Ending) (w' : World) : Prop := e = .returned (.int .i64 n) ∧ Fur w w'
def RetB (w : World) (c : Bool) (e : Ending) (w' : World) : Prop := e = .returned (.bool c) ∧ Fur w w'
def FwB (w : World) (b : Bool) (e : Ending) (w' : World) : Prop := e = .returned (.bool b) ∧ Fuw w w'
def FwI (w : World) (n : Int) (e : Ending) (w' : World) : Prop := e = .returned (.int .i64 n) ∧ Fuw w w'
def I64 (n : Int) : Prop := -9223372036854775808 ≤ n ∧ n ≤ 9223372036854775807

/-- A slice at ao, of capacity cap, holds the elements l, each of size cells that P tells. -/
structure Sl {α : Type} (size : Nat) (P : World → α → Nat → Nat → Prop) (w : World) (ao : Option Addr) (l : List α) (cap : Nat) : Prop where
  le : l.length ≤ cap
  max : cap ≤ maxLen
  nil : ao = none → cap = 0
  at_ : 0 < l.length → ∃ b o, ao = some ⟨b, o, none⟩ ∧ ∀ (i : Nat) (h : i < l.length), P w l[i] b (o + i * size)
section
variable {α : Type} {size : Nat} {P : World → α → Nat → Nat → Prop} {w w' : World} {ao : Option Addr} {l : List α} {cap : Nat}
theorem Sl.onP (h : Sl size P w ao l cap) (hP : ∀ x b o, P w x b o → P w' x b o) : Sl size P w' ao l cap :=
  ⟨h.le, h.max, h.nil, fun hp => by obtain ⟨b, o, e, he⟩ := h.at_ hp; exact ⟨b, o, e, fun i hi => hP _ _ _ (he i hi)⟩⟩
theorem Sl.get (h : Sl size P w ao l cap) {i : Nat} (hi : i < l.length) : ∃ b o, ao = some ⟨b, o, none⟩ ∧ P w l[i] b (o + i * size) := by
  obtain ⟨b, o, e, he⟩ := h.at_ (by omega)
  exact ⟨b, o, e, he i hi⟩
theorem Sl.get2 (h : Sl size P w ao l cap) {i j : Nat} (hi : i < l.length) (hj : j < l.length) : ∃ b o, ao = some ⟨b, o, none⟩ ∧ P w l[i] b (o + i * size) ∧ P w l[j] b (o + j * size) := by
  obtain ⟨b, o, e, he⟩ := h.at_ (by omega)
  exact ⟨b, o, e, he i hi, he j hj⟩
theorem Sl.empty (w : World) : Sl size P w none [] 0 := ⟨Nat.le_refl _, Nat.zero_le _, fun _ => rfl, fun h => absurd h (Nat.lt_irrefl 0)⟩
theorem Sl.len (h : Sl size P w ao l cap) : l.length ≤ 9223372036854775807 := by
  have := h.le; have := h.max; unfold maxLen at this; omega
theorem Sl.cap_ (h : Sl size P w ao l cap) : cap ≤ 9223372036854775807 := by
  have := h.max; unfold maxLen at this; omega
end
/-- An int's cell; an entry's three cells. -/
def NI (w : World) (x : Int) (b o : Nat) : Prop := I64 x ∧ w.cell? ⟨b, o, none⟩ = some (.int .i64 x)
def JC (w : World) (x : Int × Int × Int) (b o : Nat) : Prop := I64 x.1 ∧ I64 x.2.1 ∧ I64 x.2.2 ∧ w.cell? ⟨b, o, none⟩ = some (.int .i64 x.1) ∧ w.cell? ⟨b, o + 1, none⟩ = some (.int .i64 x.2.1) ∧ w.cell? ⟨b, o + 2, none⟩ = some (.int .i64 x.2.2)
abbrev SlI := Sl 1 NI
abbrev SlJ := Sl 3 JC
section
variable {w w' : World} (hf : Fuw w w')
include hf
theorem slI_on {ao : Option Addr} {l : List Int} {cap : Nat} (h : SlI w ao l cap) : SlI w' ao l cap := h.onP fun _ _ _ k => ⟨k.1, cellOnw hf k.2⟩
theorem slJ_on {ao : Option Addr} {l : List (Int × Int × Int)} {cap : Nat} (h : SlJ w ao l cap) : SlJ w' ao l cap := h.onP fun _ _ _ k => ⟨k.1, k.2.1, k.2.2.1, cellOnw hf k.2.2.2.1, cellOnw hf k.2.2.2.2.1, cellOnw hf k.2.2.2.2.2⟩
end

/-- Block B holds just these cells. -/
def Bk (w : World) (B : Nat) (cs : Array Value) (t : TypeId) : Prop := w.heap[B]? = some (.cells cs t (0, 0))
section
variable {w w' : World} {B : Nat} {cs : Array Value} {t : TypeId}
theorem Bk.lt (h : Bk w B cs t) : B < w.heap.size := by
  unfold Bk at h
  rcases Nat.lt_or_ge B w.heap.size with k | k
  · exact k
  · rw [Array.getElem?_eq_none k] at h; cases h
theorem Bk.on (h : Bk w B cs t) (hf : Fuw w w') : Bk w' B cs t := by
  have k := h.lt
  unfold Bk at *
  rw [Below.block hf B k]; exact h
theorem Bk.below (h : Bk w B cs t) {n : Nat} (hf : Below n w w') (hB : B < n) : Bk w' B cs t := by
  unfold Bk at *
  rw [Below.block hf B hB]; exact h
theorem Bk.c (h : Bk w B cs t) (j : Nat) : w.cell? ⟨B, j, none⟩ = cs[j]? := cell_of_row w B j cs t (0, 0) h
theorem Bk.f (h : Bk w B cs t) (j : Nat) : w.frozen? ⟨B, j, none⟩ = false := by unfold Bk at h; simp [World.frozen?, h]
theorem Bk.new (w : World) (cs : Array Value) (t : TypeId) : Bk (w.alloc (.cells cs t)) w.heap.size cs t := by
  show (w.heap.push _)[w.heap.size]? = _
  rw [Array.getElem?_push, if_pos rfl]
theorem Bk.set_ (h : Bk w B cs t) (i : Nat) (u : Value) : Bk (w.setCell ⟨B, i, none⟩ u) B (cs.setIfInBounds i u) t := by
  unfold Bk at h ⊢
  simp [World.setCell, Array.getElem?_modify, h]
theorem Bk.far (h : Bk w B cs t) {p : Addr} (hp : B ≠ p.block) (u : Value) : Bk (w.setCell p u) B cs t := (Below.heap_setCell w p u B hp).trans h
end
/-- What a call owns is not turned by what comes later. -/
theorem own_on {w w' : World} {base e size : Nat} {v : Value} {n : Nat} {xs : List Value} (h : w.ownsRow base e size v n xs) (hf : Fuw w w') : w'.ownsRow base e size v n xs := by
  refine ⟨h.1, ?_⟩
  rcases h.2 with h0 | ⟨g, cap, cur, hv, hg, hh, rest⟩
  · exact .inl h0
  · refine .inr ⟨g, cap, cur, hv, hg, ?_, rest⟩
    have hlt : g < w.heap.size := by
      rcases Nat.lt_or_ge g w.heap.size with k | k
      · exact k
      · rw [Array.getElem?_eq_none k] at hh; cases hh
    rw [Below.block hf g hlt]; exact hh
/-- The cells of ints; of entries. -/
def cs (zs : List Int) : List Value := zs.map (Value.int .i64)
theorem cs_len (zs : List Int) : (cs zs).length = zs.length := List.length_map ..
theorem cs_app (a b : List Int) : cs (a ++ b) = cs a ++ cs b := List.map_append ..
theorem cs_get {l : List Int} {j : Nat} (h : j < l.length) : (cs l)[j]? = some (.int .i64 l[j]) := by
  unfold cs
  rw [List.getElem?_map, List.getElem?_eq_getElem h]; rfl
def aE (x : Int × Int × Int) : List Value := [.int .i64 x.1, .int .i64 x.2.1, .int .i64 x.2.2]
def aC (L : List (Int × Int × Int)) : List Value := L.flatMap aE
theorem aC_len : ∀ L : List (Int × Int × Int), (aC L).length = L.length * 3
  | [] => rfl
  | x :: r => by
    show (aE x ++ aC r).length = _
    rw [List.length_append, aC_len r, List.length_cons]
    show 3 + _ = _
    omega
theorem aC_app (a b : List (Int × Int × Int)) : aC (a ++ b) = aC a ++ aC b := List.flatMap_append
theorem aC_get : ∀ (L : List (Int × Int × Int)) (i c : Nat), c < 3 → (h : i < L.length) → (aC L)[i * 3 + c]? = (aE L[i])[c]?
  | x :: r, 0, c, hc, _ => by
    show (aE x ++ aC r)[0 * 3 + c]? = _
    rw [Nat.zero_mul, Nat.zero_add, List.getElem?_append_left (show c < (aE x).length from hc)]; rfl
  | x :: r, i + 1, c, hc, h => by
    show (aE x ++ aC r)[(i + 1) * 3 + c]? = _
    have e3 : (aE x).length = 3 := rfl
    rw [List.getElem?_append_right (by rw [e3]; omega), e3, show (i + 1) * 3 + c - 3 = i * 3 + c by omega, aC_get r i c hc (by simpa using h)]
    rfl
/-- What a call owns reads as its list. -/
theorem slI_own {w : World} {base e : Nat} {v : Value} {n : Nat} {L : List Int} (h : w.ownsRow base e 1 v n (cs L)) (hi : ∀ x ∈ L, I64 x) : ∃ ao cap, v = .slice ao L.length cap ∧ n = L.length ∧ SlI w ao L cap := by
  have hl := h.1
  rw [cs_len, Nat.mul_one] at hl
  subst hl
  rcases h.2 with ⟨rfl, h0⟩ | ⟨g, cap, cur, rfl, hb, hh, h1, h2, h3, h4⟩
  · refine ⟨none, 0, by rw [h0], rfl, by omega, Nat.zero_le _, fun _ => rfl, fun hp => absurd hp (by omega)⟩
  · refine ⟨_, cap, rfl, rfl, h1, h2, (fun k => by cases k), fun _ => ⟨g, 0, rfl, fun j hj => ⟨hi _ (List.getElem_mem hj), ?_⟩⟩⟩
    have k := h.cells (g := g) rfl j _ (cs_get hj)
    rw [Go.WideShapes.add_plain] at k
    rw [Nat.mul_one]
    exact k
theorem slJ_own {w : World} {base e : Nat} {v : Value} {n : Nat} {L : List (Int × Int × Int)} (h : w.ownsRow base e 3 v n (aC L)) (hi : ∀ x ∈ L, I64 x.1 ∧ I64 x.2.1 ∧ I64 x.2.2) : ∃ ao cap, v = .slice ao L.length cap ∧ n = L.length ∧ SlJ w ao L cap := by
  have hl := h.1
  rw [aC_len] at hl
  have hl' : n = L.length := by omega
  subst hl'
  rcases h.2 with ⟨rfl, h0⟩ | ⟨g, cap, cur, rfl, hb, hh, h1, h2, h3, h4⟩
  · have e := List.length_eq_zero_iff.1 h0
    subst e
    exact ⟨none, 0, rfl, rfl, Sl.empty _⟩
  · refine ⟨_, cap, rfl, rfl, h1, h2, (fun k => by cases k), fun _ => ⟨g, 0, rfl, fun j hj => ?_⟩⟩
    have k : ∀ c, c < 3 → w.cell? ⟨g, 0 + j * 3 + c, none⟩ = (aE L[j])[c]? := fun c hc => by
      rw [Nat.zero_add, h.cellAt (j * 3 + c) (by omega), aC_get L j c hc hj]
    obtain ⟨i1, i2, i3⟩ := hi _ (List.getElem_mem hj)
    exact ⟨i1, i2, i3, k 0 (by decide), k 1 (by decide), k 2 (by decide)⟩
theorem infoI : (Tryz.prog.info? 3).map (fun i => (i.zero, i.size, i.bytes)) = some (some (.int .i64 0), 1, 8) := by kernel_rfl
theorem infoJ : (Tryz.prog.info? 42).map (fun i => (i.zero, i.size, i.bytes)) = some (some (.agg #[.int .i64 0, .int .i64 0, .int .i64 0]), 3, 24) := by kernel_rfl
/-- An entry, a column, an overlay as the model has them. -/
def adv (x : Int × Int × Int) : Value := .agg #[.int .i64 x.1, .int .i64 x.2.1, .int .i64 x.2.2]
end Go.Proofs.YtpjikijfendmhaaGreat
