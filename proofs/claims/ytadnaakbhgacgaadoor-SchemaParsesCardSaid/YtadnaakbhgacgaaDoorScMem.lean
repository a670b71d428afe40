/-
  Rules in memory: six cells, slices of rules; blocks that a call has made; the relation of worlds 'nothing that was there has turned'. No program's function is walked here.
-/
import Derived.Test.YtadnaakbhgacgaaDoorScM
import Derived.Test.YtadnaakbhgacgaaDoorProg
import Derived.WalkKit
import Derived.BigCall
import Derived.BigQuiet
import Derived.RegionTactic
import Derived.LoopTactic
import Derived.Deep.QuietTactic
import Derived.OwnWalk
import Derived.Below
import Derived.WideShapes
import Derived.Lib.Hide
import Derived.Deep.Cut
import Derived.Deep.CutBlock
import Derived.Deep.CutRange
import Derived.Deep.LoopGhost
import Derived.Deep.RegionHeld3
import Derived.Deep.RegionWith
import Derived.Laws.Cover1
import Derived.Laws.MakeOwn
import Derived.Laws.OwnMore
import Derived.Laws.AppendOwnNone
import Derived.Laws.ResultCell
import Derived.Maps.AppendAt
import Derived.Deep.AppendLies
import Derived.IntWalk
namespace Go.Proofs.YtadnaakbhgacgaaDoor
open Go.RowKit

/-- What existed before is as it was; the world has only grown. -/
def Fuw (w w' : World) : Prop := Below w.heap.size w w'
theorem Fuw.refl (w : World) : Fuw w w := Below.refl _ _
theorem Fuw.trans {a b c : World} (h : Fuw a b) (k : Fuw b c) : Fuw a c := Below.trans h (Below.mono k (Below.size h))
theorem Fuw.drew {a b : World} (h : Fuw a b) : Fuw a b.drew := Below.drew h
theorem Fuw.size {a b : World} (h : Fuw a b) : a.heap.size ≤ b.heap.size := Below.size h
theorem Fuw.alloc {a b : World} (h : Fuw a b) (o : Obj) : Fuw a (b.alloc o) := Below.alloc h (Below.size h) o
theorem fuwA (w : World) (o : Obj) : Fuw w (w.alloc o) := (Fuw.refl w).alloc o
theorem fuwS {w w1 : World} {g j : Nat} {u : Value} (hf : Fuw w w1) (hg : w.heap.size ≤ g) : Fuw w (w1.setCell ⟨g, j, none⟩ u) := Below.setCell hf hg u
theorem fuw_dr (w : World) (n : Nat) : Fuw w (w.drewN n) := ⟨rfl, rfl, rfl, Nat.le_refl _, fun _ _ => rfl⟩
theorem cellOnw {w w' : World} (hf : Fuw w w') {p : Addr} {v : Value} (h : w.cell? p = some v) : w'.cell? p = some v := by
  rw [Below.cell hf (World.block_lt_of_cell? w p h)]; exact h
theorem ret_bool {a b : Bool} (h : a = b) : Ending.returned (.bool a) = .returned (.bool b) := by rw [h]
theorem ret_int {k : IntKind} {a b : Int} (h : a = b) : Ending.returned (.int k a) = .returned (.int k b) := by rw [h]
theorem ret_str {a b : ByteArray} (h : a = b) : Ending.returned (.string a) = .returned (.string b) := by rw [h]

def I64 (n : Int) : Prop := -9223372036854775808 ≤ n ∧ n ≤ 9223372036854775807
theorem i0 : I64 0 := ⟨by decide, by decide⟩
def bs (s : List UInt8) : ByteArray := ⟨s.toArray⟩
theorem bs_size (s : List UInt8) : (bs s).size = s.length := by simp [bs, ByteArray.size]
theorem bs_data (s : List UInt8) : (bs s).data.toList = s := by simp [bs]
theorem bs_of (s : ByteArray) : s = bs s.data.toList := by simp [bs]
theorem toL (s : ByteArray) : s.toList = s.data.toList := ByteArray.toList_eq s
theorem bs_list (s : List UInt8) : (bs s).toList = s := by rw [toL, bs_data]

def PureB (w : World) (b : Bool) (e : Ending) (w' : World) : Prop := e = .returned (.bool b) ∧ w = w'
def PureI (w : World) (n : Int) (e : Ending) (w' : World) : Prop := e = .returned (.int .i64 n) ∧ w = w'
def PureT (w : World) (s : ByteArray) (e : Ending) (w' : World) : Prop := e = .returned (.string s) ∧ w = w'
def FwB (w : World) (b : Bool) (e : Ending) (w' : World) : Prop := e = .returned (.bool b) ∧ Fuw w w'
def FwI (w : World) (n : Int) (e : Ending) (w' : World) : Prop := e = .returned (.int .i64 n) ∧ Fuw w w'
def FwT (w : World) (s : ByteArray) (e : Ending) (w' : World) : Prop := e = .returned (.string s) ∧ Fuw w w'

/-- Block B holds just these cells. -/
def Bk (w : World) (B : Nat) (cs : Array Value) (t : TypeId) : Prop := w.heap[B]? = some (.cells cs t (0, 0))
section
variable {w w' : World} {B : Nat} {cs : Array Value} {t : TypeId}
theorem Bk.lt (h : Bk w B cs t) : B < w.heap.size := by
  unfold Bk at h
  rcases Nat.lt_or_ge B w.heap.size with k | k
  · exact k
  · rw [Array.getElem?_eq_none k] at h; cases h
theorem Bk.on (h : Bk w B cs t) (hf : Fuw w w') : Bk w' B cs t := by
  have k := h.lt
  unfold Bk at *
  rw [Below.block hf B k]; exact h
theorem Bk.c (h : Bk w B cs t) (j : Nat) : w.cell? ⟨B, j, none⟩ = cs[j]? := cell_of_row w B j cs t (0, 0) h
theorem Bk.f (h : Bk w B cs t) (j : Nat) : w.frozen? ⟨B, j, none⟩ = false := by unfold Bk at h; simp [World.frozen?, h]
theorem Bk.new (w : World) (cs : Array Value) (t : TypeId) : Bk (w.alloc (.cells cs t)) w.heap.size cs t := by
  show (w.heap.push _)[w.heap.size]? = _
  rw [Array.getElem?_push, if_pos rfl]
theorem Bk.set_ (h : Bk w B cs t) (i : Nat) (u : Value) : Bk (w.setCell ⟨B, i, none⟩ u) B (cs.setIfInBounds i u) t := by
  unfold Bk at h ⊢
  simp [World.setCell, Array.getElem?_modify, h]
theorem Bk.far (h : Bk w B cs t) {p : Addr} (hp : B ≠ p.block) (u : Value) : Bk (w.setCell p u) B cs t := (Below.heap_setCell w p u B hp).trans h
end
theorem asz (w : World) (o : Obj) : (w.alloc o).heap.size = w.heap.size + 1 := by simp

/-- A slice at ao, of capacity cap, holds the elements l, each of size cells that P tells. -/
structure Sl {α : Type} (size : Nat) (P : World → α → Nat → Nat → Prop) (w : World) (ao : Option Addr) (l : List α) (cap : Nat) : Prop where
  le : l.length ≤ cap
  max : cap ≤ maxLen
  nil : ao = none → cap = 0
  at_ : 0 < l.length → ∃ b o, ao = some ⟨b, o, none⟩ ∧ ∀ (i : Nat) (h : i < l.length), P w l[i] b (o + i * size)
section
variable {α : Type} {size : Nat} {P : World → α → Nat → Nat → Prop} {w w' : World} {ao : Option Addr} {l : List α} {cap : Nat}
theorem Sl.onP (h : Sl size P w ao l cap) (hP : ∀ x b o, P w x b o → P w' x b o) : Sl size P w' ao l cap :=
  ⟨h.le, h.max, h.nil, fun hp => by obtain ⟨b, o, e, he⟩ := h.at_ hp; exact ⟨b, o, e, fun i hi => hP _ _ _ (he i hi)⟩⟩
theorem Sl.get (h : Sl size P w ao l cap) {i : Nat} (hi : i < l.length) : ∃ b o, ao = some ⟨b, o, none⟩ ∧ P w l[i] b (o + i * size) := by
  obtain ⟨b, o, e, he⟩ := h.at_ (by omega)
  exact ⟨b, o, e, he i hi⟩
theorem Sl.get2 (h : Sl size P w ao l cap) {i j : Nat} (hi : i < l.length) (hj : j < l.length) : ∃ b o, ao = some ⟨b, o, none⟩ ∧ P w l[i] b (o + i * size) ∧ P w l[j] b (o + j * size) := by
  obtain ⟨b, o, e, he⟩ := h.at_ (by omega)
  exact ⟨b, o, e, he i hi, he j hj⟩
theorem Sl.empty (w : World) : Sl size P w none [] 0 := ⟨Nat.le_refl _, Nat.zero_le _, fun _ => rfl, fun h => absurd h (Nat.lt_irrefl 0)⟩
theorem Sl.len (h : Sl size P w ao l cap) : l.length ≤ 9223372036854775807 := by
  have := h.le; have := h.max; unfold maxLen at this; omega
theorem Sl.cap_ (h : Sl size P w ao l cap) : cap ≤ 9223372036854775807 := by
  have := h.max; unfold maxLen at this; omega
end

/-- A rule as the model has it; its cells. -/
def rlv (r : Rl) : Value := .agg #[.int .i64 r.kd, .int .i64 r.nn, .string (bs r.nm), .string (bs r.ky), .string (bs r.fr), .string (bs r.tt)]
def rlc (r : Rl) : Array Value := #[.int .i64 r.kd, .int .i64 r.nn, .string (bs r.nm), .string (bs r.ky), .string (bs r.fr), .string (bs r.tt)]
structure RIn (r : Rl) : Prop where
  k : I64 r.kd
  n : I64 r.nn
  a : r.nm.length ≤ maxLen
  b : r.ky.length ≤ maxLen
  c : r.fr.length ≤ maxLen
  d : r.tt.length ≤ maxLen
/-- The rule that a failing call returns. -/
def nilR : Rl := ⟨0, 0, [], [], [], []⟩
theorem nilR_in : RIn nilR := ⟨i0, i0, Nat.zero_le _, Nat.zero_le _, Nat.zero_le _, Nat.zero_le _⟩
structure RC (w : World) (r : Rl) (b o : Nat) : Prop where
  i : RIn r
  c0 : w.cell? ⟨b, o, none⟩ = some (.int .i64 r.kd)
  c1 : w.cell? ⟨b, o + 1, none⟩ = some (.int .i64 r.nn)
  c2 : w.cell? ⟨b, o + 2, none⟩ = some (.string (bs r.nm))
  c3 : w.cell? ⟨b, o + 3, none⟩ = some (.string (bs r.ky))
  c4 : w.cell? ⟨b, o + 4, none⟩ = some (.string (bs r.fr))
  c5 : w.cell? ⟨b, o + 5, none⟩ = some (.string (bs r.tt))
theorem RC.on {w w' : World} {r : Rl} {b o : Nat} (h : RC w r b o) (hf : Fuw w w') : RC w' r b o :=
  ⟨h.i, cellOnw hf h.c0, cellOnw hf h.c1, cellOnw hf h.c2, cellOnw hf h.c3, cellOnw hf h.c4, cellOnw hf h.c5⟩
abbrev SlR := Sl 6 RC
theorem slR_on {w w' : World} (hf : Fuw w w') {ao : Option Addr} {l : List Rl} {cap : Nat} (h : SlR w ao l cap) : SlR w' ao l cap := h.onP fun _ _ _ k => k.on hf
theorem RC.of_bk {w : World} {r : Rl} {B : Nat} {t : TypeId} (h : Bk w B (rlc r) t) (hi : RIn r) : RC w r B 0 := ⟨hi, h.c 0, h.c 1, h.c 2, h.c 3, h.c 4, h.c 5⟩
theorem RIn.m {s : List UInt8} (h : s.length ≤ maxLen) : (bs s).size ≤ maxLen := by rw [bs_size]; exact h
/-- A box of a rule. -/
structure BkR (w : World) (B : Nat) (r : Rl) : Prop where
  h : Bk w B (rlc r) 23
theorem BkR.on {w w' : World} {B : Nat} {r : Rl} (h : BkR w B r) (hf : Fuw w w') : BkR w' B r := ⟨h.h.on hf⟩
theorem BkR.new (w : World) (r : Rl) : BkR (w.alloc (.cells (rlc r) 23)) w.heap.size r := ⟨Bk.new _ _ _⟩
theorem BkR.c0 {w : World} {B : Nat} {r : Rl} (h : BkR w B r) : w.cell? ⟨B, 0, none⟩ = some (.int .i64 r.kd) := h.h.c 0
theorem BkR.c1 {w : World} {B : Nat} {r : Rl} (h : BkR w B r) : w.cell? ⟨B, 1, none⟩ = some (.int .i64 r.nn) := h.h.c 1
theorem BkR.c2 {w : World} {B : Nat} {r : Rl} (h : BkR w B r) : w.cell? ⟨B, 2, none⟩ = some (.string (bs r.nm)) := h.h.c 2
theorem BkR.c3 {w : World} {B : Nat} {r : Rl} (h : BkR w B r) : w.cell? ⟨B, 3, none⟩ = some (.string (bs r.ky)) := h.h.c 3
theorem BkR.c4 {w : World} {B : Nat} {r : Rl} (h : BkR w B r) : w.cell? ⟨B, 4, none⟩ = some (.string (bs r.fr)) := h.h.c 4
theorem BkR.c5 {w : World} {B : Nat} {r : Rl} (h : BkR w B r) : w.cell? ⟨B, 5, none⟩ = some (.string (bs r.tt)) := h.h.c 5
end Go.Proofs.YtadnaakbhgacgaaDoor
