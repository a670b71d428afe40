/-
  Vx; GrMem: texts of one kind in one file; each part says what it holds.
-/
import Derived.Test.YtkcmakfmeioakaaGreatValM
import Derived.Test.YtkcmakfmeioakaaGreatM03
import Derived.Test.YtkcmakfmeioakaaGreatM02
import Derived.Lib.Hide
import Derived.Deep.Cut
import Derived.Deep.CutBlock
import Derived.Deep.CutRange
import Derived.Deep.LoopGhost
import Derived.Deep.RegionHeld3
import Derived.Deep.RegionWith
import Derived.Laws.Cover1
import Derived.Laws.MakeOwn
import Derived.Laws.OwnMore
import Derived.Laws.AppendOwnNone
import Derived.Laws.ResultCell
import Derived.Maps.AppendAt
import Derived.Deep.AppendLies

/-! Values in memory: five cells, the last a slice of values; what a slice of values holds. Nothing turns while nothing that was there turns. No program's function is walked here. -/
namespace Go.Proofs.YtkcmakfmeioakaaGreat
open Go.RowKit

def bs (s : List UInt8) : ByteArray := ⟨s.toArray⟩
def I64 (n : Int) : Prop := -9223372036854775808 ≤ n ∧ n ≤ 9223372036854775807
mutual
/-- Five cells from o on in block b hold a value. -/
def VC (w : World) : Vl → Nat → Nat → Prop
  | .mk k n d s l, b, o => I64 k ∧ I64 n ∧ I64 d ∧ s.length ≤ maxLen ∧ w.cell? ⟨b, o, none⟩ = some (.int .i64 k) ∧ w.cell? ⟨b, o + 1, none⟩ = some (.int .i64 n) ∧ w.cell? ⟨b, o + 2, none⟩ = some (.int .i64 d) ∧ w.cell? ⟨b, o + 3, none⟩ = some (.string (bs s)) ∧
    ∃ ao cap, w.cell? ⟨b, o + 4, none⟩ = some (.slice ao l.length cap) ∧ l.length ≤ cap ∧ cap ≤ maxLen ∧ (ao = none → cap = 0) ∧ (0 < l.length → ∃ b' o', ao = some ⟨b', o', none⟩ ∧ VE w l b' o')
/-- Values one behind the other. -/
def VE (w : World) : List Vl → Nat → Nat → Prop
  | [], _, _ => True
  | v :: r, b, o => VC w v b o ∧ VE w r b (o + 5)
end
/-- A slice at ao, of capacity cap, holds the values l. -/
structure SlV (w : World) (ao : Option Addr) (l : List Vl) (cap : Nat) : Prop where
  le : l.length ≤ cap
  max : cap ≤ maxLen
  nil : ao = none → cap = 0
  at_ : 0 < l.length → ∃ b o, ao = some ⟨b, o, none⟩ ∧ VE w l b o
/-- A value as the model has it. -/
def vlv (x : Vl) (ao : Option Addr) (cap : Nat) : Value := .agg #[.int .i64 x.kd, .int .i64 x.nn, .int .i64 x.dd, .string (bs x.ss), .slice ao x.ll.length cap]
structure Vin (x : Vl) : Prop where
  k : I64 x.kd
  n : I64 x.nn
  d : I64 x.dd
  s : x.ss.length ≤ maxLen
def VX (w : World) (x : Vl) (v : Value) : Prop := Vin x ∧ ∃ ao cap, v = vlv x ao cap ∧ SlV w ao x.ll cap

theorem VC_of {w : World} {x : Vl} {b o : Nat} (h : VC w x b o) : Vin x ∧ w.cell? ⟨b, o, none⟩ = some (.int .i64 x.kd) ∧ w.cell? ⟨b, o + 1, none⟩ = some (.int .i64 x.nn) ∧ w.cell? ⟨b, o + 2, none⟩ = some (.int .i64 x.dd) ∧ w.cell? ⟨b, o + 3, none⟩ = some (.string (bs x.ss)) ∧ ∃ ao cap, w.cell? ⟨b, o + 4, none⟩ = some (.slice ao x.ll.length cap) ∧ SlV w ao x.ll cap := by
  cases x with
  | mk k n d s l =>
    unfold VC at h
    obtain ⟨h1, h2, h3, h4, c0, c1, c2, c3, ao, cap, c4, l1, l2, l3, l4⟩ := h
    exact ⟨⟨h1, h2, h3, h4⟩, c0, c1, c2, c3, ao, cap, c4, ⟨l1, l2, l3, l4⟩⟩
theorem VC_mk {w : World} {x : Vl} {b o : Nat} (hi : Vin x) (c0 : w.cell? ⟨b, o, none⟩ = some (.int .i64 x.kd)) (c1 : w.cell? ⟨b, o + 1, none⟩ = some (.int .i64 x.nn)) (c2 : w.cell? ⟨b, o + 2, none⟩ = some (.int .i64 x.dd)) (c3 : w.cell? ⟨b, o + 3, none⟩ = some (.string (bs x.ss)))
    {ao : Option Addr} {cap : Nat} (c4 : w.cell? ⟨b, o + 4, none⟩ = some (.slice ao x.ll.length cap)) (hs : SlV w ao x.ll cap) : VC w x b o := by
  cases x with
  | mk k n d s l =>
    unfold VC
    exact ⟨hi.k, hi.n, hi.d, hi.s, c0, c1, c2, c3, ao, cap, c4, hs.le, hs.max, hs.nil, hs.at_⟩
theorem VE_get {w : World} : ∀ {l : List Vl} {b o : Nat} (_ : VE w l b o) {i : Nat} {x : Vl} (_ : l[i]? = some x), VC w x b (o + i * 5)
  | [], _, _, _, i, x, hx => by simp at hx
  | v :: r, b, o, h, 0, x, hx => by
    unfold VE at h
    rw [List.getElem?_cons_zero] at hx
    cases hx
    simpa using h.1
  | v :: r, b, o, h, i + 1, x, hx => by
    unfold VE at h
    rw [List.getElem?_cons_succ] at hx
    have k := VE_get h.2 hx
    rwa [show o + 5 + i * 5 = o + (i + 1) * 5 by omega] at k
mutual
theorem VC_on {w w' : World} (hf : Fur w w') : ∀ {x : Vl} {b o : Nat}, VC w x b o → VC w' x b o
  | .mk k n d s l, b, o, h => by
    unfold VC at *
    obtain ⟨h1, h2, h3, h4, c0, c1, c2, c3, ao, cap, c4, l1, l2, l3, l4⟩ := h
    refine ⟨h1, h2, h3, h4, cellOn hf c0, cellOn hf c1, cellOn hf c2, cellOn hf c3, ao, cap, cellOn hf c4, l1, l2, l3, fun hp => ?_⟩
    obtain ⟨b', o', e, he⟩ := l4 hp
    exact ⟨b', o', e, VE_on hf he⟩
theorem VE_on {w w' : World} (hf : Fur w w') : ∀ {l : List Vl} {b o : Nat}, VE w l b o → VE w' l b o
  | [], _, _, _ => by unfold VE; trivial
  | v :: r, b, o, h => by
    unfold VE at *
    exact ⟨VC_on hf h.1, VE_on hf h.2⟩
end
theorem SlV.on {w w' : World} {ao : Option Addr} {l : List Vl} {cap : Nat} (h : SlV w ao l cap) (hf : Fur w w') : SlV w' ao l cap :=
  ⟨h.le, h.max, h.nil, fun hp => by obtain ⟨b, o, e, he⟩ := h.at_ hp; exact ⟨b, o, e, VE_on hf he⟩⟩
theorem VX.on {w w' : World} {x : Vl} {v : Value} (h : VX w x v) (hf : Fur w w') : VX w' x v := by
  obtain ⟨h1, ao, cap, e, hs⟩ := h
  exact ⟨h1, ao, cap, e, hs.on hf⟩
mutual
theorem VC_onw {w w' : World} (hf : Fuw w w') : ∀ {x : Vl} {b o : Nat}, VC w x b o → VC w' x b o
  | .mk k n d s l, b, o, h => by
    unfold VC at *
    obtain ⟨h1, h2, h3, h4, c0, c1, c2, c3, ao, cap, c4, l1, l2, l3, l4⟩ := h
    refine ⟨h1, h2, h3, h4, cellOnw hf c0, cellOnw hf c1, cellOnw hf c2, cellOnw hf c3, ao, cap, cellOnw hf c4, l1, l2, l3, fun hp => ?_⟩
    obtain ⟨b', o', e, he⟩ := l4 hp
    exact ⟨b', o', e, VE_onw hf he⟩
theorem VE_onw {w w' : World} (hf : Fuw w w') : ∀ {l : List Vl} {b o : Nat}, VE w l b o → VE w' l b o
  | [], _, _, _ => by unfold VE; trivial
  | v :: r, b, o, h => by
    unfold VE at *
    exact ⟨VC_onw hf h.1, VE_onw hf h.2⟩
end
theorem SlV.onw {w w' : World} {ao : Option Addr} {l : List Vl} {cap : Nat} (h : SlV w ao l cap) (hf : Fuw w w') : SlV w' ao l cap :=
  ⟨h.le, h.max, h.nil, fun hp => by obtain ⟨b, o, e, he⟩ := h.at_ hp; exact ⟨b, o, e, VE_onw hf he⟩⟩
theorem VX.onw {w w' : World} {x : Vl} {v : Value} (h : VX w x v) (hf : Fuw w w') : VX w' x v := by
  obtain ⟨h1, ao, cap, e, hs⟩ := h
  exact ⟨h1, ao, cap, e, hs.onw hf⟩
/-- An element of a slice. -/
theorem SlV.get {w : World} {ao : Option Addr} {l : List Vl} {cap : Nat} (h : SlV w ao l cap) {i : Nat} (hi : i < l.length) : ∃ b o, ao = some ⟨b, o, none⟩ ∧ VC w l[i] b (o + i * 5) := by
  obtain ⟨b, o, e, he⟩ := h.at_ (by omega)
  exact ⟨b, o, e, VE_get he (List.getElem?_eq_getElem hi)⟩
/-- Cells that hold a value, as the value. -/
theorem VC.vx {w : World} {x : Vl} {b o : Nat} (h : VC w x b o) : ∃ ao cap, w.cell? ⟨b, o, none⟩ = some (.int .i64 x.kd) ∧ w.cell? ⟨b, o + 1, none⟩ = some (.int .i64 x.nn) ∧ w.cell? ⟨b, o + 2, none⟩ = some (.int .i64 x.dd) ∧ w.cell? ⟨b, o + 3, none⟩ = some (.string (bs x.ss)) ∧ w.cell? ⟨b, o + 4, none⟩ = some (.slice ao x.ll.length cap) ∧ VX w x (vlv x ao cap) := by
  obtain ⟨hi, c0, c1, c2, c3, ao, cap, c4, hs⟩ := VC_of h
  exact ⟨ao, cap, c0, c1, c2, c3, c4, hi, ao, cap, rfl, hs⟩

/-- A value in a block of its own. -/
def Bx (W : World) (B : Nat) (x : Vl) (ao : Option Addr) (cap : Nat) : Prop := W.heap[B]? = some (.cells #[.int .i64 x.kd, .int .i64 x.nn, .int .i64 x.dd, .string (bs x.ss), .slice ao x.ll.length cap] 55 (0, 0))
theorem Bx.c0 {W : World} {B : Nat} {x : Vl} {ao : Option Addr} {cap : Nat} (h : Bx W B x ao cap) : W.cell? ⟨B, 0, none⟩ = some (.int .i64 x.kd) := by unfold Bx at h; simp [World.cell?, h]
theorem Bx.c1 {W : World} {B : Nat} {x : Vl} {ao : Option Addr} {cap : Nat} (h : Bx W B x ao cap) : W.cell? ⟨B, 1, none⟩ = some (.int .i64 x.nn) := by unfold Bx at h; simp [World.cell?, h]
theorem Bx.c2 {W : World} {B : Nat} {x : Vl} {ao : Option Addr} {cap : Nat} (h : Bx W B x ao cap) : W.cell? ⟨B, 2, none⟩ = some (.int .i64 x.dd) := by unfold Bx at h; simp [World.cell?, h]
theorem Bx.c3 {W : World} {B : Nat} {x : Vl} {ao : Option Addr} {cap : Nat} (h : Bx W B x ao cap) : W.cell? ⟨B, 3, none⟩ = some (.string (bs x.ss)) := by unfold Bx at h; simp [World.cell?, h]
theorem Bx.c4 {W : World} {B : Nat} {x : Vl} {ao : Option Addr} {cap : Nat} (h : Bx W B x ao cap) : W.cell? ⟨B, 4, none⟩ = some (.slice ao x.ll.length cap) := by unfold Bx at h; simp [World.cell?, h]
theorem Bx.f {W : World} {B : Nat} {x : Vl} {ao : Option Addr} {cap : Nat} (h : Bx W B x ao cap) (j : Nat) : W.frozen? ⟨B, j, none⟩ = false := by unfold Bx at h; simp [World.frozen?, h]
theorem Bx.lt {W : World} {B : Nat} {x : Vl} {ao : Option Addr} {cap : Nat} (h : Bx W B x ao cap) : B < W.heap.size := by
  unfold Bx at h
  rcases Nat.lt_or_ge B W.heap.size with k | k
  · exact k
  · rw [Array.getElem?_eq_none k] at h; cases h
theorem Bx.on {W W' : World} {B : Nat} {x : Vl} {ao : Option Addr} {cap : Nat} (h : Bx W B x ao cap) (hf : Fur W W') : Bx W' B x ao cap := by
  have k := h.lt
  unfold Bx at *
  rw [Below.block hf.b B k]; exact h
theorem Bx.onw {W W' : World} {B : Nat} {x : Vl} {ao : Option Addr} {cap : Nat} (h : Bx W B x ao cap) (hf : Fuw W W') : Bx W' B x ao cap := by
  have k := h.lt
  unfold Bx at *
  rw [Below.block hf B k]; exact h
/-- A value boxed. -/
theorem bx1 (w : World) (x : Vl) (ao : Option Addr) (cap : Nat) :
    Bx (w.alloc (.cells #[.int .i64 x.kd, .int .i64 x.nn, .int .i64 x.dd, .string (bs x.ss), .slice ao x.ll.length cap] 55)) w.heap.size x ao cap ∧ Fur w (w.alloc (.cells #[.int .i64 x.kd, .int .i64 x.nn, .int .i64 x.dd, .string (bs x.ss), .slice ao x.ll.length cap] 55)) := by
  refine ⟨?_, (Fur.refl w).alloc _⟩
  show (w.heap.push _)[w.heap.size]? = _
  rw [Array.getElem?_push, if_pos rfl]
end Go.Proofs.YtkcmakfmeioakaaGreat

/-! Graphs in memory: strings, properties, nodes and edges as cells, slices of them; blocks that a call has made. Nothing turns while nothing that was there turns. No program's function is walked here. -/
namespace Go.Proofs.YtkcmakfmeioakaaGreat
open Go.RowKit

/-- A slice at ao, of capacity cap, holds the elements l, each of size cells that P tells. -/
structure Sl {α : Type} (size : Nat) (P : World → α → Nat → Nat → Prop) (w : World) (ao : Option Addr) (l : List α) (cap : Nat) : Prop where
  le : l.length ≤ cap
  max : cap ≤ maxLen
  nil : ao = none → cap = 0
  at_ : 0 < l.length → ∃ b o, ao = some ⟨b, o, none⟩ ∧ ∀ (i : Nat) (h : i < l.length), P w l[i] b (o + i * size)
section
variable {α : Type} {size : Nat} {P : World → α → Nat → Nat → Prop} {w w' : World} {ao : Option Addr} {l : List α} {cap : Nat}
theorem Sl.onP (h : Sl size P w ao l cap) (hP : ∀ x b o, P w x b o → P w' x b o) : Sl size P w' ao l cap :=
  ⟨h.le, h.max, h.nil, fun hp => by obtain ⟨b, o, e, he⟩ := h.at_ hp; exact ⟨b, o, e, fun i hi => hP _ _ _ (he i hi)⟩⟩
theorem Sl.get (h : Sl size P w ao l cap) {i : Nat} (hi : i < l.length) : ∃ b o, ao = some ⟨b, o, none⟩ ∧ P w l[i] b (o + i * size) := by
  obtain ⟨b, o, e, he⟩ := h.at_ (by omega)
  exact ⟨b, o, e, he i hi⟩
theorem Sl.get2 (h : Sl size P w ao l cap) {i j : Nat} (hi : i < l.length) (hj : j < l.length) : ∃ b o, ao = some ⟨b, o, none⟩ ∧ P w l[i] b (o + i * size) ∧ P w l[j] b (o + j * size) := by
  obtain ⟨b, o, e, he⟩ := h.at_ (by omega)
  exact ⟨b, o, e, he i hi, he j hj⟩
theorem Sl.empty (w : World) : Sl size P w none [] 0 := ⟨Nat.le_refl _, Nat.zero_le _, fun _ => rfl, fun h => absurd h (Nat.lt_irrefl 0)⟩
theorem Sl.len (h : Sl size P w ao l cap) : l.length ≤ 9223372036854775807 := by
  have := h.le; have := h.max; unfold maxLen at this; omega
theorem Sl.cap_ (h : Sl size P w ao l cap) : cap ≤ 9223372036854775807 := by
  have := h.max; unfold maxLen at this; omega
end
/-- A string's cell. -/
def StC (w : World) (s : List UInt8) (b o : Nat) : Prop := s.length ≤ maxLen ∧ w.cell? ⟨b, o, none⟩ = some (.string (bs s))
/-- A property's six cells. -/
def PC (w : World) (p : Pp) (b o : Nat) : Prop := p.k.length ≤ maxLen ∧ w.cell? ⟨b, o, none⟩ = some (.string (bs p.k)) ∧ VC w p.v b (o + 1)
abbrev SlS := Sl 1 StC
abbrev SlP := Sl 6 PC
/-- A node's three cells. -/
def NC (w : World) (n : Nd) (b o : Nat) : Prop := I64 n.id ∧ w.cell? ⟨b, o, none⟩ = some (.int .i64 n.id) ∧
  (∃ ao cap, w.cell? ⟨b, o + 1, none⟩ = some (.slice ao n.ls.length cap) ∧ SlS w ao n.ls cap) ∧ ∃ ao cap, w.cell? ⟨b, o + 2, none⟩ = some (.slice ao n.ps.length cap) ∧ SlP w ao n.ps cap
/-- An edge's five cells. -/
def EC (w : World) (e : Ed) (b o : Nat) : Prop := I64 e.id ∧ I64 e.fr ∧ I64 e.to ∧ e.ty.length ≤ maxLen ∧ w.cell? ⟨b, o, none⟩ = some (.int .i64 e.id) ∧ w.cell? ⟨b, o + 1, none⟩ = some (.int .i64 e.fr) ∧ w.cell? ⟨b, o + 2, none⟩ = some (.int .i64 e.to) ∧
  w.cell? ⟨b, o + 3, none⟩ = some (.string (bs e.ty)) ∧ ∃ ao cap, w.cell? ⟨b, o + 4, none⟩ = some (.slice ao e.ps.length cap) ∧ SlP w ao e.ps cap
abbrev SlN := Sl 3 NC
abbrev SlE := Sl 5 EC
section
variable {w w' : World} (hf : Fuw w w')
include hf
theorem StC_on {s : List UInt8} {b o : Nat} (h : StC w s b o) : StC w' s b o := ⟨h.1, cellOnw hf h.2⟩
theorem PC_on {p : Pp} {b o : Nat} (h : PC w p b o) : PC w' p b o := ⟨h.1, cellOnw hf h.2.1, VC_onw hf h.2.2⟩
theorem slS_on {ao : Option Addr} {l : List (List UInt8)} {cap : Nat} (h : SlS w ao l cap) : SlS w' ao l cap := h.onP fun _ _ _ k => StC_on hf k
theorem slP_on {ao : Option Addr} {l : List Pp} {cap : Nat} (h : SlP w ao l cap) : SlP w' ao l cap := h.onP fun _ _ _ k => PC_on hf k
theorem NC_on {n : Nd} {b o : Nat} (h : NC w n b o) : NC w' n b o := by
  obtain ⟨h1, h2, ⟨a, c, h3, h4⟩, a', c', h5, h6⟩ := h
  exact ⟨h1, cellOnw hf h2, ⟨a, c, cellOnw hf h3, slS_on hf h4⟩, a', c', cellOnw hf h5, slP_on hf h6⟩
theorem EC_on {e : Ed} {b o : Nat} (h : EC w e b o) : EC w' e b o := by
  obtain ⟨h1, h2, h3, h4, c0, c1, c2, c3, a, c, c4, h5⟩ := h
  exact ⟨h1, h2, h3, h4, cellOnw hf c0, cellOnw hf c1, cellOnw hf c2, cellOnw hf c3, a, c, cellOnw hf c4, slP_on hf h5⟩
theorem slN_on {ao : Option Addr} {l : List Nd} {cap : Nat} (h : SlN w ao l cap) : SlN w' ao l cap := h.onP fun _ _ _ k => NC_on hf k
theorem slE_on {ao : Option Addr} {l : List Ed} {cap : Nat} (h : SlE w ao l cap) : SlE w' ao l cap := h.onP fun _ _ _ k => EC_on hf k
end
/-- A graph as the model has it. -/
def grv (g : Gr) (an ae : Option Addr) (cn ce : Nat) : Value := .agg #[.slice an g.ns.length cn, .slice ae g.es.length ce, .int .i64 g.nn, .int .i64 g.ne]
structure GIn (w : World) (g : Gr) (an ae : Option Addr) (cn ce : Nat) : Prop where
  n : SlN w an g.ns cn
  e : SlE w ae g.es ce
  i1 : I64 g.nn
  i2 : I64 g.ne
theorem GIn.on {w w' : World} {g : Gr} {an ae : Option Addr} {cn ce : Nat} (h : GIn w g an ae cn ce) (hf : Fuw w w') : GIn w' g an ae cn ce := ⟨slN_on hf h.n, slE_on hf h.e, h.i1, h.i2⟩
/-- A node, an edge as the model has them. -/
def ndv (n : Nd) (al ap : Option Addr) (cl cp : Nat) : Value := .agg #[.int .i64 n.id, .slice al n.ls.length cl, .slice ap n.ps.length cp]
def edv (e : Ed) (ap : Option Addr) (cp : Nat) : Value := .agg #[.int .i64 e.id, .int .i64 e.fr, .int .i64 e.to, .string (bs e.ty), .slice ap e.ps.length cp]

/-- Block B holds just these cells. -/
def Bk (w : World) (B : Nat) (cs : Array Value) (t : TypeId) : Prop := w.heap[B]? = some (.cells cs t (0, 0))
section
variable {w w' : World} {B : Nat} {cs : Array Value} {t : TypeId}
theorem Bk.lt (h : Bk w B cs t) : B < w.heap.size := by
  unfold Bk at h
  rcases Nat.lt_or_ge B w.heap.size with k | k
  · exact k
  · rw [Array.getElem?_eq_none k] at h; cases h
theorem Bk.on (h : Bk w B cs t) (hf : Fuw w w') : Bk w' B cs t := by
  have k := h.lt
  unfold Bk at *
  rw [Below.block hf B k]; exact h
theorem Bk.below (h : Bk w B cs t) {n : Nat} (hf : Below n w w') (hB : B < n) : Bk w' B cs t := by
  unfold Bk at *
  rw [Below.block hf B hB]; exact h
theorem Bk.c (h : Bk w B cs t) (j : Nat) : w.cell? ⟨B, j, none⟩ = cs[j]? := cell_of_row w B j cs t (0, 0) h
theorem Bk.f (h : Bk w B cs t) (j : Nat) : w.frozen? ⟨B, j, none⟩ = false := by unfold Bk at h; simp [World.frozen?, h]
theorem Bk.new (w : World) (cs : Array Value) (t : TypeId) : Bk (w.alloc (.cells cs t)) w.heap.size cs t := by
  show (w.heap.push _)[w.heap.size]? = _
  rw [Array.getElem?_push, if_pos rfl]
theorem Bk.set_ (h : Bk w B cs t) (i : Nat) (u : Value) : Bk (w.setCell ⟨B, i, none⟩ u) B (cs.setIfInBounds i u) t := by
  unfold Bk at h ⊢
  simp [World.setCell, Array.getElem?_modify, h]
theorem Bk.far (h : Bk w B cs t) {p : Addr} (hp : B ≠ p.block) (u : Value) : Bk (w.setCell p u) B cs t := (Below.heap_setCell w p u B hp).trans h
end
theorem fuwA (w : World) (o : Obj) : Fuw w (w.alloc o) := (Fuw.refl w).alloc o
theorem fuwS {w w1 : World} {g j : Nat} {u : Value} (hf : Fuw w w1) (hg : w.heap.size ≤ g) : Fuw w (w1.setCell ⟨g, j, none⟩ u) := Below.setCell hf hg u
theorem fuw_dr (w : World) (n : Nat) : Fuw w (w.drewN n) := ⟨rfl, rfl, rfl, Nat.le_refl _, fun _ _ => rfl⟩
theorem bs_size (s : List UInt8) : (bs s).size = s.length := by simp [bs, ByteArray.size]
theorem bs_data (s : List UInt8) : (bs s).data.toList = s := by simp [bs]
theorem bs_of (s : ByteArray) : s = bs s.data.toList := by simp [bs]
end Go.Proofs.YtkcmakfmeioakaaGreat
