/-
  FrQ; Vx: texts of one kind in one file; each part says what it holds.
-/
import Derived.Test.YteonkiajgfkieaaGreatDoorM04
import Derived.Test.YteonkiajgfkieaaGreatDoorValM

/-! Fractions in blocks of their own while a call runs: their cells read as they did as long as nothing that was there turns. No program's function is walked here. -/
namespace Go.Proofs.YteonkiajgfkieaaGreatDoor
open Go.RowKit

/-- A fraction lies in block B. -/
def Box (W : World) (B : Nat) (n d : Int) : Prop := W.heap[B]? = some (.cells #[.int .i64 n, .int .i64 d] 37 (0, 0))
theorem Box.c0 {W : World} {B : Nat} {n d : Int} (h : Box W B n d) : W.cell? ⟨B, 0, none⟩ = some (.int .i64 n) := by unfold Box at h; simp [World.cell?, h]
theorem Box.c1 {W : World} {B : Nat} {n d : Int} (h : Box W B n d) : W.cell? ⟨B, 1, none⟩ = some (.int .i64 d) := by unfold Box at h; simp [World.cell?, h]
theorem Box.f0 {W : World} {B : Nat} {n d : Int} (h : Box W B n d) (j : Nat) : W.frozen? ⟨B, j, none⟩ = false := by unfold Box at h; simp [World.frozen?, h]
theorem Box.lt {W : World} {B : Nat} {n d : Int} (h : Box W B n d) : B < W.heap.size := by
  unfold Box at h
  rcases Nat.lt_or_ge B W.heap.size with k | k
  · exact k
  · rw [Array.getElem?_eq_none k] at h; cases h
theorem Box.on {W W' : World} {B : Nat} {n d : Int} (h : Box W B n d) (hf : Fur W W') : Box W' B n d := by
  have k := h.lt
  unfold Box at *
  rw [Below.block hf.b B k]; exact h
theorem Box.drewN {W : World} {B : Nat} {n d : Int} (h : Box W B n d) (q : Nat) : Box (W.drewN q) B n d := h
/-- The world behind three boxes: two arguments and a result. -/
theorem box3 (w : World) (a b c d e f : Int) (t : TypeId) (ht : t = 37) :
    Box (((w.alloc (.cells #[.int .i64 a, .int .i64 b] t)).alloc (.cells #[.int .i64 c, .int .i64 d] t)).alloc (.cells #[.int .i64 e, .int .i64 f] t)) w.heap.size a b ∧
    Box (((w.alloc (.cells #[.int .i64 a, .int .i64 b] t)).alloc (.cells #[.int .i64 c, .int .i64 d] t)).alloc (.cells #[.int .i64 e, .int .i64 f] t)) (w.heap.size + 1) c d ∧
    Box (((w.alloc (.cells #[.int .i64 a, .int .i64 b] t)).alloc (.cells #[.int .i64 c, .int .i64 d] t)).alloc (.cells #[.int .i64 e, .int .i64 f] t)) (w.heap.size + 1 + 1) e f ∧
    Fur w (((w.alloc (.cells #[.int .i64 a, .int .i64 b] t)).alloc (.cells #[.int .i64 c, .int .i64 d] t)).alloc (.cells #[.int .i64 e, .int .i64 f] t)) := by
  subst ht
  have p0 : Box (w.alloc (.cells #[.int .i64 a, .int .i64 b] 37)) w.heap.size a b := by
    show (w.heap.push _)[w.heap.size]? = _
    rw [Array.getElem?_push, if_pos rfl]
  have f0 : Fur w (w.alloc (.cells #[.int .i64 a, .int .i64 b] 37)) := (Fur.refl w).alloc _
  have s0 : (w.alloc (.cells #[.int .i64 a, .int .i64 b] 37)).heap.size = w.heap.size + 1 := by simp
  generalize w.alloc (.cells #[.int .i64 a, .int .i64 b] 37) = w1 at *
  have p1 : Box (w1.alloc (.cells #[.int .i64 c, .int .i64 d] 37)) (w.heap.size + 1) c d := by
    show (w1.heap.push _)[w.heap.size + 1]? = _
    rw [← s0, Array.getElem?_push, if_pos rfl]
  have f1 : Fur w1 (w1.alloc (.cells #[.int .i64 c, .int .i64 d] 37)) := (Fur.refl w1).alloc _
  have s1 : (w1.alloc (.cells #[.int .i64 c, .int .i64 d] 37)).heap.size = w.heap.size + 1 + 1 := by simp [s0]
  generalize w1.alloc (.cells #[.int .i64 c, .int .i64 d] 37) = w2 at *
  have p2 : Box (w2.alloc (.cells #[.int .i64 e, .int .i64 f] 37)) (w.heap.size + 1 + 1) e f := by
    show (w2.heap.push _)[w.heap.size + 1 + 1]? = _
    rw [← s1, Array.getElem?_push, if_pos rfl]
  have f2 : Fur w2 (w2.alloc (.cells #[.int .i64 e, .int .i64 f] 37)) := (Fur.refl w2).alloc _
  exact ⟨(p0.on f1).on f2, p1.on f2, p2, (f0.trans f1).trans f2⟩
theorem cellOn {w w' : World} (hf : Fur w w') {p : Addr} {v : Value} (h : w.cell? p = some v) : w'.cell? p = some v := by
  rw [Below.cell hf.b (World.block_lt_of_cell? w p h)]; exact h
theorem cellOnw {w w' : World} (hf : Fuw w w') {p : Addr} {v : Value} (h : w.cell? p = some v) : w'.cell? p = some v := by
  rw [Below.cell hf (World.block_lt_of_cell? w p h)]; exact h
end Go.Proofs.YteonkiajgfkieaaGreatDoor

/-! Values in memory: five cells, the last a slice of values; what a slice of values holds. Nothing turns while nothing that was there turns. No program's function is walked here. -/
namespace Go.Proofs.YteonkiajgfkieaaGreatDoor
open Go.RowKit

def bs (s : List UInt8) : ByteArray := ⟨s.toArray⟩
def I64 (n : Int) : Prop := -9223372036854775808 ≤ n ∧ n ≤ 9223372036854775807
mutual
/-- Five cells from o on in block b hold a value. -/
def VC (w : World) : Vl → Nat → Nat → Prop
  | .mk k n d s l, b, o => I64 k ∧ I64 n ∧ I64 d ∧ s.length ≤ maxLen ∧ w.cell? ⟨b, o, none⟩ = some (.int .i64 k) ∧ w.cell? ⟨b, o + 1, none⟩ = some (.int .i64 n) ∧ w.cell? ⟨b, o + 2, none⟩ = some (.int .i64 d) ∧ w.cell? ⟨b, o + 3, none⟩ = some (.string (bs s)) ∧
    ∃ ao cap, w.cell? ⟨b, o + 4, none⟩ = some (.slice ao l.length cap) ∧ l.length ≤ cap ∧ cap ≤ maxLen ∧ (ao = none → cap = 0) ∧ (0 < l.length → ∃ b' o', ao = some ⟨b', o', none⟩ ∧ VE w l b' o')
/-- Values one behind the other. -/
def VE (w : World) : List Vl → Nat → Nat → Prop
  | [], _, _ => True
  | v :: r, b, o => VC w v b o ∧ VE w r b (o + 5)
end
/-- A slice at ao, of capacity cap, holds the values l. -/
structure SlV (w : World) (ao : Option Addr) (l : List Vl) (cap : Nat) : Prop where
  le : l.length ≤ cap
  max : cap ≤ maxLen
  nil : ao = none → cap = 0
  at_ : 0 < l.length → ∃ b o, ao = some ⟨b, o, none⟩ ∧ VE w l b o
/-- A value as the model has it. -/
def vlv (x : Vl) (ao : Option Addr) (cap : Nat) : Value := .agg #[.int .i64 x.kd, .int .i64 x.nn, .int .i64 x.dd, .string (bs x.ss), .slice ao x.ll.length cap]
structure Vin (x : Vl) : Prop where
  k : I64 x.kd
  n : I64 x.nn
  d : I64 x.dd
  s : x.ss.length ≤ maxLen
def VX (w : World) (x : Vl) (v : Value) : Prop := Vin x ∧ ∃ ao cap, v = vlv x ao cap ∧ SlV w ao x.ll cap

theorem VC_of {w : World} {x : Vl} {b o : Nat} (h : VC w x b o) : Vin x ∧ w.cell? ⟨b, o, none⟩ = some (.int .i64 x.kd) ∧ w.cell? ⟨b, o + 1, none⟩ = some (.int .i64 x.nn) ∧ w.cell? ⟨b, o + 2, none⟩ = some (.int .i64 x.dd) ∧ w.cell? ⟨b, o + 3, none⟩ = some (.string (bs x.ss)) ∧ ∃ ao cap, w.cell? ⟨b, o + 4, none⟩ = some (.slice ao x.ll.length cap) ∧ SlV w ao x.ll cap := by
  cases x with
  | mk k n d s l =>
    unfold VC at h
    obtain ⟨h1, h2, h3, h4, c0, c1, c2, c3, ao, cap, c4, l1, l2, l3, l4⟩ := h
    exact ⟨⟨h1, h2, h3, h4⟩, c0, c1, c2, c3, ao, cap, c4, ⟨l1, l2, l3, l4⟩⟩
theorem VC_mk {w : World} {x : Vl} {b o : Nat} (hi : Vin x) (c0 : w.cell? ⟨b, o, none⟩ = some (.int .i64 x.kd)) (c1 : w.cell? ⟨b, o + 1, none⟩ = some (.int .i64 x.nn)) (c2 : w.cell? ⟨b, o + 2, none⟩ = some (.int .i64 x.dd)) (c3 : w.cell? ⟨b, o + 3, none⟩ = some (.string (bs x.ss)))
    {ao : Option Addr} {cap : Nat} (c4 : w.cell? ⟨b, o + 4, none⟩ = some (.slice ao x.ll.length cap)) (hs : SlV w ao x.ll cap) : VC w x b o := by
  cases x with
  | mk k n d s l =>
    unfold VC
    exact ⟨hi.k, hi.n, hi.d, hi.s, c0, c1, c2, c3, ao, cap, c4, hs.le, hs.max, hs.nil, hs.at_⟩
theorem VE_get {w : World} : ∀ {l : List Vl} {b o : Nat} (_ : VE w l b o) {i : Nat} {x : Vl} (_ : l[i]? = some x), VC w x b (o + i * 5)
  | [], _, _, _, i, x, hx => by simp at hx
  | v :: r, b, o, h, 0, x, hx => by
    unfold VE at h
    rw [List.getElem?_cons_zero] at hx
    cases hx
    simpa using h.1
  | v :: r, b, o, h, i + 1, x, hx => by
    unfold VE at h
    rw [List.getElem?_cons_succ] at hx
    have k := VE_get h.2 hx
    rwa [show o + 5 + i * 5 = o + (i + 1) * 5 by omega] at k
mutual
theorem VC_on {w w' : World} (hf : Fur w w') : ∀ {x : Vl} {b o : Nat}, VC w x b o → VC w' x b o
  | .mk k n d s l, b, o, h => by
    unfold VC at *
    obtain ⟨h1, h2, h3, h4, c0, c1, c2, c3, ao, cap, c4, l1, l2, l3, l4⟩ := h
    refine ⟨h1, h2, h3, h4, cellOn hf c0, cellOn hf c1, cellOn hf c2, cellOn hf c3, ao, cap, cellOn hf c4, l1, l2, l3, fun hp => ?_⟩
    obtain ⟨b', o', e, he⟩ := l4 hp
    exact ⟨b', o', e, VE_on hf he⟩
theorem VE_on {w w' : World} (hf : Fur w w') : ∀ {l : List Vl} {b o : Nat}, VE w l b o → VE w' l b o
  | [], _, _, _ => by unfold VE; trivial
  | v :: r, b, o, h => by
    unfold VE at *
    exact ⟨VC_on hf h.1, VE_on hf h.2⟩
end
theorem SlV.on {w w' : World} {ao : Option Addr} {l : List Vl} {cap : Nat} (h : SlV w ao l cap) (hf : Fur w w') : SlV w' ao l cap :=
  ⟨h.le, h.max, h.nil, fun hp => by obtain ⟨b, o, e, he⟩ := h.at_ hp; exact ⟨b, o, e, VE_on hf he⟩⟩
theorem VX.on {w w' : World} {x : Vl} {v : Value} (h : VX w x v) (hf : Fur w w') : VX w' x v := by
  obtain ⟨h1, ao, cap, e, hs⟩ := h
  exact ⟨h1, ao, cap, e, hs.on hf⟩
mutual
theorem VC_onw {w w' : World} (hf : Fuw w w') : ∀ {x : Vl} {b o : Nat}, VC w x b o → VC w' x b o
  | .mk k n d s l, b, o, h => by
    unfold VC at *
    obtain ⟨h1, h2, h3, h4, c0, c1, c2, c3, ao, cap, c4, l1, l2, l3, l4⟩ := h
    refine ⟨h1, h2, h3, h4, cellOnw hf c0, cellOnw hf c1, cellOnw hf c2, cellOnw hf c3, ao, cap, cellOnw hf c4, l1, l2, l3, fun hp => ?_⟩
    obtain ⟨b', o', e, he⟩ := l4 hp
    exact ⟨b', o', e, VE_onw hf he⟩
theorem VE_onw {w w' : World} (hf : Fuw w w') : ∀ {l : List Vl} {b o : Nat}, VE w l b o → VE w' l b o
  | [], _, _, _ => by unfold VE; trivial
  | v :: r, b, o, h => by
    unfold VE at *
    exact ⟨VC_onw hf h.1, VE_onw hf h.2⟩
end
theorem SlV.onw {w w' : World} {ao : Option Addr} {l : List Vl} {cap : Nat} (h : SlV w ao l cap) (hf : Fuw w w') : SlV w' ao l cap :=
  ⟨h.le, h.max, h.nil, fun hp => by obtain ⟨b, o, e, he⟩ := h.at_ hp; exact ⟨b, o, e, VE_onw hf he⟩⟩
theorem VX.onw {w w' : World} {x : Vl} {v : Value} (h : VX w x v) (hf : Fuw w w') : VX w' x v := by
  obtain ⟨h1, ao, cap, e, hs⟩ := h
  exact ⟨h1, ao, cap, e, hs.onw hf⟩
/-- An element of a slice. -/
theorem SlV.get {w : World} {ao : Option Addr} {l : List Vl} {cap : Nat} (h : SlV w ao l cap) {i : Nat} (hi : i < l.length) : ∃ b o, ao = some ⟨b, o, none⟩ ∧ VC w l[i] b (o + i * 5) := by
  obtain ⟨b, o, e, he⟩ := h.at_ (by omega)
  exact ⟨b, o, e, VE_get he (List.getElem?_eq_getElem hi)⟩
/-- Cells that hold a value, as the value. -/
theorem VC.vx {w : World} {x : Vl} {b o : Nat} (h : VC w x b o) : ∃ ao cap, w.cell? ⟨b, o, none⟩ = some (.int .i64 x.kd) ∧ w.cell? ⟨b, o + 1, none⟩ = some (.int .i64 x.nn) ∧ w.cell? ⟨b, o + 2, none⟩ = some (.int .i64 x.dd) ∧ w.cell? ⟨b, o + 3, none⟩ = some (.string (bs x.ss)) ∧ w.cell? ⟨b, o + 4, none⟩ = some (.slice ao x.ll.length cap) ∧ VX w x (vlv x ao cap) := by
  obtain ⟨hi, c0, c1, c2, c3, ao, cap, c4, hs⟩ := VC_of h
  exact ⟨ao, cap, c0, c1, c2, c3, c4, hi, ao, cap, rfl, hs⟩

/-- A value in a block of its own. -/
def Bx (W : World) (B : Nat) (x : Vl) (ao : Option Addr) (cap : Nat) : Prop := W.heap[B]? = some (.cells #[.int .i64 x.kd, .int .i64 x.nn, .int .i64 x.dd, .string (bs x.ss), .slice ao x.ll.length cap] 34 (0, 0))
theorem Bx.c0 {W : World} {B : Nat} {x : Vl} {ao : Option Addr} {cap : Nat} (h : Bx W B x ao cap) : W.cell? ⟨B, 0, none⟩ = some (.int .i64 x.kd) := by unfold Bx at h; simp [World.cell?, h]
theorem Bx.c1 {W : World} {B : Nat} {x : Vl} {ao : Option Addr} {cap : Nat} (h : Bx W B x ao cap) : W.cell? ⟨B, 1, none⟩ = some (.int .i64 x.nn) := by unfold Bx at h; simp [World.cell?, h]
theorem Bx.c2 {W : World} {B : Nat} {x : Vl} {ao : Option Addr} {cap : Nat} (h : Bx W B x ao cap) : W.cell? ⟨B, 2, none⟩ = some (.int .i64 x.dd) := by unfold Bx at h; simp [World.cell?, h]
theorem Bx.c3 {W : World} {B : Nat} {x : Vl} {ao : Option Addr} {cap : Nat} (h : Bx W B x ao cap) : W.cell? ⟨B, 3, none⟩ = some (.string (bs x.ss)) := by unfold Bx at h; simp [World.cell?, h]
theorem Bx.c4 {W : World} {B : Nat} {x : Vl} {ao : Option Addr} {cap : Nat} (h : Bx W B x ao cap) : W.cell? ⟨B, 4, none⟩ = some (.slice ao x.ll.length cap) := by unfold Bx at h; simp [World.cell?, h]
theorem Bx.f {W : World} {B : Nat} {x : Vl} {ao : Option Addr} {cap : Nat} (h : Bx W B x ao cap) (j : Nat) : W.frozen? ⟨B, j, none⟩ = false := by unfold Bx at h; simp [World.frozen?, h]
theorem Bx.lt {W : World} {B : Nat} {x : Vl} {ao : Option Addr} {cap : Nat} (h : Bx W B x ao cap) : B < W.heap.size := by
  unfold Bx at h
  rcases Nat.lt_or_ge B W.heap.size with k | k
  · exact k
  · rw [Array.getElem?_eq_none k] at h; cases h
theorem Bx.on {W W' : World} {B : Nat} {x : Vl} {ao : Option Addr} {cap : Nat} (h : Bx W B x ao cap) (hf : Fur W W') : Bx W' B x ao cap := by
  have k := h.lt
  unfold Bx at *
  rw [Below.block hf.b B k]; exact h
theorem Bx.onw {W W' : World} {B : Nat} {x : Vl} {ao : Option Addr} {cap : Nat} (h : Bx W B x ao cap) (hf : Fuw W W') : Bx W' B x ao cap := by
  have k := h.lt
  unfold Bx at *
  rw [Below.block hf B k]; exact h
/-- A value boxed. -/
theorem bx1 (w : World) (x : Vl) (ao : Option Addr) (cap : Nat) :
    Bx (w.alloc (.cells #[.int .i64 x.kd, .int .i64 x.nn, .int .i64 x.dd, .string (bs x.ss), .slice ao x.ll.length cap] 34)) w.heap.size x ao cap ∧ Fur w (w.alloc (.cells #[.int .i64 x.kd, .int .i64 x.nn, .int .i64 x.dd, .string (bs x.ss), .slice ao x.ll.length cap] 34)) := by
  refine ⟨?_, (Fur.refl w).alloc _⟩
  show (w.heap.push _)[w.heap.size]? = _
  rw [Array.getElem?_push, if_pos rfl]
end Go.Proofs.YteonkiajgfkieaaGreatDoor
