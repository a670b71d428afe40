/-
  FrR; FrQ; Vx; LvA: texts of one kind in one file; each part says what it holds.
-/
import Derived.Test.YtenmideffecdnaaGreatDoorGa
import Derived.Laws.ResultCell
import Derived.Deep.RegionHeld3

/-! How a function that gives back a fraction and a bool ends: the result lies in a cell of its own. No program's function is walked here. -/
namespace Go.Proofs.YtenmideffecdnaaGreatDoor
open Go.RowKit

theorem load_frac (w : World) (b : Nat) (n d : Int) (h0 : w.cell? ⟨b, 0, none⟩ = some (.int .i64 n)) (h1 : w.cell? ⟨b, 1, none⟩ = some (.int .i64 d)) :
    (loadVar 28 ⟨b, 0, none⟩).run Tryz.prog w = .ok (.agg #[.int .i64 n, .int .i64 d]) w := by
  go_simp
theorem fr_ret {fn : Func} {p u : Tmp} (hres : fn.results = #[.cell p 28, .tmp u]) {tmps : Array Value} {b : Nat} {n d : Int} {c : Bool} {w : World} {Q : Ending → World → Prop}
    (hp : tmps.getD p undef = .pointer (some ⟨b, 0, none⟩)) (hu : tmps.getD u undef = .bool c)
    (h0 : w.cell? ⟨b, 0, none⟩ = some (.int .i64 n)) (h1 : w.cell? ⟨b, 1, none⟩ = some (.int .i64 d))
    (hQ : Q (.returned (.tuple #[.agg #[.int .i64 n, .int .i64 d], .bool c])) w) : bodyPost Tryz.prog fn Q Exit.ret { tmps := tmps, defers := [] } w := by
  refine bodyPost_ret (v := .tuple #[.agg #[.int .i64 n, .int .i64 d], .bool c]) ?_ rfl hQ
  rw [results_cell_tmp hres, hp, hu]
  have e : (asAddr (.pointer (some ⟨b, 0, none⟩))).run Tryz.prog w = .ok ⟨b, 0, none⟩ w := by go_simp
  rw [e]
  simp only [Result.andThen]
  rw [load_frac w b n d h0 h1]
/-- A fraction in a block of its own. -/
theorem cell_new (w : World) (a b : Value) (t : TypeId) : (w.alloc (.cells #[a, b] t)).cell? ⟨w.heap.size, 0, none⟩ = some a ∧ (w.alloc (.cells #[a, b] t)).cell? ⟨w.heap.size, 1, none⟩ = some b := by
  have k0 := World.cell?_alloc_mark w #[a, b] t (0, 0) 0
  have k1 := World.cell?_alloc_mark w #[a, b] t (0, 0) 1
  exact ⟨k0, k1⟩
theorem frac_put (W : World) (B : Nat) (a b u v : Value) (t : TypeId) (fz : Nat × Nat) (h : W.heap[B]? = some (.cells #[a, b] t fz)) :
    ((W.setCell ⟨B, 0, none⟩ u).setCell ⟨B, 1, none⟩ v).cell? ⟨B, 0, none⟩ = some u ∧ ((W.setCell ⟨B, 0, none⟩ u).setCell ⟨B, 1, none⟩ v).cell? ⟨B, 1, none⟩ = some v := by
  constructor <;> simp [World.setCell, World.cell?, Array.getElem?_modify, h]
theorem fur_put {w W : World} {B : Nat} (hf : Fur w W) (hB : w.heap.size ≤ B) (u v : Value) : Fur w ((W.setCell ⟨B, 0, none⟩ u).setCell ⟨B, 1, none⟩ v) :=
  ⟨Below.setCell (Below.setCell hf.b hB u) hB v, hf.dr⟩
/-- A result in a cell that has just been stored to. -/
theorem fr_ret_put {fn : Func} {p u : Tmp} (hres : fn.results = #[.cell p 28, .tmp u]) {tmps : Array Value} {B : Nat} {n d : Int} {c : Bool} {w W : World} {a b : Value} {t : TypeId} {fz : Nat × Nat}
    (hp : tmps.getD p undef = .pointer (some ⟨B, 0, none⟩)) (hu : tmps.getD u undef = .bool c) (h : W.heap[B]? = some (.cells #[a, b] t fz)) (hf : Fur w W) (hB : w.heap.size ≤ B) :
    bodyPost Tryz.prog fn (RetFB w n d c) Exit.ret { tmps := tmps, defers := [] } ((W.setCell ⟨B, 0, none⟩ (.int .i64 n)).setCell ⟨B, 1, none⟩ (.int .i64 d)) :=
  fr_ret hres hp hu (frac_put W B a b _ _ t fz h).1 (frac_put W B a b _ _ t fz h).2 ⟨rfl, fur_put hf hB _ _⟩
end Go.Proofs.YtenmideffecdnaaGreatDoor

/-! Fractions in blocks of their own while a call runs: their cells read as they did as long as nothing that was there turns. No program's function is walked here. -/
namespace Go.Proofs.YtenmideffecdnaaGreatDoor
open Go.RowKit

/-- A fraction lies in block B. -/
def Box (W : World) (B : Nat) (n d : Int) : Prop := W.heap[B]? = some (.cells #[.int .i64 n, .int .i64 d] 28 (0, 0))
theorem Box.c0 {W : World} {B : Nat} {n d : Int} (h : Box W B n d) : W.cell? ⟨B, 0, none⟩ = some (.int .i64 n) := by unfold Box at h; simp [World.cell?, h]
theorem Box.c1 {W : World} {B : Nat} {n d : Int} (h : Box W B n d) : W.cell? ⟨B, 1, none⟩ = some (.int .i64 d) := by unfold Box at h; simp [World.cell?, h]
theorem Box.f0 {W : World} {B : Nat} {n d : Int} (h : Box W B n d) (j : Nat) : W.frozen? ⟨B, j, none⟩ = false := by unfold Box at h; simp [World.frozen?, h]
theorem Box.lt {W : World} {B : Nat} {n d : Int} (h : Box W B n d) : B < W.heap.size := by
  unfold Box at h
  rcases Nat.lt_or_ge B W.heap.size with k | k
  · exact k
  · rw [Array.getElem?_eq_none k] at h; cases h
theorem Box.on {W W' : World} {B : Nat} {n d : Int} (h : Box W B n d) (hf : Fur W W') : Box W' B n d := by
  have k := h.lt
  unfold Box at *
  rw [Below.block hf.b B k]; exact h
theorem Box.drewN {W : World} {B : Nat} {n d : Int} (h : Box W B n d) (q : Nat) : Box (W.drewN q) B n d := h
theorem cellOn {w w' : World} (hf : Fur w w') {p : Addr} {v : Value} (h : w.cell? p = some v) : w'.cell? p = some v := by
  rw [Below.cell hf.b (World.block_lt_of_cell? w p h)]; exact h
theorem cellOnw {w w' : World} (hf : Fuw w w') {p : Addr} {v : Value} (h : w.cell? p = some v) : w'.cell? p = some v := by
  rw [Below.cell hf (World.block_lt_of_cell? w p h)]; exact h
end Go.Proofs.YtenmideffecdnaaGreatDoor

/-! Values in memory: five cells, the last a slice of values; what a slice of values holds. Nothing turns while nothing that was there turns. No program's function is walked here. -/
namespace Go.Proofs.YtenmideffecdnaaGreatDoor
open Go.RowKit

def bs (s : List UInt8) : ByteArray := ⟨s.toArray⟩
def I64 (n : Int) : Prop := -9223372036854775808 ≤ n ∧ n ≤ 9223372036854775807
mutual
/-- Five cells from o on in block b hold a value. -/
def VC (w : World) : Vl → Nat → Nat → Prop
  | .mk k n d s l, b, o => I64 k ∧ I64 n ∧ I64 d ∧ s.length ≤ maxLen ∧ w.cell? ⟨b, o, none⟩ = some (.int .i64 k) ∧ w.cell? ⟨b, o + 1, none⟩ = some (.int .i64 n) ∧ w.cell? ⟨b, o + 2, none⟩ = some (.int .i64 d) ∧ w.cell? ⟨b, o + 3, none⟩ = some (.string (bs s)) ∧
    ∃ ao cap, w.cell? ⟨b, o + 4, none⟩ = some (.slice ao l.length cap) ∧ l.length ≤ cap ∧ cap ≤ maxLen ∧ (ao = none → cap = 0) ∧ (0 < l.length → ∃ b' o', ao = some ⟨b', o', none⟩ ∧ VE w l b' o')
/-- Values one behind the other. -/
def VE (w : World) : List Vl → Nat → Nat → Prop
  | [], _, _ => True
  | v :: r, b, o => VC w v b o ∧ VE w r b (o + 5)
end
/-- A slice at ao, of capacity cap, holds the values l. -/
structure SlV (w : World) (ao : Option Addr) (l : List Vl) (cap : Nat) : Prop where
  le : l.length ≤ cap
  max : cap ≤ maxLen
  nil : ao = none → cap = 0
  at_ : 0 < l.length → ∃ b o, ao = some ⟨b, o, none⟩ ∧ VE w l b o
/-- A value as the model has it. -/
def vlv (x : Vl) (ao : Option Addr) (cap : Nat) : Value := .agg #[.int .i64 x.kd, .int .i64 x.nn, .int .i64 x.dd, .string (bs x.ss), .slice ao x.ll.length cap]
structure Vin (x : Vl) : Prop where
  k : I64 x.kd
  n : I64 x.nn
  d : I64 x.dd
  s : x.ss.length ≤ maxLen
def VX (w : World) (x : Vl) (v : Value) : Prop := Vin x ∧ ∃ ao cap, v = vlv x ao cap ∧ SlV w ao x.ll cap

theorem VC_of {w : World} {x : Vl} {b o : Nat} (h : VC w x b o) : Vin x ∧ w.cell? ⟨b, o, none⟩ = some (.int .i64 x.kd) ∧ w.cell? ⟨b, o + 1, none⟩ = some (.int .i64 x.nn) ∧ w.cell? ⟨b, o + 2, none⟩ = some (.int .i64 x.dd) ∧ w.cell? ⟨b, o + 3, none⟩ = some (.string (bs x.ss)) ∧ ∃ ao cap, w.cell? ⟨b, o + 4, none⟩ = some (.slice ao x.ll.length cap) ∧ SlV w ao x.ll cap := by
  cases x with
  | mk k n d s l =>
    unfold VC at h
    obtain ⟨h1, h2, h3, h4, c0, c1, c2, c3, ao, cap, c4, l1, l2, l3, l4⟩ := h
    exact ⟨⟨h1, h2, h3, h4⟩, c0, c1, c2, c3, ao, cap, c4, ⟨l1, l2, l3, l4⟩⟩
theorem VC_mk {w : World} {x : Vl} {b o : Nat} (hi : Vin x) (c0 : w.cell? ⟨b, o, none⟩ = some (.int .i64 x.kd)) (c1 : w.cell? ⟨b, o + 1, none⟩ = some (.int .i64 x.nn)) (c2 : w.cell? ⟨b, o + 2, none⟩ = some (.int .i64 x.dd)) (c3 : w.cell? ⟨b, o + 3, none⟩ = some (.string (bs x.ss)))
    {ao : Option Addr} {cap : Nat} (c4 : w.cell? ⟨b, o + 4, none⟩ = some (.slice ao x.ll.length cap)) (hs : SlV w ao x.ll cap) : VC w x b o := by
  cases x with
  | mk k n d s l =>
    unfold VC
    exact ⟨hi.k, hi.n, hi.d, hi.s, c0, c1, c2, c3, ao, cap, c4, hs.le, hs.max, hs.nil, hs.at_⟩
theorem VE_get {w : World} : ∀ {l : List Vl} {b o : Nat} (_ : VE w l b o) {i : Nat} {x : Vl} (_ : l[i]? = some x), VC w x b (o + i * 5)
  | [], _, _, _, i, x, hx => by simp at hx
  | v :: r, b, o, h, 0, x, hx => by
    unfold VE at h
    rw [List.getElem?_cons_zero] at hx
    cases hx
    simpa using h.1
  | v :: r, b, o, h, i + 1, x, hx => by
    unfold VE at h
    rw [List.getElem?_cons_succ] at hx
    have k := VE_get h.2 hx
    rwa [show o + 5 + i * 5 = o + (i + 1) * 5 by omega] at k
mutual
theorem VC_on {w w' : World} (hf : Fur w w') : ∀ {x : Vl} {b o : Nat}, VC w x b o → VC w' x b o
  | .mk k n d s l, b, o, h => by
    unfold VC at *
    obtain ⟨h1, h2, h3, h4, c0, c1, c2, c3, ao, cap, c4, l1, l2, l3, l4⟩ := h
    refine ⟨h1, h2, h3, h4, cellOn hf c0, cellOn hf c1, cellOn hf c2, cellOn hf c3, ao, cap, cellOn hf c4, l1, l2, l3, fun hp => ?_⟩
    obtain ⟨b', o', e, he⟩ := l4 hp
    exact ⟨b', o', e, VE_on hf he⟩
theorem VE_on {w w' : World} (hf : Fur w w') : ∀ {l : List Vl} {b o : Nat}, VE w l b o → VE w' l b o
  | [], _, _, _ => by unfold VE; trivial
  | v :: r, b, o, h => by
    unfold VE at *
    exact ⟨VC_on hf h.1, VE_on hf h.2⟩
end
theorem SlV.on {w w' : World} {ao : Option Addr} {l : List Vl} {cap : Nat} (h : SlV w ao l cap) (hf : Fur w w') : SlV w' ao l cap :=
  ⟨h.le, h.max, h.nil, fun hp => by obtain ⟨b, o, e, he⟩ := h.at_ hp; exact ⟨b, o, e, VE_on hf he⟩⟩
theorem VX.on {w w' : World} {x : Vl} {v : Value} (h : VX w x v) (hf : Fur w w') : VX w' x v := by
  obtain ⟨h1, ao, cap, e, hs⟩ := h
  exact ⟨h1, ao, cap, e, hs.on hf⟩
mutual
theorem VC_onw {w w' : World} (hf : Fuw w w') : ∀ {x : Vl} {b o : Nat}, VC w x b o → VC w' x b o
  | .mk k n d s l, b, o, h => by
    unfold VC at *
    obtain ⟨h1, h2, h3, h4, c0, c1, c2, c3, ao, cap, c4, l1, l2, l3, l4⟩ := h
    refine ⟨h1, h2, h3, h4, cellOnw hf c0, cellOnw hf c1, cellOnw hf c2, cellOnw hf c3, ao, cap, cellOnw hf c4, l1, l2, l3, fun hp => ?_⟩
    obtain ⟨b', o', e, he⟩ := l4 hp
    exact ⟨b', o', e, VE_onw hf he⟩
theorem VE_onw {w w' : World} (hf : Fuw w w') : ∀ {l : List Vl} {b o : Nat}, VE w l b o → VE w' l b o
  | [], _, _, _ => by unfold VE; trivial
  | v :: r, b, o, h => by
    unfold VE at *
    exact ⟨VC_onw hf h.1, VE_onw hf h.2⟩
end
theorem SlV.onw {w w' : World} {ao : Option Addr} {l : List Vl} {cap : Nat} (h : SlV w ao l cap) (hf : Fuw w w') : SlV w' ao l cap :=
  ⟨h.le, h.max, h.nil, fun hp => by obtain ⟨b, o, e, he⟩ := h.at_ hp; exact ⟨b, o, e, VE_onw hf he⟩⟩
theorem VX.onw {w w' : World} {x : Vl} {v : Value} (h : VX w x v) (hf : Fuw w w') : VX w' x v := by
  obtain ⟨h1, ao, cap, e, hs⟩ := h
  exact ⟨h1, ao, cap, e, hs.onw hf⟩
/-- An element of a slice. -/
theorem SlV.get {w : World} {ao : Option Addr} {l : List Vl} {cap : Nat} (h : SlV w ao l cap) {i : Nat} (hi : i < l.length) : ∃ b o, ao = some ⟨b, o, none⟩ ∧ VC w l[i] b (o + i * 5) := by
  obtain ⟨b, o, e, he⟩ := h.at_ (by omega)
  exact ⟨b, o, e, VE_get he (List.getElem?_eq_getElem hi)⟩
/-- A value in a block of its own. -/
def Bx (W : World) (B : Nat) (x : Vl) (ao : Option Addr) (cap : Nat) : Prop := W.heap[B]? = some (.cells #[.int .i64 x.kd, .int .i64 x.nn, .int .i64 x.dd, .string (bs x.ss), .slice ao x.ll.length cap] 24 (0, 0))
theorem Bx.c0 {W : World} {B : Nat} {x : Vl} {ao : Option Addr} {cap : Nat} (h : Bx W B x ao cap) : W.cell? ⟨B, 0, none⟩ = some (.int .i64 x.kd) := by unfold Bx at h; simp [World.cell?, h]
theorem Bx.c1 {W : World} {B : Nat} {x : Vl} {ao : Option Addr} {cap : Nat} (h : Bx W B x ao cap) : W.cell? ⟨B, 1, none⟩ = some (.int .i64 x.nn) := by unfold Bx at h; simp [World.cell?, h]
theorem Bx.c2 {W : World} {B : Nat} {x : Vl} {ao : Option Addr} {cap : Nat} (h : Bx W B x ao cap) : W.cell? ⟨B, 2, none⟩ = some (.int .i64 x.dd) := by unfold Bx at h; simp [World.cell?, h]
theorem Bx.c3 {W : World} {B : Nat} {x : Vl} {ao : Option Addr} {cap : Nat} (h : Bx W B x ao cap) : W.cell? ⟨B, 3, none⟩ = some (.string (bs x.ss)) := by unfold Bx at h; simp [World.cell?, h]
theorem Bx.c4 {W : World} {B : Nat} {x : Vl} {ao : Option Addr} {cap : Nat} (h : Bx W B x ao cap) : W.cell? ⟨B, 4, none⟩ = some (.slice ao x.ll.length cap) := by unfold Bx at h; simp [World.cell?, h]
theorem Bx.f {W : World} {B : Nat} {x : Vl} {ao : Option Addr} {cap : Nat} (h : Bx W B x ao cap) (j : Nat) : W.frozen? ⟨B, j, none⟩ = false := by unfold Bx at h; simp [World.frozen?, h]
theorem Bx.lt {W : World} {B : Nat} {x : Vl} {ao : Option Addr} {cap : Nat} (h : Bx W B x ao cap) : B < W.heap.size := by
  unfold Bx at h
  rcases Nat.lt_or_ge B W.heap.size with k | k
  · exact k
  · rw [Array.getElem?_eq_none k] at h; cases h
theorem Bx.on {W W' : World} {B : Nat} {x : Vl} {ao : Option Addr} {cap : Nat} (h : Bx W B x ao cap) (hf : Fur W W') : Bx W' B x ao cap := by
  have k := h.lt
  unfold Bx at *
  rw [Below.block hf.b B k]; exact h
theorem Bx.onw {W W' : World} {B : Nat} {x : Vl} {ao : Option Addr} {cap : Nat} (h : Bx W B x ao cap) (hf : Fuw W W') : Bx W' B x ao cap := by
  have k := h.lt
  unfold Bx at *
  rw [Below.block hf B k]; exact h
/-- A value boxed. -/
theorem bx1 (w : World) (x : Vl) (ao : Option Addr) (cap : Nat) :
    Bx (w.alloc (.cells #[.int .i64 x.kd, .int .i64 x.nn, .int .i64 x.dd, .string (bs x.ss), .slice ao x.ll.length cap] 24)) w.heap.size x ao cap ∧ Fur w (w.alloc (.cells #[.int .i64 x.kd, .int .i64 x.nn, .int .i64 x.dd, .string (bs x.ss), .slice ao x.ll.length cap] 24)) := by
  refine ⟨?_, (Fur.refl w).alloc _⟩
  show (w.heap.push _)[w.heap.size]? = _
  rw [Array.getElem?_push, if_pos rfl]
end Go.Proofs.YtenmideffecdnaaGreatDoor

/-! Package value: truth, known, Not, And, Or, class; Go's cmp.Compare of ints and of strings. Nothing that was there turns. -/
namespace Go.Proofs.YtenmideffecdnaaGreatDoor
open Go.RowKit

/-- A truth value. -/
def triV (a : Int) : Int := if a = 0 ∨ a = 2 then a else 1
theorem triV_c (a : Int) : (a = 0 ∧ triV a = 0) ∨ (a = 2 ∧ triV a = 2) ∨ (a ≠ 0 ∧ a ≠ 2 ∧ triV a = 1) := by
  unfold triV
  by_cases h0 : a = 0
  · exact .inl ⟨h0, by rw [if_pos (.inl h0), h0]⟩
  · by_cases h2 : a = 2
    · exact .inr (.inl ⟨h2, by rw [if_pos (.inr h2), h2]⟩)
    · exact .inr (.inr ⟨h0, h2, by rw [if_neg (by omega)]⟩)
theorem triV_d (a : Int) : (a = 0 ∧ triV a = 0) ∨ (a = 2 ∧ triV a = 2) ∨ ((a == 0) = false ∧ (a == 2) = false ∧ triV a = 1) := by
  rcases triV_c a with h | h | ⟨h0, h2, h⟩
  · exact .inl h
  · exact .inr (.inl h)
  · exact .inr (.inr ⟨beq_eq_false_iff_ne.2 h0, beq_eq_false_iff_ne.2 h2, h⟩)
theorem land_any (a b : Int) (w : World) : Calls Tryz.prog 115 #[.int .i64 a, .int .i64 b] w fun e w' => e = .returned (.int .i64 (min (triV a) (triV b))) ∧ w' = w := by
  rcases triV_d a with ⟨rfl, e⟩ | ⟨rfl, e⟩ | ⟨g0, g2, e⟩ <;> rcases triV_d b with ⟨rfl, e'⟩ | ⟨rfl, e'⟩ | ⟨g0', g2', e'⟩ <;> simp only [e, e'] <;> clear e e'
  all_goals
    go_enter Tryz.func115, Tryz.ntmps115
    go_wp2
    go_ret
    exact ⟨rfl, rfl⟩
theorem lknown_any (b : Bool) (w : World) : Calls Tryz.prog 56 #[.bool b] w fun e w' => e = .returned (.int .i64 (if b = true then 2 else 0)) ∧ w' = w := by
  cases b
  all_goals
    go_enter Tryz.func56, Tryz.ntmps56
    go_wp2
    go_ret
    exact ⟨rfl, rfl⟩

/-! Go's Compare. -/
theorem lcmpi_any (a b : Int) (w : World) : Calls Tryz.prog 100 #[.int .i64 a, .int .i64 b] w fun e w' => e = .returned (.int .i64 (intc a b)) ∧ w' = w := by
  by_cases h1 : a < b
  · rw [show intc a b = -1 by unfold intc; rw [if_pos h1]]
    go_enter Tryz.func100, Tryz.ntmps100
    go_wp2
    go_ret
    exact ⟨rfl, rfl⟩
  · by_cases h2 : b < a
    · rw [show intc a b = 1 by unfold intc; rw [if_neg h1, if_pos h2]]
      go_enter Tryz.func100, Tryz.ntmps100
      go_wp2
      go_ret
      exact ⟨rfl, rfl⟩
    · rw [show intc a b = 0 by unfold intc; rw [if_neg h1, if_neg h2]]
      go_enter Tryz.func100, Tryz.ntmps100
      go_wp2
      go_ret
      exact ⟨rfl, rfl⟩
/-- The class, as the code has it. -/
def classG (k : Int) : Int := if k = 1 then 1 else if k = 2 ∨ k = 3 then 2 else if k = 4 then 3 else if k = 5 then 4 else if k = 6 then 5 else if k = 8 then 6 else if k = 7 then 7 else 0
theorem classG_ok {k : Int} (h0 : 0 ≤ k) (h8 : k ≤ 8) : classG k = classV k := by
  unfold classG classV
  have : k = 0 ∨ k = 1 ∨ k = 2 ∨ k = 3 ∨ k = 4 ∨ k = 5 ∨ k = 6 ∨ k = 7 ∨ k = 8 := by omega
  rcases this with rfl | rfl | rfl | rfl | rfl | rfl | rfl | rfl | rfl <;> decide
theorem lclass_any (x : Vl) (ao : Option Addr) (cap : Nat) (w : World) : Calls Tryz.prog 65 #[vlv x ao cap] w (RetI w (classG x.kd)) := by
  obtain ⟨p0, f0⟩ := bx1 w x ao cap
  have c0 := p0.c0
  clear p0
  unfold vlv
  generalize x.kd = k at *
  by_cases h1 : k = 1
  · subst h1
    rw [show classG 1 = 1 from rfl]
    go_enter Tryz.func65, Tryz.ntmps65
    go_wp2
    go_ret
    exact ⟨rfl, f0⟩
  have g1 : (k == 1) = false := beq_eq_false_iff_ne.2 h1
  by_cases h2 : k = 2
  · subst h2
    rw [show classG 2 = 2 from rfl]
    go_enter Tryz.func65, Tryz.ntmps65
    go_wp2
    go_ret
    exact ⟨rfl, f0⟩
  have g2 : (k == 2) = false := beq_eq_false_iff_ne.2 h2
  by_cases h3 : k = 3
  · subst h3
    rw [show classG 3 = 2 from rfl]
    go_enter Tryz.func65, Tryz.ntmps65
    go_wp2
    go_ret
    exact ⟨rfl, f0⟩
  have g3 : (k == 3) = false := beq_eq_false_iff_ne.2 h3
  by_cases h4 : k = 4
  · subst h4
    rw [show classG 4 = 3 from rfl]
    go_enter Tryz.func65, Tryz.ntmps65
    go_wp2
    go_ret
    exact ⟨rfl, f0⟩
  have g4 : (k == 4) = false := beq_eq_false_iff_ne.2 h4
  by_cases h5 : k = 5
  · subst h5
    rw [show classG 5 = 4 from rfl]
    go_enter Tryz.func65, Tryz.ntmps65
    go_wp2
    go_ret
    exact ⟨rfl, f0⟩
  have g5 : (k == 5) = false := beq_eq_false_iff_ne.2 h5
  by_cases h6 : k = 6
  · subst h6
    rw [show classG 6 = 5 from rfl]
    go_enter Tryz.func65, Tryz.ntmps65
    go_wp2
    go_ret
    exact ⟨rfl, f0⟩
  have g6 : (k == 6) = false := beq_eq_false_iff_ne.2 h6
  by_cases h8 : k = 8
  · subst h8
    rw [show classG 8 = 6 from rfl]
    go_enter Tryz.func65, Tryz.ntmps65
    go_wp2
    go_ret
    exact ⟨rfl, f0⟩
  have g8 : (k == 8) = false := beq_eq_false_iff_ne.2 h8
  by_cases h7 : k = 7
  · subst h7
    rw [show classG 7 = 7 from rfl]
    go_enter Tryz.func65, Tryz.ntmps65
    go_wp2
    go_ret
    exact ⟨rfl, f0⟩
  have g7 : (k == 7) = false := beq_eq_false_iff_ne.2 h7
  rw [show classG k = 0 by unfold classG; rw [if_neg h1, if_neg (by omega), if_neg h4, if_neg h5, if_neg h6, if_neg h8, if_neg h7]]
  clear h1 h2 h3 h4 h5 h6 h7 h8
  go_enter Tryz.func65, Tryz.ntmps65
  go_wp2
  go_ret
  exact ⟨rfl, f0⟩
end Go.Proofs.YtenmideffecdnaaGreatDoor
