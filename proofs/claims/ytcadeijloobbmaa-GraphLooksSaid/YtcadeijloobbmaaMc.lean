/-
  FrMem; FrR; FrQ: texts of one kind in one file; each part says what it holds.
-/
import Derived.Test.YtcadeijloobbmaaMb
import Derived.Test.YtcadeijloobbmaaProg
import Derived.WalkKit
import Derived.BigCall
import Derived.BigQuiet
import Derived.RegionTactic
import Derived.LoopTactic
import Derived.Deep.QuietTactic
import Derived.OwnWalk
import Derived.Laws.AppendOwnNone
import Derived.Laws.OwnMore
import Derived.IntWalk
import Derived.Laws.ResultCell

/-! Slices of int that a call makes and writes, and the results of package frac and its reference: a fraction, a fraction and a bool, an int, a bool, a string, a wide number. No program's function is walked here. -/
namespace Go.Proofs.Ytcadeijloobbmaa
open Go.RowKit

theorem infoI : (Try.prog.info? 3).map (fun i => (i.zero, i.size, i.bytes)) = some (some (.int .i64 0), 1, 8) := by kernel_rfl
theorem getD_at {l : List Int} {k : Nat} (hk : k < l.length) : l.getD k 0 = l[k] := by rw [List.getD_eq_getElem?_getD, List.getElem?_eq_getElem hk]; rfl
theorem cs_getD {o : List Int} {j : Nat} (h : j < o.length) : (cs o)[j]? = some (.int .i64 (o.getD j 0)) := by
  unfold cs
  rw [List.getElem?_map, List.getElem?_eq_getElem h, getD_at h]; rfl
theorem cs_set (o : List Int) (j : Nat) (z : Int) : (cs o).set j (.int .i64 z) = cs (o.set j z) := by
  unfold cs
  rw [List.map_set]
theorem fur_set {w w1 : World} {g j : Nat} {u : Value} (hf : Fur w w1) (hg : w.heap.size ≤ g) : Fur w (w1.setCell ⟨g, j, none⟩ u) := ⟨Below.setCell hf.b hg u, hf.dr⟩
theorem fur_drewN (w : World) (n : Nat) : Fur w (w.drewN n) := ⟨⟨rfl, rfl, rfl, Nat.le_refl _, fun _ _ => rfl⟩, Nat.le_add_right _ _⟩
theorem made_zero (n : Nat) : (madeCells (Value.int .i64 0).cells (n * 1)).toList = cs (List.replicate n 0) := by
  rw [Nat.mul_one]
  unfold cs
  rw [List.map_replicate]
  exact toList_madeCells_one (.int .i64 0) _
theorem own_below {w w' : World} {base e size : Nat} {v : Value} {n : Nat} {xs : List Value} (h : w.ownsRow base e size v n xs) (hf : Fur w w') : w'.ownsRow base e size v n xs := by
  refine ⟨h.1, ?_⟩
  rcases h.2 with h0 | ⟨g, cap, cur, hv, hg, hh, rest⟩
  · exact .inl h0
  · refine .inr ⟨g, cap, cur, hv, hg, ?_, rest⟩
    have hlt : g < w.heap.size := by
      rcases Nat.lt_or_ge g w.heap.size with k | k
      · exact k
      · rw [Array.getElem?_eq_none k] at hh; cases hh
    rw [Below.block hf.b g hlt]; exact hh

/-- A result is a bool; nothing that was there has turned. -/
def RetB (w : World) (c : Bool) (e : Ending) (w' : World) : Prop := e = .returned (.bool c) ∧ Fur w w'
/-- An int. -/
def RetI (w : World) (n : Int) (e : Ending) (w' : World) : Prop := e = .returned (.int .i64 n) ∧ Fur w w'
/-- A string. -/
def RetT (w : World) (s : ByteArray) (e : Ending) (w' : World) : Prop := e = .returned (.string s) ∧ Fur w w'
/-- A fraction as the model has it. -/
def fr (n d : Int) : Value := .agg #[.int .i64 n, .int .i64 d]
/-- A fraction and a bool. -/
def RetFB (w : World) (n d : Int) (c : Bool) (e : Ending) (w' : World) : Prop := e = .returned (.tuple #[.agg #[.int .i64 n, .int .i64 d], .bool c]) ∧ Fur w w'
/-- An int and a bool. -/
def RetIB (w : World) (n : Int) (c : Bool) (e : Ending) (w' : World) : Prop := e = .returned (.tuple #[.int .i64 n, .bool c]) ∧ Fur w w'
theorem ret_ib {a b : Int} {c d : Bool} (h1 : a = b) (h2 : c = d) : Ending.returned (.tuple #[.int .i64 a, .bool c]) = .returned (.tuple #[.int .i64 b, .bool d]) := by rw [h1, h2]
theorem ret_fb {a b a' b' : Int} {c d : Bool} (h1 : a = a') (h2 : b = b') (h3 : c = d) : Ending.returned (.tuple #[.agg #[.int .i64 a, .int .i64 b], .bool c]) = .returned (.tuple #[.agg #[.int .i64 a', .int .i64 b'], .bool d]) := by rw [h1, h2, h3]
theorem ret_str {a b : ByteArray} (h : a = b) : Ending.returned (.string a) = .returned (.string b) := by rw [h]
/-- A wide number. -/
def RetW (w : World) (n : Nat) (e : Ending) (w' : World) : Prop := ∃ zs ao cap, Wide zs n ∧ e = .returned (.slice ao 14 cap) ∧ IsS w' ao zs cap ∧ Fur w w'
theorem IsS.of14 {w : World} {base e : Nat} {g : Nat} {o : List Int} (h : w.ownsRow base e 1 (.slice (some ⟨g, 0, none⟩) 14 14) 14 (cs o)) : IsS w (some ⟨g, 0, none⟩) o 14 := by
  obtain ⟨ao, cap, h3, -, hI⟩ := IsS.of_own h
  obtain ⟨rfl, -, rfl⟩ := Value.slice.inj h3
  exact hI
end Go.Proofs.Ytcadeijloobbmaa

/-! How a function that gives back a fraction and a bool ends: the result lies in a cell of its own. No program's function is walked here. -/
namespace Go.Proofs.Ytcadeijloobbmaa
open Go.RowKit

theorem load_frac (w : World) (b : Nat) (n d : Int) (h0 : w.cell? ⟨b, 0, none⟩ = some (.int .i64 n)) (h1 : w.cell? ⟨b, 1, none⟩ = some (.int .i64 d)) :
    (loadVar 70 ⟨b, 0, none⟩).run Try.prog w = .ok (.agg #[.int .i64 n, .int .i64 d]) w := by
  go_simp
theorem fr_ret {fn : Func} {p u : Tmp} (hres : fn.results = #[.cell p 70, .tmp u]) {tmps : Array Value} {b : Nat} {n d : Int} {c : Bool} {w : World} {Q : Ending → World → Prop}
    (hp : tmps.getD p undef = .pointer (some ⟨b, 0, none⟩)) (hu : tmps.getD u undef = .bool c)
    (h0 : w.cell? ⟨b, 0, none⟩ = some (.int .i64 n)) (h1 : w.cell? ⟨b, 1, none⟩ = some (.int .i64 d))
    (hQ : Q (.returned (.tuple #[.agg #[.int .i64 n, .int .i64 d], .bool c])) w) : bodyPost Try.prog fn Q Exit.ret { tmps := tmps, defers := [] } w := by
  refine bodyPost_ret (v := .tuple #[.agg #[.int .i64 n, .int .i64 d], .bool c]) ?_ rfl hQ
  rw [results_cell_tmp hres, hp, hu]
  have e : (asAddr (.pointer (some ⟨b, 0, none⟩))).run Try.prog w = .ok ⟨b, 0, none⟩ w := by go_simp
  rw [e]
  simp only [Result.andThen]
  rw [load_frac w b n d h0 h1]
/-- A fraction in a block of its own. -/
theorem cell_new (w : World) (a b : Value) (t : TypeId) : (w.alloc (.cells #[a, b] t)).cell? ⟨w.heap.size, 0, none⟩ = some a ∧ (w.alloc (.cells #[a, b] t)).cell? ⟨w.heap.size, 1, none⟩ = some b := by
  have k0 := World.cell?_alloc_mark w #[a, b] t (0, 0) 0
  have k1 := World.cell?_alloc_mark w #[a, b] t (0, 0) 1
  exact ⟨k0, k1⟩
theorem frac_put (W : World) (B : Nat) (a b u v : Value) (t : TypeId) (fz : Nat × Nat) (h : W.heap[B]? = some (.cells #[a, b] t fz)) :
    ((W.setCell ⟨B, 0, none⟩ u).setCell ⟨B, 1, none⟩ v).cell? ⟨B, 0, none⟩ = some u ∧ ((W.setCell ⟨B, 0, none⟩ u).setCell ⟨B, 1, none⟩ v).cell? ⟨B, 1, none⟩ = some v := by
  constructor <;> simp [World.setCell, World.cell?, Array.getElem?_modify, h]
theorem fur_put {w W : World} {B : Nat} (hf : Fur w W) (hB : w.heap.size ≤ B) (u v : Value) : Fur w ((W.setCell ⟨B, 0, none⟩ u).setCell ⟨B, 1, none⟩ v) :=
  ⟨Below.setCell (Below.setCell hf.b hB u) hB v, hf.dr⟩
theorem heap_new (w : World) (o : Obj) (q : Nat) : ((w.alloc o).drewN q).heap[w.heap.size]? = some o := by
  show (w.heap.push o)[w.heap.size]? = some o
  rw [Array.getElem?_push, if_pos rfl]
/-- A result in a cell that has just been stored to. -/
theorem fr_ret_put {fn : Func} {p u : Tmp} (hres : fn.results = #[.cell p 70, .tmp u]) {tmps : Array Value} {B : Nat} {n d : Int} {c : Bool} {w W : World} {a b : Value} {t : TypeId} {fz : Nat × Nat}
    (hp : tmps.getD p undef = .pointer (some ⟨B, 0, none⟩)) (hu : tmps.getD u undef = .bool c) (h : W.heap[B]? = some (.cells #[a, b] t fz)) (hf : Fur w W) (hB : w.heap.size ≤ B) :
    bodyPost Try.prog fn (RetFB w n d c) Exit.ret { tmps := tmps, defers := [] } ((W.setCell ⟨B, 0, none⟩ (.int .i64 n)).setCell ⟨B, 1, none⟩ (.int .i64 d)) :=
  fr_ret hres hp hu (frac_put W B a b _ _ t fz h).1 (frac_put W B a b _ _ t fz h).2 ⟨rfl, fur_put hf hB _ _⟩
end Go.Proofs.Ytcadeijloobbmaa

/-! Fractions in blocks of their own while a call runs: their cells read as they did as long as nothing that was there turns. No program's function is walked here. -/
namespace Go.Proofs.Ytcadeijloobbmaa
open Go.RowKit

/-- A fraction lies in block B. -/
def Box (W : World) (B : Nat) (n d : Int) : Prop := W.heap[B]? = some (.cells #[.int .i64 n, .int .i64 d] 70 (0, 0))
theorem Box.c0 {W : World} {B : Nat} {n d : Int} (h : Box W B n d) : W.cell? ⟨B, 0, none⟩ = some (.int .i64 n) := by unfold Box at h; simp [World.cell?, h]
theorem Box.c1 {W : World} {B : Nat} {n d : Int} (h : Box W B n d) : W.cell? ⟨B, 1, none⟩ = some (.int .i64 d) := by unfold Box at h; simp [World.cell?, h]
theorem Box.f0 {W : World} {B : Nat} {n d : Int} (h : Box W B n d) (j : Nat) : W.frozen? ⟨B, j, none⟩ = false := by unfold Box at h; simp [World.frozen?, h]
theorem Box.lt {W : World} {B : Nat} {n d : Int} (h : Box W B n d) : B < W.heap.size := by
  unfold Box at h
  rcases Nat.lt_or_ge B W.heap.size with k | k
  · exact k
  · rw [Array.getElem?_eq_none k] at h; cases h
theorem Box.on {W W' : World} {B : Nat} {n d : Int} (h : Box W B n d) (hf : Fur W W') : Box W' B n d := by
  have k := h.lt
  unfold Box at *
  rw [Below.block hf.b B k]; exact h
theorem Box.drewN {W : World} {B : Nat} {n d : Int} (h : Box W B n d) (q : Nat) : Box (W.drewN q) B n d := h
/-- The world behind three boxes: two arguments and a result. -/
theorem box3 (w : World) (a b c d e f : Int) (t : TypeId) (ht : t = 70) :
    Box (((w.alloc (.cells #[.int .i64 a, .int .i64 b] t)).alloc (.cells #[.int .i64 c, .int .i64 d] t)).alloc (.cells #[.int .i64 e, .int .i64 f] t)) w.heap.size a b ∧
    Box (((w.alloc (.cells #[.int .i64 a, .int .i64 b] t)).alloc (.cells #[.int .i64 c, .int .i64 d] t)).alloc (.cells #[.int .i64 e, .int .i64 f] t)) (w.heap.size + 1) c d ∧
    Box (((w.alloc (.cells #[.int .i64 a, .int .i64 b] t)).alloc (.cells #[.int .i64 c, .int .i64 d] t)).alloc (.cells #[.int .i64 e, .int .i64 f] t)) (w.heap.size + 1 + 1) e f ∧
    Fur w (((w.alloc (.cells #[.int .i64 a, .int .i64 b] t)).alloc (.cells #[.int .i64 c, .int .i64 d] t)).alloc (.cells #[.int .i64 e, .int .i64 f] t)) := by
  subst ht
  have p0 : Box (w.alloc (.cells #[.int .i64 a, .int .i64 b] 70)) w.heap.size a b := by
    show (w.heap.push _)[w.heap.size]? = _
    rw [Array.getElem?_push, if_pos rfl]
  have f0 : Fur w (w.alloc (.cells #[.int .i64 a, .int .i64 b] 70)) := (Fur.refl w).alloc _
  have s0 : (w.alloc (.cells #[.int .i64 a, .int .i64 b] 70)).heap.size = w.heap.size + 1 := by simp
  generalize w.alloc (.cells #[.int .i64 a, .int .i64 b] 70) = w1 at *
  have p1 : Box (w1.alloc (.cells #[.int .i64 c, .int .i64 d] 70)) (w.heap.size + 1) c d := by
    show (w1.heap.push _)[w.heap.size + 1]? = _
    rw [← s0, Array.getElem?_push, if_pos rfl]
  have f1 : Fur w1 (w1.alloc (.cells #[.int .i64 c, .int .i64 d] 70)) := (Fur.refl w1).alloc _
  have s1 : (w1.alloc (.cells #[.int .i64 c, .int .i64 d] 70)).heap.size = w.heap.size + 1 + 1 := by simp [s0]
  generalize w1.alloc (.cells #[.int .i64 c, .int .i64 d] 70) = w2 at *
  have p2 : Box (w2.alloc (.cells #[.int .i64 e, .int .i64 f] 70)) (w.heap.size + 1 + 1) e f := by
    show (w2.heap.push _)[w.heap.size + 1 + 1]? = _
    rw [← s1, Array.getElem?_push, if_pos rfl]
  have f2 : Fur w2 (w2.alloc (.cells #[.int .i64 e, .int .i64 f] 70)) := (Fur.refl w2).alloc _
  exact ⟨(p0.on f1).on f2, p1.on f2, p2, (f0.trans f1).trans f2⟩
theorem cellOn {w w' : World} (hf : Fur w w') {p : Addr} {v : Value} (h : w.cell? p = some v) : w'.cell? p = some v := by
  rw [Below.cell hf.b (World.block_lt_of_cell? w p h)]; exact h
theorem cellOnw {w w' : World} (hf : Fuw w w') {p : Addr} {v : Value} (h : w.cell? p = some v) : w'.cell? p = some v := by
  rw [Below.cell hf (World.block_lt_of_cell? w p h)]; exact h
end Go.Proofs.Ytcadeijloobbmaa
