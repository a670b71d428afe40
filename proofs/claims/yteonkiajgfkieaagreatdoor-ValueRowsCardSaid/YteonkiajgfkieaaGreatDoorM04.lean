/-
  WideM; FrMem; FrR: texts of one kind in one file; each part says what it holds.
-/
import Derived.WalkKit
import Derived.Test.YteonkiajgfkieaaGreatDoorM03
import Derived.Test.YteonkiajgfkieaaGreatDoorProg
import Derived.BigCall
import Derived.BigQuiet
import Derived.RegionTactic
import Derived.LoopTactic
import Derived.Deep.QuietTactic
import Derived.OwnWalk
import Derived.Laws.AppendOwnNone
import Derived.Laws.OwnMore
import Derived.IntWalk
import Derived.Laws.ResultCell

/-! Plain mathematics of natural numbers as lists of digits in base 1000, the least one first: the value of a list, and what one round of a loop over the digits keeps. No program, no world. -/
namespace Go.Proofs.YteonkiajgfkieaaGreatDoor

/-- The value of a list of digits. -/
def wv : List Int → Nat
  | [] => 0
  | z :: r => z.toNat + 1000 * wv r
/-- Every element is a digit. -/
def WD (l : List Int) : Prop := ∀ z ∈ l, 0 ≤ z ∧ z < 1000
theorem wd_at {l : List Int} {k : Nat} (hk : k < l.length) : l.getD k 0 = l[k] := by rw [List.getD_eq_getElem?_getD, List.getElem?_eq_getElem hk]; rfl
theorem wv_app (a b : List Int) : wv (a ++ b) = wv a + 1000 ^ a.length * wv b := by
  induction a with
  | nil => simp [wv]
  | cons z r ih =>
    rw [List.cons_append, wv, wv, ih, List.length_cons, Nat.pow_succ, Nat.mul_add]
    rw [Nat.mul_comm (1000 ^ r.length) 1000, Nat.mul_assoc]
    omega
theorem wv_lt {l : List Int} (h : WD l) : wv l < 1000 ^ l.length := by
  induction l with
  | nil => simp [wv]
  | cons z r ih =>
    have h1 := h z (List.mem_cons_self ..)
    have h2 := ih fun y hy => h y (List.mem_cons_of_mem _ hy)
    rw [wv, List.length_cons, Nat.pow_succ]
    omega
theorem wd_take {l : List Int} (h : WD l) (k : Nat) : WD (l.take k) := fun z hz => h z (List.mem_of_mem_take hz)
theorem wd_drop {l : List Int} (h : WD l) (k : Nat) : WD (l.drop k) := fun z hz => h z (List.mem_of_mem_drop hz)
theorem wd_one {z : Int} (h0 : 0 ≤ z) (h1 : z < 1000) : WD [z] := fun y hy => by
  have e : y = z := by simpa using hy
  subst e; exact ⟨h0, h1⟩
theorem wd_app {a b : List Int} (ha : WD a) (hb : WD b) : WD (a ++ b) := fun z hz => by
  rcases List.mem_append.1 hz with h | h
  · exact ha z h
  · exact hb z h
theorem wd_getD {l : List Int} (h : WD l) (k : Nat) : 0 ≤ l.getD k 0 ∧ l.getD k 0 < 1000 := by
  by_cases hk : k < l.length
  · rw [wd_at hk]; exact h _ (List.getElem_mem hk)
  · rw [List.getD_eq_getElem?_getD, List.getElem?_eq_none (by omega)]
    exact ⟨by decide, by decide⟩
theorem wd_zeros (n : Nat) : WD (List.replicate n 0) := fun z hz => by rw [List.eq_of_mem_replicate hz]; decide
theorem wv_zeros (n : Nat) : wv (List.replicate n 0) = 0 := by
  induction n with
  | zero => rfl
  | succ m ih => rw [List.replicate_succ, wv, ih]; rfl
theorem wv_take (l : List Int) (k : Nat) : wv (l.take (k + 1)) = wv (l.take k) + 1000 ^ k * (l.getD k 0).toNat := by
  by_cases h : k < l.length
  · rw [List.take_succ_eq_append_getElem h, wv_app, ← wd_at h, List.length_take, Nat.min_eq_left (by omega)]
    simp [wv]
  · rw [List.take_of_length_le (by omega), List.take_of_length_le (by omega), List.getD_eq_getElem?_getD, List.getElem?_eq_none (by omega)]
    simp
theorem wv_drop (l : List Int) (k : Nat) : wv (l.drop k) = (l.getD k 0).toNat + 1000 * wv (l.drop (k + 1)) := by
  by_cases h : k < l.length
  · rw [List.drop_eq_getElem_cons h, wv, wd_at h]
  · rw [List.drop_of_length_le (by omega), List.drop_of_length_le (by omega), List.getD_eq_getElem?_getD, List.getElem?_eq_none (by omega)]
    rfl
theorem wv_cut (l : List Int) (k : Nat) : wv l = wv (l.take k) + 1000 ^ k * wv (l.drop k) := by
  by_cases h : k ≤ l.length
  · have t : (l.take k).length = k := by rw [List.length_take]; omega
    have e := wv_app (l.take k) (l.drop k)
    rw [List.take_append_drop, t] at e
    exact e
  · rw [List.take_of_length_le (by omega), List.drop_of_length_le (by omega)]
    simp [wv]
theorem wv_drop_le (l : List Int) (k : Nat) : wv (l.drop k) ≤ wv l := by
  rw [wv_cut l k]
  have : 1 * wv (l.drop k) ≤ 1000 ^ k * wv (l.drop k) := Nat.mul_le_mul_right _ (Nat.pow_pos (by decide))
  omega
theorem wv_take_lt {l : List Int} (h : WD l) (k : Nat) : wv (l.take k) < 1000 ^ k :=
  Nat.lt_of_lt_of_le (wv_lt (wd_take h k)) (Nat.pow_le_pow_right (by decide) (by rw [List.length_take]; omega))
theorem wv_set {l : List Int} {j : Nat} (h : j < l.length) (z : Int) : wv (l.set j z) + 1000 ^ j * (l.getD j 0).toNat = wv l + 1000 ^ j * z.toNat := by
  have h2 : j < (l.set j z).length := by rw [List.length_set]; exact h
  have a := wv_cut l j
  have b := wv_cut (l.set j z) j
  rw [wv_drop l j] at a
  rw [wv_drop (l.set j z) j] at b
  have t1 : (l.set j z).take j = l.take j := by rw [List.take_set_of_le (Nat.le_refl _)]
  have t2 : (l.set j z).drop (j + 1) = l.drop (j + 1) := by rw [List.drop_set_of_lt (by omega)]
  have t3 : (l.set j z).getD j 0 = z := by rw [wd_at h2, List.getElem_set_self]
  rw [t1, t2, t3, Nat.mul_add] at b
  rw [Nat.mul_add] at a
  omega
theorem wd_set {l : List Int} (hd : WD l) (j : Nat) {z : Int} (z0 : 0 ≤ z) (z1 : z < 1000) : WD (l.set j z) := by
  intro y hy
  rcases List.mem_or_eq_of_mem_set hy with h | h
  · exact hd y h
  · rw [h]; exact ⟨z0, z1⟩
theorem wset_take {o : List Int} {k : Nat} (h : k < o.length) (z : Int) : (o.set k z).take (k + 1) = o.take k ++ [z] := by
  have h2 : k < (o.set k z).length := by rw [List.length_set]; exact h
  rw [List.take_succ_eq_append_getElem h2, List.getElem_set_self, List.take_set_of_le (Nat.le_refl _)]
theorem wset_drop {o : List Int} {k : Nat} (h : k < o.length) (z : Int) : (o.set k z).drop k = z :: o.drop (k + 1) := by
  have h2 : k < (o.set k z).length := by rw [List.length_set]; exact h
  rw [List.drop_eq_getElem_cons h2, List.getElem_set_self, List.drop_set_of_lt (by omega)]

/-- A wide number: fourteen digits. -/
structure Wide (l : List Int) (n : Nat) : Prop where
  len : l.length = 14
  digs : WD l
  val : wv l = n
theorem Wide.lt {l : List Int} {n : Nat} (h : Wide l n) : n < 1000 ^ 14 := by
  have k := wv_lt h.digs
  rwa [h.len, h.val] at k
theorem wide_zeros : Wide (List.replicate 14 0) 0 := ⟨by simp, wd_zeros 14, wv_zeros 14⟩

/-! times -/
/-- In the inner loop of a multiplication: T is the value aimed at. -/
structure TmAt (T k : Nat) (o : List Int) (carry d c : Nat) : Prop where
  len : o.length = 14
  digs : WD o
  cy : carry < 1000
  dl : d < 1000
  val : wv o + 1000 ^ k * (carry + d * c) = T
theorem tm_step {T k : Nat} {o : List Int} {carry d c : Nat} (h : TmAt T k o carry d c) (hk : k < 14) {r : Nat} (hr : o.getD k 0 = (r : Int)) :
    TmAt T (k + 1) (o.set k (((carry + r + d * (c % 1000)) % 1000 : Nat) : Int)) ((carry + r + d * (c % 1000)) / 1000) d (c / 1000) := by
  obtain ⟨h1, h2, h3, h4, h5⟩ := h
  have hr2 := (wd_getD h2 k).2
  rw [hr] at hr2
  have hm : d * (c % 1000) ≤ 999 * 999 := Nat.mul_le_mul (by omega) (by omega)
  refine ⟨by rw [List.length_set, h1], wd_set h2 _ (by omega) (by omega), by omega, h4, ?_⟩
  have a := wv_set (l := o) (j := k) (by omega) (((carry + r + d * (c % 1000)) % 1000 : Nat) : Int)
  rw [hr] at a
  rw [show ((r : Int)).toNat = r by omega, show ((((carry + r + d * (c % 1000)) % 1000 : Nat) : Int)).toNat = (carry + r + d * (c % 1000)) % 1000 by omega] at a
  rw [← h5, Nat.pow_succ]
  have e : d * c = d * (c % 1000) + 1000 * (d * (c / 1000)) := by
    have g := Nat.mod_add_div c 1000
    conv => lhs; rw [← g]
    rw [Nat.mul_add, ← Nat.mul_assoc, ← Nat.mul_assoc, Nat.mul_comm d 1000]
  rw [e]
  generalize d * (c % 1000) = p at *
  generalize d * (c / 1000) = q at *
  generalize 1000 ^ k = W at *
  have s : W * ((carry + r + p) % 1000) + W * 1000 * ((carry + r + p) / 1000 + q) = W * (carry + (p + 1000 * q)) + W * r := by
    rw [Nat.mul_assoc, ← Nat.mul_add, ← Nat.mul_add]
    congr 1
    omega
  omega
/-- The place stays small: the value aimed at is small. -/
theorem tm_place {T k : Nat} {o : List Int} {carry d c : Nat} (h : TmAt T k o carry d c) (hT : T < 1000 ^ 11) (hc : 0 < carry) : k < 11 := by
  have g : 1000 ^ k ≤ T := by
    rw [← h.val]
    have : 1000 ^ k * 1 ≤ 1000 ^ k * (carry + d * c) := Nat.mul_le_mul_left _ (by omega)
    omega
  rcases Nat.lt_or_ge k 11 with p | p
  · exact p
  · have := Nat.pow_le_pow_right (show 0 < 1000 by decide) p
    omega
end Go.Proofs.YteonkiajgfkieaaGreatDoor

/-! Slices of int that a call makes and writes, and the results of package frac and its reference: a fraction, a fraction and a bool, an int, a bool, a string, a wide number. No program's function is walked here. -/
namespace Go.Proofs.YteonkiajgfkieaaGreatDoor
open Go.RowKit

theorem infoI : (Tryz.prog.info? 3).map (fun i => (i.zero, i.size, i.bytes)) = some (some (.int .i64 0), 1, 8) := by kernel_rfl
theorem getD_at {l : List Int} {k : Nat} (hk : k < l.length) : l.getD k 0 = l[k] := by rw [List.getD_eq_getElem?_getD, List.getElem?_eq_getElem hk]; rfl
theorem cs_getD {o : List Int} {j : Nat} (h : j < o.length) : (cs o)[j]? = some (.int .i64 (o.getD j 0)) := by
  unfold cs
  rw [List.getElem?_map, List.getElem?_eq_getElem h, getD_at h]; rfl
theorem cs_set (o : List Int) (j : Nat) (z : Int) : (cs o).set j (.int .i64 z) = cs (o.set j z) := by
  unfold cs
  rw [List.map_set]
theorem fur_set {w w1 : World} {g j : Nat} {u : Value} (hf : Fur w w1) (hg : w.heap.size ≤ g) : Fur w (w1.setCell ⟨g, j, none⟩ u) := ⟨Below.setCell hf.b hg u, hf.dr⟩
theorem fur_drewN (w : World) (n : Nat) : Fur w (w.drewN n) := ⟨⟨rfl, rfl, rfl, Nat.le_refl _, fun _ _ => rfl⟩, Nat.le_add_right _ _⟩
theorem made_zero (n : Nat) : (madeCells (Value.int .i64 0).cells (n * 1)).toList = cs (List.replicate n 0) := by
  rw [Nat.mul_one]
  unfold cs
  rw [List.map_replicate]
  exact toList_madeCells_one (.int .i64 0) _
theorem own_below {w w' : World} {base e size : Nat} {v : Value} {n : Nat} {xs : List Value} (h : w.ownsRow base e size v n xs) (hf : Fur w w') : w'.ownsRow base e size v n xs := by
  refine ⟨h.1, ?_⟩
  rcases h.2 with h0 | ⟨g, cap, cur, hv, hg, hh, rest⟩
  · exact .inl h0
  · refine .inr ⟨g, cap, cur, hv, hg, ?_, rest⟩
    have hlt : g < w.heap.size := by
      rcases Nat.lt_or_ge g w.heap.size with k | k
      · exact k
      · rw [Array.getElem?_eq_none k] at hh; cases hh
    rw [Below.block hf.b g hlt]; exact hh

/-- A result is a bool; nothing that was there has turned. -/
def RetB (w : World) (c : Bool) (e : Ending) (w' : World) : Prop := e = .returned (.bool c) ∧ Fur w w'
/-- An int. -/
def RetI (w : World) (n : Int) (e : Ending) (w' : World) : Prop := e = .returned (.int .i64 n) ∧ Fur w w'
/-- A string. -/
def RetT (w : World) (s : ByteArray) (e : Ending) (w' : World) : Prop := e = .returned (.string s) ∧ Fur w w'
/-- A fraction as the model has it. -/
def fr (n d : Int) : Value := .agg #[.int .i64 n, .int .i64 d]
/-- A fraction and a bool. -/
def RetFB (w : World) (n d : Int) (c : Bool) (e : Ending) (w' : World) : Prop := e = .returned (.tuple #[.agg #[.int .i64 n, .int .i64 d], .bool c]) ∧ Fur w w'
/-- An int and a bool. -/
def RetIB (w : World) (n : Int) (c : Bool) (e : Ending) (w' : World) : Prop := e = .returned (.tuple #[.int .i64 n, .bool c]) ∧ Fur w w'
theorem ret_ib {a b : Int} {c d : Bool} (h1 : a = b) (h2 : c = d) : Ending.returned (.tuple #[.int .i64 a, .bool c]) = .returned (.tuple #[.int .i64 b, .bool d]) := by rw [h1, h2]
theorem ret_fb {a b a' b' : Int} {c d : Bool} (h1 : a = a') (h2 : b = b') (h3 : c = d) : Ending.returned (.tuple #[.agg #[.int .i64 a, .int .i64 b], .bool c]) = .returned (.tuple #[.agg #[.int .i64 a', .int .i64 b'], .bool d]) := by rw [h1, h2, h3]
theorem ret_str {a b : ByteArray} (h : a = b) : Ending.returned (.string a) = .returned (.string b) := by rw [h]
/-- A wide number. -/
def RetW (w : World) (n : Nat) (e : Ending) (w' : World) : Prop := ∃ zs ao cap, Wide zs n ∧ e = .returned (.slice ao 14 cap) ∧ IsS w' ao zs cap ∧ Fur w w'
theorem IsS.of14 {w : World} {base e : Nat} {g : Nat} {o : List Int} (h : w.ownsRow base e 1 (.slice (some ⟨g, 0, none⟩) 14 14) 14 (cs o)) : IsS w (some ⟨g, 0, none⟩) o 14 := by
  obtain ⟨ao, cap, h3, -, hI⟩ := IsS.of_own h
  obtain ⟨rfl, -, rfl⟩ := Value.slice.inj h3
  exact hI
end Go.Proofs.YteonkiajgfkieaaGreatDoor

/-! How a function that gives back a fraction and a bool ends: the result lies in a cell of its own. No program's function is walked here. -/
namespace Go.Proofs.YteonkiajgfkieaaGreatDoor
open Go.RowKit

theorem load_frac (w : World) (b : Nat) (n d : Int) (h0 : w.cell? ⟨b, 0, none⟩ = some (.int .i64 n)) (h1 : w.cell? ⟨b, 1, none⟩ = some (.int .i64 d)) :
    (loadVar 37 ⟨b, 0, none⟩).run Tryz.prog w = .ok (.agg #[.int .i64 n, .int .i64 d]) w := by
  go_simp
theorem fr_ret {fn : Func} {p u : Tmp} (hres : fn.results = #[.cell p 37, .tmp u]) {tmps : Array Value} {b : Nat} {n d : Int} {c : Bool} {w : World} {Q : Ending → World → Prop}
    (hp : tmps.getD p undef = .pointer (some ⟨b, 0, none⟩)) (hu : tmps.getD u undef = .bool c)
    (h0 : w.cell? ⟨b, 0, none⟩ = some (.int .i64 n)) (h1 : w.cell? ⟨b, 1, none⟩ = some (.int .i64 d))
    (hQ : Q (.returned (.tuple #[.agg #[.int .i64 n, .int .i64 d], .bool c])) w) : bodyPost Tryz.prog fn Q Exit.ret { tmps := tmps, defers := [] } w := by
  refine bodyPost_ret (v := .tuple #[.agg #[.int .i64 n, .int .i64 d], .bool c]) ?_ rfl hQ
  rw [results_cell_tmp hres, hp, hu]
  have e : (asAddr (.pointer (some ⟨b, 0, none⟩))).run Tryz.prog w = .ok ⟨b, 0, none⟩ w := by go_simp
  rw [e]
  simp only [Result.andThen]
  rw [load_frac w b n d h0 h1]
/-- A fraction in a block of its own. -/
theorem cell_new (w : World) (a b : Value) (t : TypeId) : (w.alloc (.cells #[a, b] t)).cell? ⟨w.heap.size, 0, none⟩ = some a ∧ (w.alloc (.cells #[a, b] t)).cell? ⟨w.heap.size, 1, none⟩ = some b := by
  have k0 := World.cell?_alloc_mark w #[a, b] t (0, 0) 0
  have k1 := World.cell?_alloc_mark w #[a, b] t (0, 0) 1
  exact ⟨k0, k1⟩
theorem frac_put (W : World) (B : Nat) (a b u v : Value) (t : TypeId) (fz : Nat × Nat) (h : W.heap[B]? = some (.cells #[a, b] t fz)) :
    ((W.setCell ⟨B, 0, none⟩ u).setCell ⟨B, 1, none⟩ v).cell? ⟨B, 0, none⟩ = some u ∧ ((W.setCell ⟨B, 0, none⟩ u).setCell ⟨B, 1, none⟩ v).cell? ⟨B, 1, none⟩ = some v := by
  constructor <;> simp [World.setCell, World.cell?, Array.getElem?_modify, h]
theorem fur_put {w W : World} {B : Nat} (hf : Fur w W) (hB : w.heap.size ≤ B) (u v : Value) : Fur w ((W.setCell ⟨B, 0, none⟩ u).setCell ⟨B, 1, none⟩ v) :=
  ⟨Below.setCell (Below.setCell hf.b hB u) hB v, hf.dr⟩
theorem heap_new (w : World) (o : Obj) (q : Nat) : ((w.alloc o).drewN q).heap[w.heap.size]? = some o := by
  show (w.heap.push o)[w.heap.size]? = some o
  rw [Array.getElem?_push, if_pos rfl]
/-- A result in a cell that has just been stored to. -/
theorem fr_ret_put {fn : Func} {p u : Tmp} (hres : fn.results = #[.cell p 37, .tmp u]) {tmps : Array Value} {B : Nat} {n d : Int} {c : Bool} {w W : World} {a b : Value} {t : TypeId} {fz : Nat × Nat}
    (hp : tmps.getD p undef = .pointer (some ⟨B, 0, none⟩)) (hu : tmps.getD u undef = .bool c) (h : W.heap[B]? = some (.cells #[a, b] t fz)) (hf : Fur w W) (hB : w.heap.size ≤ B) :
    bodyPost Tryz.prog fn (RetFB w n d c) Exit.ret { tmps := tmps, defers := [] } ((W.setCell ⟨B, 0, none⟩ (.int .i64 n)).setCell ⟨B, 1, none⟩ (.int .i64 d)) :=
  fr_ret hres hp hu (frac_put W B a b _ _ t fz h).1 (frac_put W B a b _ _ t fz h).2 ⟨rfl, fur_put hf hB _ _⟩
end Go.Proofs.YteonkiajgfkieaaGreatDoor
