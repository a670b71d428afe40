/-
  M03; M04: texts of one kind in one file; each part says what it holds.
-/
import Derived.WalkKit
import Derived.Test.YtpamdlkagmlahaaGreatDoorK00
import Derived.Test.YtpamdlkagmlahaaGreatDoorProg
import Derived.BigCall
import Derived.BigQuiet
import Derived.RegionTactic
import Derived.LoopTactic
import Derived.Deep.QuietTactic
import Derived.OwnWalk
import Derived.Laws.AppendOwnNone
import Derived.Laws.OwnMore
import Derived.IntWalk
import Derived.Laws.ResultCell
import Derived.Lib.Hide
import Derived.Deep.Cut
import Derived.Deep.CutBlock
import Derived.Deep.CutRange
import Derived.Deep.LoopGhost
import Derived.Deep.RegionHeld3
import Derived.Deep.RegionWith
import Derived.Laws.Cover1
import Derived.Laws.MakeOwn
import Derived.Maps.AppendAt
import Derived.Deep.AppendLies

namespace Go.Proofs.YtpamdlkagmlahaaGreatDoor
def wv : List Int → Nat
 | [] => 0
 | z :: r => z.toNat + 1000 * wv r
def WD (l : List Int) : Prop := ∀ z ∈ l, 0 ≤ z ∧ z < 1000
theorem wd_at {l : List Int} {k : Nat} (hk : k < l.length) : l.getD k 0 = l[k] := by rw [List.getD_eq_getElem?_getD, List.getElem?_eq_getElem hk]; rfl
theorem wv_app (a b : List Int) : wv (a ++ b) = wv a + 1000 ^ a.length * wv b := by
 induction a with
 | nil => simp [wv]
 | cons z r ih =>
  rw [List.cons_append, wv, wv, ih, List.length_cons, Nat.pow_succ, Nat.mul_add]
  rw [Nat.mul_comm (1000 ^ r.length) 1000, Nat.mul_assoc]
  omega
theorem wv_lt {l : List Int} (h : WD l) : wv l < 1000 ^ l.length := by
 induction l with
 | nil => simp [wv]
 | cons z r ih =>
  have h1 := h z (List.mem_cons_self ..)
  have h2 := ih fun y hy => h y (List.mem_cons_of_mem _ hy)
  rw [wv, List.length_cons, Nat.pow_succ]
  omega
theorem wd_take {l : List Int} (h : WD l) (k : Nat) : WD (l.take k) := fun z hz => h z (List.mem_of_mem_take hz)
theorem wd_getD {l : List Int} (h : WD l) (k : Nat) : 0 ≤ l.getD k 0 ∧ l.getD k 0 < 1000 := by
 by_cases hk : k < l.length
 ·rw [wd_at hk]; exact h _ (List.getElem_mem hk)
 ·rw [List.getD_eq_getElem?_getD, List.getElem?_eq_none (by omega)]
  exact ⟨by decide, by decide⟩
theorem wd_zeros (n : Nat) : WD (List.replicate n 0) := fun z hz => by rw [List.eq_of_mem_replicate hz]; decide
theorem wv_zeros (n : Nat) : wv (List.replicate n 0) = 0 := by
 induction n with
 | zero => rfl
 | succ m ih => rw [List.replicate_succ, wv, ih]; rfl
theorem wv_take (l : List Int) (k : Nat) : wv (l.take (k + 1)) = wv (l.take k) + 1000 ^ k * (l.getD k 0).toNat := by
 by_cases h : k < l.length
 ·rw [List.take_succ_eq_append_getElem h, wv_app, ← wd_at h, List.length_take, Nat.min_eq_left (by omega)]
  simp [wv]
 ·rw [List.take_of_length_le (by omega), List.take_of_length_le (by omega), List.getD_eq_getElem?_getD, List.getElem?_eq_none (by omega)]
  simp
theorem wv_drop (l : List Int) (k : Nat) : wv (l.drop k) = (l.getD k 0).toNat + 1000 * wv (l.drop (k + 1)) := by
 by_cases h : k < l.length
 ·rw [List.drop_eq_getElem_cons h, wv, wd_at h]
 ·rw [List.drop_of_length_le (by omega), List.drop_of_length_le (by omega), List.getD_eq_getElem?_getD, List.getElem?_eq_none (by omega)]
  rfl
theorem wv_cut (l : List Int) (k : Nat) : wv l = wv (l.take k) + 1000 ^ k * wv (l.drop k) := by
 by_cases h : k ≤ l.length
 ·have t : (l.take k).length = k := by rw [List.length_take]; omega
  have e := wv_app (l.take k) (l.drop k)
  rw [List.take_append_drop, t] at e
  exact e
 ·rw [List.take_of_length_le (by omega), List.drop_of_length_le (by omega)]
  simp [wv]
theorem wv_take_lt {l : List Int} (h : WD l) (k : Nat) : wv (l.take k) < 1000 ^ k :=
 Nat.lt_of_lt_of_le (wv_lt (wd_take h k)) (Nat.pow_le_pow_right (by decide) (by rw [List.length_take]; omega))
theorem wv_set {l : List Int} {j : Nat} (h : j < l.length) (z : Int) : wv (l.set j z) + 1000 ^ j * (l.getD j 0).toNat = wv l + 1000 ^ j * z.toNat := by
 have h2 : j < (l.set j z).length := by rw [List.length_set]; exact h
 have a := wv_cut l j
 have b := wv_cut (l.set j z) j
 rw [wv_drop l j] at a
 rw [wv_drop (l.set j z) j] at b
 have t1 : (l.set j z).take j = l.take j := by rw [List.take_set_of_le (Nat.le_refl _)]
 have t2 : (l.set j z).drop (j + 1) = l.drop (j + 1) := by rw [List.drop_set_of_lt (by omega)]
 have t3 : (l.set j z).getD j 0 = z := by rw [wd_at h2, List.getElem_set_self]
 rw [t1, t2, t3, Nat.mul_add] at b
 rw [Nat.mul_add] at a
 omega
theorem wd_set {l : List Int} (hd : WD l) (j : Nat) {z : Int} (z0 : 0 ≤ z) (z1 : z < 1000) : WD (l.set j z) := by
 intro y hy
 rcases List.mem_or_eq_of_mem_set hy with h | h
 ·exact hd y h
 ·rw [h]; exact ⟨z0, z1⟩
theorem wset_take {o : List Int} {k : Nat} (h : k < o.length) (z : Int) : (o.set k z).take (k + 1) = o.take k ++ [z] := by
 have h2 : k < (o.set k z).length := by rw [List.length_set]; exact h
 rw [List.take_succ_eq_append_getElem h2, List.getElem_set_self, List.take_set_of_le (Nat.le_refl _)]
structure Wide (l : List Int) (n : Nat) : Prop where
 len : l.length = 14
 digs : WD l
 val : wv l = n
theorem Wide.lt {l : List Int} {n : Nat} (h : Wide l n) : n < 1000 ^ 14 := by
 have k := wv_lt h.digs
 rwa [h.len, h.val] at k
theorem wide_zeros : Wide (List.replicate 14 0) 0 := ⟨by simp, wd_zeros 14, wv_zeros 14⟩
structure TmAt (T k : Nat) (o : List Int) (carry d c : Nat) : Prop where
 len : o.length = 14
 digs : WD o
 cy : carry < 1000
 dl : d < 1000
 val : wv o + 1000 ^ k * (carry + d * c) = T
theorem tm_step {T k : Nat} {o : List Int} {carry d c : Nat} (h : TmAt T k o carry d c) (hk : k < 14) {r : Nat} (hr : o.getD k 0 = (r : Int)) :
  TmAt T (k + 1) (o.set k (((carry + r + d * (c % 1000)) % 1000 : Nat) : Int)) ((carry + r + d * (c % 1000)) / 1000) d (c / 1000) := by
 obtain ⟨h1, h2, h3, h4, h5⟩ := h
 have hr2 := (wd_getD h2 k).2
 rw [hr] at hr2
 have hm : d * (c % 1000) ≤ 999 * 999 := Nat.mul_le_mul (by omega) (by omega)
 refine ⟨by rw [List.length_set, h1], wd_set h2 _ (by omega) (by omega), by omega, h4, ?_⟩
 have a := wv_set (l := o) (j := k) (by omega) (((carry + r + d * (c % 1000)) % 1000 : Nat) : Int)
 rw [hr] at a
 rw [show ((r : Int)).toNat = r by omega, show ((((carry + r + d * (c % 1000)) % 1000 : Nat) : Int)).toNat = (carry + r + d * (c % 1000)) % 1000 by omega] at a
 rw [← h5, Nat.pow_succ]
 have e : d * c = d * (c % 1000) + 1000 * (d * (c / 1000)) := by
  have g := Nat.mod_add_div c 1000
  conv => lhs; rw [← g]
  rw [Nat.mul_add, ← Nat.mul_assoc, ← Nat.mul_assoc, Nat.mul_comm d 1000]
 rw [e]
 generalize d * (c % 1000) = p at *
 generalize d * (c / 1000) = q at *
 generalize 1000 ^ k = W at *
 have s : W * ((carry + r + p) % 1000) + W * 1000 * ((carry + r + p) / 1000 + q) = W * (carry + (p + 1000 * q)) + W * r := by
  rw [Nat.mul_assoc, ← Nat.mul_add, ← Nat.mul_add]
  congr 1
  omega
 omega
theorem tm_place {T k : Nat} {o : List Int} {carry d c : Nat} (h : TmAt T k o carry d c) (hT : T < 1000 ^ 11) (hc : 0 < carry) : k < 11 := by
 have g : 1000 ^ k ≤ T := by
  rw [← h.val]
  have : 1000 ^ k * 1 ≤ 1000 ^ k * (carry + d * c) := Nat.mul_le_mul_left _ (by omega)
  omega
 rcases Nat.lt_or_ge k 11 with p | p
 ·exact p
 ·have := Nat.pow_le_pow_right (show 0 < 1000 by decide) p
  omega
end Go.Proofs.YtpamdlkagmlahaaGreatDoor
namespace Go.Proofs.YtpamdlkagmlahaaGreatDoor
open Go.RowKit
theorem infoI : (Tryz.prog.info? 3).map (fun i => (i.zero, i.size, i.bytes)) = some (some (.int .i64 0), 1, 8) := by kernel_rfl
theorem getD_at {l : List Int} {k : Nat} (hk : k < l.length) : l.getD k 0 = l[k] := by rw [List.getD_eq_getElem?_getD, List.getElem?_eq_getElem hk]; rfl
theorem cs_getD {o : List Int} {j : Nat} (h : j < o.length) : (cs o)[j]? = some (.int .i64 (o.getD j 0)) := by
 unfold cs
 rw [List.getElem?_map, List.getElem?_eq_getElem h, getD_at h]; rfl
theorem cs_set (o : List Int) (j : Nat) (z : Int) : (cs o).set j (.int .i64 z) = cs (o.set j z) := by
 unfold cs
 rw [List.map_set]
theorem fur_set {w w1 : World} {g j : Nat} {u : Value} (hf : Fur w w1) (hg : w.heap.size ≤ g) : Fur w (w1.setCell ⟨g, j, none⟩ u) := ⟨Below.setCell hf.b hg u, hf.dr⟩
theorem fur_drewN (w : World) (n : Nat) : Fur w (w.drewN n) := ⟨⟨rfl, rfl, rfl, Nat.le_refl _, fun _ _ => rfl⟩, Nat.le_add_right _ _⟩
theorem made_zero (n : Nat) : (madeCells (Value.int .i64 0).cells (n * 1)).toList = cs (List.replicate n 0) := by
 rw [Nat.mul_one]
 unfold cs
 rw [List.map_replicate]
 exact toList_madeCells_one (.int .i64 0) _
def RetB (w : World) (c : Bool) (e : Ending) (w' : World) : Prop := e = .returned (.bool c) ∧ Fur w w'
def RetI (w : World) (n : Int) (e : Ending) (w' : World) : Prop := e = .returned (.int .i64 n) ∧ Fur w w'
def RetT (w : World) (s : ByteArray) (e : Ending) (w' : World) : Prop := e = .returned (.string s) ∧ Fur w w'
def fr (n d : Int) : Value := .agg #[.int .i64 n, .int .i64 d]
def RetFB (w : World) (n d : Int) (c : Bool) (e : Ending) (w' : World) : Prop := e = .returned (.tuple #[.agg #[.int .i64 n, .int .i64 d], .bool c]) ∧ Fur w w'
theorem ret_str {a b : ByteArray} (h : a = b) : Ending.returned (.string a) = .returned (.string b) := by rw [h]
theorem IsS.of14 {w : World} {base e : Nat} {g : Nat} {o : List Int} (h : w.ownsRow base e 1 (.slice (some ⟨g, 0, none⟩) 14 14) 14 (cs o)) : IsS w (some ⟨g, 0, none⟩) o 14 := by
 obtain ⟨ao, cap, h3, -, hI⟩ := IsS.of_own h
 obtain ⟨rfl, -, rfl⟩ := Value.slice.inj h3
 exact hI
end Go.Proofs.YtpamdlkagmlahaaGreatDoor
namespace Go.Proofs.YtpamdlkagmlahaaGreatDoor
open Go.RowKit
theorem load_frac (w : World) (b : Nat) (n d : Int) (h0 : w.cell? ⟨b, 0, none⟩ = some (.int .i64 n)) (h1 : w.cell? ⟨b, 1, none⟩ = some (.int .i64 d)) :
  (loadVar 122 ⟨b, 0, none⟩).run Tryz.prog w = .ok (.agg #[.int .i64 n, .int .i64 d]) w := by
 go_simp
theorem fr_ret {fn : Func} {p u : Tmp} (hres : fn.results = #[.cell p 122, .tmp u]) {tmps : Array Value} {b : Nat} {n d : Int} {c : Bool} {w : World} {Q : Ending → World → Prop}
  (hp : tmps.getD p undef = .pointer (some ⟨b, 0, none⟩)) (hu : tmps.getD u undef = .bool c)
  (h0 : w.cell? ⟨b, 0, none⟩ = some (.int .i64 n)) (h1 : w.cell? ⟨b, 1, none⟩ = some (.int .i64 d))
  (hQ : Q (.returned (.tuple #[.agg #[.int .i64 n, .int .i64 d], .bool c])) w) : bodyPost Tryz.prog fn Q Exit.ret { tmps := tmps, defers := [] } w := by
 refine bodyPost_ret (v := .tuple #[.agg #[.int .i64 n, .int .i64 d], .bool c]) ?_ rfl hQ
 rw [results_cell_tmp hres, hp, hu]
 have e : (asAddr (.pointer (some ⟨b, 0, none⟩))).run Tryz.prog w = .ok ⟨b, 0, none⟩ w := by go_simp
 rw [e]
 simp only [Result.andThen]
 rw [load_frac w b n d h0 h1]
theorem cell_new (w : World) (a b : Value) (t : TypeId) : (w.alloc (.cells #[a, b] t)).cell? ⟨w.heap.size, 0, none⟩ = some a ∧ (w.alloc (.cells #[a, b] t)).cell? ⟨w.heap.size, 1, none⟩ = some b := by
 have k0 := World.cell?_alloc_mark w #[a, b] t (0, 0) 0
 have k1 := World.cell?_alloc_mark w #[a, b] t (0, 0) 1
 exact ⟨k0, k1⟩
theorem frac_put (W : World) (B : Nat) (a b u v : Value) (t : TypeId) (fz : Nat × Nat) (h : W.heap[B]? = some (.cells #[a, b] t fz)) :
  ((W.setCell ⟨B, 0, none⟩ u).setCell ⟨B, 1, none⟩ v).cell? ⟨B, 0, none⟩ = some u ∧ ((W.setCell ⟨B, 0, none⟩ u).setCell ⟨B, 1, none⟩ v).cell? ⟨B, 1, none⟩ = some v := by
 constructor <;> simp [World.setCell, World.cell?, Array.getElem?_modify, h]
theorem fur_put {w W : World} {B : Nat} (hf : Fur w W) (hB : w.heap.size ≤ B) (u v : Value) : Fur w ((W.setCell ⟨B, 0, none⟩ u).setCell ⟨B, 1, none⟩ v) :=
 ⟨Below.setCell (Below.setCell hf.b hB u) hB v, hf.dr⟩
theorem fr_ret_put {fn : Func} {p u : Tmp} (hres : fn.results = #[.cell p 122, .tmp u]) {tmps : Array Value} {B : Nat} {n d : Int} {c : Bool} {w W : World} {a b : Value} {t : TypeId} {fz : Nat × Nat}
  (hp : tmps.getD p undef = .pointer (some ⟨B, 0, none⟩)) (hu : tmps.getD u undef = .bool c) (h : W.heap[B]? = some (.cells #[a, b] t fz)) (hf : Fur w W) (hB : w.heap.size ≤ B) :
  bodyPost Tryz.prog fn (RetFB w n d c) Exit.ret { tmps := tmps, defers := [] } ((W.setCell ⟨B, 0, none⟩ (.int .i64 n)).setCell ⟨B, 1, none⟩ (.int .i64 d)) :=
 fr_ret hres hp hu (frac_put W B a b _ _ t fz h).1 (frac_put W B a b _ _ t fz h).2 ⟨rfl, fur_put hf hB _ _⟩
end Go.Proofs.YtpamdlkagmlahaaGreatDoor
namespace Go.Proofs.YtpamdlkagmlahaaGreatDoor
open Go.RowKit
def Box (W : World) (B : Nat) (n d : Int) : Prop := W.heap[B]? = some (.cells #[.int .i64 n, .int .i64 d] 122 (0, 0))
theorem Box.c0 {W : World} {B : Nat} {n d : Int} (h : Box W B n d) : W.cell? ⟨B, 0, none⟩ = some (.int .i64 n) := by unfold Box at h; simp [World.cell?, h]
theorem Box.c1 {W : World} {B : Nat} {n d : Int} (h : Box W B n d) : W.cell? ⟨B, 1, none⟩ = some (.int .i64 d) := by unfold Box at h; simp [World.cell?, h]
theorem Box.f0 {W : World} {B : Nat} {n d : Int} (h : Box W B n d) (j : Nat) : W.frozen? ⟨B, j, none⟩ = false := by unfold Box at h; simp [World.frozen?, h]
theorem Box.lt {W : World} {B : Nat} {n d : Int} (h : Box W B n d) : B < W.heap.size := by
 unfold Box at h
 rcases Nat.lt_or_ge B W.heap.size with k | k
 ·exact k
 ·rw [Array.getElem?_eq_none k] at h; cases h
theorem Box.on {W W' : World} {B : Nat} {n d : Int} (h : Box W B n d) (hf : Fur W W') : Box W' B n d := by
 have k := h.lt
 unfold Box at *
 rw [Below.block hf.b B k]; exact h
theorem Box.drewN {W : World} {B : Nat} {n d : Int} (h : Box W B n d) (q : Nat) : Box (W.drewN q) B n d := h
theorem cellOn {w w' : World} (hf : Fur w w') {p : Addr} {v : Value} (h : w.cell? p = some v) : w'.cell? p = some v := by
 rw [Below.cell hf.b (World.block_lt_of_cell? w p h)]; exact h
theorem cellOnw {w w' : World} (hf : Fuw w w') {p : Addr} {v : Value} (h : w.cell? p = some v) : w'.cell? p = some v := by
 rw [Below.cell hf (World.block_lt_of_cell? w p h)]; exact h
end Go.Proofs.YtpamdlkagmlahaaGreatDoor

namespace Go.Proofs.YtpamdlkagmlahaaGreatDoor
open Go.RowKit
def bs (s : List UInt8) : ByteArray := ⟨s.toArray⟩
def I64 (n : Int) : Prop := -9223372036854775808 ≤ n ∧ n ≤ 9223372036854775807
mutual
def VC (w : World) : Vl → Nat → Nat → Prop
 | .mk k n d s l, b, o => I64 k ∧ I64 n ∧ I64 d ∧ s.length ≤ maxLen ∧ w.cell? ⟨b, o, none⟩ = some (.int .i64 k) ∧ w.cell? ⟨b, o + 1, none⟩ = some (.int .i64 n) ∧ w.cell? ⟨b, o + 2, none⟩ = some (.int .i64 d) ∧ w.cell? ⟨b, o + 3, none⟩ = some (.string (bs s)) ∧
  ∃ ao cap, w.cell? ⟨b, o + 4, none⟩ = some (.slice ao l.length cap) ∧ l.length ≤ cap ∧ cap ≤ maxLen ∧ (ao = none → cap = 0) ∧ (0 < l.length → ∃ b' o', ao = some ⟨b', o', none⟩ ∧ VE w l b' o')
def VE (w : World) : List Vl → Nat → Nat → Prop
 | [], _, _ => True
 | v :: r, b, o => VC w v b o ∧ VE w r b (o + 5)
end
structure SlV (w : World) (ao : Option Addr) (l : List Vl) (cap : Nat) : Prop where
 le : l.length ≤ cap
 max : cap ≤ maxLen
 nil : ao = none → cap = 0
 at_ : 0 < l.length → ∃ b o, ao = some ⟨b, o, none⟩ ∧ VE w l b o
def vlv (x : Vl) (ao : Option Addr) (cap : Nat) : Value := .agg #[.int .i64 x.kd, .int .i64 x.nn, .int .i64 x.dd, .string (bs x.ss), .slice ao x.ll.length cap]
structure Vin (x : Vl) : Prop where
 k : I64 x.kd
 n : I64 x.nn
 d : I64 x.dd
 s : x.ss.length ≤ maxLen
def VX (w : World) (x : Vl) (v : Value) : Prop := Vin x ∧ ∃ ao cap, v = vlv x ao cap ∧ SlV w ao x.ll cap
theorem VC_of {w : World} {x : Vl} {b o : Nat} (h : VC w x b o) : Vin x ∧ w.cell? ⟨b, o, none⟩ = some (.int .i64 x.kd) ∧ w.cell? ⟨b, o + 1, none⟩ = some (.int .i64 x.nn) ∧ w.cell? ⟨b, o + 2, none⟩ = some (.int .i64 x.dd) ∧ w.cell? ⟨b, o + 3, none⟩ = some (.string (bs x.ss)) ∧ ∃ ao cap, w.cell? ⟨b, o + 4, none⟩ = some (.slice ao x.ll.length cap) ∧ SlV w ao x.ll cap := by
 cases x with
 | mk k n d s l =>
  unfold VC at h
  obtain ⟨h1, h2, h3, h4, c0, c1, c2, c3, ao, cap, c4, l1, l2, l3, l4⟩ := h
  exact ⟨⟨h1, h2, h3, h4⟩, c0, c1, c2, c3, ao, cap, c4, ⟨l1, l2, l3, l4⟩⟩
theorem VC_mk {w : World} {x : Vl} {b o : Nat} (hi : Vin x) (c0 : w.cell? ⟨b, o, none⟩ = some (.int .i64 x.kd)) (c1 : w.cell? ⟨b, o + 1, none⟩ = some (.int .i64 x.nn)) (c2 : w.cell? ⟨b, o + 2, none⟩ = some (.int .i64 x.dd)) (c3 : w.cell? ⟨b, o + 3, none⟩ = some (.string (bs x.ss)))
  {ao : Option Addr} {cap : Nat} (c4 : w.cell? ⟨b, o + 4, none⟩ = some (.slice ao x.ll.length cap)) (hs : SlV w ao x.ll cap) : VC w x b o := by
 cases x with
 | mk k n d s l =>
  unfold VC
  exact ⟨hi.k, hi.n, hi.d, hi.s, c0, c1, c2, c3, ao, cap, c4, hs.le, hs.max, hs.nil, hs.at_⟩
theorem VE_get {w : World} : ∀ {l : List Vl} {b o : Nat} (_ : VE w l b o) {i : Nat} {x : Vl} (_ : l[i]? = some x), VC w x b (o + i * 5)
 | [], _, _, _, i, x, hx => by simp at hx
 | v :: r, b, o, h, 0, x, hx => by
  unfold VE at h
  rw [List.getElem?_cons_zero] at hx
  cases hx
  simpa using h.1
 | v :: r, b, o, h, i + 1, x, hx => by
  unfold VE at h
  rw [List.getElem?_cons_succ] at hx
  have k := VE_get h.2 hx
  rwa [show o + 5 + i * 5 = o + (i + 1) * 5 by omega] at k
mutual
theorem VC_on {w w' : World} (hf : Fur w w') : ∀ {x : Vl} {b o : Nat}, VC w x b o → VC w' x b o
 | .mk k n d s l, b, o, h => by
  unfold VC at *
  obtain ⟨h1, h2, h3, h4, c0, c1, c2, c3, ao, cap, c4, l1, l2, l3, l4⟩ := h
  refine ⟨h1, h2, h3, h4, cellOn hf c0, cellOn hf c1, cellOn hf c2, cellOn hf c3, ao, cap, cellOn hf c4, l1, l2, l3, fun hp => ?_⟩
  obtain ⟨b', o', e, he⟩ := l4 hp
  exact ⟨b', o', e, VE_on hf he⟩
theorem VE_on {w w' : World} (hf : Fur w w') : ∀ {l : List Vl} {b o : Nat}, VE w l b o → VE w' l b o
 | [], _, _, _ => by unfold VE; trivial
 | v :: r, b, o, h => by
  unfold VE at *
  exact ⟨VC_on hf h.1, VE_on hf h.2⟩
end
theorem SlV.on {w w' : World} {ao : Option Addr} {l : List Vl} {cap : Nat} (h : SlV w ao l cap) (hf : Fur w w') : SlV w' ao l cap :=
 ⟨h.le, h.max, h.nil, fun hp => by obtain ⟨b, o, e, he⟩ := h.at_ hp; exact ⟨b, o, e, VE_on hf he⟩⟩
theorem VX.on {w w' : World} {x : Vl} {v : Value} (h : VX w x v) (hf : Fur w w') : VX w' x v := by
 obtain ⟨h1, ao, cap, e, hs⟩ := h
 exact ⟨h1, ao, cap, e, hs.on hf⟩
mutual
theorem VC_onw {w w' : World} (hf : Fuw w w') : ∀ {x : Vl} {b o : Nat}, VC w x b o → VC w' x b o
 | .mk k n d s l, b, o, h => by
  unfold VC at *
  obtain ⟨h1, h2, h3, h4, c0, c1, c2, c3, ao, cap, c4, l1, l2, l3, l4⟩ := h
  refine ⟨h1, h2, h3, h4, cellOnw hf c0, cellOnw hf c1, cellOnw hf c2, cellOnw hf c3, ao, cap, cellOnw hf c4, l1, l2, l3, fun hp => ?_⟩
  obtain ⟨b', o', e, he⟩ := l4 hp
  exact ⟨b', o', e, VE_onw hf he⟩
theorem VE_onw {w w' : World} (hf : Fuw w w') : ∀ {l : List Vl} {b o : Nat}, VE w l b o → VE w' l b o
 | [], _, _, _ => by unfold VE; trivial
 | v :: r, b, o, h => by
  unfold VE at *
  exact ⟨VC_onw hf h.1, VE_onw hf h.2⟩
end
theorem SlV.onw {w w' : World} {ao : Option Addr} {l : List Vl} {cap : Nat} (h : SlV w ao l cap) (hf : Fuw w w') : SlV w' ao l cap :=
 ⟨h.le, h.max, h.nil, fun hp => by obtain ⟨b, o, e, he⟩ := h.at_ hp; exact ⟨b, o, e, VE_onw hf he⟩⟩
theorem VX.onw {w w' : World} {x : Vl} {v : Value} (h : VX w x v) (hf : Fuw w w') : VX w' x v := by
 obtain ⟨h1, ao, cap, e, hs⟩ := h
 exact ⟨h1, ao, cap, e, hs.onw hf⟩
theorem SlV.get {w : World} {ao : Option Addr} {l : List Vl} {cap : Nat} (h : SlV w ao l cap) {i : Nat} (hi : i < l.length) : ∃ b o, ao = some ⟨b, o, none⟩ ∧ VC w l[i] b (o + i * 5) := by
 obtain ⟨b, o, e, he⟩ := h.at_ (by omega)
 exact ⟨b, o, e, VE_get he (List.getElem?_eq_getElem hi)⟩
def Bx (W : World) (B : Nat) (x : Vl) (ao : Option Addr) (cap : Nat) : Prop := W.heap[B]? = some (.cells #[.int .i64 x.kd, .int .i64 x.nn, .int .i64 x.dd, .string (bs x.ss), .slice ao x.ll.length cap] 28 (0, 0))
theorem Bx.c0 {W : World} {B : Nat} {x : Vl} {ao : Option Addr} {cap : Nat} (h : Bx W B x ao cap) : W.cell? ⟨B, 0, none⟩ = some (.int .i64 x.kd) := by unfold Bx at h; simp [World.cell?, h]
theorem Bx.c1 {W : World} {B : Nat} {x : Vl} {ao : Option Addr} {cap : Nat} (h : Bx W B x ao cap) : W.cell? ⟨B, 1, none⟩ = some (.int .i64 x.nn) := by unfold Bx at h; simp [World.cell?, h]
theorem Bx.c2 {W : World} {B : Nat} {x : Vl} {ao : Option Addr} {cap : Nat} (h : Bx W B x ao cap) : W.cell? ⟨B, 2, none⟩ = some (.int .i64 x.dd) := by unfold Bx at h; simp [World.cell?, h]
theorem Bx.c3 {W : World} {B : Nat} {x : Vl} {ao : Option Addr} {cap : Nat} (h : Bx W B x ao cap) : W.cell? ⟨B, 3, none⟩ = some (.string (bs x.ss)) := by unfold Bx at h; simp [World.cell?, h]
theorem Bx.c4 {W : World} {B : Nat} {x : Vl} {ao : Option Addr} {cap : Nat} (h : Bx W B x ao cap) : W.cell? ⟨B, 4, none⟩ = some (.slice ao x.ll.length cap) := by unfold Bx at h; simp [World.cell?, h]
theorem Bx.f {W : World} {B : Nat} {x : Vl} {ao : Option Addr} {cap : Nat} (h : Bx W B x ao cap) (j : Nat) : W.frozen? ⟨B, j, none⟩ = false := by unfold Bx at h; simp [World.frozen?, h]
theorem Bx.lt {W : World} {B : Nat} {x : Vl} {ao : Option Addr} {cap : Nat} (h : Bx W B x ao cap) : B < W.heap.size := by
 unfold Bx at h
 rcases Nat.lt_or_ge B W.heap.size with k | k
 ·exact k
 ·rw [Array.getElem?_eq_none k] at h; cases h
theorem Bx.on {W W' : World} {B : Nat} {x : Vl} {ao : Option Addr} {cap : Nat} (h : Bx W B x ao cap) (hf : Fur W W') : Bx W' B x ao cap := by
 have k := h.lt
 unfold Bx at *
 rw [Below.block hf.b B k]; exact h
theorem Bx.onw {W W' : World} {B : Nat} {x : Vl} {ao : Option Addr} {cap : Nat} (h : Bx W B x ao cap) (hf : Fuw W W') : Bx W' B x ao cap := by
 have k := h.lt
 unfold Bx at *
 rw [Below.block hf B k]; exact h
theorem bx1 (w : World) (x : Vl) (ao : Option Addr) (cap : Nat) :
  Bx (w.alloc (.cells #[.int .i64 x.kd, .int .i64 x.nn, .int .i64 x.dd, .string (bs x.ss), .slice ao x.ll.length cap] 28)) w.heap.size x ao cap ∧ Fur w (w.alloc (.cells #[.int .i64 x.kd, .int .i64 x.nn, .int .i64 x.dd, .string (bs x.ss), .slice ao x.ll.length cap] 28)) := by
 refine ⟨?_, (Fur.refl w).alloc _⟩
 show (w.heap.push _)[w.heap.size]? = _
 rw [Array.getElem?_push, if_pos rfl]
end Go.Proofs.YtpamdlkagmlahaaGreatDoor
namespace Go.Proofs.YtpamdlkagmlahaaGreatDoor
open Go.RowKit
structure Sl {α : Type} (size : Nat) (P : World → α → Nat → Nat → Prop) (w : World) (ao : Option Addr) (l : List α) (cap : Nat) : Prop where
 le : l.length ≤ cap
 max : cap ≤ maxLen
 nil : ao = none → cap = 0
 at_ : 0 < l.length → ∃ b o, ao = some ⟨b, o, none⟩ ∧ ∀ (i : Nat) (h : i < l.length), P w l[i] b (o + i * size)
section
variable {α : Type} {size : Nat} {P : World → α → Nat → Nat → Prop} {w w' : World} {ao : Option Addr} {l : List α} {cap : Nat}
theorem Sl.onP (h : Sl size P w ao l cap) (hP : ∀ x b o, P w x b o → P w' x b o) : Sl size P w' ao l cap :=
 ⟨h.le, h.max, h.nil, fun hp => by obtain ⟨b, o, e, he⟩ := h.at_ hp; exact ⟨b, o, e, fun i hi => hP _ _ _ (he i hi)⟩⟩
theorem Sl.get (h : Sl size P w ao l cap) {i : Nat} (hi : i < l.length) : ∃ b o, ao = some ⟨b, o, none⟩ ∧ P w l[i] b (o + i * size) := by
 obtain ⟨b, o, e, he⟩ := h.at_ (by omega)
 exact ⟨b, o, e, he i hi⟩
theorem Sl.get2 (h : Sl size P w ao l cap) {i j : Nat} (hi : i < l.length) (hj : j < l.length) : ∃ b o, ao = some ⟨b, o, none⟩ ∧ P w l[i] b (o + i * size) ∧ P w l[j] b (o + j * size) := by
 obtain ⟨b, o, e, he⟩ := h.at_ (by omega)
 exact ⟨b, o, e, he i hi, he j hj⟩
theorem Sl.empty (w : World) : Sl size P w none [] 0 := ⟨Nat.le_refl _, Nat.zero_le _, fun _ => rfl, fun h => absurd h (Nat.lt_irrefl 0)⟩
theorem Sl.len (h : Sl size P w ao l cap) : l.length ≤ 9223372036854775807 := by
 have := h.le; have := h.max; unfold maxLen at this; omega
theorem Sl.cap_ (h : Sl size P w ao l cap) : cap ≤ 9223372036854775807 := by
 have := h.max; unfold maxLen at this; omega
end
def StC (w : World) (s : List UInt8) (b o : Nat) : Prop := s.length ≤ maxLen ∧ w.cell? ⟨b, o, none⟩ = some (.string (bs s))
def PC (w : World) (p : Pp) (b o : Nat) : Prop := p.k.length ≤ maxLen ∧ w.cell? ⟨b, o, none⟩ = some (.string (bs p.k)) ∧ VC w p.v b (o + 1)
abbrev SlS := Sl 1 StC
abbrev SlP := Sl 6 PC
def NC (w : World) (n : Nd) (b o : Nat) : Prop := I64 n.id ∧ w.cell? ⟨b, o, none⟩ = some (.int .i64 n.id) ∧
 (∃ ao cap, w.cell? ⟨b, o + 1, none⟩ = some (.slice ao n.ls.length cap) ∧ SlS w ao n.ls cap) ∧ ∃ ao cap, w.cell? ⟨b, o + 2, none⟩ = some (.slice ao n.ps.length cap) ∧ SlP w ao n.ps cap
def EC (w : World) (e : Ed) (b o : Nat) : Prop := I64 e.id ∧ I64 e.fr ∧ I64 e.to ∧ e.ty.length ≤ maxLen ∧ w.cell? ⟨b, o, none⟩ = some (.int .i64 e.id) ∧ w.cell? ⟨b, o + 1, none⟩ = some (.int .i64 e.fr) ∧ w.cell? ⟨b, o + 2, none⟩ = some (.int .i64 e.to) ∧
 w.cell? ⟨b, o + 3, none⟩ = some (.string (bs e.ty)) ∧ ∃ ao cap, w.cell? ⟨b, o + 4, none⟩ = some (.slice ao e.ps.length cap) ∧ SlP w ao e.ps cap
abbrev SlN := Sl 3 NC
abbrev SlE := Sl 5 EC
section
variable {w w' : World} (hf : Fuw w w')
include hf
theorem StC_on {s : List UInt8} {b o : Nat} (h : StC w s b o) : StC w' s b o := ⟨h.1, cellOnw hf h.2⟩
theorem PC_on {p : Pp} {b o : Nat} (h : PC w p b o) : PC w' p b o := ⟨h.1, cellOnw hf h.2.1, VC_onw hf h.2.2⟩
theorem slS_on {ao : Option Addr} {l : List (List UInt8)} {cap : Nat} (h : SlS w ao l cap) : SlS w' ao l cap := h.onP fun _ _ _ k => StC_on hf k
theorem slP_on {ao : Option Addr} {l : List Pp} {cap : Nat} (h : SlP w ao l cap) : SlP w' ao l cap := h.onP fun _ _ _ k => PC_on hf k
theorem NC_on {n : Nd} {b o : Nat} (h : NC w n b o) : NC w' n b o := by
 obtain ⟨h1, h2, ⟨a, c, h3, h4⟩, a', c', h5, h6⟩ := h
 exact ⟨h1, cellOnw hf h2, ⟨a, c, cellOnw hf h3, slS_on hf h4⟩, a', c', cellOnw hf h5, slP_on hf h6⟩
theorem EC_on {e : Ed} {b o : Nat} (h : EC w e b o) : EC w' e b o := by
 obtain ⟨h1, h2, h3, h4, c0, c1, c2, c3, a, c, c4, h5⟩ := h
 exact ⟨h1, h2, h3, h4, cellOnw hf c0, cellOnw hf c1, cellOnw hf c2, cellOnw hf c3, a, c, cellOnw hf c4, slP_on hf h5⟩
theorem slN_on {ao : Option Addr} {l : List Nd} {cap : Nat} (h : SlN w ao l cap) : SlN w' ao l cap := h.onP fun _ _ _ k => NC_on hf k
theorem slE_on {ao : Option Addr} {l : List Ed} {cap : Nat} (h : SlE w ao l cap) : SlE w' ao l cap := h.onP fun _ _ _ k => EC_on hf k
end
def grv (g : Gr) (an ae : Option Addr) (cn ce : Nat) : Value := .agg #[.slice an g.ns.length cn, .slice ae g.es.length ce, .int .i64 g.nn, .int .i64 g.ne]
structure GIn (w : World) (g : Gr) (an ae : Option Addr) (cn ce : Nat) : Prop where
 n : SlN w an g.ns cn
 e : SlE w ae g.es ce
 i1 : I64 g.nn
 i2 : I64 g.ne
theorem GIn.on {w w' : World} {g : Gr} {an ae : Option Addr} {cn ce : Nat} (h : GIn w g an ae cn ce) (hf : Fuw w w') : GIn w' g an ae cn ce := ⟨slN_on hf h.n, slE_on hf h.e, h.i1, h.i2⟩
def ndv (n : Nd) (al ap : Option Addr) (cl cp : Nat) : Value := .agg #[.int .i64 n.id, .slice al n.ls.length cl, .slice ap n.ps.length cp]
def edv (e : Ed) (ap : Option Addr) (cp : Nat) : Value := .agg #[.int .i64 e.id, .int .i64 e.fr, .int .i64 e.to, .string (bs e.ty), .slice ap e.ps.length cp]
def Bk (w : World) (B : Nat) (cs : Array Value) (t : TypeId) : Prop := w.heap[B]? = some (.cells cs t (0, 0))
section
variable {w w' : World} {B : Nat} {cs : Array Value} {t : TypeId}
theorem Bk.lt (h : Bk w B cs t) : B < w.heap.size := by
 unfold Bk at h
 rcases Nat.lt_or_ge B w.heap.size with k | k
 ·exact k
 ·rw [Array.getElem?_eq_none k] at h; cases h
theorem Bk.on (h : Bk w B cs t) (hf : Fuw w w') : Bk w' B cs t := by
 have k := h.lt
 unfold Bk at *
 rw [Below.block hf B k]; exact h
theorem Bk.below (h : Bk w B cs t) {n : Nat} (hf : Below n w w') (hB : B < n) : Bk w' B cs t := by
 unfold Bk at *
 rw [Below.block hf B hB]; exact h
theorem Bk.c (h : Bk w B cs t) (j : Nat) : w.cell? ⟨B, j, none⟩ = cs[j]? := cell_of_row w B j cs t (0, 0) h
theorem Bk.f (h : Bk w B cs t) (j : Nat) : w.frozen? ⟨B, j, none⟩ = false := by unfold Bk at h; simp [World.frozen?, h]
theorem Bk.new (w : World) (cs : Array Value) (t : TypeId) : Bk (w.alloc (.cells cs t)) w.heap.size cs t := by
 show (w.heap.push _)[w.heap.size]? = _
 rw [Array.getElem?_push, if_pos rfl]
theorem Bk.set_ (h : Bk w B cs t) (i : Nat) (u : Value) : Bk (w.setCell ⟨B, i, none⟩ u) B (cs.setIfInBounds i u) t := by
 unfold Bk at h ⊢
 simp [World.setCell, Array.getElem?_modify, h]
theorem Bk.far (h : Bk w B cs t) {p : Addr} (hp : B ≠ p.block) (u : Value) : Bk (w.setCell p u) B cs t := (Below.heap_setCell w p u B hp).trans h
end
theorem fuwA (w : World) (o : Obj) : Fuw w (w.alloc o) := (Fuw.refl w).alloc o
theorem fuwS {w w1 : World} {g j : Nat} {u : Value} (hf : Fuw w w1) (hg : w.heap.size ≤ g) : Fuw w (w1.setCell ⟨g, j, none⟩ u) := Below.setCell hf hg u
theorem fuw_dr (w : World) (n : Nat) : Fuw w (w.drewN n) := ⟨rfl, rfl, rfl, Nat.le_refl _, fun _ _ => rfl⟩
theorem bs_size (s : List UInt8) : (bs s).size = s.length := by simp [bs, ByteArray.size]
theorem bs_data (s : List UInt8) : (bs s).data.toList = s := by simp [bs]
end Go.Proofs.YtpamdlkagmlahaaGreatDoor
