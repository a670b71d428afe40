/-
  NatMath; NatMem; WideM: texts of one kind in one file; each part says what it holds.
-/
import Derived.WalkKit
import Derived.Below
import Derived.WideShapes
import Derived.Lib.Hide

/-! Plain mathematics of natural numbers as lists of limbs in base 1000000000, the least limb first: the value of a list, the one valid list of a value, and when a list of limbs is that list. No program, no world. -/
namespace Go.Proofs.Ytcadeijloobbmaa

/-- The value of a list of limbs. -/
def vl : List Int → Nat
  | [] => 0
  | z :: r => z.toNat + 1000000000 * vl r
/-- Every limb is a digit. -/
def Digs (l : List Int) : Prop := ∀ z ∈ l, 0 ≤ z ∧ z < 1000000000
/-- The list of a value. -/
def lim (n : Nat) : List Int := if h : n = 0 then [] else ((n % 1000000000 : Nat) : Int) :: lim (n / 1000000000)
termination_by n
decreasing_by omega

theorem lim_0 : lim 0 = [] := by rw [lim]; simp
theorem lim_s {n : Nat} (h : n ≠ 0) : lim n = ((n % 1000000000 : Nat) : Int) :: lim (n / 1000000000) := by rw [lim, dif_neg h]
theorem vl_lim (n : Nat) : vl (lim n) = n := by
  induction n using Nat.strongRecOn with
  | _ n ih =>
    by_cases h : n = 0
    · subst h; rw [lim_0]; rfl
    · rw [lim_s h, vl, ih (n / 1000000000) (by omega)]; omega
theorem digs_lim (n : Nat) : Digs (lim n) := by
  induction n using Nat.strongRecOn with
  | _ n ih =>
    by_cases h : n = 0
    · subst h; rw [lim_0]; intro z hz; cases hz
    · rw [lim_s h]
      intro z hz
      rcases List.mem_cons.1 hz with rfl | hz
      · omega
      · exact ih (n / 1000000000) (by omega) z hz
theorem lim_nil {n : Nat} : lim n = [] ↔ n = 0 := by
  constructor
  · intro h
    have := vl_lim n
    rw [h] at this
    exact this.symm
  · intro h; rw [h, lim_0]
theorem last_lim (n : Nat) (h : n ≠ 0) : ∃ z, (lim n).getLast? = some z ∧ z ≠ 0 := by
  induction n using Nat.strongRecOn with
  | _ n ih =>
    rw [lim_s h]
    by_cases h1 : n / 1000000000 = 0
    · rw [h1, lim_0]
      exact ⟨((n % 1000000000 : Nat) : Int), rfl, by omega⟩
    · obtain ⟨z, h2, h3⟩ := ih (n / 1000000000) (by omega) h1
      refine ⟨z, ?_, h3⟩
      rw [List.getLast?_cons, h2]; rfl

theorem vl_app (a b : List Int) : vl (a ++ b) = vl a + 1000000000 ^ a.length * vl b := by
  induction a with
  | nil => simp [vl]
  | cons z r ih =>
    rw [List.cons_append, vl, vl, ih, List.length_cons, Nat.pow_succ, Nat.mul_add]
    rw [Nat.mul_comm (1000000000 ^ r.length) 1000000000, Nat.mul_assoc]
    omega
theorem vl_lt {l : List Int} (h : Digs l) : vl l < 1000000000 ^ l.length := by
  induction l with
  | nil => simp [vl]
  | cons z r ih =>
    have h1 := h z (List.mem_cons_self ..)
    have h2 := ih fun y hy => h y (List.mem_cons_of_mem _ hy)
    rw [vl, List.length_cons, Nat.pow_succ]
    omega
theorem digs_app {a b : List Int} (ha : Digs a) (hb : Digs b) : Digs (a ++ b) := fun z hz => by
  rcases List.mem_append.1 hz with h | h
  · exact ha z h
  · exact hb z h
theorem digs_one {z : Int} (h0 : 0 ≤ z) (h1 : z < 1000000000) : Digs [z] := fun y hy => by
  have e : y = z := by simpa using hy
  subst e; exact ⟨h0, h1⟩
theorem digs_nil : Digs [] := fun _ h => by cases h
theorem digs_take {l : List Int} (h : Digs l) (k : Nat) : Digs (l.take k) := fun z hz => h z (List.mem_of_mem_take hz)
theorem digs_drop {l : List Int} (h : Digs l) (k : Nat) : Digs (l.drop k) := fun z hz => h z (List.mem_of_mem_drop hz)

/-- A list of digits whose last one is not 0 is the list of its value. -/
theorem lim_vl {l : List Int} (h : Digs l) (hl : l.getLast? ≠ some 0) : lim (vl l) = l := by
  induction l with
  | nil => rw [vl, lim_0]
  | cons z r ih =>
    have h1 := h z (List.mem_cons_self ..)
    have h2 : Digs r := fun y hy => h y (List.mem_cons_of_mem _ hy)
    by_cases hr : r = []
    · subst hr
      have hz : z ≠ 0 := fun e => hl (by rw [e]; rfl)
      have e : vl [z] = z.toNat := by simp [vl]
      rw [e, lim_s (by omega), show z.toNat / 1000000000 = 0 by omega, lim_0, show z.toNat % 1000000000 = z.toNat by omega]
      congr 1
      omega
    · have hl' : r.getLast? ≠ some 0 := by
        intro e; apply hl; rw [List.getLast?_cons, e]; rfl
      have ih' := ih h2 hl'
      have hp : vl r ≠ 0 := by
        intro e; rw [e, lim_0] at ih'; exact hr ih'.symm
      rw [vl, lim_s (by omega), show (z.toNat + 1000000000 * vl r) / 1000000000 = vl r by omega, show (z.toNat + 1000000000 * vl r) % 1000000000 = z.toNat by omega, ih']
      congr 1
      omega
theorem lim_zero_end (l : List Int) : lim (vl (l ++ [0])) = lim (vl l) := by
  rw [vl_app]; simp [vl]
/-- A list of digits of a length whose value is great enough is the list of its value. -/
theorem lim_big {l : List Int} (h : Digs l) (hv : l = [] ∨ 1000000000 ^ (l.length - 1) ≤ vl l) : lim (vl l) = l := by
  refine lim_vl h fun e => ?_
  rcases hv with rfl | hv
  · cases e
  · obtain ⟨k, hk⟩ := List.getLast?_eq_some_iff.1 e
    subst hk
    have h1 : vl k < 1000000000 ^ k.length := vl_lt fun z hz => h z (List.mem_append_left _ hz)
    rw [vl_app] at hv
    simp [vl] at hv
    omega
theorem len_lim (n k : Nat) : (lim n).length ≤ k ↔ n < 1000000000 ^ k := by
  induction k generalizing n with
  | zero =>
    rw [Nat.pow_zero, Nat.le_zero, List.length_eq_zero_iff, lim_nil]; omega
  | succ k ih =>
    by_cases h : n = 0
    · subst h; rw [lim_0]; exact ⟨fun _ => Nat.pow_pos (by decide), fun _ => Nat.zero_le _⟩
    · rw [lim_s h, List.length_cons, Nat.succ_le_succ_iff, ih, Nat.pow_succ]
      omega
theorem len_pos {n : Nat} (h : n ≠ 0) : 1000000000 ^ ((lim n).length - 1) ≤ n := by
  have k := len_lim n ((lim n).length - 1)
  have p : 0 < (lim n).length := by
    rw [List.length_pos_iff]; exact fun e => h (lim_nil.1 e)
  omega

/-- A valid number. -/
def okL (l : List Int) : Bool := decide (l.length ≤ 64) && (l.all fun z => decide (0 ≤ z) && decide (z < 1000000000)) && !(l.getLast? == some 0)
theorem okL_t {l : List Int} (h : okL l = true) : l.length ≤ 64 ∧ Digs l ∧ l.getLast? ≠ some 0 := by
  simp only [okL, Bool.and_eq_true, decide_eq_true_eq, List.all_eq_true] at h
  obtain ⟨⟨h1, h2⟩, h3⟩ := h
  exact ⟨h1, h2, by simpa using h3⟩
theorem okL_mk {l : List Int} (h1 : l.length ≤ 64) (h2 : Digs l) (h3 : l.getLast? ≠ some 0) : okL l = true := by
  simp only [okL, Bool.and_eq_true, decide_eq_true_eq, List.all_eq_true]
  exact ⟨⟨h1, h2⟩, by simpa using h3⟩
/-- The number of a list: 0 where it is not valid. -/
def nv (l : List Int) : Nat := if okL l = true then vl l else 0
/-- The valid list of the number of a list. -/
def numL (l : List Int) : List Int := if okL l = true then l else []
theorem numL_lim (l : List Int) : numL l = lim (nv l) := by
  unfold numL nv
  split
  · rename_i h
    obtain ⟨_, h2, h3⟩ := okL_t h
    rw [lim_vl h2 h3]
  · rw [lim_0]
theorem nv_lt (l : List Int) : nv l < 1000000000 ^ 64 := by
  unfold nv
  split
  · rename_i h
    obtain ⟨h1, h2, _⟩ := okL_t h
    exact Nat.lt_of_lt_of_le (vl_lt h2) (Nat.pow_le_pow_right (by decide) h1)
  · exact Nat.pow_pos (by decide)
theorem last_lim' (n : Nat) : (lim n).getLast? ≠ some 0 := by
  by_cases h : n = 0
  · subst h; rw [lim_0]; intro e; cases e
  · obtain ⟨z, h1, h2⟩ := last_lim n h
    rw [h1]; intro e; injection e with e; exact h2 e
theorem okL_lim {n : Nat} (h : n < 1000000000 ^ 64) : okL (lim n) = true := okL_mk ((len_lim n 64).2 h) (digs_lim n) (last_lim' n)
theorem nv_lim {n : Nat} (h : n < 1000000000 ^ 64) : nv (lim n) = n := by unfold nv; rw [if_pos (okL_lim h), vl_lim]
theorem numL_len (l : List Int) : (numL l).length ≤ 64 := by rw [numL_lim, len_lim]; exact nv_lt l
theorem digs_numL (l : List Int) : Digs (numL l) := by rw [numL_lim]; exact digs_lim _
theorem vl_numL (l : List Int) : vl (numL l) = nv l := by rw [numL_lim, vl_lim]
theorem lim_inj {a b : Nat} (h : lim a = lim b) : a = b := by rw [← vl_lim a, ← vl_lim b, h]
theorem okL_eq {a b : List Int} (ha : okL a = true) (hb : okL b = true) (h : nv a = nv b) : a = b := by
  have e1 : numL a = a := by unfold numL; rw [if_pos ha]
  have e2 : numL b = b := by unfold numL; rw [if_pos hb]
  rw [← e1, ← e2, numL_lim, numL_lim, h]
end Go.Proofs.Ytcadeijloobbmaa

/-! Slices of int in memory, told by the list of what they hold; the relation of worlds 'nothing that was there has turned'. No program's function is walked here. -/
namespace Go.Proofs.Ytcadeijloobbmaa
open Go.RowKit

/-- What existed before is as it was; the world has only grown, and no answer that was drawn is drawn again. -/
structure Fur (w w' : World) : Prop where
  b : Below w.heap.size w w'
  dr : w.drawn ≤ w'.drawn
theorem Fur.refl (w : World) : Fur w w := ⟨Below.refl _ _, Nat.le_refl _⟩
theorem Fur.trans {a b c : World} (h : Fur a b) (k : Fur b c) : Fur a c := ⟨Below.trans h.b (Below.mono k.b (Below.size h.b)), Nat.le_trans h.dr k.dr⟩
theorem Fur.drew {a b : World} (h : Fur a b) : Fur a b.drew := ⟨Below.drew h.b, Nat.le_trans h.dr (Nat.le_succ _)⟩
theorem Fur.size {a b : World} (h : Fur a b) : a.heap.size ≤ b.heap.size := Below.size h.b
theorem Fur.alloc {a b : World} (h : Fur a b) (o : Obj) : Fur a (b.alloc o) := ⟨Below.alloc h.b (Below.size h.b) o, h.dr⟩

/-- The same, whatever was drawn. -/
def Fuw (w w' : World) : Prop := Below w.heap.size w w'
theorem Fuw.refl (w : World) : Fuw w w := Below.refl _ _
theorem Fuw.trans {a b c : World} (h : Fuw a b) (k : Fuw b c) : Fuw a c := Below.trans h (Below.mono k (Below.size h))
theorem Fuw.drew {a b : World} (h : Fuw a b) : Fuw a b.drew := Below.drew h
theorem Fuw.size {a b : World} (h : Fuw a b) : a.heap.size ≤ b.heap.size := Below.size h
theorem Fuw.alloc {a b : World} (h : Fuw a b) (o : Obj) : Fuw a (b.alloc o) := Below.alloc h (Below.size h) o
theorem Fur.w {a b : World} (h : Fur a b) : Fuw a b := h.b

/-- A slice at ao, of capacity cap, holds the list zs of int values. -/
structure IsS (w : World) (ao : Option Addr) (zs : List Int) (cap : Nat) : Prop where
  le : zs.length ≤ cap
  max : cap ≤ maxLen
  nil : ao = none → cap = 0
  at_ : 0 < zs.length → ∃ b off, ao = some ⟨b, off, none⟩ ∧ b < w.heap.size ∧ ∀ j, j < zs.length → w.cell? ⟨b, off + j, none⟩ = some (.int .i64 (zs.getD j 0))
theorem IsS.on {w w' : World} {ao : Option Addr} {zs : List Int} {cap : Nat} (h : IsS w ao zs cap) (hf : Fur w w') : IsS w' ao zs cap :=
  ⟨h.le, h.max, h.nil, fun hp => by
    obtain ⟨b, off, e, hb, hc⟩ := h.at_ hp
    exact ⟨b, off, e, Nat.lt_of_lt_of_le hb hf.size, fun j hj => (Below.cell hf.b (p := ⟨b, off + j, none⟩) hb).trans (hc j hj)⟩⟩
theorem IsS.empty (w : World) : IsS w none [] 0 := ⟨Nat.le_refl _, Nat.zero_le _, fun _ => rfl, fun h => absurd h (by decide)⟩

/-- A result is a slice that holds zs; nothing that was there has turned. -/
def RetS (w : World) (zs : List Int) (e : Ending) (w' : World) : Prop := ∃ ao cap, e = .returned (.slice ao zs.length cap) ∧ IsS w' ao zs cap ∧ Fur w w'
/-- A slice that holds zs and a bool. -/
def RetSB (w : World) (zs : List Int) (c : Bool) (e : Ending) (w' : World) : Prop := ∃ ao cap, e = .returned (.tuple #[.slice ao zs.length cap, .bool c]) ∧ IsS w' ao zs cap ∧ Fur w w'

/-- The cells of a list. -/
def cs (zs : List Int) : List Value := zs.map (Value.int .i64)
theorem cs_len (zs : List Int) : (cs zs).length = zs.length := List.length_map ..
theorem cs_app (a b : List Int) : cs (a ++ b) = cs a ++ cs b := List.map_append ..
/-- What a call owns reads as its list. -/
theorem IsS.of_own {w : World} {base e : Nat} {v : Value} {n : Nat} {zs : List Int} (h : w.ownsRow base e 1 v n (cs zs)) : ∃ ao cap, v = .slice ao zs.length cap ∧ n = zs.length ∧ IsS w ao zs cap := by
  have hl := h.1
  rw [cs_len, Nat.mul_one] at hl
  subst hl
  rcases h.2 with ⟨rfl, h0⟩ | ⟨g, cap, cur, rfl, hb, hh, h1, h2, h3, h4⟩
  · refine ⟨none, 0, by rw [h0], rfl, by omega, Nat.zero_le _, fun _ => rfl, fun hp => absurd hp (by omega)⟩
  · refine ⟨_, cap, rfl, rfl, h1, h2, (fun k => by cases k), fun _ => ⟨g, 0, rfl, ?_, fun j hj => ?_⟩⟩
    · rcases Nat.lt_or_ge g w.heap.size with k | k
      · exact k
      · rw [Array.getElem?_eq_none k] at hh; cases hh
    · have k := h.cells (g := g) rfl j (.int .i64 (zs.getD j 0)) (by simp [cs, hj])
      rw [Go.WideShapes.add_plain] at k
      exact k
theorem ret_slice {ao : Option Addr} {cap : Nat} {n m : Nat} (h : n = m) : Ending.returned (.slice ao n cap) = .returned (.slice ao m cap) := by rw [h]
theorem ret_bool {a b : Bool} (h : a = b) : Ending.returned (.bool a) = .returned (.bool b) := by rw [h]
theorem ret_int {k : IntKind} {a b : Int} (h : a = b) : Ending.returned (.int k a) = .returned (.int k b) := by rw [h]
end Go.Proofs.Ytcadeijloobbmaa

/-! Plain mathematics of natural numbers as lists of digits in base 1000, the least one first: the value of a list, and what one round of a loop over the digits keeps. No program, no world. -/
namespace Go.Proofs.Ytcadeijloobbmaa

/-- The value of a list of digits. -/
def wv : List Int → Nat
  | [] => 0
  | z :: r => z.toNat + 1000 * wv r
/-- Every element is a digit. -/
def WD (l : List Int) : Prop := ∀ z ∈ l, 0 ≤ z ∧ z < 1000
theorem wd_at {l : List Int} {k : Nat} (hk : k < l.length) : l.getD k 0 = l[k] := by rw [List.getD_eq_getElem?_getD, List.getElem?_eq_getElem hk]; rfl
theorem wv_app (a b : List Int) : wv (a ++ b) = wv a + 1000 ^ a.length * wv b := by
  induction a with
  | nil => simp [wv]
  | cons z r ih =>
    rw [List.cons_append, wv, wv, ih, List.length_cons, Nat.pow_succ, Nat.mul_add]
    rw [Nat.mul_comm (1000 ^ r.length) 1000, Nat.mul_assoc]
    omega
theorem wv_lt {l : List Int} (h : WD l) : wv l < 1000 ^ l.length := by
  induction l with
  | nil => simp [wv]
  | cons z r ih =>
    have h1 := h z (List.mem_cons_self ..)
    have h2 := ih fun y hy => h y (List.mem_cons_of_mem _ hy)
    rw [wv, List.length_cons, Nat.pow_succ]
    omega
theorem wd_take {l : List Int} (h : WD l) (k : Nat) : WD (l.take k) := fun z hz => h z (List.mem_of_mem_take hz)
theorem wd_drop {l : List Int} (h : WD l) (k : Nat) : WD (l.drop k) := fun z hz => h z (List.mem_of_mem_drop hz)
theorem wd_one {z : Int} (h0 : 0 ≤ z) (h1 : z < 1000) : WD [z] := fun y hy => by
  have e : y = z := by simpa using hy
  subst e; exact ⟨h0, h1⟩
theorem wd_app {a b : List Int} (ha : WD a) (hb : WD b) : WD (a ++ b) := fun z hz => by
  rcases List.mem_append.1 hz with h | h
  · exact ha z h
  · exact hb z h
theorem wd_getD {l : List Int} (h : WD l) (k : Nat) : 0 ≤ l.getD k 0 ∧ l.getD k 0 < 1000 := by
  by_cases hk : k < l.length
  · rw [wd_at hk]; exact h _ (List.getElem_mem hk)
  · rw [List.getD_eq_getElem?_getD, List.getElem?_eq_none (by omega)]
    exact ⟨by decide, by decide⟩
theorem wd_zeros (n : Nat) : WD (List.replicate n 0) := fun z hz => by rw [List.eq_of_mem_replicate hz]; decide
theorem wv_zeros (n : Nat) : wv (List.replicate n 0) = 0 := by
  induction n with
  | zero => rfl
  | succ m ih => rw [List.replicate_succ, wv, ih]; rfl
theorem wv_take (l : List Int) (k : Nat) : wv (l.take (k + 1)) = wv (l.take k) + 1000 ^ k * (l.getD k 0).toNat := by
  by_cases h : k < l.length
  · rw [List.take_succ_eq_append_getElem h, wv_app, ← wd_at h, List.length_take, Nat.min_eq_left (by omega)]
    simp [wv]
  · rw [List.take_of_length_le (by omega), List.take_of_length_le (by omega), List.getD_eq_getElem?_getD, List.getElem?_eq_none (by omega)]
    simp
theorem wv_drop (l : List Int) (k : Nat) : wv (l.drop k) = (l.getD k 0).toNat + 1000 * wv (l.drop (k + 1)) := by
  by_cases h : k < l.length
  · rw [List.drop_eq_getElem_cons h, wv, wd_at h]
  · rw [List.drop_of_length_le (by omega), List.drop_of_length_le (by omega), List.getD_eq_getElem?_getD, List.getElem?_eq_none (by omega)]
    rfl
theorem wv_cut (l : List Int) (k : Nat) : wv l = wv (l.take k) + 1000 ^ k * wv (l.drop k) := by
  by_cases h : k ≤ l.length
  · have t : (l.take k).length = k := by rw [List.length_take]; omega
    have e := wv_app (l.take k) (l.drop k)
    rw [List.take_append_drop, t] at e
    exact e
  · rw [List.take_of_length_le (by omega), List.drop_of_length_le (by omega)]
    simp [wv]
theorem wv_drop_le (l : List Int) (k : Nat) : wv (l.drop k) ≤ wv l := by
  rw [wv_cut l k]
  have : 1 * wv (l.drop k) ≤ 1000 ^ k * wv (l.drop k) := Nat.mul_le_mul_right _ (Nat.pow_pos (by decide))
  omega
theorem wv_take_lt {l : List Int} (h : WD l) (k : Nat) : wv (l.take k) < 1000 ^ k :=
  Nat.lt_of_lt_of_le (wv_lt (wd_take h k)) (Nat.pow_le_pow_right (by decide) (by rw [List.length_take]; omega))
theorem wv_set {l : List Int} {j : Nat} (h : j < l.length) (z : Int) : wv (l.set j z) + 1000 ^ j * (l.getD j 0).toNat = wv l + 1000 ^ j * z.toNat := by
  have h2 : j < (l.set j z).length := by rw [List.length_set]; exact h
  have a := wv_cut l j
  have b := wv_cut (l.set j z) j
  rw [wv_drop l j] at a
  rw [wv_drop (l.set j z) j] at b
  have t1 : (l.set j z).take j = l.take j := by rw [List.take_set_of_le (Nat.le_refl _)]
  have t2 : (l.set j z).drop (j + 1) = l.drop (j + 1) := by rw [List.drop_set_of_lt (by omega)]
  have t3 : (l.set j z).getD j 0 = z := by rw [wd_at h2, List.getElem_set_self]
  rw [t1, t2, t3, Nat.mul_add] at b
  rw [Nat.mul_add] at a
  omega
theorem wd_set {l : List Int} (hd : WD l) (j : Nat) {z : Int} (z0 : 0 ≤ z) (z1 : z < 1000) : WD (l.set j z) := by
  intro y hy
  rcases List.mem_or_eq_of_mem_set hy with h | h
  · exact hd y h
  · rw [h]; exact ⟨z0, z1⟩
theorem wset_take {o : List Int} {k : Nat} (h : k < o.length) (z : Int) : (o.set k z).take (k + 1) = o.take k ++ [z] := by
  have h2 : k < (o.set k z).length := by rw [List.length_set]; exact h
  rw [List.take_succ_eq_append_getElem h2, List.getElem_set_self, List.take_set_of_le (Nat.le_refl _)]
theorem wset_drop {o : List Int} {k : Nat} (h : k < o.length) (z : Int) : (o.set k z).drop k = z :: o.drop (k + 1) := by
  have h2 : k < (o.set k z).length := by rw [List.length_set]; exact h
  rw [List.drop_eq_getElem_cons h2, List.getElem_set_self, List.drop_set_of_lt (by omega)]

/-- A wide number: fourteen digits. -/
structure Wide (l : List Int) (n : Nat) : Prop where
  len : l.length = 14
  digs : WD l
  val : wv l = n
theorem Wide.lt {l : List Int} {n : Nat} (h : Wide l n) : n < 1000 ^ 14 := by
  have k := wv_lt h.digs
  rwa [h.len, h.val] at k
theorem wide_zeros : Wide (List.replicate 14 0) 0 := ⟨by simp, wd_zeros 14, wv_zeros 14⟩

/-! times -/
/-- In the inner loop of a multiplication: T is the value aimed at. -/
structure TmAt (T k : Nat) (o : List Int) (carry d c : Nat) : Prop where
  len : o.length = 14
  digs : WD o
  cy : carry < 1000
  dl : d < 1000
  val : wv o + 1000 ^ k * (carry + d * c) = T
theorem tm_step {T k : Nat} {o : List Int} {carry d c : Nat} (h : TmAt T k o carry d c) (hk : k < 14) {r : Nat} (hr : o.getD k 0 = (r : Int)) :
    TmAt T (k + 1) (o.set k (((carry + r + d * (c % 1000)) % 1000 : Nat) : Int)) ((carry + r + d * (c % 1000)) / 1000) d (c / 1000) := by
  obtain ⟨h1, h2, h3, h4, h5⟩ := h
  have hr2 := (wd_getD h2 k).2
  rw [hr] at hr2
  have hm : d * (c % 1000) ≤ 999 * 999 := Nat.mul_le_mul (by omega) (by omega)
  refine ⟨by rw [List.length_set, h1], wd_set h2 _ (by omega) (by omega), by omega, h4, ?_⟩
  have a := wv_set (l := o) (j := k) (by omega) (((carry + r + d * (c % 1000)) % 1000 : Nat) : Int)
  rw [hr] at a
  rw [show ((r : Int)).toNat = r by omega, show ((((carry + r + d * (c % 1000)) % 1000 : Nat) : Int)).toNat = (carry + r + d * (c % 1000)) % 1000 by omega] at a
  rw [← h5, Nat.pow_succ]
  have e : d * c = d * (c % 1000) + 1000 * (d * (c / 1000)) := by
    have g := Nat.mod_add_div c 1000
    conv => lhs; rw [← g]
    rw [Nat.mul_add, ← Nat.mul_assoc, ← Nat.mul_assoc, Nat.mul_comm d 1000]
  rw [e]
  generalize d * (c % 1000) = p at *
  generalize d * (c / 1000) = q at *
  generalize 1000 ^ k = W at *
  have s : W * ((carry + r + p) % 1000) + W * 1000 * ((carry + r + p) / 1000 + q) = W * (carry + (p + 1000 * q)) + W * r := by
    rw [Nat.mul_assoc, ← Nat.mul_add, ← Nat.mul_add]
    congr 1
    omega
  omega
/-- The place stays small: the value aimed at is small. -/
theorem tm_place {T k : Nat} {o : List Int} {carry d c : Nat} (h : TmAt T k o carry d c) (hT : T < 1000 ^ 11) (hc : 0 < carry) : k < 11 := by
  have g : 1000 ^ k ≤ T := by
    rw [← h.val]
    have : 1000 ^ k * 1 ≤ 1000 ^ k * (carry + d * c) := Nat.mul_le_mul_left _ (by omega)
    omega
  rcases Nat.lt_or_ge k 11 with p | p
  · exact p
  · have := Nat.pow_le_pow_right (show 0 < 1000 by decide) p
    omega
end Go.Proofs.Ytcadeijloobbmaa
