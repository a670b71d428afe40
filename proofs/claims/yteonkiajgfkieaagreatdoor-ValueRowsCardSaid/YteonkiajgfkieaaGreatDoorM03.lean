/-
  NatMath; NatMem: texts of one kind in one file; each part says what it holds.
-/
import Derived.WalkKit
import Derived.Below
import Derived.WideShapes
import Derived.Lib.Hide

/-! Plain mathematics of natural numbers as lists of limbs in base 1000000000, the least limb first: the value of a list, the one valid list of a value, and when a list of limbs is that list. No program, no world. -/
namespace Go.Proofs.YteonkiajgfkieaaGreatDoor

/-- The value of a list of limbs. -/
def vl : List Int → Nat
  | [] => 0
  | z :: r => z.toNat + 1000000000 * vl r
/-- Every limb is a digit. -/
def Digs (l : List Int) : Prop := ∀ z ∈ l, 0 ≤ z ∧ z < 1000000000
/-- The list of a value. -/
def lim (n : Nat) : List Int := if h : n = 0 then [] else ((n % 1000000000 : Nat) : Int) :: lim (n / 1000000000)
termination_by n
decreasing_by omega

theorem lim_0 : lim 0 = [] := by rw [lim]; simp
theorem lim_s {n : Nat} (h : n ≠ 0) : lim n = ((n % 1000000000 : Nat) : Int) :: lim (n / 1000000000) := by rw [lim, dif_neg h]
theorem vl_lim (n : Nat) : vl (lim n) = n := by
  induction n using Nat.strongRecOn with
  | _ n ih =>
    by_cases h : n = 0
    · subst h; rw [lim_0]; rfl
    · rw [lim_s h, vl, ih (n / 1000000000) (by omega)]; omega
theorem digs_lim (n : Nat) : Digs (lim n) := by
  induction n using Nat.strongRecOn with
  | _ n ih =>
    by_cases h : n = 0
    · subst h; rw [lim_0]; intro z hz; cases hz
    · rw [lim_s h]
      intro z hz
      rcases List.mem_cons.1 hz with rfl | hz
      · omega
      · exact ih (n / 1000000000) (by omega) z hz
theorem lim_nil {n : Nat} : lim n = [] ↔ n = 0 := by
  constructor
  · intro h
    have := vl_lim n
    rw [h] at this
    exact this.symm
  · intro h; rw [h, lim_0]
theorem last_lim (n : Nat) (h : n ≠ 0) : ∃ z, (lim n).getLast? = some z ∧ z ≠ 0 := by
  induction n using Nat.strongRecOn with
  | _ n ih =>
    rw [lim_s h]
    by_cases h1 : n / 1000000000 = 0
    · rw [h1, lim_0]
      exact ⟨((n % 1000000000 : Nat) : Int), rfl, by omega⟩
    · obtain ⟨z, h2, h3⟩ := ih (n / 1000000000) (by omega) h1
      refine ⟨z, ?_, h3⟩
      rw [List.getLast?_cons, h2]; rfl

theorem vl_app (a b : List Int) : vl (a ++ b) = vl a + 1000000000 ^ a.length * vl b := by
  induction a with
  | nil => simp [vl]
  | cons z r ih =>
    rw [List.cons_append, vl, vl, ih, List.length_cons, Nat.pow_succ, Nat.mul_add]
    rw [Nat.mul_comm (1000000000 ^ r.length) 1000000000, Nat.mul_assoc]
    omega
theorem vl_lt {l : List Int} (h : Digs l) : vl l < 1000000000 ^ l.length := by
  induction l with
  | nil => simp [vl]
  | cons z r ih =>
    have h1 := h z (List.mem_cons_self ..)
    have h2 := ih fun y hy => h y (List.mem_cons_of_mem _ hy)
    rw [vl, List.length_cons, Nat.pow_succ]
    omega
theorem digs_app {a b : List Int} (ha : Digs a) (hb : Digs b) : Digs (a ++ b) := fun z hz => by
  rcases List.mem_append.1 hz with h | h
  · exact ha z h
  · exact hb z h
theorem digs_one {z : Int} (h0 : 0 ≤ z) (h1 : z < 1000000000) : Digs [z] := fun y hy => by
  have e : y = z := by simpa using hy
  subst e; exact ⟨h0, h1⟩
theorem digs_nil : Digs [] := fun _ h => by cases h
theorem digs_take {l : List Int} (h : Digs l) (k : Nat) : Digs (l.take k) := fun z hz => h z (List.mem_of_mem_take hz)
theorem digs_drop {l : List Int} (h : Digs l) (k : Nat) : Digs (l.drop k) := fun z hz => h z (List.mem_of_mem_drop hz)

/-- A list of digits whose last one is not 0 is the list of its value. -/
theorem lim_vl {l : List Int} (h : Digs l) (hl : l.getLast? ≠ some 0) : lim (vl l) = l := by
  induction l with
  | nil => rw [vl, lim_0]
  | cons z r ih =>
    have h1 := h z (List.mem_cons_self ..)
    have h2 : Digs r := fun y hy => h y (List.mem_cons_of_mem _ hy)
    by_cases hr : r = []
    · subst hr
      have hz : z ≠ 0 := fun e => hl (by rw [e]; rfl)
      have e : vl [z] = z.toNat := by simp [vl]
      rw [e, lim_s (by omega), show z.toNat / 1000000000 = 0 by omega, lim_0, show z.toNat % 1000000000 = z.toNat by omega]
      congr 1
      omega
    · have hl' : r.getLast? ≠ some 0 := by
        intro e; apply hl; rw [List.getLast?_cons, e]; rfl
      have ih' := ih h2 hl'
      have hp : vl r ≠ 0 := by
        intro e; rw [e, lim_0] at ih'; exact hr ih'.symm
      rw [vl, lim_s (by omega), show (z.toNat + 1000000000 * vl r) / 1000000000 = vl r by omega, show (z.toNat + 1000000000 * vl r) % 1000000000 = z.toNat by omega, ih']
      congr 1
      omega
theorem lim_zero_end (l : List Int) : lim (vl (l ++ [0])) = lim (vl l) := by
  rw [vl_app]; simp [vl]
/-- A list of digits of a length whose value is great enough is the list of its value. -/
theorem lim_big {l : List Int} (h : Digs l) (hv : l = [] ∨ 1000000000 ^ (l.length - 1) ≤ vl l) : lim (vl l) = l := by
  refine lim_vl h fun e => ?_
  rcases hv with rfl | hv
  · cases e
  · obtain ⟨k, hk⟩ := List.getLast?_eq_some_iff.1 e
    subst hk
    have h1 : vl k < 1000000000 ^ k.length := vl_lt fun z hz => h z (List.mem_append_left _ hz)
    rw [vl_app] at hv
    simp [vl] at hv
    omega
theorem len_lim (n k : Nat) : (lim n).length ≤ k ↔ n < 1000000000 ^ k := by
  induction k generalizing n with
  | zero =>
    rw [Nat.pow_zero, Nat.le_zero, List.length_eq_zero_iff, lim_nil]; omega
  | succ k ih =>
    by_cases h : n = 0
    · subst h; rw [lim_0]; exact ⟨fun _ => Nat.pow_pos (by decide), fun _ => Nat.zero_le _⟩
    · rw [lim_s h, List.length_cons, Nat.succ_le_succ_iff, ih, Nat.pow_succ]
      omega
theorem len_pos {n : Nat} (h : n ≠ 0) : 1000000000 ^ ((lim n).length - 1) ≤ n := by
  have k := len_lim n ((lim n).length - 1)
  have p : 0 < (lim n).length := by
    rw [List.length_pos_iff]; exact fun e => h (lim_nil.1 e)
  omega

/-- A valid number. -/
def okL (l : List Int) : Bool := decide (l.length ≤ 64) && (l.all fun z => decide (0 ≤ z) && decide (z < 1000000000)) && !(l.getLast? == some 0)
theorem okL_t {l : List Int} (h : okL l = true) : l.length ≤ 64 ∧ Digs l ∧ l.getLast? ≠ some 0 := by
  simp only [okL, Bool.and_eq_true, decide_eq_true_eq, List.all_eq_true] at h
  obtain ⟨⟨h1, h2⟩, h3⟩ := h
  exact ⟨h1, h2, by simpa using h3⟩
theorem okL_mk {l : List Int} (h1 : l.length ≤ 64) (h2 : Digs l) (h3 : l.getLast? ≠ some 0) : okL l = true := by
  simp only [okL, Bool.and_eq_true, decide_eq_true_eq, List.all_eq_true]
  exact ⟨⟨h1, h2⟩, by simpa using h3⟩
/-- The number of a list: 0 where it is not valid. -/
def nv (l : List Int) : Nat := if okL l = true then vl l else 0
/-- The valid list of the number of a list. -/
def numL (l : List Int) : List Int := if okL l = true then l else []
theorem numL_lim (l : List Int) : numL l = lim (nv l) := by
  unfold numL nv
  split
  · rename_i h
    obtain ⟨_, h2, h3⟩ := okL_t h
    rw [lim_vl h2 h3]
  · rw [lim_0]
theorem nv_lt (l : List Int) : nv l < 1000000000 ^ 64 := by
  unfold nv
  split
  · rename_i h
    obtain ⟨h1, h2, _⟩ := okL_t h
    exact Nat.lt_of_lt_of_le (vl_lt h2) (Nat.pow_le_pow_right (by decide) h1)
  · exact Nat.pow_pos (by decide)
theorem last_lim' (n : Nat) : (lim n).getLast? ≠ some 0 := by
  by_cases h : n = 0
  · subst h; rw [lim_0]; intro e; cases e
  · obtain ⟨z, h1, h2⟩ := last_lim n h
    rw [h1]; intro e; injection e with e; exact h2 e
theorem okL_lim {n : Nat} (h : n < 1000000000 ^ 64) : okL (lim n) = true := okL_mk ((len_lim n 64).2 h) (digs_lim n) (last_lim' n)
theorem nv_lim {n : Nat} (h : n < 1000000000 ^ 64) : nv (lim n) = n := by unfold nv; rw [if_pos (okL_lim h), vl_lim]
theorem numL_len (l : List Int) : (numL l).length ≤ 64 := by rw [numL_lim, len_lim]; exact nv_lt l
theorem digs_numL (l : List Int) : Digs (numL l) := by rw [numL_lim]; exact digs_lim _
theorem vl_numL (l : List Int) : vl (numL l) = nv l := by rw [numL_lim, vl_lim]
theorem lim_inj {a b : Nat} (h : lim a = lim b) : a = b := by rw [← vl_lim a, ← vl_lim b, h]
theorem okL_eq {a b : List Int} (ha : okL a = true) (hb : okL b = true) (h : nv a = nv b) : a = b := by
  have e1 : numL a = a := by unfold numL; rw [if_pos ha]
  have e2 : numL b = b := by unfold numL; rw [if_pos hb]
  rw [← e1, ← e2, numL_lim, numL_lim, h]
end Go.Proofs.YteonkiajgfkieaaGreatDoor

/-! Slices of int in memory, told by the list of what they hold; the relation of worlds 'nothing that was there has turned'. No program's function is walked here. -/
namespace Go.Proofs.YteonkiajgfkieaaGreatDoor
open Go.RowKit

/-- What existed before is as it was; the world has only grown, and no answer that was drawn is drawn again. -/
structure Fur (w w' : World) : Prop where
  b : Below w.heap.size w w'
  dr : w.drawn ≤ w'.drawn
theorem Fur.refl (w : World) : Fur w w := ⟨Below.refl _ _, Nat.le_refl _⟩
theorem Fur.trans {a b c : World} (h : Fur a b) (k : Fur b c) : Fur a c := ⟨Below.trans h.b (Below.mono k.b (Below.size h.b)), Nat.le_trans h.dr k.dr⟩
theorem Fur.drew {a b : World} (h : Fur a b) : Fur a b.drew := ⟨Below.drew h.b, Nat.le_trans h.dr (Nat.le_succ _)⟩
theorem Fur.size {a b : World} (h : Fur a b) : a.heap.size ≤ b.heap.size := Below.size h.b
theorem Fur.alloc {a b : World} (h : Fur a b) (o : Obj) : Fur a (b.alloc o) := ⟨Below.alloc h.b (Below.size h.b) o, h.dr⟩

/-- The same, whatever was drawn. -/
def Fuw (w w' : World) : Prop := Below w.heap.size w w'
theorem Fuw.refl (w : World) : Fuw w w := Below.refl _ _
theorem Fuw.trans {a b c : World} (h : Fuw a b) (k : Fuw b c) : Fuw a c := Below.trans h (Below.mono k (Below.size h))
theorem Fuw.drew {a b : World} (h : Fuw a b) : Fuw a b.drew := Below.drew h
theorem Fuw.size {a b : World} (h : Fuw a b) : a.heap.size ≤ b.heap.size := Below.size h
theorem Fuw.alloc {a b : World} (h : Fuw a b) (o : Obj) : Fuw a (b.alloc o) := Below.alloc h (Below.size h) o
theorem Fur.w {a b : World} (h : Fur a b) : Fuw a b := h.b

/-- A slice at ao, of capacity cap, holds the list zs of int values. -/
structure IsS (w : World) (ao : Option Addr) (zs : List Int) (cap : Nat) : Prop where
  le : zs.length ≤ cap
  max : cap ≤ maxLen
  nil : ao = none → cap = 0
  at_ : 0 < zs.length → ∃ b off, ao = some ⟨b, off, none⟩ ∧ b < w.heap.size ∧ ∀ j, j < zs.length → w.cell? ⟨b, off + j, none⟩ = some (.int .i64 (zs.getD j 0))
theorem IsS.on {w w' : World} {ao : Option Addr} {zs : List Int} {cap : Nat} (h : IsS w ao zs cap) (hf : Fur w w') : IsS w' ao zs cap :=
  ⟨h.le, h.max, h.nil, fun hp => by
    obtain ⟨b, off, e, hb, hc⟩ := h.at_ hp
    exact ⟨b, off, e, Nat.lt_of_lt_of_le hb hf.size, fun j hj => (Below.cell hf.b (p := ⟨b, off + j, none⟩) hb).trans (hc j hj)⟩⟩
theorem IsS.empty (w : World) : IsS w none [] 0 := ⟨Nat.le_refl _, Nat.zero_le _, fun _ => rfl, fun h => absurd h (by decide)⟩

/-- A result is a slice that holds zs; nothing that was there has turned. -/
def RetS (w : World) (zs : List Int) (e : Ending) (w' : World) : Prop := ∃ ao cap, e = .returned (.slice ao zs.length cap) ∧ IsS w' ao zs cap ∧ Fur w w'
/-- A slice that holds zs and a bool. -/
def RetSB (w : World) (zs : List Int) (c : Bool) (e : Ending) (w' : World) : Prop := ∃ ao cap, e = .returned (.tuple #[.slice ao zs.length cap, .bool c]) ∧ IsS w' ao zs cap ∧ Fur w w'

/-- The cells of a list. -/
def cs (zs : List Int) : List Value := zs.map (Value.int .i64)
theorem cs_len (zs : List Int) : (cs zs).length = zs.length := List.length_map ..
theorem cs_app (a b : List Int) : cs (a ++ b) = cs a ++ cs b := List.map_append ..
/-- What a call owns reads as its list. -/
theorem IsS.of_own {w : World} {base e : Nat} {v : Value} {n : Nat} {zs : List Int} (h : w.ownsRow base e 1 v n (cs zs)) : ∃ ao cap, v = .slice ao zs.length cap ∧ n = zs.length ∧ IsS w ao zs cap := by
  have hl := h.1
  rw [cs_len, Nat.mul_one] at hl
  subst hl
  rcases h.2 with ⟨rfl, h0⟩ | ⟨g, cap, cur, rfl, hb, hh, h1, h2, h3, h4⟩
  · refine ⟨none, 0, by rw [h0], rfl, by omega, Nat.zero_le _, fun _ => rfl, fun hp => absurd hp (by omega)⟩
  · refine ⟨_, cap, rfl, rfl, h1, h2, (fun k => by cases k), fun _ => ⟨g, 0, rfl, ?_, fun j hj => ?_⟩⟩
    · rcases Nat.lt_or_ge g w.heap.size with k | k
      · exact k
      · rw [Array.getElem?_eq_none k] at hh; cases hh
    · have k := h.cells (g := g) rfl j (.int .i64 (zs.getD j 0)) (by simp [cs, hj])
      rw [Go.WideShapes.add_plain] at k
      exact k
theorem ret_slice {ao : Option Addr} {cap : Nat} {n m : Nat} (h : n = m) : Ending.returned (.slice ao n cap) = .returned (.slice ao m cap) := by rw [h]
theorem ret_bool {a b : Bool} (h : a = b) : Ending.returned (.bool a) = .returned (.bool b) := by rw [h]
theorem ret_int {k : IntKind} {a b : Int} (h : a = b) : Ending.returned (.int k a) = .returned (.int k b) := by rw [h]
end Go.Proofs.YteonkiajgfkieaaGreatDoor
