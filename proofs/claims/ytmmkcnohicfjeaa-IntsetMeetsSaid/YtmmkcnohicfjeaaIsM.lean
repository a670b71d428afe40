/-
  Plain mathematics of sets of integers as strictly increasing lists: insertion, the set of a list, union, intersection, difference, and where a search stops. No program here.
-/
import Derived.Lib.SlicesCompact
namespace Go.Proofs.Ytmmkcnohicfjeaa

/-- Strictly increasing. -/
def Str (l : List Int) : Prop := l.Pairwise (· < ·)
theorem Str.nil : Str [] := List.Pairwise.nil
theorem str_cons {x : Int} {l : List Int} : Str (x :: l) ↔ (∀ y ∈ l, x < y) ∧ Str l := List.pairwise_cons
theorem str_ext {l m : List Int} (hl : Str l) (hm : Str m) (h : ∀ x, x ∈ l ↔ x ∈ m) : l = m := by
  induction l generalizing m with
  | nil =>
    cases m with
    | nil => rfl
    | cons y m => exact absurd ((h y).2 (by simp)) (by simp)
  | cons x l ih =>
    cases m with
    | nil => exact absurd ((h x).1 (by simp)) (by simp)
    | cons y m =>
      obtain ⟨lx, sl⟩ := str_cons.1 hl
      obtain ⟨my, sm⟩ := str_cons.1 hm
      have e : x = y := by
        rcases List.mem_cons.1 ((h x).1 (by simp)) with k | k
        · exact k
        · rcases List.mem_cons.1 ((h y).2 (by simp)) with j | j
          · exact j.symm
          · have := my x k; have := lx y j; omega
      subst e
      rw [ih sl sm fun z => ?_]
      constructor
      · intro k
        rcases List.mem_cons.1 ((h z).1 (List.mem_cons_of_mem _ k)) with j | j
        · have := lx z k; omega
        · exact j
      · intro k
        rcases List.mem_cons.1 ((h z).2 (List.mem_cons_of_mem _ k)) with j | j
        · have := my z k; omega
        · exact j
theorem str_filter {l : List Int} (p : Int → Bool) (h : Str l) : Str (l.filter p) := List.Pairwise.sublist List.filter_sublist h

/-- The set l with x inserted. -/
def insL : List Int → Int → List Int
  | [], x => [x]
  | y :: l, x => if x < y then x :: y :: l else if x = y then y :: l else y :: insL l x
theorem mem_insL (l : List Int) (x z : Int) : z ∈ insL l x ↔ z = x ∨ z ∈ l := by
  induction l with
  | nil => simp [insL]
  | cons y l ih =>
    unfold insL
    split
    · simp
    · split
      · rename_i h; subst h; simp
      · simp only [List.mem_cons, ih]
        constructor
        · rintro (h | h | h)
          · exact .inr (.inl h)
          · exact .inl h
          · exact .inr (.inr h)
        · rintro (h | h | h)
          · exact .inr (.inl h)
          · exact .inl h
          · exact .inr (.inr h)
theorem str_insL {l : List Int} (h : Str l) (x : Int) : Str (insL l x) := by
  induction l with
  | nil => exact str_cons.2 ⟨(fun _ k => by cases k), Str.nil⟩
  | cons y l ih =>
    obtain ⟨a, b⟩ := str_cons.1 h
    unfold insL
    split
    · rename_i hx
      refine str_cons.2 ⟨fun z hz => ?_, h⟩
      rcases List.mem_cons.1 hz with k | k
      · omega
      · have := a z k; omega
    · split
      · exact h
      · refine str_cons.2 ⟨fun z hz => ?_, ih b⟩
        rcases (mem_insL l x z).1 hz with k | k
        · omega
        · exact a z k
theorem insL_len (l : List Int) (x : Int) : (insL l x).length ≤ l.length + 1 := by
  induction l with
  | nil => simp [insL]
  | cons y l ih =>
    unfold insL
    split
    · simp
    · split
      · simp
      · simp; exact ih

/-- The set of a list's elements. -/
def ofL (l : List Int) : List Int := l.foldl insL []
theorem fold_str {s : List Int} (hs : Str s) (l : List Int) : Str (l.foldl insL s) := by
  induction l generalizing s with
  | nil => exact hs
  | cons x l ih => exact ih (str_insL hs x)
theorem fold_mem (s l : List Int) (z : Int) : z ∈ l.foldl insL s ↔ z ∈ s ∨ z ∈ l := by
  induction l generalizing s with
  | nil => simp
  | cons x l ih =>
    rw [List.foldl_cons, ih, mem_insL]
    simp only [List.mem_cons]
    constructor
    · rintro ((h | h) | h)
      · exact .inr (.inl h)
      · exact .inl h
      · exact .inr (.inr h)
    · rintro (h | h | h)
      · exact .inl (.inr h)
      · exact .inl (.inl h)
      · exact .inr h
theorem fold_len (s l : List Int) : (l.foldl insL s).length ≤ s.length + l.length := by
  induction l generalizing s with
  | nil => simp
  | cons x l ih =>
    have h := ih (insL s x)
    have k := insL_len s x
    rw [List.foldl_cons, List.length_cons]
    omega
theorem ofL_str (l : List Int) : Str (ofL l) := fold_str Str.nil l
theorem mem_ofL (l : List Int) (z : Int) : z ∈ ofL l ↔ z ∈ l := by
  unfold ofL; rw [fold_mem]; simp
theorem ofL_len (l : List Int) : (ofL l).length ≤ l.length := by
  have h := fold_len [] l
  simpa [ofL] using h
theorem ofL_of {l : List Int} (h : Str l) : ofL l = l := str_ext (ofL_str l) h (mem_ofL l)
theorem ofL_snoc (l : List Int) (x : Int) : ofL (l ++ [x]) = insL (ofL l) x := by
  unfold ofL; rw [List.foldl_append]; rfl

/-- What compacting a sorted list gives is its set. -/
theorem sort_le (l : List Int) : (l.mergeSort fun x y => decide (x ≤ y)).Pairwise (· ≤ ·) := by
  have h := List.pairwise_mergeSort (le := fun x y : Int => decide (x ≤ y)) (by intro a b c; simp; omega) (by intro a b; simp; omega) l
  exact h.imp (by simp)
theorem sort_len (l : List Int) : (l.mergeSort fun x y => decide (x ≤ y)).length = l.length := List.length_mergeSort l
theorem sort_mem (l : List Int) (z : Int) : z ∈ (l.mergeSort fun x y => decide (x ≤ y)) ↔ z ∈ l := List.mem_mergeSort

theorem arr_get (zs : List Int) (m : Nat) (h : m < zs.length) : zs.toArray[m]! = zs[m] := by
  rw [getElem!_pos _ m (by simpa using h)]
  simp
theorem pair_get {zs : List Int} (h : zs.Pairwise (· ≤ ·)) (i j : Nat) (hi : i < zs.length) (hj : j < zs.length) (hij : i < j) : zs[i] ≤ zs[j] := List.pairwise_iff_getElem.1 h i j hi hj hij
theorem comp_inv {zs : List Int} (h : zs.Pairwise (· ≤ ·)) (m : Nat) (hm : m ≤ zs.length) :
    Str (Lib.compactUpTo zs.toArray m) ∧ ∀ x, x ∈ Lib.compactUpTo zs.toArray m ↔ x ∈ zs.take m := by
  induction m with
  | zero => exact ⟨Str.nil, fun x => by simp [Lib.compactUpTo]⟩
  | succ m ih =>
    obtain ⟨hs, hx⟩ := ih (by omega)
    have hlt : m < zs.length := by omega
    have ht : zs.take (m + 1) = zs.take m ++ [zs[m]] := List.take_succ_eq_append_getElem hlt
    rw [Lib.compactUpTo_succ, ht, arr_get zs m hlt]
    have hle : ∀ x ∈ Lib.compactUpTo zs.toArray m, 0 < m → x ≤ zs[m - 1]'(by omega) := fun x hxm h0 => by
      obtain ⟨i, hi, rfl⟩ := List.getElem_of_mem ((hx x).1 hxm)
      rw [List.getElem_take]
      simp at hi
      rcases Nat.lt_or_ge i (m - 1) with k | k
      · exact pair_get h i (m - 1) (by omega) (by omega) k
      · have e : i = m - 1 := by omega
        subst e
        exact Int.le_refl _
    cases hk : Lib.keeps zs.toArray m
    · have h0 : 0 < m := by
        rcases Nat.eq_zero_or_pos m with e | e
        · subst e; simp [Lib.keeps] at hk
        · exact e
      have e : zs[m] = zs[m - 1]'(by omega) := by
        have k : ¬ (m = 0 ∨ zs.toArray[m]! ≠ zs.toArray[m - 1]!) := by simpa [Lib.keeps] using hk
        rw [arr_get zs m hlt, arr_get zs (m - 1) (by omega)] at k
        by_cases j : zs[m] = zs[m - 1]'(by omega)
        · exact j
        · exact absurd (.inr j) k
      refine ⟨by simpa using hs, fun x => ?_⟩
      simp only [Bool.false_eq_true, if_false, List.append_nil, List.mem_append, List.mem_singleton, hx]
      constructor
      · exact .inl
      · rintro (k | k)
        · exact k
        · rw [k, e]
          exact List.mem_iff_getElem.2 ⟨m - 1, by simp; omega, by simp⟩
    · refine ⟨?_, fun x => by rw [if_pos rfl, List.mem_append, List.mem_append, hx]⟩
      rw [if_pos rfl]
      refine List.pairwise_append.2 ⟨hs, List.pairwise_singleton _ _, fun x hxm y hy => ?_⟩
      simp at hy
      subst hy
      have h0 : 0 < m := by
        rcases Nat.eq_zero_or_pos m with e | e
        · subst e; exact absurd ((hx x).1 hxm) (by simp)
        · exact e
      have k1 := hle x hxm h0
      have k2 := pair_get h (m - 1) m (by omega) hlt (by omega)
      have k3 : zs[m] ≠ zs[m - 1]'(by omega) := by
        have k : m = 0 ∨ zs.toArray[m]! ≠ zs.toArray[m - 1]! := by simpa [Lib.keeps] using hk
        rw [arr_get zs m hlt, arr_get zs (m - 1) (by omega)] at k
        rcases k with k | k
        · omega
        · exact k
      omega
theorem compact_sort (l : List Int) : Lib.compact (l.mergeSort fun x y => decide (x ≤ y)) = ofL l := by
  obtain ⟨hs, hm⟩ := comp_inv (sort_le l) (l.mergeSort fun x y => decide (x ≤ y)).length (Nat.le_refl _)
  refine str_ext hs (ofL_str l) fun x => ?_
  have k := hm x
  rw [List.take_length, sort_mem] at k
  rw [mem_ofL]
  exact k

/-- Union, intersection, difference. -/
def unL (a b : List Int) : List Int := ofL (a ++ b)
def meL (a b : List Int) : List Int := (ofL a).filter fun x => b.contains x
def miL (a b : List Int) : List Int := (ofL a).filter fun x => !b.contains x
theorem mem_unL (a b : List Int) (z : Int) : z ∈ unL a b ↔ z ∈ a ∨ z ∈ b := by unfold unL; rw [mem_ofL, List.mem_append]
theorem mem_meL (a b : List Int) (z : Int) : z ∈ meL a b ↔ z ∈ a ∧ z ∈ b := by unfold meL; rw [List.mem_filter, mem_ofL]; simp
theorem mem_miL (a b : List Int) (z : Int) : z ∈ miL a b ↔ z ∈ a ∧ ¬ z ∈ b := by unfold miL; rw [List.mem_filter, mem_ofL]; simp
theorem unL_str (a b : List Int) : Str (unL a b) := ofL_str _
theorem meL_str (a b : List Int) : Str (meL a b) := str_filter _ (ofL_str _)
theorem miL_str (a b : List Int) : Str (miL a b) := str_filter _ (ofL_str _)
theorem unL_len (a b : List Int) : (unL a b).length ≤ a.length + b.length := by
  have h := ofL_len (a ++ b)
  rw [List.length_append] at h
  exact h
theorem meL_len (a b : List Int) : (meL a b).length ≤ a.length := Nat.le_trans (List.length_filter_le _ _) (ofL_len a)
theorem miL_len (a b : List Int) : (miL a b).length ≤ a.length := Nat.le_trans (List.length_filter_le _ _) (ofL_len a)

/-- The laws of a distributive lattice. -/
theorem un_comm (a b : List Int) : unL a b = unL b a := str_ext (unL_str _ _) (unL_str _ _) fun z => by rw [mem_unL, mem_unL]; exact or_comm
theorem me_comm (a b : List Int) : meL a b = meL b a := str_ext (meL_str _ _) (meL_str _ _) fun z => by rw [mem_meL, mem_meL]; exact and_comm
theorem me_assoc (a b c : List Int) : meL a (meL b c) = meL (meL a b) c := str_ext (meL_str _ _) (meL_str _ _) fun z => by rw [mem_meL, mem_meL, mem_meL, mem_meL]; exact and_assoc.symm
theorem me_un (a b c : List Int) : meL a (unL b c) = unL (meL a b) (meL a c) := str_ext (meL_str _ _) (unL_str _ _) fun z => by rw [mem_meL, mem_unL, mem_unL, mem_meL, mem_meL]; exact and_or_left
theorem un_me (a b c : List Int) : unL a (meL b c) = meL (unL a b) (unL a c) := str_ext (unL_str _ _) (meL_str _ _) fun z => by rw [mem_unL, mem_meL, mem_meL, mem_unL, mem_unL]; exact or_and_left

/-- The parts of a set. -/
theorem me_parts (a b : List Int) : meL (meL a b) (miL a b) = [] := str_ext (meL_str _ _) Str.nil fun z => by
  rw [mem_meL, mem_meL, mem_miL]
  simp
  intro _ h1 _
  exact h1
theorem un_parts (a b : List Int) : unL (meL a b) (miL a b) = ofL a := str_ext (unL_str _ _) (ofL_str _) fun z => by
  rw [mem_unL, mem_meL, mem_miL, mem_ofL]
  constructor
  · rintro (h | h)
    · exact h.1
    · exact h.1
  · intro h
    by_cases k : z ∈ b
    · exact .inl ⟨h, k⟩
    · exact .inr ⟨h, k⟩
theorem len_parts (l : List Int) (p : Int → Bool) : (l.filter p).length + (l.filter fun x => !p x).length = l.length := by
  induction l with
  | nil => rfl
  | cons x l ih =>
    cases h : p x <;> simp [h] <;> omega
theorem sizes (a b : List Int) : (unL a b).length + (meL a b).length = (ofL a).length + (ofL b).length := by
  have h1 := len_parts (unL a b) fun x => a.contains x
  have e1 : ((unL a b).filter fun x => a.contains x) = ofL a := str_ext (str_filter _ (unL_str _ _)) (ofL_str _) fun z => by
    rw [List.mem_filter, mem_unL, mem_ofL]
    simp
    intro h; exact .inl h
  have e2 : ((unL a b).filter fun x => !a.contains x) = (ofL b).filter fun x => !a.contains x := str_ext (str_filter _ (unL_str _ _)) (str_filter _ (ofL_str _)) fun z => by
    rw [List.mem_filter, List.mem_filter, mem_unL, mem_ofL]
    simp
    intro h k
    exact absurd k h
  have h2 := len_parts (ofL b) fun x => a.contains x
  have e3 : ((ofL b).filter fun x => a.contains x) = meL a b := (me_comm a b).symm ▸ rfl
  rw [e1, e2] at h1
  rw [e3] at h2
  omega
end Go.Proofs.Ytmmkcnohicfjeaa
