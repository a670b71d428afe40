
/-
  Plain mathematics of columns: entries as triples and their order, increasing lists, rows, entries and validity of a column, the column of a sorted list of entries. No program, no world.
-/
import Derived.WideShapes
namespace Go.Proofs.YtpjikijfendmhaaGreat

abbrev Aj := Int × Int × Int
/-- A column. -/
structure Cm where
  ns : List Int
  fs : List Int
  ts : List Int
  es : List Int
def idB (x : Int) : Bool := decide (1 ≤ x) && decide (x ≤ 1000000)
def idJ (x : Aj) : Bool := idB x.1 && idB x.2.1 && idB x.2.2
theorem idB_iff {x : Int} : idB x = true ↔ 1 ≤ x ∧ x ≤ 1000000 := by unfold idB; simp
def thn (x y : Int) : Int := if x = 0 then y else x
def intc (x y : Int) : Int := if x < y then -1 else if y < x then 1 else 0
theorem thn_n {x : Int} (h : x ≠ 0) (y : Int) : thn x y = x := if_neg h
theorem intc_self (x : Int) : intc x x = 0 := by unfold intc; simp
theorem intc_lt (a b : Int) : (decide (intc a b < 0)) = decide (a < b) := by
  unfold intc
  by_cases h : a < b
  · simp [h]
  · by_cases k : b < a <;> simp [h, k]
theorem intc_0 {a b : Int} : intc a b = 0 ↔ a = b := by
  unfold intc
  by_cases h : a < b
  · rw [if_pos h]; omega
  · rw [if_neg h]
    by_cases k : b < a
    · rw [if_pos k]; omega
    · rw [if_neg k]; omega
/-- The order of entries. -/
def adjc (a b : Aj) : Int := thn (intc a.1 b.1) (thn (intc a.2.1 b.2.1) (intc a.2.2 b.2.2))
def adjL (a b : Aj) : Bool := decide (a.1 < b.1) || (decide (a.1 = b.1) && (decide (a.2.1 < b.2.1) || (decide (a.2.1 = b.2.1) && decide (a.2.2 < b.2.2))))
theorem adjL_iff {a b : Aj} : adjL a b = true ↔ a.1 < b.1 ∨ a.1 = b.1 ∧ (a.2.1 < b.2.1 ∨ a.2.1 = b.2.1 ∧ a.2.2 < b.2.2) := by
  unfold adjL
  simp only [Bool.or_eq_true, Bool.and_eq_true, decide_eq_true_eq]
theorem adjc_lt (a b : Aj) : decide (adjc a b < 0) = adjL a b := by
  unfold adjc adjL
  by_cases h1 : a.1 = b.1
  · have e1 : intc a.1 b.1 = 0 := intc_0.2 h1
    rw [e1, show thn 0 _ = thn (intc a.2.1 b.2.1) (intc a.2.2 b.2.2) from if_pos rfl]
    by_cases h2 : a.2.1 = b.2.1
    · have e2 : intc a.2.1 b.2.1 = 0 := intc_0.2 h2
      rw [e2, show thn 0 _ = intc a.2.2 b.2.2 from if_pos rfl, intc_lt]
      simp [h1, h2]
    · rw [thn_n (fun e => h2 (intc_0.1 e)), intc_lt]
      simp [h1, h2]
  · rw [thn_n (fun e => h1 (intc_0.1 e)), intc_lt]
    simp [h1]
theorem adj3_eq {a b : Aj} (h1 : a.1 = b.1) (h2 : a.2.1 = b.2.1) (h3 : a.2.2 = b.2.2) : a = b := by
  obtain ⟨x, y, z⟩ := a
  obtain ⟨x', y', z'⟩ := b
  simp only at h1 h2 h3
  subst h1 h2 h3; rfl
theorem adjL_irr (a : Aj) : adjL a a = false := by
  rw [Bool.eq_false_iff]; intro h
  rw [adjL_iff] at h; omega
theorem adjL_tr {a b c : Aj} (h : adjL a b = true) (k : adjL b c = true) : adjL a c = true := by
  rw [adjL_iff] at *; omega
theorem adjL_tri {a b : Aj} (h : adjL a b = false) (k : adjL b a = false) : a = b := by
  have h' : ¬ adjL a b = true := by rw [h]; decide
  have k' : ¬ adjL b a = true := by rw [k]; decide
  rw [adjL_iff] at h' k'
  exact adj3_eq (by omega) (by omega) (by omega)
theorem adjL_asym {a b : Aj} (h : adjL a b = true) : adjL b a = false := by
  rw [Bool.eq_false_iff]; intro k
  rw [adjL_iff] at *; omega

/-- Increasing; increasing entries; entries none of which is less than the one before it. -/
def incI : List Int → Bool
  | a :: b :: r => decide (a < b) && incI (b :: r)
  | _ => true
def incJ : List Aj → Bool
  | a :: b :: r => adjL a b && incJ (b :: r)
  | _ => true
def sorJ : List Aj → Bool
  | a :: b :: r => !adjL b a && sorJ (b :: r)
  | _ => true
theorem incI_cons (a b : Int) (r : List Int) : incI (a :: b :: r) = (decide (a < b) && incI (b :: r)) := rfl
theorem incJ_cons (a b : Aj) (r : List Aj) : incJ (a :: b :: r) = (adjL a b && incJ (b :: r)) := rfl
theorem sorJ_cons (a b : Aj) (r : List Aj) : sorJ (a :: b :: r) = (!adjL b a && sorJ (b :: r)) := rfl
theorem incI_iff : ∀ {l : List Int}, incI l = true ↔ l.Pairwise (· < ·)
  | [] => by simp [incI]
  | [a] => by simp [incI]
  | a :: b :: r => by
    rw [incI_cons, Bool.and_eq_true, incI_iff (l := b :: r), List.pairwise_cons (l := b :: r), decide_eq_true_eq]
    constructor
    · rintro ⟨h, k⟩
      refine ⟨fun x hx => ?_, k⟩
      rcases List.mem_cons.1 hx with rfl | hx
      · exact h
      · have := (List.pairwise_cons.1 k).1 x hx; omega
    · rintro ⟨h, k⟩
      exact ⟨h b List.mem_cons_self, k⟩
theorem incJ_iff : ∀ {l : List Aj}, incJ l = true ↔ l.Pairwise (fun x y => adjL x y = true)
  | [] => by simp [incJ]
  | [a] => by simp [incJ]
  | a :: b :: r => by
    rw [incJ_cons, Bool.and_eq_true, incJ_iff (l := b :: r), List.pairwise_cons (l := b :: r)]
    constructor
    · rintro ⟨h, k⟩
      refine ⟨fun x hx => ?_, k⟩
      rcases List.mem_cons.1 hx with rfl | hx
      · exact h
      · exact adjL_tr h ((List.pairwise_cons.1 k).1 x hx)
    · rintro ⟨h, k⟩
      exact ⟨h b List.mem_cons_self, k⟩
theorem adj_le_tr {a b c : Aj} (h : adjL b a = false) (k : adjL c b = false) : adjL c a = false := by
  have h' : ¬ adjL b a = true := by rw [h]; decide
  have k' : ¬ adjL c b = true := by rw [k]; decide
  rw [Bool.eq_false_iff]; intro g
  rw [adjL_iff] at *; omega
theorem sorJ_iff : ∀ {l : List Aj}, sorJ l = true ↔ l.Pairwise (fun x y => adjL y x = false)
  | [] => by simp [sorJ]
  | [a] => by simp [sorJ]
  | a :: b :: r => by
    rw [sorJ_cons, Bool.and_eq_true, sorJ_iff (l := b :: r), List.pairwise_cons (l := b :: r), Bool.not_eq_true']
    constructor
    · rintro ⟨h, k⟩
      refine ⟨fun x hx => ?_, k⟩
      rcases List.mem_cons.1 hx with rfl | hx
      · exact h
      · exact adj_le_tr h ((List.pairwise_cons.1 k).1 x hx)
    · rintro ⟨h, k⟩
      exact ⟨h b List.mem_cons_self, k⟩
theorem incI_drop {l : List Int} {i : Nat} (h : i + 1 < l.length) : incI (l.drop i) = (decide (l[i] < l[i + 1]) && incI (l.drop (i + 1))) := by
  rw [List.drop_eq_getElem_cons (show i < l.length by omega), List.drop_eq_getElem_cons h, incI_cons]
theorem incI_end {l : List Int} {i : Nat} (h : l.length ≤ i + 1) : incI (l.drop i) = true := by
  rcases Nat.lt_or_ge i l.length with k | k
  · rw [List.drop_eq_getElem_cons k, List.drop_of_length_le h]; rfl
  · rw [List.drop_of_length_le k]; rfl
theorem incJ_drop {l : List Aj} {i : Nat} (h : i + 1 < l.length) : incJ (l.drop i) = (adjL l[i] l[i + 1] && incJ (l.drop (i + 1))) := by
  rw [List.drop_eq_getElem_cons (show i < l.length by omega), List.drop_eq_getElem_cons h, incJ_cons]
theorem incJ_end {l : List Aj} {i : Nat} (h : l.length ≤ i + 1) : incJ (l.drop i) = true := by
  rcases Nat.lt_or_ge i l.length with k | k
  · rw [List.drop_eq_getElem_cons k, List.drop_of_length_le h]; rfl
  · rw [List.drop_of_length_le k]; rfl
theorem sorJ_drop {l : List Aj} {i : Nat} (h : i + 1 < l.length) : sorJ (l.drop i) = (!adjL l[i + 1] l[i] && sorJ (l.drop (i + 1))) := by
  rw [List.drop_eq_getElem_cons (show i < l.length by omega), List.drop_eq_getElem_cons h, sorJ_cons]
theorem sorJ_end {l : List Aj} {i : Nat} (h : l.length ≤ i + 1) : sorJ (l.drop i) = true := by
  rcases Nat.lt_or_ge i l.length with k | k
  · rw [List.drop_eq_getElem_cons k, List.drop_of_length_le h]; rfl
  · rw [List.drop_of_length_le k]; rfl
/-- Distinct. -/
def dstI (l : List Int) : Bool := decide l.Nodup
def srtI (l : List Int) : List Int := l.mergeSort fun x y => decide (x ≤ y)
theorem srtI_perm (l : List Int) : (srtI l).Perm l := List.mergeSort_perm _ _
theorem srtI_pw (l : List Int) : (srtI l).Pairwise fun a b => a ≤ b := by
  have h := List.pairwise_mergeSort (le := fun x y : Int => decide (x ≤ y)) (fun a b c h k => by simp only [decide_eq_true_eq] at *; omega) (fun a b => by simp only [Bool.or_eq_true, decide_eq_true_eq]; omega) l
  exact h.imp fun k => by simpa using k
theorem dstI_srt (l : List Int) : incI (srtI l) = dstI l := by
  unfold dstI
  rw [Bool.eq_iff_iff, incI_iff, decide_eq_true_eq, ← (srtI_perm l).nodup_iff]
  constructor
  · intro h
    exact h.imp fun k e => by subst e; exact absurd k (Int.lt_irrefl _)
  · intro h
    exact (List.Pairwise.and (srtI_pw l) h).imp fun ⟨a, b⟩ => by omega
/-- Entries in order. -/
def srtJ (l : List Aj) : List Aj := l.mergeSort fun x y => !adjL y x
theorem srtJ_perm (l : List Aj) : (srtJ l).Perm l := List.mergeSort_perm _ _
theorem srtJ_pw (l : List Aj) : (srtJ l).Pairwise fun a b => adjL b a = false := by
  have h := List.pairwise_mergeSort (le := fun x y : Aj => !adjL y x) (fun a b c h k => by
    simp only [Bool.not_eq_true'] at *
    exact adj_le_tr h k) (fun a b => by
    simp only [Bool.or_eq_true, Bool.not_eq_true']
    by_cases h : adjL b a = false
    · exact .inl h
    · exact .inr (adjL_asym (by simpa using h))) l
  exact h.imp fun k => by simpa using k
theorem srtJ_len (l : List Aj) : (srtJ l).length = l.length := (srtJ_perm l).length_eq
theorem srtJ_uniq {l m : List Aj} (h : m.Perm l) (hs : m.Pairwise fun a b => adjL b a = false) : m = srtJ l :=
  List.Perm.eq_of_pairwise (le := fun a b => adjL b a = false) (fun _ _ _ _ h1 h2 => adjL_tri h2 h1) hs (srtJ_pw l) (h.trans (srtJ_perm l).symm)

/-- The entries of a row from k to, but not including, k + n; row i; the rows below i. -/
def segL (n : Int) (ts es : List Int) (k m : Nat) : List Aj := (List.range' k m).map fun j => (n, ts.getD j 0, es.getD j 0)
def rowL (c : Cm) (i : Nat) : List Aj := segL (c.ns.getD i 0) c.ts c.es (c.fs.getD i 0).toNat ((c.fs.getD (i + 1) 0).toNat - (c.fs.getD i 0).toNat)
def entN (c : Cm) (i : Nat) : List Aj := (List.range i).flatMap (rowL c)
def entL (c : Cm) : List Aj := entN c c.ns.length
theorem segL_len (n : Int) (ts es : List Int) (k m : Nat) : (segL n ts es k m).length = m := by simp [segL]
theorem segL_step (n : Int) (ts es : List Int) (k m : Nat) : segL n ts es k (m + 1) = segL n ts es k m ++ [(n, ts.getD (k + m) 0, es.getD (k + m) 0)] := by
  unfold segL
  rw [List.range'_concat, List.map_append, Nat.one_mul]; rfl
theorem entN_step (c : Cm) (i : Nat) : entN c (i + 1) = entN c i ++ rowL c i := by
  unfold entN
  rw [List.range_succ, List.flatMap_append]; simp
theorem entN_0 (c : Cm) : entN c 0 = [] := rfl
/-- First divides the entries into rows. -/
def bndB (c : Cm) : Bool := if c.fs.length = 0 then decide (c.ns.length = 0) && decide (c.ts.length = 0) && decide (c.es.length = 0)
  else decide (c.fs.length = c.ns.length + 1) && decide (c.fs.getD 0 0 = 0) && incI c.fs && decide (c.fs.getD c.ns.length 0 = (c.ts.length : Int)) && decide (c.ts.length = c.es.length)
def valC (c : Cm) : Bool := c.ns.all idB && c.ts.all idB && c.es.all idB && incI c.ns && bndB c && sorJ (entL c) && dstI c.es
/-- What First says of each row. -/
theorem bnd_at {c : Cm} (h : bndB c = true) {i : Nat} (hi : i < c.ns.length) : c.fs.length = c.ns.length + 1 ∧ 0 ≤ c.fs.getD i 0 ∧ c.fs.getD i 0 < c.fs.getD (i + 1) 0 ∧ c.fs.getD (i + 1) 0 ≤ (c.ts.length : Int) ∧ c.ts.length = c.es.length := by
  unfold bndB at h
  by_cases h0 : c.fs.length = 0
  · rw [if_pos h0] at h
    simp only [Bool.and_eq_true, decide_eq_true_eq] at h
    omega
  · rw [if_neg h0] at h
    simp only [Bool.and_eq_true, decide_eq_true_eq] at h
    obtain ⟨⟨⟨⟨h1, h2⟩, h3⟩, h4⟩, h5⟩ := h
    have hp := List.pairwise_iff_getElem.1 (incI_iff.1 h3)
    have gd : ∀ (j : Nat) (hj : j < c.fs.length), c.fs.getD j 0 = c.fs[j] := fun j hj => by rw [List.getD_eq_getElem?_getD, List.getElem?_eq_getElem hj]; rfl
    have mono : ∀ a b, a ≤ b → b < c.fs.length → c.fs.getD a 0 ≤ c.fs.getD b 0 := fun a b hab hb => by
      rw [gd a (by omega), gd b hb]
      rcases Nat.lt_or_eq_of_le hab with g | g
      · have := hp a b (by omega) hb g; omega
      · subst g; exact Int.le_refl _
    refine ⟨h1, ?_, ?_, ?_, h5⟩
    · have := mono 0 i (by omega) (by omega); omega
    · rw [gd i (by omega), gd (i + 1) (by omega)]
      exact hp i (i + 1) (by omega) (by omega) (by omega)
    · have := mono (i + 1) c.ns.length (by omega) (by omega); omega
theorem bnd_0 {c : Cm} (h : bndB c = true) (hn : 0 < c.ns.length) : c.fs.getD 0 0 = 0 ∧ c.fs.getD c.ns.length 0 = (c.ts.length : Int) := by
  have hl := (bnd_at h hn).1
  unfold bndB at h
  rw [if_neg (by omega)] at h
  simp only [Bool.and_eq_true, decide_eq_true_eq] at h
  exact ⟨h.1.1.1.2, h.1.2⟩
theorem bnd_none {c : Cm} (h : bndB c = true) (hn : c.ns.length = 0) : c.ts = [] ∧ c.es = [] := by
  unfold bndB at h
  by_cases h0 : c.fs.length = 0
  · rw [if_pos h0] at h
    simp only [Bool.and_eq_true, decide_eq_true_eq] at h
    exact ⟨List.length_eq_zero_iff.1 h.1.2, List.length_eq_zero_iff.1 h.2⟩
  · rw [if_neg h0] at h
    simp only [Bool.and_eq_true, decide_eq_true_eq] at h
    obtain ⟨⟨⟨⟨h1, h2⟩, h3⟩, h4⟩, h5⟩ := h
    rw [hn] at h4
    have : c.ts.length = 0 := by omega
    exact ⟨List.length_eq_zero_iff.1 this, List.length_eq_zero_iff.1 (by omega)⟩
/-- The rows below i are the first entries. -/
theorem entN_pair {c : Cm} (h : bndB c = true) : ∀ i, i ≤ c.ns.length → (entN c i).map (fun x => x.2) = (List.range (if i = 0 then 0 else (c.fs.getD i 0).toNat)).map fun j => (c.ts.getD j 0, c.es.getD j 0)
  | 0, _ => rfl
  | i + 1, hi => by
    obtain ⟨h1, h2, h3, h4, h5⟩ := bnd_at h (show i < c.ns.length by omega)
    rw [entN_step, List.map_append, entN_pair h i (by omega), if_neg (show ¬ i + 1 = 0 by omega)]
    have e : (if i = 0 then 0 else (c.fs.getD i 0).toNat) = (c.fs.getD i 0).toNat := by
      by_cases g : i = 0
      · subst g; rw [if_pos rfl, (bnd_0 h (by omega)).1]; rfl
      · rw [if_neg g]
    rw [e]
    unfold rowL segL
    rw [List.map_map, List.range_eq_range', List.range_eq_range']
    have g2 : (c.fs.getD (i + 1) 0).toNat = (c.fs.getD i 0).toNat + ((c.fs.getD (i + 1) 0).toNat - (c.fs.getD i 0).toNat) := by omega
    conv => rhs; rw [g2]
    rw [← List.range'_append_1, List.map_append, Nat.zero_add]
    rfl
theorem ent_pair {c : Cm} (h : bndB c = true) : (entL c).map (fun x => x.2) = (List.range c.ts.length).map fun j => (c.ts.getD j 0, c.es.getD j 0) := by
  unfold entL
  rw [entN_pair h _ (Nat.le_refl _)]
  by_cases g : c.ns.length = 0
  · rw [if_pos g, (bnd_none h g).1]; rfl
  · rw [if_neg g, (bnd_0 h (by omega)).2]; rfl
theorem range_getD (l : List Int) : (List.range l.length).map (fun j => l.getD j 0) = l := by
  apply List.ext_getElem
  · simp
  · intro i h1 h2
    simp [h2]
theorem ent_len {c : Cm} (h : bndB c = true) : (entL c).length = c.ts.length := by
  have := congrArg List.length (ent_pair h)
  simpa using this
theorem bnd_len {c : Cm} (h : bndB c = true) : c.ts.length = c.es.length := by
  by_cases g : c.ns.length = 0
  · obtain ⟨a, b⟩ := bnd_none h g; rw [a, b]
  · exact (bnd_at h (show 0 < c.ns.length by omega)).2.2.2.2
theorem ent_es {c : Cm} (h : bndB c = true) : (entL c).map (fun x => x.2.2) = c.es := by
  have := congrArg (List.map fun p : Int × Int => p.2) (ent_pair h)
  rw [List.map_map, List.map_map] at this
  refine this.trans ?_
  rw [bnd_len h]
  exact range_getD c.es
theorem ent_ts {c : Cm} (h : bndB c = true) : (entL c).map (fun x => x.2.1) = c.ts := by
  have := congrArg (List.map fun p : Int × Int => p.1) (ent_pair h)
  rw [List.map_map, List.map_map] at this
  exact this.trans (range_getD c.ts)
end Go.Proofs.YtpjikijfendmhaaGreat
