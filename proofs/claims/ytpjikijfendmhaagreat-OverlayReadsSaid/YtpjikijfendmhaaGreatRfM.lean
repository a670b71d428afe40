
/-
  Plain mathematics of the reference's columns and overlays: what its functions compute is what the landed ones do. No program, no world.
-/
import Derived.Test.YtpjikijfendmhaaGreatOvM
namespace Go.Proofs.YtpjikijfendmhaaGreat

/-- Inserted before the first greater one. -/
def wthV : List Aj → Aj → List Aj
  | [], a => [a]
  | x :: r, a => if adjL a x = true then a :: x :: r else x :: wthV r a
def wthI : List Int → Int → List Int
  | [], n => [n]
  | x :: r, n => if n < x then n :: x :: r else x :: wthI r n
theorem wthV_skip {a : Aj} : ∀ {p : List Aj} (q : List Aj), (∀ x ∈ p, adjL a x = false) → wthV (p ++ q) a = p ++ wthV q a
  | [], _, _ => rfl
  | x :: r, q, h => by
    show (if adjL a x = true then _ else x :: wthV (r ++ q) a) = _
    rw [if_neg (by rw [h x List.mem_cons_self]; decide), wthV_skip q fun y hy => h y (List.mem_cons_of_mem _ hy)]; rfl
theorem wthV_put {a : Aj} : ∀ {p : List Aj} (q : List Aj), (∃ x ∈ p, adjL a x = true) → wthV (p ++ q) a = wthV p a ++ q
  | [], _, h => by obtain ⟨x, hx, -⟩ := h; cases hx
  | x :: r, q, h => by
    show (if adjL a x = true then a :: x :: (r ++ q) else x :: wthV (r ++ q) a) = (if adjL a x = true then a :: x :: r else x :: wthV r a) ++ q
    by_cases g : adjL a x = true
    · rw [if_pos g, if_pos g]; rfl
    · rw [if_neg g, if_neg g, wthV_put q (by
        obtain ⟨y, hy, hy2⟩ := h
        rcases List.mem_cons.1 hy with e | k
        · subst e; exact absurd hy2 g
        · exact ⟨y, k, hy2⟩)]; rfl
theorem wthI_skip {n : Int} : ∀ {p : List Int} (q : List Int), (∀ x ∈ p, ¬ n < x) → wthI (p ++ q) n = p ++ wthI q n
  | [], _, _ => rfl
  | x :: r, q, h => by
    show (if n < x then _ else x :: wthI (r ++ q) n) = _
    rw [if_neg (h x List.mem_cons_self), wthI_skip q fun y hy => h y (List.mem_cons_of_mem _ hy)]; rfl
theorem wthI_put {n : Int} : ∀ {p : List Int} (q : List Int), (∃ x ∈ p, n < x) → wthI (p ++ q) n = wthI p n ++ q
  | [], _, h => by obtain ⟨x, hx, -⟩ := h; cases hx
  | x :: r, q, h => by
    show (if n < x then n :: x :: (r ++ q) else x :: wthI (r ++ q) n) = (if n < x then n :: x :: r else x :: wthI r n) ++ q
    by_cases g : n < x
    · rw [if_pos g, if_pos g]; rfl
    · rw [if_neg g, if_neg g, wthI_put q (by
        obtain ⟨y, hy, hy2⟩ := h
        rcases List.mem_cons.1 hy with e | k
        · subst e; exact absurd hy2 g
        · exact ⟨y, k, hy2⟩)]; rfl
theorem wthV_perm (a : Aj) : ∀ l, (wthV l a).Perm (a :: l)
  | [] => List.Perm.refl _
  | x :: r => by
    show (if adjL a x = true then a :: x :: r else x :: wthV r a).Perm _
    by_cases g : adjL a x = true
    · rw [if_pos g]
    · rw [if_neg g]
      exact ((wthV_perm a r).cons x).trans (List.Perm.swap a x r)
theorem wthV_sort (a : Aj) : ∀ {l : List Aj}, l.Pairwise (fun x y => adjL y x = false) → (wthV l a).Pairwise (fun x y => adjL y x = false)
  | [], _ => List.pairwise_singleton _ _
  | x :: r, h => by
    obtain ⟨h1, h2⟩ := List.pairwise_cons.1 h
    show (if adjL a x = true then a :: x :: r else x :: wthV r a).Pairwise _
    by_cases g : adjL a x = true
    · rw [if_pos g, List.pairwise_cons]
      refine ⟨fun y hy => ?_, h⟩
      rcases List.mem_cons.1 hy with e | k
      · subst e; exact adjL_asym g
      · exact adj_le_tr (adjL_asym g) (h1 y k)
    · rw [if_neg g, List.pairwise_cons]
      refine ⟨fun y hy => ?_, wthV_sort a h2⟩
      rcases List.mem_cons.1 ((wthV_perm a r).mem_iff.1 hy) with e | k
      · subst e; simpa using g
      · exact h1 y k
theorem wthV_srt (a : Aj) {l : List Aj} (h : l.Pairwise (fun x y => adjL y x = false)) : wthV l a = srtJ (a :: l) := srtJ_uniq (wthV_perm a l) (wthV_sort a h)
theorem pw_le {l : List Aj} (h : l.Pairwise fun a b => adjL a b = true) : l.Pairwise fun a b => adjL b a = false := h.imp fun h => adjL_asym h
theorem putJ_wth {a : Aj} {l : List Aj} (h : l.Pairwise fun x y => adjL x y = true) (hn : a ∉ l) : putJ l a = wthV l a := by
  rw [wthV_srt a (pw_le h)]
  exact srtJ_uniq (putJ_perm a l) (pw_le (putJ_inc a l h hn))
theorem putI_wth : ∀ {l : List Int} {n : Int}, n ∉ l → putI l n = wthI l n
  | [], _, _ => rfl
  | x :: r, n, h => by
    have h1 : n ≠ x := fun e => h (by rw [e]; exact List.mem_cons_self)
    have h2 : n ∉ r := fun e => h (List.mem_cons_of_mem _ e)
    show (if x < n then x :: putI r n else n :: x :: r) = (if n < x then n :: x :: r else x :: wthI r n)
    by_cases g : x < n
    · rw [if_pos g, if_neg (by omega), putI_wth h2]
    · rw [if_neg g, if_pos (by omega)]
/-- The reference's entries: the column's, not deleted, and each inserted one put in. -/
def entR (o : Ov) : List Aj := o.ads.foldl wthV (keepD o.dls (entL o.c))
theorem fold_wth : ∀ (A B : List Aj), B.Pairwise (fun x y => adjL y x = false) → (A.foldl wthV B).Perm (B ++ A) ∧ (A.foldl wthV B).Pairwise (fun x y => adjL y x = false)
  | [], B, h => ⟨by rw [List.append_nil]; exact List.Perm.refl _, h⟩
  | a :: r, B, h => by
    obtain ⟨p, q⟩ := fold_wth r (wthV B a) (wthV_sort a h)
    refine ⟨p.trans ?_, q⟩
    refine ((wthV_perm a B).append_right r).trans ?_
    exact List.perm_middle.symm
theorem keep_sort {c : Cm} (h : valC c = true) (d : List Int) : (keepD d (entL c)).Pairwise (fun x y => adjL y x = false) := (pw_le (valC_iff.1 h).pw).filter _
theorem entR_srt {o : Ov} (h : valC o.c = true) : entR o = srtJ (entO o) := by
  obtain ⟨p, q⟩ := fold_wth o.ads _ (keep_sort h o.dls)
  exact srtJ_uniq p q
/-- The reference's shape; its validity. -/
def rowOk (c : Cm) (i : Nat) : Bool := decide (c.fs.getD i 0 < c.fs.getD (i + 1) 0) && idB (c.ns.getD i 0) && (decide (i = 0) || decide (c.ns.getD (i - 1) 0 < c.ns.getD i 0))
def shpC (c : Cm) : Bool := decide (c.ts.length = c.es.length) &&
  (if c.ns.length = 0 ∧ c.fs.length = 0 then decide (c.ts.length = 0) else decide (c.fs.length = c.ns.length + 1) && decide (c.fs.getD 0 0 = 0) && decide (c.fs.getD c.ns.length 0 = (c.ts.length : Int)) && (List.range c.ns.length).all (rowOk c))
theorem incI_at {l : List Int} : incI l = true ↔ ∀ i, i + 1 < l.length → l.getD i 0 < l.getD (i + 1) 0 := by
  constructor
  · intro h i hi
    rw [gd (show i < l.length by omega), gd hi]
    exact List.pairwise_iff_getElem.1 (incI_iff.1 h) i (i + 1) (by omega) hi (by omega)
  · intro h
    rw [incI_iff, List.pairwise_iff_getElem]
    intro i j hi hj hij
    obtain ⟨d, rfl⟩ : ∃ d, j = i + 1 + d := ⟨j - i - 1, by omega⟩
    clear hij
    induction d with
    | zero => have := h i hj; rwa [gd hi, gd hj] at this
    | succ d ih =>
      have h1 := ih (by omega)
      have h2 := h (i + 1 + d) (by omega)
      rw [gd (show i + 1 + d < l.length by omega), gd (show i + 1 + d + 1 < l.length by omega)] at h2
      exact Int.lt_trans h1 h2
theorem all_gd {p : Int → Bool} {l : List Int} : (∀ x ∈ l, p x = true) ↔ ∀ i, i < l.length → p (l.getD i 0) = true := by
  constructor
  · intro h i hi
    rw [gd hi]; exact h _ (List.getElem_mem hi)
  · intro h x hx
    obtain ⟨i, hi, rfl⟩ := List.getElem_of_mem hx
    rw [← gd hi]; exact h i hi
theorem rowOk_iff {c : Cm} {i : Nat} : rowOk c i = true ↔ c.fs.getD i 0 < c.fs.getD (i + 1) 0 ∧ idB (c.ns.getD i 0) = true ∧ (i = 0 ∨ c.ns.getD (i - 1) 0 < c.ns.getD i 0) := by
  unfold rowOk
  simp only [Bool.and_eq_true, Bool.or_eq_true, decide_eq_true_eq]
  constructor
  · rintro ⟨⟨a, b⟩, c⟩; exact ⟨a, b, c⟩
  · rintro ⟨a, b, c⟩; exact ⟨⟨a, b⟩, c⟩
theorem shp_iff {c : Cm} : shpC c = true ↔ bndB c = true ∧ incI c.ns = true ∧ ∀ x ∈ c.ns, idB x = true := by
  unfold shpC bndB
  by_cases g : c.ns.length = 0 ∧ c.fs.length = 0
  · rw [if_pos g, if_pos g.2]
    have e := List.length_eq_zero_iff.1 g.1
    rw [e]
    simp only [Bool.and_eq_true, decide_eq_true_eq]
    constructor
    · rintro ⟨a, b⟩; exact ⟨⟨⟨rfl, b⟩, by omega⟩, rfl, fun x hx => by cases hx⟩
    · rintro ⟨⟨⟨-, b⟩, d⟩, -⟩; exact ⟨by omega, b⟩
  · rw [if_neg g]
    by_cases g2 : c.fs.length = 0
    · rw [if_pos g2]
      simp only [Bool.and_eq_true, decide_eq_true_eq]
      constructor
      · rintro ⟨-, ⟨⟨a, -⟩, -⟩, -⟩; omega
      · rintro ⟨⟨⟨a, -⟩, -⟩, -⟩; exact absurd ⟨a, g2⟩ g
    · rw [if_neg g2]
      simp only [Bool.and_eq_true, decide_eq_true_eq, List.all_eq_true, List.mem_range]
      constructor
      · rintro ⟨a, ⟨⟨b1, b2⟩, b3⟩, b4⟩
        refine ⟨⟨⟨⟨⟨b1, b2⟩, ?_⟩, b3⟩, a⟩, ?_, ?_⟩
        · rw [incI_at]; intro i hi
          exact (rowOk_iff.1 (b4 i (by omega))).1
        · rw [incI_at]; intro i hi
          rcases (rowOk_iff.1 (b4 (i + 1) hi)).2.2 with q | q
          · omega
          · exact q
        · rw [all_gd]; intro i hi
          exact (rowOk_iff.1 (b4 i hi)).2.1
      · rintro ⟨⟨⟨⟨⟨b1, b2⟩, b3⟩, b4⟩, a⟩, h1, h2⟩
        refine ⟨a, ⟨⟨b1, b2⟩, b4⟩, fun i hi => rowOk_iff.2 ⟨incI_at.1 b3 i (by omega), all_gd.1 h2 i hi, ?_⟩⟩
        rcases Nat.eq_zero_or_pos i with e | e
        · exact .inl e
        · refine .inr ?_
          have := incI_at.1 h1 (i - 1) (by omega)
          rwa [show i - 1 + 1 = i by omega] at this
def rvalC (c : Cm) : Bool := shpC c && (List.range c.ts.length).all (fun k => idB (c.ts.getD k 0) && idB (c.es.getD k 0)) && incJ (entL c) && dstI (edg (entL c))
theorem rvalC_eq (c : Cm) : rvalC c = valC c := by
  rw [Bool.eq_iff_iff, valC_iff]
  unfold rvalC dstI
  simp only [Bool.and_eq_true, decide_eq_true_eq, List.all_eq_true, List.mem_range]
  constructor
  · rintro ⟨⟨⟨h1, h2⟩, h3⟩, h4⟩
    obtain ⟨b, i, n⟩ := shp_iff.1 h1
    have hd : c.es.Nodup := by rw [← ent_es b]; exact h4
    exact ⟨n, all_gd.2 fun k hk => (h2 k hk).1, all_gd.2 fun k hk => (h2 k (by rw [bnd_len b]; exact hk)).2, i, b, sorJ_iff.2 (pw_le (incJ_iff.1 h3)), hd⟩
  · intro h
    refine ⟨⟨⟨shp_iff.2 ⟨h.b, h.i, h.n⟩, fun k hk => ⟨all_gd.1 h.t k hk, all_gd.1 h.e k (by rw [← bnd_len h.b]; exact hk)⟩⟩, incJ_iff.2 h.pw⟩, ?_⟩
    show ((entL c).map fun x => x.2.2).Nodup
    rw [ent_es h.b]; exact h.d
/-- Distinct, pair by pair; the first k of them. -/
def dstJ (l : List Aj) (k : Nat) : Prop := ∀ (i j : Nat) (hj : j < l.length) (h : i < j), j < k → (l[i]'(Nat.lt_trans h hj)).2.2 ≠ l[j].2.2
theorem dst_pairs {l : List Aj} : dstI (edg l) = true ↔ dstJ l l.length := by
  unfold dstI edg dstJ
  rw [decide_eq_true_eq, List.Nodup, List.pairwise_map, List.pairwise_iff_getElem]
  constructor
  · intro h i j hj hij _; exact h i j (Nat.lt_trans hij hj) hj hij
  · intro h i j hi hj hij; exact h i j hj hij hj
/-- The reference's validity of an overlay. -/
def rvalO (o : Ov) : Bool := valC o.c && (o.ads.all idJ && incJ o.ads) && (incI o.dls && o.dls.all fun n => (edg (entL o.c)).contains n) && dstI (edg (entR o))
theorem rvalO_eq (o : Ov) : rvalO o = valO o := by
  unfold rvalO valO
  by_cases h : valC o.c = true
  · have e : edg (entL o.c) = o.c.es := ent_es (valC_iff.1 h).b
    have p : (entR o).Perm (entO o) := by rw [entR_srt h]; exact srtJ_perm _
    have d : dstI (edg (entR o)) = dstI (edg (entO o)) := by
      unfold dstI
      rw [Bool.eq_iff_iff, decide_eq_true_eq, decide_eq_true_eq, (edg_perm p).nodup_iff]
    rw [e, d, h]
    simp only [Bool.true_and]
    cases o.ads.all idJ <;> cases incJ o.ads <;> cases incI o.dls <;> cases (o.dls.all fun n => o.c.es.contains n) <;> cases dstI (edg (entO o)) <;> rfl
  · have h' : valC o.c = false := by simpa using h
    rw [h']; rfl
theorem entR_ok {o : Ov} (h : valO o = true) : entR o = entS o := by
  have k := valO_iff.1 h
  rw [entS_ok k, entR_srt (valC_iff.2 k.c)]
theorem edgR_has {o : Ov} (h : valO o = true) (n : Int) : (edg (entR o)).contains n = (edg (entO o)).contains n := by
  have k := valO_iff.1 h
  have p : (entR o).Perm (entO o) := by rw [entR_srt (valC_iff.2 k.c)]; exact srtJ_perm _
  rw [Bool.eq_iff_iff, List.contains_iff_mem, List.contains_iff_mem, (edg_perm p).mem_iff]
theorem ofV_perm {l m : List Aj} (h : l.Perm m) : ofV l = ofV m := by
  unfold ofV
  have h1 : l.all idJ = m.all idJ := by
    rw [Bool.eq_iff_iff, List.all_eq_true, List.all_eq_true]
    exact ⟨fun k x hx => k x (h.mem_iff.2 hx), fun k x hx => k x (h.mem_iff.1 hx)⟩
  have h2 : dstI (edg l) = dstI (edg m) := by
    unfold dstI
    rw [Bool.eq_iff_iff, decide_eq_true_eq, decide_eq_true_eq, (edg_perm h).nodup_iff]
  rw [h1, h2, srtJ_congr h]
theorem cmpV_R {o : Ov} (h : valO o = true) : cmpV o = ofV (entR o) := by
  have k := valO_iff.1 h
  unfold cmpV
  rw [if_pos h, entR_srt (valC_iff.2 k.c)]
  exact ofV_perm (srtJ_perm _).symm
/-- Insertion and deletion as the reference does them. -/
theorem insR {o : Ov} (a : Aj) (h : valO o = true) (ha : idJ a = true) (hn : (edg (entR o)).contains a.2.2 = false) :
    insV o a = if (entL o.c).contains a = true then (⟨o.c, o.ads, dropI o.dls a.2.2⟩, 0) else (⟨o.c, wthV o.ads a, o.dls⟩, 0) := by
  have k := valO_iff.1 h
  rw [edgR_has h] at hn
  unfold insV
  rw [if_neg (by rw [h]; decide), if_neg (by rw [ha]; decide), if_neg (by rw [hn]; decide)]
  rw [putJ_wth (incJ_iff.1 k.a) fun hm => by
    have : a.2.2 ∈ edg (entO o) := edg_mem (List.mem_append.2 (.inr hm))
    rw [← List.contains_iff_mem, hn] at this; cases this]
theorem delR {o : Ov} (n : Int) (h : valO o = true) (hn : (edg (entR o)).contains n = true) :
    delV o n = if (edg o.ads).contains n = true then (⟨o.c, dropJ o.ads n, o.dls⟩, 0) else (⟨o.c, o.ads, wthI o.dls n⟩, 0) := by
  have k := valO_iff.1 h
  rw [edgR_has h] at hn
  unfold delV
  rw [if_neg (by rw [h]; decide), if_neg (by rw [hn]; decide)]
  by_cases g : (edg o.ads).contains n = true
  · rw [if_pos g, if_pos g]
  · rw [if_neg g, if_neg g, putI_wth]
    intro hd
    have hm : n ∈ edg (entO o) := by simpa using hn
    obtain ⟨x, hx, e⟩ := List.mem_map.1 hm
    rcases List.mem_append.1 hx with q | q
    · have := (List.mem_filter.1 q).2
      rw [e, List.contains_iff_mem.2 hd] at this; cases this
    · exact g (List.contains_iff_mem.2 (by rw [← e]; exact edg_mem q))
end Go.Proofs.YtpjikijfendmhaaGreat
