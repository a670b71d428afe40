
/-
  Plain mathematics of overlays: entries, validity, insertion and deletion, what they do to the entries. No program, no world.
-/
import Derived.Test.YtpjikijfendmhaaGreatCoM2
namespace Go.Proofs.YtpjikijfendmhaaGreat

/-- An overlay. -/
structure Ov where
  c : Cm
  ads : List Aj
  dls : List Int
def emC : Cm := ⟨[], [], [], []⟩
def emO : Ov := ⟨emC, [], []⟩
def edg (l : List Aj) : List Int := l.map fun x => x.2.2
def keepD (dls : List Int) (l : List Aj) : List Aj := l.filter fun x => !dls.contains x.2.2
def entO (o : Ov) : List Aj := keepD o.dls (entL o.c) ++ o.ads
def valO (o : Ov) : Bool := valC o.c && incJ o.ads && incI o.dls && o.ads.all idJ && o.dls.all (fun n => o.c.es.contains n) && dstI (edg (entO o))
def entS (o : Ov) : List Aj := if valO o = true then srtJ (entO o) else []
def rowS (o : Ov) (n : Int) : List Aj := (entS o).filter fun x => decide (x.1 = n)
/-- The column of a list of entries, or what is wrong with it. -/
def ofV (l : List Aj) : Cm × Int := if l.all idJ = true then (if dstI (edg l) = true then (layV (srtJ l), 0) else (emC, 7)) else (emC, 1)
def cmpV (o : Ov) : Cm × Int := if valO o = true then ofV (entO o) else (emC, 19)
def newV (c : Cm) : Ov × Int := if valC c = true then (⟨c, [], []⟩, 0) else (emO, 1)
def putJ : List Aj → Aj → List Aj
  | [], a => [a]
  | x :: r, a => if adjL x a = true then x :: putJ r a else a :: x :: r
def putI : List Int → Int → List Int
  | [], n => [n]
  | x :: r, n => if x < n then x :: putI r n else n :: x :: r
def dropI (l : List Int) (n : Int) : List Int := l.filter fun x => decide (x ≠ n)
def dropJ (l : List Aj) (n : Int) : List Aj := l.filter fun x => decide (x.2.2 ≠ n)
def insV (o : Ov) (a : Aj) : Ov × Int :=
  if valO o = false then (emO, 19) else if idJ a = false then (emO, 1) else if (edg (entO o)).contains a.2.2 = true then (emO, 7)
  else if (entL o.c).contains a = true then (⟨o.c, o.ads, dropI o.dls a.2.2⟩, 0) else (⟨o.c, putJ o.ads a, o.dls⟩, 0)
def delV (o : Ov) (n : Int) : Ov × Int :=
  if valO o = false then (emO, 19) else if (edg (entO o)).contains n = false then (emO, 11)
  else if (edg o.ads).contains n = true then (⟨o.c, dropJ o.ads n, o.dls⟩, 0) else (⟨o.c, o.ads, putI o.dls n⟩, 0)
/-- What validity says. -/
structure OkO (o : Ov) : Prop where
  c : OkC o.c
  a : incJ o.ads = true
  d : incI o.dls = true
  i : ∀ x ∈ o.ads, idJ x = true
  m : ∀ n ∈ o.dls, n ∈ o.c.es
  n : (edg (entO o)).Nodup
theorem valO_iff {o : Ov} : valO o = true ↔ OkO o := by
  unfold valO dstI
  simp only [Bool.and_eq_true, List.all_eq_true, decide_eq_true_eq, valC_iff, List.contains_iff_mem]
  constructor
  · rintro ⟨⟨⟨⟨⟨a, b⟩, c⟩, d⟩, e⟩, f⟩; exact ⟨a, b, c, d, e, f⟩
  · rintro ⟨a, b, c, d, e, f⟩; exact ⟨⟨⟨⟨⟨a, b⟩, c⟩, d⟩, e⟩, f⟩
theorem putJ_perm (a : Aj) : ∀ l, (putJ l a).Perm (a :: l)
  | [] => List.Perm.refl _
  | x :: r => by
    unfold putJ
    by_cases h : adjL x a = true
    · rw [if_pos h]; exact ((putJ_perm a r).cons x).trans (List.Perm.swap _ _ _)
    · rw [if_neg h]
theorem putI_perm (n : Int) : ∀ l, (putI l n).Perm (n :: l)
  | [] => List.Perm.refl _
  | x :: r => by
    unfold putI
    by_cases h : x < n
    · rw [if_pos h]; exact ((putI_perm n r).cons x).trans (List.Perm.swap _ _ _)
    · rw [if_neg h]
theorem putJ_inc (a : Aj) : ∀ l : List Aj, l.Pairwise (fun x y => adjL x y = true) → a ∉ l → (putJ l a).Pairwise (fun x y => adjL x y = true)
  | [], _, _ => List.pairwise_singleton _ _
  | x :: r, h, hn => by
    obtain ⟨h1, h2⟩ := List.pairwise_cons.1 h
    have hx : x ≠ a := fun e => hn (by rw [e]; exact List.mem_cons_self)
    have hr : a ∉ r := fun k => hn (List.mem_cons_of_mem _ k)
    unfold putJ
    by_cases g : adjL x a = true
    · rw [if_pos g, List.pairwise_cons]
      refine ⟨fun y hy => ?_, putJ_inc a r h2 hr⟩
      rcases List.mem_cons.1 ((putJ_perm a r).mem_iff.1 hy) with e | k
      · subst e; exact g
      · exact h1 y k
    · rw [if_neg g, List.pairwise_cons]
      have ga : adjL a x = true := by
        by_cases q : adjL a x = true
        · exact q
        · exact absurd (adjL_tri (by simpa using g) (by simpa using q)) hx
      refine ⟨fun y hy => ?_, h⟩
      rcases List.mem_cons.1 hy with e | k
      · subst e; exact ga
      · exact adjL_tr ga (h1 y k)
theorem putI_inc (n : Int) : ∀ l : List Int, l.Pairwise (· < ·) → n ∉ l → (putI l n).Pairwise (· < ·)
  | [], _, _ => List.pairwise_singleton _ _
  | x :: r, h, hn => by
    obtain ⟨h1, h2⟩ := List.pairwise_cons.1 h
    have hx : x ≠ n := fun e => hn (by rw [e]; exact List.mem_cons_self)
    have hr : n ∉ r := fun k => hn (List.mem_cons_of_mem _ k)
    unfold putI
    by_cases g : x < n
    · rw [if_pos g, List.pairwise_cons]
      refine ⟨fun y hy => ?_, putI_inc n r h2 hr⟩
      rcases List.mem_cons.1 ((putI_perm n r).mem_iff.1 hy) with e | k
      · omega
      · exact h1 y k
    · rw [if_neg g, List.pairwise_cons]
      refine ⟨fun y hy => ?_, h⟩
      rcases List.mem_cons.1 hy with e | k
      · omega
      · have := h1 y k; omega
theorem edg_mem {l : List Aj} {x : Aj} (h : x ∈ l) : x.2.2 ∈ edg l := List.mem_map_of_mem h
theorem pw_edge {l : List Aj} (hd : (edg l).Nodup) {a b : Aj} (ha : a ∈ l) (hb : b ∈ l) (h : a.2.2 = b.2.2) : a = b := by
  induction l with
  | nil => cases ha
  | cons x r ih =>
    obtain ⟨h1, h2⟩ := List.nodup_cons.1 hd
    rcases List.mem_cons.1 ha with e1 | k1 <;> rcases List.mem_cons.1 hb with e2 | k2
    · rw [e1, e2]
    · subst e1; exact absurd (show a.2.2 ∈ edg r by rw [h]; exact edg_mem k2) h1
    · subst e2; exact absurd (show b.2.2 ∈ edg r by rw [← h]; exact edg_mem k1) h1
    · exact ih h2 k1 k2
/-- Two filters of a list with different edges that differ at one element. -/
theorem filt_one {l : List Aj} (hd : (edg l).Nodup) {a : Aj} (ha : a ∈ l) {p q : Aj → Bool} (h : ∀ x ∈ l, x.2.2 ≠ a.2.2 → p x = q x) (hp : p a = true) (hq : q a = false) : (l.filter p).Perm (a :: l.filter q) := by
  induction l with
  | nil => cases ha
  | cons x r ih =>
    obtain ⟨h1, h2⟩ := List.nodup_cons.1 hd
    by_cases e : x = a
    · subst e
      rw [List.filter_cons_of_pos hp, List.filter_cons_of_neg (by rw [hq]; decide)]
      refine List.Perm.cons _ (List.Perm.of_eq (List.filter_congr fun y hy => h y (List.mem_cons_of_mem _ hy) fun e => h1 (show x.2.2 ∈ edg r by rw [← e]; exact edg_mem hy)))
    · have har : a ∈ r := (List.mem_cons.1 ha).resolve_left fun k => e k.symm
      have hx : p x = q x := h x List.mem_cons_self fun k => h1 (show x.2.2 ∈ edg r by rw [k]; exact edg_mem har)
      have I := ih h2 har fun y hy => h y (List.mem_cons_of_mem _ hy)
      by_cases g : q x = true
      · rw [List.filter_cons_of_pos (by rw [hx]; exact g), List.filter_cons_of_pos g]
        exact (I.cons x).trans (List.Perm.swap _ _ _)
      · rw [List.filter_cons_of_neg (by rw [hx]; exact g), List.filter_cons_of_neg g]
        exact I
theorem OkC.dst {c : Cm} (h : OkC c) : (edg (entL c)).Nodup := by
  unfold edg
  rw [ent_es h.b]; exact h.d
theorem OkO.ids {o : Ov} (h : OkO o) {x : Aj} (hx : x ∈ entO o) : idJ x = true := by
  unfold entO at hx
  rcases List.mem_append.1 hx with k | k
  · exact h.c.ids (List.mem_filter.1 k).1
  · exact h.i x k
theorem ofV_ok {o : Ov} (h : OkO o) : ofV (entO o) = (layV (srtJ (entO o)), 0) := by
  unfold ofV dstI
  rw [if_pos (List.all_eq_true.2 fun x hx => h.ids hx), if_pos (decide_eq_true h.n)]
theorem edg_perm {l m : List Aj} (h : l.Perm m) : (edg l).Perm (edg m) := h.map _
theorem contains_false {l : List Int} {n : Int} : l.contains n = false ↔ n ∉ l := by
  rw [Bool.eq_false_iff]; simp
theorem containsJ_false {l : List Aj} {a : Aj} : l.contains a = false ↔ a ∉ l := by
  rw [Bool.eq_false_iff]; simp
theorem dropI_inc {l : List Int} (h : incI l = true) (n : Int) : incI (dropI l n) = true := by
  rw [incI_iff] at *
  exact h.filter _
/-- Insertion: the answers. -/
theorem ins_ok {o : Ov} (h : OkO o) {a : Aj} (ha : idJ a = true) (hn : a.2.2 ∉ edg (entO o)) : (insV o a).2 = 0 ∧ (entO (insV o a).1).Perm (a :: entO o) ∧ OkO (insV o a).1 := by
  have e0 : insV o a = if (entL o.c).contains a = true then (⟨o.c, o.ads, dropI o.dls a.2.2⟩, 0) else (⟨o.c, putJ o.ads a, o.dls⟩, 0) := by
    unfold insV
    rw [if_neg (by rw [valO_iff.2 h]; decide), if_neg (by rw [ha]; decide), if_neg (by rw [contains_false.2 hn]; decide)]
  rw [e0]
  by_cases g : (entL o.c).contains a = true
  · rw [if_pos g]
    have gm : a ∈ entL o.c := by simpa using g
    have hd : a.2.2 ∈ o.dls := by
      by_cases k : a.2.2 ∈ o.dls
      · exact k
      · refine absurd ?_ hn
        refine List.mem_map_of_mem (List.mem_append_left _ (List.mem_filter.2 ⟨gm, ?_⟩))
        rw [contains_false.2 k]; rfl
    have P : (entO ⟨o.c, o.ads, dropI o.dls a.2.2⟩).Perm (a :: entO o) := by
      show (keepD (dropI o.dls a.2.2) (entL o.c) ++ o.ads).Perm ((a :: keepD o.dls (entL o.c)) ++ o.ads)
      refine List.Perm.append_right o.ads ?_
      unfold keepD
      refine filt_one h.c.dst gm (fun x _ hx => ?_) ?_ ?_
      · congr 1
        rw [Bool.eq_iff_iff, List.contains_iff_mem, List.contains_iff_mem]
        unfold dropI
        rw [List.mem_filter]; simp [hx]
      · rw [Bool.not_eq_true', contains_false]
        unfold dropI
        rw [List.mem_filter]; simp
      · rw [Bool.not_eq_false', List.contains_iff_mem]; exact hd
    refine ⟨rfl, P, h.c, h.a, dropI_inc h.d _, h.i, fun n hn' => h.m n (List.mem_filter.1 hn').1, ?_⟩
    rw [(edg_perm P).nodup_iff]
    exact List.nodup_cons.2 ⟨hn, h.n⟩
  · rw [if_neg g]
    have hna : a ∉ o.ads := fun k => hn (List.mem_map_of_mem (List.mem_append_right _ k))
    have P : (entO ⟨o.c, putJ o.ads a, o.dls⟩).Perm (a :: entO o) := by
      unfold entO
      exact ((putJ_perm a o.ads).append_left _).trans List.perm_middle
    refine ⟨rfl, P, h.c, incJ_iff.2 (putJ_inc a _ (incJ_iff.1 h.a) hna), h.d, fun x hx => ?_, h.m, ?_⟩
    · rcases List.mem_cons.1 ((putJ_perm a o.ads).mem_iff.1 hx) with e | k
      · subst e; exact ha
      · exact h.i x k
    · rw [(edg_perm P).nodup_iff]
      exact List.nodup_cons.2 ⟨hn, h.n⟩
/-- Deletion: the answers. -/
theorem del_ok {o : Ov} (h : OkO o) {b : Aj} (hb : b ∈ entO o) : (delV o b.2.2).2 = 0 ∧ (entO o).Perm (b :: entO (delV o b.2.2).1) ∧ OkO (delV o b.2.2).1 := by
  have hm : b.2.2 ∈ edg (entO o) := List.mem_map_of_mem hb
  have e0 : delV o b.2.2 = if (edg o.ads).contains b.2.2 = true then (⟨o.c, dropJ o.ads b.2.2, o.dls⟩, 0) else (⟨o.c, o.ads, putI o.dls b.2.2⟩, 0) := by
    unfold delV
    rw [if_neg (by rw [valO_iff.2 h]; decide), if_neg (by rw [List.contains_iff_mem.2 hm]; decide)]
  have hnd := h.n
  have hads : (edg o.ads).Nodup := by
    unfold entO edg at hnd
    rw [List.map_append] at hnd
    exact (List.nodup_append.1 hnd).2.1
  rw [e0]
  have fin : ∀ o' : Ov, (entO o).Perm (b :: entO o') → (edg (entO o')).Nodup := fun o' P => by
    have := (edg_perm P).nodup_iff.1 h.n
    exact (List.nodup_cons.1 this).2
  by_cases g : (edg o.ads).contains b.2.2 = true
  · rw [if_pos g]
    have gm : b.2.2 ∈ edg o.ads := by simpa using g
    have hba : b ∈ o.ads := by
      obtain ⟨x, hx, ex⟩ := List.mem_map.1 gm
      have : x = b := pw_edge h.n (List.mem_append_right _ hx) hb ex
      rwa [this] at hx
    have P : (entO o).Perm (b :: entO ⟨o.c, dropJ o.ads b.2.2, o.dls⟩) := by
      unfold entO
      refine (List.Perm.append_left _ ?_).trans List.perm_middle
      have := filt_one (p := fun _ => true) (q := fun x : Aj => decide (x.2.2 ≠ b.2.2)) hads hba (fun x _ hx => by simpa using hx) rfl (by simp)
      rw [List.filter_eq_self.2 (fun _ _ => rfl)] at this
      exact this
    refine ⟨rfl, P, h.c, ?_, h.d, fun x hx => h.i x (List.mem_filter.1 hx).1, h.m, fin _ P⟩
    rw [incJ_iff]
    exact (incJ_iff.1 h.a).filter _
  · rw [if_neg g]
    have gm : b.2.2 ∉ edg o.ads := fun k => g (by simpa using k)
    have hbk : b ∈ keepD o.dls (entL o.c) := by
      unfold entO at hb
      exact (List.mem_append.1 hb).resolve_right fun k => gm (List.mem_map_of_mem k)
    obtain ⟨hbe, hbd⟩ := List.mem_filter.1 hbk
    have hbd' : b.2.2 ∉ o.dls := by
      rw [Bool.not_eq_true', contains_false] at hbd; exact hbd
    have P : (entO o).Perm (b :: entO ⟨o.c, o.ads, putI o.dls b.2.2⟩) := by
      show (keepD o.dls (entL o.c) ++ o.ads).Perm ((b :: keepD (putI o.dls b.2.2) (entL o.c)) ++ o.ads)
      refine List.Perm.append_right o.ads ?_
      unfold keepD
      refine filt_one h.c.dst hbe (fun x _ hx => ?_) hbd ?_
      · congr 1
        rw [Bool.eq_iff_iff, List.contains_iff_mem, List.contains_iff_mem, (putI_perm _ _).mem_iff, List.mem_cons]
        simp [hx]
      · rw [Bool.not_eq_false', List.contains_iff_mem, (putI_perm _ _).mem_iff]; exact List.mem_cons_self
    refine ⟨rfl, P, h.c, h.a, incI_iff.2 (putI_inc _ _ (incI_iff.1 h.d) hbd'), h.i, fun n hn => ?_, fin _ P⟩
    rcases List.mem_cons.1 ((putI_perm _ _).mem_iff.1 hn) with e | k
    · subst e; rw [← ent_es h.c.b]; exact List.mem_map_of_mem hbe
    · exact h.m n k
theorem srtJ_congr {l m : List Aj} (h : l.Perm m) : srtJ l = srtJ m := srtJ_uniq ((srtJ_perm l).trans h) (srtJ_pw l)
theorem entS_ok {o : Ov} (h : OkO o) : entS o = srtJ (entO o) := if_pos (valO_iff.2 h)
theorem entS_inc {o : Ov} (h : OkO o) : (entS o).Pairwise fun a b => adjL a b = true := by
  rw [entS_ok h]
  have h2 : ((srtJ (entO o)).map fun x => x.2.2).Nodup := by
    have := ((srtJ_perm (entO o)).map fun x : Aj => x.2.2).nodup_iff.2 h.n
    exact this
  have h3 : (srtJ (entO o)).Pairwise fun a b => a.2.2 ≠ b.2.2 := List.pairwise_map.1 h2
  refine (List.Pairwise.and (srtJ_pw _) h3).imp fun {a b} ⟨p, q⟩ => ?_
  by_cases g : adjL a b = true
  · exact g
  · exact absurd (by rw [adjL_tri (by simpa using g) p]) q
theorem mem_entS {o : Ov} (h : OkO o) {x : Aj} : x ∈ entS o ↔ x ∈ entO o := by rw [entS_ok h]; exact (srtJ_perm _).mem_iff
/-- Deleting what was inserted restores the entries. -/
theorem ins_del {o : Ov} (h : OkO o) {a : Aj} (ha : idJ a = true) (hn : a.2.2 ∉ edg (entO o)) :
    (delV (insV o a).1 a.2.2).2 = 0 ∧ OkO (insV o a).1 ∧ OkO (delV (insV o a).1 a.2.2).1 ∧ entS (delV (insV o a).1 a.2.2).1 = entS o ∧ (entS (insV o a).1).Perm (a :: entS o) := by
  obtain ⟨h1, P, h2⟩ := ins_ok h ha hn
  have hb : a ∈ entO (insV o a).1 := P.mem_iff.2 List.mem_cons_self
  obtain ⟨k1, Q, k2⟩ := del_ok h2 hb
  refine ⟨k1, h2, k2, ?_, ?_⟩
  · rw [entS_ok k2, entS_ok h]
    exact srtJ_congr ((List.perm_cons a).1 (Q.symm.trans P))
  · rw [entS_ok h2, entS_ok h]
    exact ((srtJ_perm _).trans P).trans ((srtJ_perm _).symm.cons a)
/-- Inserting what was deleted restores the entries. -/
theorem del_ins {o : Ov} (h : OkO o) {b : Aj} (hb : b ∈ entS o) :
    (delV o b.2.2).2 = 0 ∧ (insV (delV o b.2.2).1 b).2 = 0 ∧ OkO (delV o b.2.2).1 ∧ OkO (insV (delV o b.2.2).1 b).1 ∧ entS (insV (delV o b.2.2).1 b).1 = entS o ∧ (entS o).Perm (b :: entS (delV o b.2.2).1) := by
  have hb' := (mem_entS h).1 hb
  obtain ⟨k1, Q, k2⟩ := del_ok h hb'
  have hn : b.2.2 ∉ edg (entO (delV o b.2.2).1) := by
    have := (edg_perm Q).nodup_iff.1 h.n
    exact (List.nodup_cons.1 this).1
  obtain ⟨h1, P, h2⟩ := ins_ok k2 (h.ids hb') hn
  refine ⟨k1, h1, k2, h2, ?_, ?_⟩
  · rw [entS_ok h2, entS_ok h]
    exact srtJ_congr (P.trans Q.symm)
  · rw [entS_ok k2, entS_ok h]
    exact ((srtJ_perm _).trans Q).trans ((srtJ_perm _).symm.cons b)
theorem ins_bad {o : Ov} {a : Aj} (h : (insV o a).2 = 0) : OkO o ∧ idJ a = true ∧ a.2.2 ∉ edg (entO o) := by
  unfold insV at h
  by_cases g1 : valO o = false
  · rw [if_pos g1] at h; exact absurd h (by decide)
  · rw [if_neg g1] at h
    by_cases g2 : idJ a = false
    · rw [if_pos g2] at h; exact absurd h (by decide)
    · rw [if_neg g2] at h
      by_cases g3 : (edg (entO o)).contains a.2.2 = true
      · rw [if_pos g3] at h; exact absurd h (by decide)
      · exact ⟨valO_iff.1 (by simpa using g1), by simpa using g2, fun k => g3 (by simpa using k)⟩
/-- The rows of the nodes one behind the other are the entries. -/
theorem rows_all {s : List Aj} (hs : s.Pairwise fun a b => adjL b a = false) : (hdsN s s.length).flatMap (fun j => s.filter fun x => decide (x.1 = (s.getD j z3).1)) = s := by
  have hi : incI (layV s).ns = true := incI_iff.2 (lay_inc hs _ (Nat.le_refl _))
  have e : entL (layV s) = s := lay_ent s
  have k : (hdsN s s.length).flatMap (fun j => s.filter fun x => decide (x.1 = (s.getD j z3).1)) = ((layV s).ns).flatMap fun n => s.filter fun x => decide (x.1 = n) := by
    show _ = List.flatMap _ (List.map _ (hdsN s s.length))
    rw [List.flatMap_map]
  rw [k]
  conv => rhs; rw [← e]
  have l2 : ∀ n, (s.filter fun x => decide (x.1 = n)) = rowAt (layV s) n := fun n => by unfold rowAt; rw [e]
  simp only [l2]
  unfold entL entN
  have l3 : (layV s).ns = (List.range (layV s).ns.length).map fun j => (layV s).ns.getD j 0 := (range_getD _).symm
  conv => lhs; rw [l3]
  rw [List.flatMap_map]
  apply fm_congr
  intro i hi'
  have hlt : i < (layV s).ns.length := by simpa using hi'
  rw [gd hlt, rowAt_at hi hlt]
/-- The overlay of the column of the entries has the entries. -/
theorem new_cmp {o : Ov} (h : OkO o) : valC (layV (srtJ (entO o))) = true ∧ OkO ⟨layV (srtJ (entO o)), [], []⟩ ∧ entS ⟨layV (srtJ (entO o)), [], []⟩ = entS o := by
  have hd : ((srtJ (entO o)).map fun x => x.2.2).Nodup := ((srtJ_perm (entO o)).map fun x : Aj => x.2.2).nodup_iff.2 h.n
  have v := lay_valid (srtJ_pw (entO o)) (fun x hx => h.ids ((srtJ_perm _).mem_iff.1 hx)) hd
  have e : entO ⟨layV (srtJ (entO o)), [], []⟩ = srtJ (entO o) := by
    unfold entO keepD
    rw [lay_ent, List.append_nil, List.filter_eq_self]
    intro x _; rfl
  have v2 : OkO ⟨layV (srtJ (entO o)), [], []⟩ := ⟨v, rfl, rfl, fun x hx => absurd hx (by simp), fun x hx => absurd hx (by simp), by rw [e]; exact hd⟩
  refine ⟨valC_iff.2 v, v2, ?_⟩
  rw [entS_ok v2, e, entS_ok h]
  exact (srtJ_uniq (List.Perm.refl _) (srtJ_pw _)).symm
end Go.Proofs.YtpjikijfendmhaaGreat
