
/-
  Plain mathematics of columns: the row of a node, where the entries' parts lie, the column of a list of entries, what is read back of it. No program, no world.
-/
import Derived.Test.YtpjikijfendmhaaGreatCoM
namespace Go.Proofs.YtpjikijfendmhaaGreat

theorem row_fst {c : Cm} {i : Nat} {x : Aj} (h : x ∈ rowL c i) : x.1 = c.ns.getD i 0 := by
  unfold rowL segL at h
  obtain ⟨j, -, rfl⟩ := List.mem_map.1 h
  rfl
theorem gd {l : List Int} {i : Nat} (h : i < l.length) : l.getD i 0 = l[i] := by rw [List.getD_eq_getElem?_getD, List.getElem?_eq_getElem h]; rfl
theorem row_all {c : Cm} {i : Nat} (h : i < c.ns.length) : (rowL c i).filter (fun x => decide (x.1 = c.ns[i])) = rowL c i := by
  rw [List.filter_eq_self]
  intro x hx
  rw [row_fst hx, gd h]; simp
theorem row_no {c : Cm} {i : Nat} {n : Int} (h : c.ns.getD i 0 ≠ n) : (rowL c i).filter (fun x => decide (x.1 = n)) = [] := by
  rw [List.filter_eq_nil_iff]
  intro x hx
  rw [row_fst hx]; simpa using h
theorem entN_filter {c : Cm} (hs : incI c.ns = true) {i : Nat} (hi : i < c.ns.length) : ∀ m, m ≤ c.ns.length → (entN c m).filter (fun x => decide (x.1 = c.ns[i])) = if i < m then rowL c i else []
  | 0, _ => rfl
  | m + 1, hm => by
    rw [entN_step, List.filter_append, entN_filter hs hi m (by omega)]
    rcases Nat.lt_trichotomy i m with g | g | g
    · rw [if_pos g, if_pos (by omega), row_no, List.append_nil]
      rw [gd (show m < c.ns.length by omega)]
      have := List.pairwise_iff_getElem.1 (incI_iff.1 hs) i m hi (by omega) g
      omega
    · subst g
      rw [if_neg (by omega), if_pos (by omega), row_all hi]; rfl
    · rw [if_neg (by omega), if_neg (by omega), row_no, List.append_nil]
      rw [gd (show m < c.ns.length by omega)]
      have := List.pairwise_iff_getElem.1 (incI_iff.1 hs) m i (by omega) hi g
      omega
/-- The entries of a node. -/
def rowAt (c : Cm) (n : Int) : List Aj := (entL c).filter fun x => decide (x.1 = n)
theorem rowAt_at {c : Cm} (hs : incI c.ns = true) {i : Nat} (hi : i < c.ns.length) : rowAt c c.ns[i] = rowL c i := by
  unfold rowAt entL
  rw [entN_filter hs hi _ (Nat.le_refl _), if_pos hi]
theorem ent_fst {c : Cm} {x : Aj} (h : x ∈ entL c) : x.1 ∈ c.ns := by
  unfold entL entN at h
  obtain ⟨i, hi, hx⟩ := List.mem_flatMap.1 h
  have hi' : i < c.ns.length := by simpa using hi
  rw [row_fst hx, gd hi']
  exact List.getElem_mem hi'
theorem rowAt_no {c : Cm} {n : Int} (h : n ∉ c.ns) : rowAt c n = [] := by
  unfold rowAt
  rw [List.filter_eq_nil_iff]
  intro x hx e
  have : x.1 = n := by simpa using e
  exact h (this ▸ ent_fst hx)
theorem ent_to {c : Cm} (hb : bndB c = true) {x : Aj} (h : x ∈ entL c) : x.2.1 ∈ c.ts := by
  rw [← ent_ts hb]; exact List.mem_map_of_mem h
theorem ent_ed {c : Cm} (hb : bndB c = true) {x : Aj} (h : x ∈ entL c) : x.2.2 ∈ c.es := by
  rw [← ent_es hb]; exact List.mem_map_of_mem h
/-- What validity says. -/
structure OkC (c : Cm) : Prop where
  n : ∀ x ∈ c.ns, idB x = true
  t : ∀ x ∈ c.ts, idB x = true
  e : ∀ x ∈ c.es, idB x = true
  i : incI c.ns = true
  b : bndB c = true
  s : sorJ (entL c) = true
  d : c.es.Nodup
theorem valC_iff {c : Cm} : valC c = true ↔ OkC c := by
  unfold valC dstI
  simp only [Bool.and_eq_true, List.all_eq_true, decide_eq_true_eq]
  constructor
  · rintro ⟨⟨⟨⟨⟨⟨a, b⟩, c⟩, d⟩, e⟩, f⟩, g⟩; exact ⟨a, b, c, d, e, f, g⟩
  · rintro ⟨a, b, c, d, e, f, g⟩; exact ⟨⟨⟨⟨⟨⟨a, b⟩, c⟩, d⟩, e⟩, f⟩, g⟩
theorem OkC.ids {c : Cm} (h : OkC c) {x : Aj} (hx : x ∈ entL c) : idJ x = true := by
  unfold idJ
  rw [h.n _ (ent_fst hx), h.t _ (ent_to h.b hx), h.e _ (ent_ed h.b hx)]; rfl
theorem OkC.pw {c : Cm} (h : OkC c) : (entL c).Pairwise fun a b => adjL a b = true := by
  have h1 := sorJ_iff.1 h.s
  have h2 : ((entL c).map fun x => x.2.2).Nodup := by rw [ent_es h.b]; exact h.d
  have h3 : (entL c).Pairwise fun a b => a.2.2 ≠ b.2.2 := List.pairwise_map.1 h2
  refine (List.Pairwise.and h1 h3).imp fun {a b} ⟨p, q⟩ => ?_
  by_cases g : adjL a b = true
  · exact g
  · exact absurd (by rw [adjL_tri (by simpa using g) p]) q
theorem OkC.nd {c : Cm} (h : OkC c) : (entL c).Pairwise fun a b => a.2.2 ≠ b.2.2 := by
  have h2 : ((entL c).map fun x => x.2.2).Nodup := by rw [ent_es h.b]; exact h.d
  exact List.pairwise_map.1 h2

/-- Where a list of entries goes over to another node; the column of the first k of them. -/
def z3 : Aj := (0, 0, 0)
def hdB (s : List Aj) (i : Nat) : Bool := decide (i = 0) || !decide ((s.getD i z3).1 = (s.getD (i - 1) z3).1)
def hdsN (s : List Aj) (k : Nat) : List Nat := (List.range k).filter (hdB s)
def layN (s : List Aj) (k : Nat) : Cm := ⟨(hdsN s k).map fun i => (s.getD i z3).1, (hdsN s k).map Int.ofNat, (s.take k).map fun x => x.2.1, (s.take k).map fun x => x.2.2⟩
def layK (s : List Aj) (k : Nat) : Cm := ⟨(layN s k).ns, (layN s k).fs ++ (if k = 0 then [] else [(k : Int)]), (layN s k).ts, (layN s k).es⟩
def layV (s : List Aj) : Cm := layK s s.length
theorem hds_step (s : List Aj) (k : Nat) : hdsN s (k + 1) = hdsN s k ++ if hdB s k = true then [k] else [] := by
  unfold hdsN
  rw [List.range_succ, List.filter_append]
  congr 1
  by_cases h : hdB s k = true
  · rw [if_pos h, List.filter_cons_of_pos h]; rfl
  · rw [if_neg h, List.filter_cons_of_neg h]; rfl
theorem gdJ {l : List Aj} {i : Nat} (h : i < l.length) : l.getD i z3 = l[i] := by rw [List.getD_eq_getElem?_getD, List.getElem?_eq_getElem h]; rfl
theorem fm_congr {α β : Type} {l : List α} {f g : α → List β} (h : ∀ x ∈ l, f x = g x) : l.flatMap f = l.flatMap g := by
  induction l with
  | nil => rfl
  | cons x r ih => rw [List.flatMap_cons, List.flatMap_cons, h x List.mem_cons_self, ih fun y hy => h y (List.mem_cons_of_mem _ hy)]
/-- A row does not look at what lies behind its end. -/
theorem seg_app (n : Int) (ts es tt ee : List Int) (k m : Nat) (ht : k + m ≤ ts.length) (he : k + m ≤ es.length) : segL n (ts ++ tt) (es ++ ee) k m = segL n ts es k m := by
  unfold segL
  apply List.map_congr_left
  intro j hj
  have hj' := List.mem_range'_1.1 hj
  have a : (ts ++ tt).getD j 0 = ts.getD j 0 := by
    rw [List.getD_eq_getElem?_getD, List.getD_eq_getElem?_getD, List.getElem?_append_left (by omega)]
  have b : (es ++ ee).getD j 0 = es.getD j 0 := by
    rw [List.getD_eq_getElem?_getD, List.getD_eq_getElem?_getD, List.getElem?_append_left (by omega)]
  rw [a, b]
theorem getD_app {l m : List Int} {i : Nat} (h : i < l.length) : (l ++ m).getD i 0 = l.getD i 0 := by
  rw [List.getD_eq_getElem?_getD, List.getD_eq_getElem?_getD, List.getElem?_append_left h]
theorem incI_snoc {l : List Int} {x : Int} (h : incI l = true) (hx : ∀ y ∈ l, y < x) : incI (l ++ [x]) = true := by
  rw [incI_iff] at *
  rw [List.pairwise_append]
  exact ⟨h, List.pairwise_singleton _ _, fun a ha b hb => by
    have : b = x := by simpa using hb
    subst this; exact hx a ha⟩
/-- The column of the first k entries: its bounds, its entries, its last node. -/
structure LayOk (s : List Aj) (k : Nat) : Prop where
  fl : (layN s k).fs.length = (layN s k).ns.length
  f0 : 0 < k → (layN s k).fs.getD 0 0 = 0 ∧ 0 < (layN s k).fs.length
  inc : incI (layN s k).fs = true
  lt : ∀ y ∈ (layN s k).fs, 0 ≤ y ∧ y < (k : Int)
  ent : entL (layK s k) = s.take k
  last : 0 < k → (layN s k).ns.getD ((layN s k).ns.length - 1) 0 = (s.getD (k - 1) z3).1
theorem take_snoc (s : List Aj) {k : Nat} (h : k < s.length) : s.take (k + 1) = s.take k ++ [s[k]] := List.take_succ_eq_append_getElem h
theorem snoc_last (l : List Int) (x : Int) : (l ++ [x]).getD l.length 0 = x := by
  rw [List.getD_eq_getElem?_getD, List.getElem?_append_right (Nat.le_refl _)]; simp
theorem lay_ok (s : List Aj) : ∀ k, k ≤ s.length → LayOk s k
  | 0, _ => ⟨rfl, fun h => absurd h (by decide), rfl, fun y hy => absurd hy (by simp [layN, hdsN]), rfl, fun h => absurd h (by decide)⟩
  | k + 1, hk => by
    have I := lay_ok s k (by omega)
    have hlt : k < s.length := by omega
    have ht : (layN s (k + 1)).ts = (layN s k).ts ++ [s[k].2.1] := by
      show List.map _ (s.take (k + 1)) = _
      rw [take_snoc s hlt, List.map_append]; rfl
    have he : (layN s (k + 1)).es = (layN s k).es ++ [s[k].2.2] := by
      show List.map _ (s.take (k + 1)) = _
      rw [take_snoc s hlt, List.map_append]; rfl
    have tl : (layN s k).ts.length = k := by show (List.map _ (s.take k)).length = k; rw [List.length_map, List.length_take]; omega
    have el : (layN s k).es.length = k := by show (List.map _ (s.take k)).length = k; rw [List.length_map, List.length_take]; omega
    have one : segL s[k].1 (layN s (k + 1)).ts (layN s (k + 1)).es k 1 = [s[k]] := by
      show [(s[k].1, (layN s (k + 1)).ts.getD k 0, (layN s (k + 1)).es.getD k 0)] = _
      have a : (layN s (k + 1)).ts.getD k 0 = s[k].2.1 := by
        rw [ht]
        have := snoc_last (layN s k).ts s[k].2.1
        rwa [tl] at this
      have b : (layN s (k + 1)).es.getD k 0 = s[k].2.2 := by
        rw [he]
        have := snoc_last (layN s k).es s[k].2.2
        rwa [el] at this
      rw [a, b]
    by_cases hh : hdB s k = true
    · -- another node
      have hn : (layN s (k + 1)).ns = (layN s k).ns ++ [s[k].1] := by
        show List.map _ (hdsN s (k + 1)) = _
        rw [hds_step, if_pos hh, List.map_append, ← gdJ hlt]; rfl
      have hf : (layN s (k + 1)).fs = (layN s k).fs ++ [(k : Int)] := by
        show List.map _ (hdsN s (k + 1)) = _
        rw [hds_step, if_pos hh, List.map_append]; rfl
      refine ⟨by rw [hn, hf]; simp [I.fl], fun _ => ⟨?_, by rw [hf]; simp⟩, ?_, fun y hy => ?_, ?_, fun _ => ?_⟩
      · rw [hf]
        by_cases g : k = 0
        · subst g; rfl
        · rw [getD_app (I.f0 (by omega)).2]; exact (I.f0 (by omega)).1
      · rw [hf]; exact incI_snoc I.inc fun y hy => (I.lt y hy).2
      · rw [hf] at hy
        rcases List.mem_append.1 hy with h | h
        · have := I.lt y h; omega
        · have : y = k := by simpa using h
          omega
      · have hlen : (layK s (k + 1)).ns.length = (layN s k).ns.length + 1 := by show (layN s (k + 1)).ns.length = _; rw [hn]; simp
        unfold entL
        rw [hlen, entN_step, take_snoc s hlt, ← I.ent]
        have fnew : (layK s (k + 1)).fs = ((layN s k).fs ++ [(k : Int)]) ++ [((k + 1 : Nat) : Int)] := by
          show (layN s (k + 1)).fs ++ (if k + 1 = 0 then [] else [((k + 1 : Nat) : Int)]) = _
          rw [if_neg (by omega), hf]
        congr 1
        · unfold entL entN
          show List.flatMap (rowL (layK s (k + 1))) (List.range (layN s k).ns.length) = List.flatMap (rowL (layK s k)) (List.range (layN s k).ns.length)
          apply fm_congr
          intro i hi
          have hi' : i < (layN s k).ns.length := by simpa using hi
          have kp : k ≠ 0 := by
            rintro rfl
            exact absurd hi' (by simp [layN, hdsN])
          have fold : (layK s k).fs = (layN s k).fs ++ [(k : Int)] := by
            show (layN s k).fs ++ (if k = 0 then [] else [(k : Int)]) = _
            rw [if_neg kp]
          unfold rowL
          have hfl := I.fl
          have e1 : (layK s (k + 1)).fs.getD i 0 = (layK s k).fs.getD i 0 := by
            rw [fnew, fold, getD_app (by simp; omega)]
          have e2 : (layK s (k + 1)).fs.getD (i + 1) 0 = (layK s k).fs.getD (i + 1) 0 := by
            rw [fnew, fold, getD_app (by simp; omega)]
          have e3 : (layK s (k + 1)).ns.getD i 0 = (layK s k).ns.getD i 0 := by
            show (layN s (k + 1)).ns.getD i 0 = (layN s k).ns.getD i 0
            rw [hn, getD_app hi']
          rw [e1, e2, e3]
          show segL _ (layN s (k + 1)).ts (layN s (k + 1)).es _ _ = segL _ (layN s k).ts (layN s k).es _ _
          rw [ht, he]
          have b1 : 0 ≤ (layK s k).fs.getD i 0 ∧ (layK s k).fs.getD i 0 ≤ (k : Int) := by
            rw [fold, getD_app (by omega), gd (by omega)]
            have := I.lt _ (List.getElem_mem (show i < (layN s k).fs.length by omega)); omega
          have b2 : 0 ≤ (layK s k).fs.getD (i + 1) 0 ∧ (layK s k).fs.getD (i + 1) 0 ≤ (k : Int) := by
            rw [fold]
            rcases Nat.lt_or_ge (i + 1) (layN s k).fs.length with g | g
            · rw [getD_app g, gd g]
              have := I.lt _ (List.getElem_mem g); omega
            · have : i + 1 = (layN s k).fs.length := by omega
              rw [this, snoc_last]; omega
          exact seg_app _ _ _ _ _ _ _ (by rw [tl]; omega) (by rw [el]; omega)
        · show rowL (layK s (k + 1)) (layN s k).ns.length = [s[k]]
          unfold rowL
          have e3 : (layK s (k + 1)).ns.getD (layN s k).ns.length 0 = s[k].1 := by
            show (layN s (k + 1)).ns.getD _ 0 = _
            rw [hn, snoc_last]
          have e1 : (layK s (k + 1)).fs.getD (layN s k).ns.length 0 = (k : Int) := by
            rw [fnew, getD_app (by simp [I.fl]), ← I.fl, snoc_last]
          have e2 : (layK s (k + 1)).fs.getD ((layN s k).ns.length + 1) 0 = ((k + 1 : Nat) : Int) := by
            rw [fnew]
            have := snoc_last ((layN s k).fs ++ [(k : Int)]) ((k + 1 : Nat) : Int)
            rwa [List.length_append, I.fl] at this
          rw [e1, e2, e3, show ((k : Int)).toNat = k from rfl, show (((k + 1 : Nat) : Int)).toNat - k = 1 by omega]
          exact one
      · rw [hn]
        have := snoc_last (layN s k).ns s[k].1
        rw [List.length_append, show (layN s k).ns.length + [s[k].1].length - 1 = (layN s k).ns.length from rfl, this, show k + 1 - 1 = k from rfl, gdJ hlt]
    · -- the same node
      have hn : (layN s (k + 1)).ns = (layN s k).ns := by
        show List.map _ (hdsN s (k + 1)) = _
        rw [hds_step, if_neg hh, List.append_nil]; rfl
      have hf : (layN s (k + 1)).fs = (layN s k).fs := by
        show List.map _ (hdsN s (k + 1)) = _
        rw [hds_step, if_neg hh, List.append_nil]; rfl
      have kp : 0 < k := by
        rcases Nat.eq_zero_or_pos k with g | g
        · subst g; exact absurd rfl hh
        · exact g
      have hs : s[k].1 = (s.getD (k - 1) z3).1 := by
        unfold hdB at hh
        rw [gdJ hlt] at hh
        simp at hh
        exact hh.2
      obtain ⟨f0, fp⟩ := I.f0 kp
      have hfl := I.fl
      refine ⟨by rw [hn, hf]; exact hfl, fun _ => by rw [hf]; exact ⟨f0, fp⟩, by rw [hf]; exact I.inc, fun y hy => ?_, ?_, fun _ => ?_⟩
      · rw [hf] at hy
        have := I.lt y hy; omega
      · have hlen : (layK s (k + 1)).ns.length = (layN s k).ns.length := by show (layN s (k + 1)).ns.length = _; rw [hn]
        have fnew : (layK s (k + 1)).fs = (layN s k).fs ++ [((k + 1 : Nat) : Int)] := by
          show (layN s (k + 1)).fs ++ (if k + 1 = 0 then [] else [((k + 1 : Nat) : Int)]) = _
          rw [if_neg (by omega), hf]
        have fold : (layK s k).fs = (layN s k).fs ++ [(k : Int)] := by
          show (layN s k).fs ++ (if k = 0 then [] else [(k : Int)]) = _
          rw [if_neg (by omega)]
        obtain ⟨m, hm⟩ : ∃ m, (layN s k).ns.length = m + 1 := ⟨(layN s k).ns.length - 1, by omega⟩
        have hold : entL (layK s k) = entN (layK s k) m ++ rowL (layK s k) m := by
          unfold entL
          rw [show (layK s k).ns.length = m + 1 from hm, entN_step]
        unfold entL
        rw [hlen, hm, entN_step, take_snoc s hlt, ← I.ent, hold, List.append_assoc]
        congr 1
        · unfold entN
          apply fm_congr
          intro i hi
          have hi' : i < m := by simpa using hi
          unfold rowL
          have e1 : (layK s (k + 1)).fs.getD i 0 = (layK s k).fs.getD i 0 := by
            rw [fnew, fold, getD_app (by omega), getD_app (by omega)]
          have e2 : (layK s (k + 1)).fs.getD (i + 1) 0 = (layK s k).fs.getD (i + 1) 0 := by
            rw [fnew, fold, getD_app (by omega), getD_app (by omega)]
          have e3 : (layK s (k + 1)).ns.getD i 0 = (layK s k).ns.getD i 0 := by
            show (layN s (k + 1)).ns.getD i 0 = (layN s k).ns.getD i 0
            rw [hn]
          rw [e1, e2, e3]
          show segL _ (layN s (k + 1)).ts (layN s (k + 1)).es _ _ = segL _ (layN s k).ts (layN s k).es _ _
          rw [ht, he]
          have b1 : 0 ≤ (layK s k).fs.getD i 0 ∧ (layK s k).fs.getD i 0 ≤ (k : Int) := by
            rw [fold, getD_app (by omega), gd (by omega)]
            have := I.lt _ (List.getElem_mem (show i < (layN s k).fs.length by omega)); omega
          have b2 : 0 ≤ (layK s k).fs.getD (i + 1) 0 ∧ (layK s k).fs.getD (i + 1) 0 ≤ (k : Int) := by
            rw [fold, getD_app (by omega), gd (by omega)]
            have := I.lt _ (List.getElem_mem (show i + 1 < (layN s k).fs.length by omega)); omega
          exact seg_app _ _ _ _ _ _ _ (by rw [tl]; omega) (by rw [el]; omega)
        · unfold rowL
          have e1 : (layK s (k + 1)).fs.getD m 0 = (layN s k).fs.getD m 0 := by rw [fnew, getD_app (by omega)]
          have e1' : (layK s k).fs.getD m 0 = (layN s k).fs.getD m 0 := by rw [fold, getD_app (by omega)]
          have e2 : (layK s (k + 1)).fs.getD (m + 1) 0 = ((k + 1 : Nat) : Int) := by
            rw [fnew, show m + 1 = (layN s k).fs.length by omega, snoc_last]
          have e2' : (layK s k).fs.getD (m + 1) 0 = (k : Int) := by
            rw [fold, show m + 1 = (layN s k).fs.length by omega, snoc_last]
          have hlast := I.last kp
          rw [hm, show m + 1 - 1 = m from rfl, ← hs] at hlast
          have e3 : (layK s (k + 1)).ns.getD m 0 = s[k].1 := by
            show (layN s (k + 1)).ns.getD m 0 = _
            rw [hn]; exact hlast
          have e3' : (layK s k).ns.getD m 0 = s[k].1 := hlast
          have b1 : 0 ≤ (layN s k).fs.getD m 0 ∧ (layN s k).fs.getD m 0 < (k : Int) := by
            rw [gd (by omega)]
            exact I.lt _ (List.getElem_mem (show m < (layN s k).fs.length by omega))
          rw [e1, e1', e2, e2', e3, e3']
          obtain ⟨f, hf'⟩ : ∃ f : Nat, (layN s k).fs.getD m 0 = (f : Int) := ⟨((layN s k).fs.getD m 0).toNat, by omega⟩
          rw [hf'] at b1 ⊢
          rw [show ((f : Int)).toNat = f from rfl, show (((k + 1 : Nat) : Int)).toNat - f = (k - f) + 1 by omega, show ((k : Int)).toNat - f = k - f by omega, segL_step, show f + (k - f) = k by omega]
          show segL s[k].1 (layN s (k + 1)).ts (layN s (k + 1)).es f (k - f) ++ _ = segL s[k].1 (layN s k).ts (layN s k).es f (k - f) ++ _
          rw [show (s[k].1, (layK s (k + 1)).ts.getD k 0, (layK s (k + 1)).es.getD k 0) = s[k] from List.head_eq_of_cons_eq one]
          congr 1
          rw [ht, he]
          exact seg_app _ _ _ _ _ _ _ (by rw [tl]; omega) (by rw [el]; omega)
      · rw [hn, show k + 1 - 1 = k from rfl, gdJ hlt, hs]
        exact I.last kp
theorem lay_ent (s : List Aj) : entL (layV s) = s := by
  have := (lay_ok s s.length (Nat.le_refl _)).ent
  rwa [List.take_length] at this
theorem lay_bnd (s : List Aj) : bndB (layV s) = true := by
  have I := lay_ok s s.length (Nat.le_refl _)
  have tl : (layV s).ts.length = s.length := by show (List.map _ (s.take s.length)).length = _; simp
  have el : (layV s).es.length = s.length := by show (List.map _ (s.take s.length)).length = _; simp
  by_cases g : s.length = 0
  · have e := List.length_eq_zero_iff.1 g
    subst e; rfl
  · have fe : (layV s).fs = (layN s s.length).fs ++ [(s.length : Int)] := by
      show (layN s s.length).fs ++ (if s.length = 0 then [] else [(s.length : Int)]) = _
      rw [if_neg g]
    obtain ⟨f0, fp⟩ := I.f0 (by omega)
    unfold bndB
    rw [if_neg (by rw [fe]; simp)]
    simp only [Bool.and_eq_true, decide_eq_true_eq]
    have nl : (layV s).ns.length = (layN s s.length).ns.length := rfl
    refine ⟨⟨⟨⟨by rw [fe, nl, ← I.fl]; simp, ?_⟩, ?_⟩, ?_⟩, by rw [tl, el]⟩
    · rw [fe, getD_app fp]; exact f0
    · rw [fe]; exact incI_snoc I.inc fun y hy => (I.lt y hy).2
    · rw [fe, nl, ← I.fl, snoc_last, tl]
theorem lay_es (s : List Aj) : (layV s).es = s.map fun x => x.2.2 := by show List.map _ (s.take s.length) = _; rw [List.take_length]
theorem lay_ts (s : List Aj) : (layV s).ts = s.map fun x => x.2.1 := by show List.map _ (s.take s.length) = _; rw [List.take_length]
theorem hds_lt {s : List Aj} {k i : Nat} (h : i ∈ hdsN s k) : i < k ∧ hdB s i = true := by
  unfold hdsN at h
  have := List.mem_filter.1 h
  exact ⟨by simpa using this.1, this.2⟩
theorem lay_inc {s : List Aj} (hs : s.Pairwise fun a b => adjL b a = false) : ∀ k, k ≤ s.length → (layN s k).ns.Pairwise (· < ·)
  | 0, _ => List.Pairwise.nil
  | k + 1, hk => by
    have I := lay_inc hs k (by omega)
    have hlt : k < s.length := by omega
    show (List.map _ (hdsN s (k + 1))).Pairwise _
    rw [hds_step, List.map_append]
    by_cases hh : hdB s k = true
    · rw [if_pos hh, List.pairwise_append]
      refine ⟨I, List.pairwise_singleton _ _, fun a ha b hb => ?_⟩
      obtain ⟨i, hi, rfl⟩ := List.mem_map.1 ha
      have hb' : b = (s.getD k z3).1 := by simpa using hb
      subst hb'
      obtain ⟨hik, -⟩ := hds_lt hi
      have mono : ∀ p q (hp : p < s.length) (hq : q < s.length), p ≤ q → s[p].1 ≤ s[q].1 := fun p q hp hq hpq => by
        rcases Nat.lt_or_eq_of_le hpq with g | g
        · have := List.pairwise_iff_getElem.1 hs p q hp hq g
          have h' : ¬ adjL s[q] s[p] = true := by rw [this]; decide
          rw [adjL_iff] at h'
          omega
        · subst g; exact Int.le_refl _
      rw [gdJ (show i < s.length by omega), gdJ hlt]
      have h1 := mono i (k - 1) (by omega) (by omega) (by omega)
      have h2 := mono (k - 1) k (by omega) hlt (by omega)
      have h3 : s[k].1 ≠ s[k - 1].1 := by
        unfold hdB at hh
        rw [gdJ hlt, gdJ (show k - 1 < s.length by omega)] at hh
        have k0 : k ≠ 0 := by omega
        simp [k0] at hh
        exact hh
      omega
    · rw [if_neg hh, List.map_nil, List.append_nil]; exact I
/-- The column of a sorted list of entries with ids and different edges is valid. -/
theorem lay_valid {s : List Aj} (hs : s.Pairwise fun a b => adjL b a = false) (hid : ∀ x ∈ s, idJ x = true) (hd : (s.map fun x => x.2.2).Nodup) : OkC (layV s) := by
  have hi : ∀ x ∈ s, idB x.1 = true ∧ idB x.2.1 = true ∧ idB x.2.2 = true := fun x hx => by
    have := hid x hx
    unfold idJ at this
    simp only [Bool.and_eq_true] at this
    exact ⟨this.1.1, this.1.2, this.2⟩
  refine ⟨fun x hx => ?_, fun x hx => ?_, fun x hx => ?_, incI_iff.2 (lay_inc hs _ (Nat.le_refl _)), lay_bnd s, by rw [lay_ent]; exact sorJ_iff.2 hs, by rw [lay_es]; exact hd⟩
  · obtain ⟨i, h, rfl⟩ := List.mem_map.1 hx
    obtain ⟨hik, -⟩ := hds_lt h
    rw [gdJ hik]
    exact (hi _ (List.getElem_mem hik)).1
  · rw [lay_ts] at hx
    obtain ⟨y, hy, rfl⟩ := List.mem_map.1 hx
    exact (hi y hy).2.1
  · rw [lay_es] at hx
    obtain ⟨y, hy, rfl⟩ := List.mem_map.1 hx
    exact (hi y hy).2.2
end Go.Proofs.YtpjikijfendmhaaGreat
