/-
  Plain mathematics: the inverses of changes, made behind them, restore the graph but for its next ids. No program, no world.
-/
import Derived.Test.YtfbijdoomkgodaaGreatDoorJAmA
import Derived.Test.YtfbijdoomkgodaaGreatDoorK37
namespace Go.Proofs.YtfbijdoomkgodaaGreatDoor

/-- Equal but for the next ids. -/
def Pr (g h : Gr) : Prop := g.ns = h.ns ∧ g.es = h.es
theorem Pr.symm {g h : Gr} (p : Pr g h) : Pr h g := ⟨p.1.symm, p.2.symm⟩
theorem Pr.trans {g h k : Gr} (p : Pr g h) (q : Pr h k) : Pr g k := ⟨p.1.trans q.1, p.2.trans q.2⟩
theorem stp_pr {g h : Gr} (p : Pr g h) (c : Ch) : stpE g c = stpE h c ∧ Pr (stpG g c) (stpG h c) := by
  obtain ⟨ns, es, nn, ne⟩ := g
  obtain ⟨ms, fs, mm, me⟩ := h
  obtain ⟨p1, p2⟩ := p
  change ns = ms at p1
  change es = fs at p2
  subst p1 p2
  refine ⟨rfl, ?_⟩
  unfold stpG
  by_cases o1 : c.op = 1
  · rw [if_pos o1, if_pos o1]; exact ⟨rfl, rfl⟩
  · rw [if_neg o1, if_neg o1]
    by_cases o6 : c.op = 6
    · rw [if_pos o6, if_pos o6]; exact ⟨rfl, rfl⟩
    · rw [if_neg o6, if_neg o6]
      by_cases o8 : c.op = 8
      · rw [if_pos o8, if_pos o8]; exact ⟨rfl, rfl⟩
      · rw [if_neg o8, if_neg o8]
        by_cases o7 : c.op = 7
        · rw [if_pos o7, if_pos o7]; exact ⟨rfl, rfl⟩
        · rw [if_neg o7, if_neg o7]
          unfold nedi
          by_cases o3 : c.op = 3
          · rw [if_pos o3, if_pos o3]; exact ⟨rfl, rfl⟩
          · rw [if_neg o3, if_neg o3]
            by_cases o4 : c.op = 4
            · rw [if_pos o4, if_pos o4]; exact ⟨rfl, rfl⟩
            · rw [if_neg o4, if_neg o4]
              by_cases o5 : c.op = 5
              · rw [if_pos o5, if_pos o5]; exact ⟨rfl, rfl⟩
              · rw [if_neg o5, if_neg o5]; exact ⟨rfl, rfl⟩
/-- Changes that can be made one after the other. -/
def Run : Gr → List Ch → Prop
  | _, [] => True
  | g, c :: r => stpE g c = 0 ∧ Run (stpG g c) r
theorem run_iff : ∀ (l : List Ch) (g : Gr) (i : Nat), (allE g l i).2 = 0 ↔ Run g l
  | [], _, _ => ⟨fun _ => trivial, fun _ => rfl⟩
  | c :: r, g, i => by
    show (if stpE g c = 0 then allE (stpG g c) r (i + 1) else (i, stpE g c)).2 = 0 ↔ stpE g c = 0 ∧ Run (stpG g c) r
    by_cases q : stpE g c = 0
    · rw [if_pos q, run_iff r]
      exact ⟨fun h => ⟨q, h⟩, And.right⟩
    · rw [if_neg q]
      exact ⟨fun h => absurd h q, fun h => absurd h.1 q⟩
theorem run_app : ∀ (l m : List Ch) (g : Gr), Run g (l ++ m) ↔ Run g l ∧ Run (allG g l) m
  | [], m, g => ⟨fun h => ⟨trivial, h⟩, And.right⟩
  | c :: r, m, g => by
    show stpE g c = 0 ∧ Run (stpG g c) (r ++ m) ↔ (stpE g c = 0 ∧ Run (stpG g c) r) ∧ Run (allG (stpG g c) r) m
    rw [run_app r m]
    exact ⟨fun h => ⟨⟨h.1, h.2.1⟩, h.2.2⟩, fun h => ⟨h.1.1, h.1.2, h.2⟩⟩
theorem allG_app : ∀ (l m : List Ch) (g : Gr), allG g (l ++ m) = allG (allG g l) m
  | [], _, _ => rfl
  | c :: r, m, g => allG_app r m (stpG g c)
theorem run_pr : ∀ (l : List Ch) {g h : Gr}, Pr g h → (Run g l → Run h l) ∧ Pr (allG g l) (allG h l)
  | [], _, _, p => ⟨id, p⟩
  | c :: r, g, h, p => by
    obtain ⟨e, q⟩ := stp_pr p c
    obtain ⟨a, b⟩ := run_pr r q
    exact ⟨fun k => ⟨e.symm.trans k.1, a k.2⟩, b⟩

/-! Places. -/
theorem del_ins {α : Type} (l : List α) (k : Nat) (x : α) (hk : k ≤ l.length) : delA (insA l k x) k = l := by
  unfold delA insA
  have e : (l.take k).length = k := by rw [List.length_take]; omega
  rw [List.take_append_of_le_length (by rw [e]; exact Nat.le_refl _), List.take_of_length_le (by rw [e]; exact Nat.le_refl _), List.drop_append, e, List.drop_of_length_le (by rw [e]; omega), Nat.add_sub_cancel_left]
  show l.take k ++ ([] ++ l.drop k) = l
  rw [List.nil_append, List.take_append_drop]
theorem ins_del {α : Type} (l : List α) (k : Nat) (x : α) (hk : k < l.length) : insA (delA l k) k x = l.set k x := by
  unfold delA insA
  have e : (l.take k).length = k := by rw [List.length_take]; omega
  rw [List.take_append_of_le_length (by rw [e]; exact Nat.le_refl _), List.take_of_length_le (by rw [e]; exact Nat.le_refl _), List.drop_append, e, List.drop_of_length_le (by rw [e]; exact Nat.le_refl _), Nat.sub_self, List.set_eq_take_append_cons_drop, if_pos hk]
  rfl
theorem set_same {α : Type} {l : List α} {k : Nat} (hk : k < l.length) {x : α} (h : l[k] = x) : l.set k x = l := by
  subst h; exact List.set_getElem_self hk
theorem atI_cons (y : Int) (r : List Int) (x : Int) : atI (y :: r) x = if y < x then atI r x + 1 else 0 := rfl
theorem atI_ins (x : Int) : ∀ l : List Int, atI (insA l (atI l x) x) x = atI l x
  | [] => by unfold atI insA; simp [atI]
  | y :: r => by
    by_cases q : y < x
    · have e : atI (y :: r) x = atI r x + 1 := by rw [atI_cons, if_pos q]
      rw [e]
      show atI (y :: insA r (atI r x) x) x = _
      rw [atI_cons, if_pos q, atI_ins x r]
    · have e : atI (y :: r) x = 0 := by rw [atI_cons, if_neg q]
      rw [e]
      show atI (x :: y :: r) x = 0
      rw [atI_cons, if_neg (by omega)]
theorem atI_zero {x : Int} {l : List Int} (h : ∀ y ∈ l, ¬ y < x) : atI l x = 0 := by
  cases l with
  | nil => rfl
  | cons y r => rw [atI_cons, if_neg (h y (List.mem_cons_self ..))]
theorem atI_del (x : Int) : ∀ {l : List Int}, l.Pairwise (· < ·) → atI (delA l (atI l x)) x = atI l x
  | [], _ => rfl
  | y :: r, h => by
    have h' := List.pairwise_cons.1 h
    by_cases q : y < x
    · have e : atI (y :: r) x = atI r x + 1 := by rw [atI_cons, if_pos q]
      rw [e]
      show atI (y :: delA r (atI r x)) x = _
      rw [atI_cons, if_pos q, atI_del x h'.2]
    · have e : atI (y :: r) x = 0 := by rw [atI_cons, if_neg q]
      rw [e]
      show atI r x = 0
      exact atI_zero fun z hz => by have := h'.1 z hz; omega
theorem atS_ins (x : List UInt8) : ∀ l : List (List UInt8), atS (insA l (atS l x) x) x = atS l x
  | [] => by
    show atS [x] x = 0
    rw [at_cons, bl_irr]; rfl
  | y :: r => by
    by_cases q : Op.bytesLess y x = true
    · have e : atS (y :: r) x = atS r x + 1 := by rw [at_cons, if_pos q]
      rw [e]
      show atS (y :: insA r (atS r x) x) x = _
      rw [at_cons, if_pos q, atS_ins x r]
    · have e : atS (y :: r) x = 0 := by rw [at_cons, if_neg q]
      rw [e]
      show atS (x :: y :: r) x = 0
      rw [at_cons, bl_irr]; rfl
theorem atS_zero {x : List UInt8} {l : List (List UInt8)} (h : ∀ y ∈ l, ¬ Op.bytesLess y x = true) : atS l x = 0 := by
  cases l with
  | nil => rfl
  | cons y r => rw [at_cons, if_neg (h y (List.mem_cons_self ..))]
theorem atS_del (x : List UInt8) : ∀ {l : List (List UInt8)}, incS l → atS (delA l (atS l x)) x = atS l x
  | [], _ => rfl
  | y :: r, h => by
    have h' := List.pairwise_cons.1 h
    by_cases q : Op.bytesLess y x = true
    · have e : atS (y :: r) x = atS r x + 1 := by rw [at_cons, if_pos q]
      rw [e]
      show atS (y :: delA r (atS r x)) x = _
      rw [at_cons, if_pos q, atS_del x h'.2]
    · have e : atS (y :: r) x = 0 := by rw [at_cons, if_neg q]
      rw [e]
      show atS r x = 0
      exact atS_zero fun z hz k => q (bl_trans (h'.1 z hz) k)
/-- What is greater than all of them stands at the end. -/
theorem atS_end (x : List UInt8) : ∀ {l : List (List UInt8)}, (∀ y ∈ l, Op.bytesLess y x = true) → atS l x = l.length
  | [], _ => rfl
  | y :: r, h => by
    rw [at_cons, if_pos (h y (List.mem_cons_self ..)), atS_end x fun z hz => h z (List.mem_cons_of_mem _ hz)]; rfl
theorem ins_end {α : Type} (l : List α) (x : α) : insA l l.length x = l ++ [x] := by
  unfold insA
  rw [List.take_of_length_le (Nat.le_refl _), List.drop_of_length_le (Nat.le_refl _)]
theorem has_ins {l : List (List UInt8)} {s : List UInt8} {k : Nat} : hasS (insA l k s) s = true := hasS_iff.2 (insA_mem.2 (.inl rfl))
theorem has_del {l : List (List UInt8)} {s : List UInt8} (h : incS l) (hs : hasS l s = true) : hasS (delA l (atS l s)) s = false := by
  cases e : hasS (delA l (atS l s)) s with
  | false => rfl
  | true =>
    exfalso
    have h1 := hasS_iff.1 e
    have h2 := atS_spec (del_incS h _) h1
    rw [atS_del s h] at h2
    have h3 := atS_spec h (hasS_iff.1 hs)
    obtain ⟨k3, e3⟩ := List.getElem?_eq_some_iff.1 h3
    have ek : (l.take (atS l s)).length = atS l s := by rw [List.length_take]; omega
    unfold delA at h2
    rw [List.getElem?_append_right (by rw [ek]; exact Nat.le_refl _), ek, Nat.sub_self, List.getElem?_drop, Nat.add_zero] at h2
    obtain ⟨k2, e2⟩ := List.getElem?_eq_some_iff.1 h2
    have := (List.pairwise_iff_getElem.1 h) (atS l s) (atS l s + 1) k3 k2 (Nat.lt_succ_self _)
    rw [e3, e2, bl_irr] at this
    cases this

/-! Properties. -/
theorem pln_null {v : Vl} (h : plnV v = true) : isN v = false := by
  unfold plnV at h
  simp only [Bool.and_eq_true, Bool.or_eq_true, beq_iff_eq] at h
  obtain ⟨h1, h2⟩ := h
  have h0 : okX nulV = true := by decide
  have hc : classV v.kd ≠ classV nulV.kd := by
    rcases h2 with (e | e) | e <;> rw [e] <;> decide
  unfold isN
  rw [ordV_cls h1 h0 hc]
  rcases h2 with (e | e) | e <;> rw [e] <;> decide
theorem pp_eta {p : Pp} {k : List UInt8} (h : p.k = k) : p = ⟨k, p.v⟩ := by subst h; rfl
theorem keys_at (ps : List Pp) (i : Nat) (h : i < ps.length) : (keysV ps)[i]'(by unfold keysV; rw [List.length_map]; exact h) = ps[i].k := List.getElem_map ..
theorem find_at {ps : List Pp} {k : List UInt8} {i : Nat} (hi : incS (keysV ps)) (hl : i < ps.length) (hat : ps[i].k = k) : prpV ps k = ps[i].v := by
  unfold prpV
  cases hf : ps.find? fun p => p.k == k with
  | none =>
    have := List.find?_eq_none.1 hf _ (List.getElem_mem hl)
    simp [hat] at this
  | some q =>
    have hq := List.find?_some hf
    have hm := List.mem_of_find?_eq_some hf
    have hq' : q.k = k := by simpa using hq
    obtain ⟨j, hj, e⟩ := List.getElem_of_mem hm
    have hpw := List.pairwise_iff_getElem.1 hi
    have hjj : j = i := by
      rcases Nat.lt_trichotomy j i with g | g | g
      · have := hpw j i (by unfold keysV; rw [List.length_map]; exact hj) (by unfold keysV; rw [List.length_map]; exact hl) g
        rw [keys_at ps j hj, keys_at ps i hl, e, hq', hat, bl_irr] at this
        cases this
      · exact g
      · have := hpw i j (by unfold keysV; rw [List.length_map]; exact hl) (by unfold keysV; rw [List.length_map]; exact hj) g
        rw [keys_at ps j hj, keys_at ps i hl, e, hq', hat, bl_irr] at this
        cases this
    subst hjj
    rw [← e]; rfl
theorem find_key {ps : List Pp} {k : List UInt8} (hi : incS (keysV ps)) (h : hasK ps k = true) : ∃ hl : atS (keysV ps) k < ps.length, prpV ps k = ps[atS (keysV ps) k].v ∧ ps[atS (keysV ps) k].k = k := by
  obtain ⟨hl, hat⟩ := at_hasK hi h
  exact ⟨hl, find_at hi hl hat, hat⟩
theorem find_none {ps : List Pp} {k : List UInt8} (h : hasK ps k = false) : prpV ps k = nulV := by
  unfold prpV
  have e : (ps.find? fun p => p.k == k) = none := by
    rw [List.find?_eq_none]
    intro p hp q
    have : hasK ps k = true := hasS_iff.2 (List.mem_map.2 ⟨p, hp, by simpa using q⟩)
    rw [h] at this; cases this
  rw [e]; rfl
theorem keys_set {ps : List Pp} {k : List UInt8} {v : Vl} {i : Nat} (hi : i < ps.length) (h : ps[i].k = k) : keysV (ps.set i ⟨k, v⟩) = keysV ps := by
  show (ps.set i _).map Pp.k = ps.map Pp.k
  rw [List.map_set]
  exact set_same (by rw [List.length_map]; exact hi) (by rw [List.getElem_map]; exact h)
theorem keys_ins {ps : List Pp} {i : Nat} {p : Pp} : keysV (insA ps i p) = insA (keysV ps) i p.k := insA_map Pp.k ps i p
theorem keys_del {ps : List Pp} {i : Nat} : keysV (delA ps i) = delA (keysV ps) i := delA_map Pp.k ps i
theorem nulN : isN nulV = true := by decide
/-- A property that was set is set back. -/
theorem set_back {ls : List (List UInt8)} {ps : List Pp} {k : List UInt8} {v : Vl} (h : Par ls ps) :
    setE (setP ps k v) k (prpV ps k) = 0 ∧ setP (setP ps k v) k (prpV ps k) = ps ∧ (isN (prpV ps k) = true ∨ plnV (prpV ps k) = true) := by
  by_cases h1 : hasK ps k = true
  · obtain ⟨hl, e, hk⟩ := find_key h.ki h1
    have hpl : plnV (prpV ps k) = true := by rw [e]; exact h.pv _ (List.getElem_mem hl)
    have hnn := pln_null hpl
    refine ⟨?_, ?_, .inr hpl⟩
    · unfold setE
      refine if_neg fun q => ?_
      unfold setP at q
      rw [if_pos h1] at q
      by_cases h2 : isN v = true
      · rw [if_pos h2] at q
        have := delA_len ps _ hl
        have := h.p16
        omega
      · rw [if_neg h2] at q
        have q1 := q.1
        unfold hasK at q1
        rw [keys_set hl hk] at q1
        unfold hasK at h1
        rw [h1] at q1; cases q1
    · unfold setP
      rw [if_pos h1]
      by_cases h2 : isN v = true
      · rw [if_pos h2]
        have hd : hasK (delA ps (atS (keysV ps) k)) k = false := by
          unfold hasK
          rw [keys_del]
          exact has_del h.ki h1
        rw [if_neg (by rw [hd]; decide), if_neg (by rw [hnn]; decide), keys_del, atS_del k h.ki, ins_del _ _ _ hl]
        refine set_same hl ?_
        rw [e]
        exact pp_eta hk
      · rw [if_neg h2]
        have hd : hasK (ps.set (atS (keysV ps) k) ⟨k, v⟩) k = true := by
          unfold hasK
          rw [keys_set hl hk]; exact h1
        rw [if_pos hd, if_neg (by rw [hnn]; decide), keys_set hl hk, List.set_set]
        refine set_same hl ?_
        rw [e]
        exact pp_eta hk
  · have h1' : hasK ps k = false := by simpa using h1
    have e := find_none h1'
    rw [e]
    refine ⟨?_, ?_, .inl nulN⟩
    · unfold setE
      exact if_neg fun q => by rw [nulN] at q; exact absurd q.2.1 (by decide)
    · unfold setP
      rw [if_neg h1]
      by_cases h2 : isN v = true
      · rw [if_pos h2, if_neg h1, if_pos nulN]
      · rw [if_neg h2]
        have hd : hasK (insA ps (atS (keysV ps) k) ⟨k, v⟩) k = true := by
          unfold hasK
          rw [keys_ins]; exact has_ins
        rw [if_pos hd, if_pos nulN, keys_ins, atS_ins, del_ins]
        have := at_le (keysV ps) k
        unfold keysV at this ⊢
        rw [List.length_map] at this
        exact this
/-- Properties set one after the other behind those that are there. -/
theorem set_next {ls : List (List UInt8)} {a b : List Pp} {p : Pp} (h : Par ls (a ++ p :: b)) : setE a p.k p.v = 0 ∧ setP a p.k p.v = a ++ [p] := by
  have hl := h.p16
  rw [List.length_append, List.length_cons] at hl
  have hk := h.ki
  unfold keysV at hk
  rw [List.map_append, List.map_cons] at hk
  have hlt : ∀ y ∈ keysV a, Op.bytesLess y p.k = true := fun y hy => (List.pairwise_append.1 hk).2.2 y hy p.k (List.mem_cons_self ..)
  have hn : hasK a p.k = false := by
    cases e : hasK a p.k with
    | false => rfl
    | true =>
      have := hlt _ (hasS_iff.1 e)
      rw [bl_irr] at this; cases this
  have hpn := pln_null (h.pv p (List.mem_append.2 (.inr (List.mem_cons_self ..))))
  constructor
  · unfold setE
    exact if_neg fun q => by omega
  · unfold setP
    rw [if_neg (by rw [hn]; decide), if_neg (by rw [hpn]; decide), atS_end _ hlt]
    have e : (keysV a).length = a.length := by unfold keysV; rw [List.length_map]
    rw [e, ins_end]
theorem lab_next {ps : List Pp} {a b : List (List UInt8)} {s : List UInt8} (h : Par (a ++ s :: b) ps) : hasS a s = false ∧ a.length < 8 ∧ insA a (atS a s) s = a ++ [s] := by
  have hl := h.l8
  rw [List.length_append, List.length_cons] at hl
  have hlt : ∀ y ∈ a, Op.bytesLess y s = true := fun y hy => (List.pairwise_append.1 h.li).2.2 y hy s (List.mem_cons_self ..)
  refine ⟨?_, by omega, by rw [atS_end _ hlt, ins_end]⟩
  cases e : hasS a s with
  | false => rfl
  | true =>
    have := hlt _ (hasS_iff.1 e)
    rw [bl_irr] at this; cases this
end Go.Proofs.YtfbijdoomkgodaaGreatDoor
