/-
  RsN; RsO: texts of one kind in one file; each part says what it holds.
-/
import Derived.Test.YtfbijdoomkgodaaGreatDoorJRsM
import Derived.Test.YtfbijdoomkgodaaGreatDoorK38

/-! Plain mathematics: one change undone; all changes of a list undone. No program, no world. -/
namespace Go.Proofs.YtfbijdoomkgodaaGreatDoor

theorem chk_del {id : Int} (h : idV id = true) : chkC ⟨2, id, 0, 0, [], nulV⟩ = 0 := by unfold chkC idsC zeroC opV nmd vld; simp [h, nulN]
theorem chk_dele {id : Int} (h : idV id = true) : chkC ⟨7, id, 0, 0, [], nulV⟩ = 0 := by unfold chkC idsC zeroC opV nmd vld; simp [h, nulN]
theorem chk_add {id : Int} (h : idV id = true) : chkC ⟨1, id, 0, 0, [], nulV⟩ = 0 := by unfold chkC idsC zeroC opV nmd vld; simp [h, nulN]
theorem chk_lab {id : Int} {s : List UInt8} (h : idV id = true) (hs : nameV s = true) : chkC ⟨3, id, 0, 0, s, nulV⟩ = 0 := by unfold chkC idsC zeroC opV nmd vld; simp [h, hs, nulN]
theorem chk_unl {id : Int} {s : List UInt8} (h : idV id = true) (hs : nameV s = true) : chkC ⟨4, id, 0, 0, s, nulV⟩ = 0 := by unfold chkC idsC zeroC opV nmd vld; simp [h, hs, nulN]
theorem chk_set {id : Int} {s : List UInt8} {v : Vl} (h : idV id = true) (hs : nameV s = true) (hv : isN v = true ∨ plnV v = true) : chkC ⟨5, id, 0, 0, s, v⟩ = 0 := by
  unfold chkC idsC zeroC opV nmd vld
  rcases hv with e | e <;> simp [h, hs, e]
theorem chk_sete {id : Int} {s : List UInt8} {v : Vl} (h : idV id = true) (hs : nameV s = true) (hv : isN v = true ∨ plnV v = true) : chkC ⟨8, id, 0, 0, s, v⟩ = 0 := by
  unfold chkC idsC zeroC opV nmd vld
  rcases hv with e | e <;> simp [h, hs, e]
theorem chk_adde {id fr tt : Int} {s : List UInt8} (h : idV id = true) (h1 : idV fr = true) (h2 : idV tt = true) (hs : nameV s = true) : chkC ⟨6, id, fr, tt, s, nulV⟩ = 0 := by unfold chkC idsC zeroC opV nmd vld; simp [h, h1, h2, hs, nulN]
theorem mod_set2 {α : Type} (l : List α) (k : Nat) (y : α) (f : α → α) (h : k < l.length) : (l.set k y).modify k f = l.set k (f y) := by
  rw [mod_set _ k f (by rw [List.length_set]; exact h), List.getElem_set_self, List.set_set]
theorem pw_ids {α : Type} {f : α → Int} {l m : List α} (h : l.map f = m.map f) (p : l.Pairwise fun a b => f a < f b) : m.Pairwise fun a b => f a < f b := by
  have q := List.pairwise_map.2 p
  have q2 : (m.map f).Pairwise (· < ·) := by rw [← h]; exact q
  exact List.pairwise_map.1 q2
theorem not_del (x : Int) : ∀ {l : List Int}, l.Pairwise (· < ·) → x ∉ delA l (atI l x)
  | [], _ => fun h => by cases h
  | y :: r, h => by
    have h' := List.pairwise_cons.1 h
    by_cases q : y < x
    · have e : atI (y :: r) x = atI r x + 1 := by rw [atI_cons, if_pos q]
      rw [e]
      show x ∉ y :: delA r (atI r x)
      intro hm
      rcases List.mem_cons.1 hm with rfl | hm
      · omega
      · exact not_del x h'.2 hm
    · have e : atI (y :: r) x = 0 := by rw [atI_cons, if_neg q]
      rw [e]
      show x ∉ r
      intro hm
      have := h'.1 x hm
      omega

/-! A node in its place. -/
def putN (g : Gr) (k : Nat) (y : Nd) : Gr := { g with ns := g.ns.set k y }
def putE (g : Gr) (k : Nat) (y : Ed) : Gr := { g with es := g.es.set k y }
structure AtN (g : Gr) (id : Int) (k : Nat) : Prop where
  pw : g.ns.Pairwise fun a b => a.id < b.id
  at_ : atI (nidsV g.ns) id = k
  lt : k < g.ns.length
  i : (g.ns[k]'lt).id = id
structure AtE (g : Gr) (id : Int) (k : Nat) : Prop where
  pw : g.es.Pairwise fun a b => a.id < b.id
  at_ : atI (eidsV g.es) id = k
  lt : k < g.es.length
  i : (g.es[k]'lt).id = id
theorem nod_put {g : Gr} {id : Int} {k : Nat} {y : Nd} (h : AtN g id k) (hy : y.id = id) : nodV (g.ns.set k y) id = some y ∧ atI (nidsV (g.ns.set k y)) id = k := by
  have hids : nidsV (g.ns.set k y) = nidsV g.ns := set_ids Nd.id h.lt (hy.trans h.i.symm)
  have ha : atI (nidsV (g.ns.set k y)) id = k := by rw [hids]; exact h.at_
  refine ⟨?_, ha⟩
  rcases at_nod (x := id) (pw_ids (f := Nd.id) hids.symm h.pw) with ⟨-, hl, e1, -⟩ | ⟨hn, -⟩
  · have q := List.getElem?_eq_getElem hl
    rw [← e1, ha, List.getElem?_set_self h.lt] at q
    exact q.symm
  · exfalso
    have : hasN (g.ns.set k y) id = true := hasN_ids.2 (by rw [hids, ← h.i]; exact List.mem_map_of_mem (List.getElem_mem h.lt))
    rw [hn] at this; cases this
theorem edg_put {g : Gr} {id : Int} {k : Nat} {y : Ed} (h : AtE g id k) (hy : y.id = id) : edgV (g.es.set k y) id = some y ∧ atI (eidsV (g.es.set k y)) id = k := by
  have hids : eidsV (g.es.set k y) = eidsV g.es := set_ids Ed.id h.lt (hy.trans h.i.symm)
  have ha : atI (eidsV (g.es.set k y)) id = k := by rw [hids]; exact h.at_
  refine ⟨?_, ha⟩
  rcases at_edg (x := id) (pw_ids (f := Ed.id) hids.symm h.pw) with ⟨-, hl, e1, -⟩ | ⟨hn, -⟩
  · have q := List.getElem?_eq_getElem hl
    rw [← e1, ha, List.getElem?_set_self h.lt] at q
    exact q.symm
  · exfalso
    have : hasE (g.es.set k y) id = true := hasE_ids.2 (by rw [hids, ← h.i]; exact List.mem_map_of_mem (List.getElem_mem h.lt))
    rw [hn] at this; cases this
theorem at_n {g : Gr} {id : Int} {n : Nd} (h : Fine g) (hn : nodV g.ns id = some n) : ∃ k, AtN g id k ∧ putN g k n = g ∧ n ∈ g.ns ∧ n.id = id := by
  rcases at_nod (x := id) h.pn with ⟨-, hl, e1, e2⟩ | ⟨-, e⟩
  · have en : g.ns[atI (nidsV g.ns) id] = n := Option.some.inj (e1.symm.trans hn)
    refine ⟨_, ⟨h.pn, rfl, hl, e2⟩, ?_, by rw [← en]; exact List.getElem_mem hl, by rw [← en]; exact e2⟩
    unfold putN
    rw [set_same hl en]
  · rw [hn] at e; cases e
theorem at_e {g : Gr} {id : Int} {n : Ed} (h : Fine g) (hn : edgV g.es id = some n) : ∃ k, AtE g id k ∧ putE g k n = g ∧ n ∈ g.es ∧ n.id = id := by
  rcases at_edg (x := id) h.pe with ⟨-, hl, e1, e2⟩ | ⟨-, e⟩
  · have en : g.es[atI (eidsV g.es) id] = n := Option.some.inj (e1.symm.trans hn)
    refine ⟨_, ⟨h.pe, rfl, hl, e2⟩, ?_, by rw [← en]; exact List.getElem_mem hl, by rw [← en]; exact e2⟩
    unfold putE
    rw [set_same hl en]
  · rw [hn] at e; cases e
/-- A change of one node. -/
def Nop (op : Int) : Prop := op = 3 ∨ op = 4 ∨ op = 5
def nE (c : Ch) (n : Nd) : Int :=
  if c.op = 3 then (if hasS n.ls c.nm = true then 7 else if 8 ≤ n.ls.length then 20 else 0)
  else if c.op = 4 then (if hasS n.ls c.nm = true then 0 else 23)
  else setE n.ps c.nm c.v
def nG (c : Ch) (n : Nd) : Nd :=
  if c.op = 3 then { n with ls := insA n.ls (atS n.ls c.nm) c.nm }
  else if c.op = 4 then { n with ls := delA n.ls (atS n.ls c.nm) }
  else { n with ps := setP n.ps c.nm c.v }
theorem nG_id (c : Ch) (n : Nd) : (nG c n).id = n.id := by
  unfold nG
  split
  · rfl
  · split <;> rfl
theorem step_put {g : Gr} {id : Int} {k : Nat} {y : Nd} {c : Ch} (h : AtN g id k) (hy : y.id = id) (ho : Nop c.op) (hc : chkC c = 0) (hid : c.id = id) : stpE (putN g k y) c = nE c y ∧ stpG (putN g k y) c = putN g k (nG c y) := by
  obtain ⟨h1, h2⟩ := nod_put h hy
  have o1 : c.op ≠ 1 := by unfold Nop at ho; omega
  have o6 : c.op ≠ 6 := by unfold Nop at ho; omega
  have o7 : c.op ≠ 7 := by unfold Nop at ho; omega
  have o8 : c.op ≠ 8 := by unfold Nop at ho; omega
  constructor
  · unfold stpE
    rw [if_neg (fun q => q hc), if_neg o1, if_neg o6, if_neg (fun q => q.elim o7 o8), hid]
    show (match nodV (g.ns.set k y) id with | none => 10 | some n => nerr (putN g k y) c n) = nE c y
    rw [h1]
    show nerr (putN g k y) c y = nE c y
    unfold nerr nE
    rcases ho with o | o | o
    · rw [if_pos o, if_pos o]
    · have n3 : ¬ c.op = 3 := by omega
      rw [if_neg n3, if_pos o, if_neg n3, if_pos o]
    · have n3 : ¬ c.op = 3 := by omega
      have n4 : ¬ c.op = 4 := by omega
      rw [if_neg n3, if_neg n4, if_pos o, if_neg n3, if_neg n4]
  · unfold stpG
    rw [if_neg o1, if_neg o6, if_neg o8, if_neg o7]
    unfold nedi nG ediN putN
    simp only [hid, h2]
    rcases ho with o | o | o
    · rw [if_pos o, if_pos o, mod_set2 _ _ _ _ h.lt]
    · rw [if_neg (by omega), if_pos o, if_neg (by omega), if_pos o, mod_set2 _ _ _ _ h.lt]
    · rw [if_neg (by omega), if_neg (by omega), if_pos o, if_neg (by omega), if_neg (by omega), mod_set2 _ _ _ _ h.lt]
theorem step_pute {g : Gr} {id : Int} {k : Nat} {y : Ed} {c : Ch} (h : AtE g id k) (hy : y.id = id) (ho : c.op = 8) (hc : chkC c = 0) (hid : c.id = id) : stpE (putE g k y) c = setE y.ps c.nm c.v ∧ stpG (putE g k y) c = putE g k { y with ps := setP y.ps c.nm c.v } := by
  obtain ⟨h1, h2⟩ := edg_put h hy
  have o1 : c.op ≠ 1 := by omega
  have o6 : c.op ≠ 6 := by omega
  constructor
  · unfold stpE
    rw [if_neg (fun q => q hc), if_neg o1, if_neg o6, if_pos (.inr ho), hid]
    show (match edgV (g.es.set k y) id with | none => 11 | some e => if c.op = 8 then setE e.ps c.nm c.v else 0) = _
    rw [h1]
    show (if c.op = 8 then setE y.ps c.nm c.v else 0) = _
    rw [if_pos ho]
  · unfold stpG
    rw [if_neg o1, if_neg o6, if_pos ho]
    unfold ediE putE
    simp only [hid, h2]
    rw [mod_set2 _ _ _ _ h.lt]
/-- Labels and properties set one after the other. -/
theorem run_labs {g : Gr} {id : Int} {k : Nat} (h : AtN g id k) (hid : idV id = true) {ps : List Pp} (qs : List Pp) : ∀ (b a : List (List UInt8)), Par (a ++ b) ps → Run (putN g k ⟨id, a, qs⟩) (b.map (labC id)) ∧ allG (putN g k ⟨id, a, qs⟩) (b.map (labC id)) = putN g k ⟨id, a ++ b, qs⟩
  | [], a, _ => ⟨trivial, by rw [List.append_nil]; rfl⟩
  | s :: b, a, hp => by
    have hn : nameV s = true := hp.ln s (List.mem_append.2 (.inr (List.mem_cons_self ..)))
    obtain ⟨n1, n2, n3⟩ := lab_next hp
    obtain ⟨e1, e2⟩ := step_put (y := ⟨id, a, qs⟩) (c := labC id s) h rfl (.inl rfl) (chk_lab hid hn) rfl
    have e1' : stpE (putN g k ⟨id, a, qs⟩) (labC id s) = 0 := by
      rw [e1]
      show (if hasS a s = true then (7 : Int) else if 8 ≤ a.length then 20 else 0) = 0
      rw [if_neg (by rw [n1]; decide), if_neg (by omega)]
    have e2' : stpG (putN g k ⟨id, a, qs⟩) (labC id s) = putN g k ⟨id, a ++ [s], qs⟩ := by
      rw [e2]
      show putN g k ⟨id, insA a (atS a s) s, qs⟩ = _
      rw [n3]
    obtain ⟨r1, r2⟩ := run_labs h hid qs b (a ++ [s]) (by rw [List.append_assoc]; exact hp)
    rw [List.append_assoc] at r2
    show (stpE _ (labC id s) = 0 ∧ Run (stpG _ (labC id s)) _) ∧ allG (stpG _ (labC id s)) _ = _
    rw [e2']
    exact ⟨⟨e1', r1⟩, r2⟩
theorem run_sets {g : Gr} {id : Int} {k : Nat} (h : AtN g id k) (hid : idV id = true) {ls : List (List UInt8)} (ms : List (List UInt8)) : ∀ (b a : List Pp), Par ls (a ++ b) → Run (putN g k ⟨id, ms, a⟩) (setV 5 id b) ∧ allG (putN g k ⟨id, ms, a⟩) (setV 5 id b) = putN g k ⟨id, ms, a ++ b⟩
  | [], a, _ => ⟨trivial, by rw [List.append_nil]; rfl⟩
  | p :: b, a, hp => by
    have hm : p ∈ a ++ p :: b := List.mem_append.2 (.inr (List.mem_cons_self ..))
    obtain ⟨n1, n2⟩ := set_next hp
    obtain ⟨e1, e2⟩ := step_put (y := ⟨id, ms, a⟩) (c := setC 5 id p) h rfl (.inr (.inr rfl)) (chk_set hid (hp.kn p hm) (.inr (hp.pv p hm))) rfl
    have e1' : stpE (putN g k ⟨id, ms, a⟩) (setC 5 id p) = 0 := by rw [e1]; exact n1
    have e2' : stpG (putN g k ⟨id, ms, a⟩) (setC 5 id p) = putN g k ⟨id, ms, a ++ [p]⟩ := by
      rw [e2]
      show putN g k ⟨id, ms, setP a p.k p.v⟩ = _
      rw [n2]
    obtain ⟨r1, r2⟩ := run_sets h hid ms b (a ++ [p]) (by rw [List.append_assoc]; exact hp)
    rw [List.append_assoc] at r2
    show (stpE _ (setC 5 id p) = 0 ∧ Run (stpG _ (setC 5 id p)) _) ∧ allG (stpG _ (setC 5 id p)) _ = _
    rw [e2']
    exact ⟨⟨e1', r1⟩, r2⟩
theorem run_setse {g : Gr} {id fr tt : Int} {ty : List UInt8} {k : Nat} (h : AtE g id k) (hid : idV id = true) {ls : List (List UInt8)} : ∀ (b a : List Pp), Par ls (a ++ b) → Run (putE g k ⟨id, fr, tt, ty, a⟩) (setV 8 id b) ∧ allG (putE g k ⟨id, fr, tt, ty, a⟩) (setV 8 id b) = putE g k ⟨id, fr, tt, ty, a ++ b⟩
  | [], a, _ => ⟨trivial, by rw [List.append_nil]; rfl⟩
  | p :: b, a, hp => by
    have hm : p ∈ a ++ p :: b := List.mem_append.2 (.inr (List.mem_cons_self ..))
    obtain ⟨n1, n2⟩ := set_next hp
    obtain ⟨e1, e2⟩ := step_pute (y := ⟨id, fr, tt, ty, a⟩) (c := setC 8 id p) h rfl rfl (chk_sete hid (hp.kn p hm) (.inr (hp.pv p hm))) rfl
    have e1' : stpE (putE g k ⟨id, fr, tt, ty, a⟩) (setC 8 id p) = 0 := by rw [e1]; exact n1
    have e2' : stpG (putE g k ⟨id, fr, tt, ty, a⟩) (setC 8 id p) = putE g k ⟨id, fr, tt, ty, a ++ [p]⟩ := by
      rw [e2]
      show putE g k ⟨id, fr, tt, ty, setP a p.k p.v⟩ = _
      rw [n2]
    obtain ⟨r1, r2⟩ := run_setse (fr := fr) (tt := tt) (ty := ty) h hid b (a ++ [p]) (by rw [List.append_assoc]; exact hp)
    rw [List.append_assoc] at r2
    show (stpE _ (setC 8 id p) = 0 ∧ Run (stpG _ (setC 8 id p)) _) ∧ allG (stpG _ (setC 8 id p)) _ = _
    rw [e2']
    exact ⟨⟨e1', r1⟩, r2⟩
theorem fine_id {g : Gr} (h : Fine g) {x : Int} (hx : hasN g.ns x = true) : idV x = true := by
  obtain ⟨n, hn, rfl⟩ := List.mem_map.1 (hasN_ids.1 hx)
  have q := h.nf n hn
  have := h.nn
  have h1 := q.lo
  have h2 := q.hi
  unfold idV
  rw [Bool.and_eq_true, decide_eq_true_eq, decide_eq_true_eq]
  omega
theorem one_run {g g' : Gr} {c : Ch} (h : stpE g c = 0) (p : Pr (stpG g c) g') : Run g [c] ∧ Pr (allG g [c]) g' := ⟨⟨h, trivial⟩, p⟩
/-- A node added is taken out again. -/
theorem undo1 {g : Gr} {id : Int} (h : Fine g) (hid : idV id = true) (hn : hasN g.ns id = false) (hf : Fine (addN g id)) : Run (addN g id) [⟨2, id, 0, 0, [], nulV⟩] ∧ Pr (allG (addN g id) [⟨2, id, 0, 0, [], nulV⟩]) g := by
  have hm : hasN (addN g id).ns id = true := hasN_ids.2 (List.mem_map.2 ⟨⟨id, [], []⟩, insA_mem.2 (.inl rfl), rfl⟩)
  have hu : useV g.es id = false := by
    cases e : useV g.es id with
    | false => rfl
    | true =>
      exfalso
      unfold useV at e
      obtain ⟨x, hx, k⟩ := List.any_eq_true.1 e
      simp only [Bool.or_eq_true, beq_iff_eq] at k
      have q := h.ef x hx
      rcases k with k | k
      · have := q.f; rw [k, hn] at this; cases this
      · have := q.t; rw [k, hn] at this; cases this
  refine one_run ?_ ?_
  · unfold stpE
    rw [if_neg (fun q => q (chk_del hid)), if_neg (by simp), if_neg (by simp), if_neg (by simp)]
    rcases at_nod (x := id) hf.pn with ⟨-, hl, e1, -⟩ | ⟨e, -⟩
    · show (match nodV (addN g id).ns id with | none => 10 | some n => nerr (addN g id) _ n) = 0
      rw [e1]
      show nerr (addN g id) _ _ = 0
      unfold nerr
      rw [if_neg (by simp), if_neg (by simp), if_neg (by simp)]
      refine if_neg ?_
      show ¬ useV g.es id = true
      rw [hu]; decide
    · rw [hm] at e; cases e
  · unfold stpG
    rw [if_neg (by simp), if_neg (by simp), if_neg (by simp), if_neg (by simp)]
    unfold nedi
    rw [if_neg (by simp), if_neg (by simp), if_neg (by simp)]
    refine ⟨?_, rfl⟩
    show delA (insA g.ns (atI (nidsV g.ns) id) ⟨id, [], []⟩) (atI (nidsV (insA g.ns (atI (nidsV g.ns) id) ⟨id, [], []⟩)) id) = g.ns
    have e : nidsV (insA g.ns (atI (nidsV g.ns) id) ⟨id, [], []⟩) = insA (nidsV g.ns) (atI (nidsV g.ns) id) id := insA_map Nd.id _ _ _
    rw [e, atI_ins, del_ins]
    have := atI_le (nidsV g.ns) id
    unfold nidsV at this ⊢
    rw [List.length_map] at this
    exact this
theorem undo6 {g : Gr} {c : Ch} (hid : idV c.id = true) (hf : Fine (addE g c)) : Run (addE g c) [⟨7, c.id, 0, 0, [], nulV⟩] ∧ Pr (allG (addE g c) [⟨7, c.id, 0, 0, [], nulV⟩]) g := by
  have hm : hasE (addE g c).es c.id = true := hasE_ids.2 (List.mem_map.2 ⟨⟨c.id, c.fr, c.tt, c.nm, []⟩, insA_mem.2 (.inl rfl), rfl⟩)
  refine one_run ?_ ?_
  · unfold stpE
    rw [if_neg (fun q => q (chk_dele hid)), if_neg (by simp), if_neg (by simp), if_pos (by simp)]
    rcases at_edg (x := c.id) hf.pe with ⟨-, hl, e1, -⟩ | ⟨e, -⟩
    · show (match edgV (addE g c).es c.id with | none => 11 | some e => if (7 : Int) = 8 then setE e.ps [] nulV else 0) = 0
      rw [e1]
      exact if_neg (by simp)
    · rw [hm] at e; cases e
  · unfold stpG
    rw [if_neg (by simp), if_neg (by simp), if_neg (by simp), if_pos (by simp)]
    refine ⟨rfl, ?_⟩
    show delA (insA g.es (atI (eidsV g.es) c.id) ⟨c.id, c.fr, c.tt, c.nm, []⟩) (atI (eidsV (insA g.es (atI (eidsV g.es) c.id) ⟨c.id, c.fr, c.tt, c.nm, []⟩)) c.id) = g.es
    have e : eidsV (insA g.es (atI (eidsV g.es) c.id) ⟨c.id, c.fr, c.tt, c.nm, []⟩) = insA (eidsV g.es) (atI (eidsV g.es) c.id) c.id := insA_map Ed.id _ _ _
    rw [e, atI_ins, del_ins]
    have := atI_le (eidsV g.es) c.id
    unfold eidsV at this ⊢
    rw [List.length_map] at this
    exact this
theorem undo2 {g : Gr} {id : Int} {n : Nd} (h : Fine g) (hid : idV id = true) (hn : nodV g.ns id = some n) : Run (delN g id) (rebN g id) ∧ Pr (allG (delN g id) (rebN g id)) g := by
  obtain ⟨k, A, hg, hm, hi⟩ := at_n h hn
  have hp := (h.nf n hm).p
  have hns : (nidsV g.ns).Pairwise (· < ·) := List.pairwise_map.2 h.pn
  have hkl : k = atI (nidsV g.ns) id := A.at_.symm
  have hdel : nidsV (delA g.ns (atI (nidsV g.ns) id)) = delA (nidsV g.ns) (atI (nidsV g.ns) id) := delA_map Nd.id _ _
  have hno : hasN (delA g.ns (atI (nidsV g.ns) id)) id = false := by
    cases e : hasN (delA g.ns (atI (nidsV g.ns) id)) id with
    | false => rfl
    | true => exact absurd (by rw [← hdel]; exact hasN_ids.1 e) (not_del id hns)
  have s1 : stpE (delN g id) ⟨1, id, 0, 0, [], nulV⟩ = 0 := by
    unfold stpE
    rw [if_neg (fun q => q (chk_add hid)), if_pos rfl]
    refine (if_neg ?_).trans (if_neg ?_)
    · show ¬ hasN (delA g.ns (atI (nidsV g.ns) id)) id = true
      rw [hno]; decide
    · show ¬ 2000 ≤ (delA g.ns (atI (nidsV g.ns) id)).length
      have := delA_len g.ns (atI (nidsV g.ns) id) (by rw [A.at_]; exact A.lt)
      have := h.n
      omega
  have s2 : Pr (stpG (delN g id) ⟨1, id, 0, 0, [], nulV⟩) (putN g k ⟨id, [], []⟩) := by
    unfold stpG
    rw [if_pos rfl]
    refine ⟨?_, rfl⟩
    show insA (delA g.ns (atI (nidsV g.ns) id)) (atI (nidsV (delA g.ns (atI (nidsV g.ns) id))) id) ⟨id, [], []⟩ = g.ns.set k ⟨id, [], []⟩
    rw [hdel, atI_del id hns, ← hkl, ins_del _ _ _ A.lt]
  obtain ⟨a1, a2⟩ := run_labs A hid (ps := n.ps) [] n.ls [] (by simpa using hp)
  obtain ⟨b1, b2⟩ := run_sets A hid (ls := n.ls) n.ls n.ps [] (by simpa using hp)
  rw [List.nil_append] at a2 b2
  have r1 : Run (putN g k ⟨id, [], []⟩) (n.ls.map (labC id) ++ setV 5 id n.ps) := (run_app _ _ _).2 ⟨a1, by rw [a2]; exact b1⟩
  have r2 : allG (putN g k ⟨id, [], []⟩) (n.ls.map (labC id) ++ setV 5 id n.ps) = g := by
    rw [allG_app, a2, b2, ← hi]
    exact hg
  have q := run_pr (n.ls.map (labC id) ++ setV 5 id n.ps) s2.symm
  have e : rebN g id = ⟨1, id, 0, 0, [], nulV⟩ :: (n.ls.map (labC id) ++ setV 5 id n.ps) := by unfold rebN; rw [hn]; rfl
  rw [e]
  refine ⟨⟨s1, q.1 r1⟩, ?_⟩
  have q2 := q.2.symm
  rw [r2] at q2
  exact q2
theorem undo7 {g : Gr} {id : Int} {n : Ed} (h : Fine g) (hid : idV id = true) (hn : edgV g.es id = some n) : Run (delE g id) (rebE g id) ∧ Pr (allG (delE g id) (rebE g id)) g := by
  obtain ⟨k, A, hg, hm, hi⟩ := at_e h hn
  have hq := h.ef n hm
  have hp := hq.p
  have hes : (eidsV g.es).Pairwise (· < ·) := List.pairwise_map.2 h.pe
  have hkl : k = atI (eidsV g.es) id := A.at_.symm
  have hdel : eidsV (delA g.es (atI (eidsV g.es) id)) = delA (eidsV g.es) (atI (eidsV g.es) id) := delA_map Ed.id _ _
  have hno : hasE (delA g.es (atI (eidsV g.es) id)) id = false := by
    cases e : hasE (delA g.es (atI (eidsV g.es) id)) id with
    | false => rfl
    | true => exact absurd (by rw [← hdel]; exact hasE_ids.1 e) (not_del id hes)
  have s1 : stpE (delE g id) ⟨6, id, n.fr, n.to, n.ty, nulV⟩ = 0 := by
    unfold stpE
    rw [if_neg (fun q => q (chk_adde hid (fine_id h hq.f) (fine_id h hq.t) hq.y)), if_neg (by simp), if_pos rfl]
    refine (if_neg ?_).trans ((if_neg ?_).trans (if_neg ?_))
    · show ¬ hasE (delA g.es (atI (eidsV g.es) id)) id = true
      rw [hno]; decide
    · show ¬ (hasN g.ns n.fr && hasN g.ns n.to) = false
      rw [hq.f, hq.t]; decide
    · show ¬ 4000 ≤ (delA g.es (atI (eidsV g.es) id)).length
      have := delA_len g.es (atI (eidsV g.es) id) (by rw [A.at_]; exact A.lt)
      have := h.e
      omega
  have s2 : Pr (stpG (delE g id) ⟨6, id, n.fr, n.to, n.ty, nulV⟩) (putE g k ⟨id, n.fr, n.to, n.ty, []⟩) := by
    unfold stpG
    rw [if_neg (by simp), if_pos rfl]
    refine ⟨rfl, ?_⟩
    show insA (delA g.es (atI (eidsV g.es) id)) (atI (eidsV (delA g.es (atI (eidsV g.es) id))) id) ⟨id, n.fr, n.to, n.ty, []⟩ = g.es.set k ⟨id, n.fr, n.to, n.ty, []⟩
    rw [hdel, atI_del id hes, ← hkl, ins_del _ _ _ A.lt]
  obtain ⟨b1, b2⟩ := run_setse (fr := n.fr) (tt := n.to) (ty := n.ty) A hid (ls := []) n.ps [] (by simpa using hp)
  rw [List.nil_append] at b2
  have q := run_pr (setV 8 id n.ps) s2.symm
  have e : rebE g id = ⟨6, id, n.fr, n.to, n.ty, nulV⟩ :: setV 8 id n.ps := by unfold rebE; rw [hn]; rfl
  rw [e]
  refine ⟨⟨s1, q.1 b1⟩, ?_⟩
  have q2 := q.2.symm
  have eg : putE g k ⟨id, n.fr, n.to, n.ty, n.ps⟩ = g := by rw [← hi]; exact hg
  rw [b2, eg] at q2
  exact q2
/-- One change undone. -/
theorem undo_step {g : Gr} {c : Ch} (h : Fine g) (he : stpE g c = 0) : Run (stpG g c) (invC g c) ∧ Pr (allG (stpG g c) (invC g c)) g := by
  have hfs := fine_step h he
  have h0 : chkC c = 0 := by
    unfold stpE at he
    by_cases q : chkC c = 0
    · exact q
    · rw [if_pos q] at he; exact he
  obtain ⟨ho, hi, hz, hnm, hpl⟩ := chkC_ok h0
  have hid : idV c.id = true := by unfold idsC at hi; rw [Bool.and_eq_true] at hi; exact hi.1
  have hop : 1 ≤ c.op ∧ c.op ≤ 8 := by unfold opV at ho; simpa using ho
  unfold stpE at he
  rw [if_neg (fun q => q h0)] at he
  by_cases o1 : c.op = 1
  · rw [if_pos o1] at he
    have e1 : stpG g c = addN g c.id := by unfold stpG; rw [if_pos o1]
    have e2 : invC g c = [⟨2, c.id, 0, 0, [], nulV⟩] := by unfold invC; rw [if_pos o1]
    rw [e1] at hfs ⊢
    rw [e2]
    by_cases q : hasN g.ns c.id = true
    · rw [if_pos q] at he; cases he
    · exact undo1 h hid (by simpa using q) hfs
  rw [if_neg o1] at he
  by_cases o6 : c.op = 6
  · have e1 : stpG g c = addE g c := by unfold stpG; rw [if_neg o1, if_pos o6]
    have e2 : invC g c = [⟨7, c.id, 0, 0, [], nulV⟩] := by unfold invC; rw [if_neg o1, if_neg (by omega), if_neg (by omega), if_neg (by omega), if_neg (by omega), if_pos o6]
    rw [e1] at hfs ⊢
    rw [e2]
    exact undo6 hid hfs
  rw [if_neg o6] at he
  by_cases o78 : c.op = 7 ∨ c.op = 8
  · rw [if_pos o78] at he
    cases hn : edgV g.es c.id with
    | none => rw [hn] at he; exact absurd (show (11 : Int) = 0 from he) (by decide)
    | some n =>
      rw [hn] at he
      have he' : (if c.op = 8 then setE n.ps c.nm c.v else 0) = 0 := he
      by_cases o8 : c.op = 8
      · obtain ⟨k, A, hg, hm, hni⟩ := at_e h hn
        have hp := (h.ef n hm).p
        have hname := hnm (by rw [o8]; rfl)
        obtain ⟨b1, b2, b3⟩ := set_back (v := c.v) hp (k := c.nm)
        obtain ⟨-, e2⟩ := step_pute A hni o8 h0 rfl
        rw [hg] at e2
        have e3 : invC g c = [⟨8, c.id, 0, 0, c.nm, prpV n.ps c.nm⟩] := by unfold invC; rw [if_neg o1, if_neg (by omega), if_neg (by omega), if_neg (by omega), if_neg (by omega), if_neg o6, if_neg (by omega), hn]; rfl
        rw [e3, e2]
        obtain ⟨f1, f2⟩ := step_pute (y := { n with ps := setP n.ps c.nm c.v }) (c := ⟨8, c.id, 0, 0, c.nm, prpV n.ps c.nm⟩) A hni rfl (chk_sete hid hname b3) rfl
        refine one_run (f1.trans b1) ?_
        rw [f2]
        show Pr (putE g k { n with ps := setP (setP n.ps c.nm c.v) c.nm (prpV n.ps c.nm) }) g
        rw [b2, hg]
        exact ⟨rfl, rfl⟩
      · have o7 : c.op = 7 := o78.resolve_right o8
        have e1 : stpG g c = delE g c.id := by unfold stpG; rw [if_neg o1, if_neg o6, if_neg o8, if_pos o7]
        have e2 : invC g c = rebE g c.id := by unfold invC; rw [if_neg o1, if_neg (by omega), if_neg (by omega), if_neg (by omega), if_neg (by omega), if_neg o6, if_pos o7]
        rw [e1, e2]
        exact undo7 h hid hn
  rw [if_neg o78] at he
  have o7 : c.op ≠ 7 := fun q => o78 (.inl q)
  have o8 : c.op ≠ 8 := fun q => o78 (.inr q)
  cases hn : nodV g.ns c.id with
  | none => rw [hn] at he; exact absurd (show (10 : Int) = 0 from he) (by decide)
  | some n =>
    rw [hn] at he
    obtain ⟨k, A, hg, hm, hni⟩ := at_n h hn
    have hp := (h.nf n hm).p
    by_cases o2 : c.op = 2
    · have e1 : stpG g c = delN g c.id := by unfold stpG; rw [if_neg o1, if_neg o6, if_neg o8, if_neg o7]; unfold nedi; rw [if_neg (by omega), if_neg (by omega), if_neg (by omega)]
      have e2 : invC g c = rebN g c.id := by unfold invC; rw [if_neg o1, if_pos o2]
      rw [e1, e2]
      exact undo2 h hid hn
    · have hN : Nop c.op := by unfold Nop; omega
      have hname := hnm (by unfold nmd; simp only [Bool.or_eq_true, decide_eq_true_eq]; unfold Nop at hN; omega)
      obtain ⟨d1, d2⟩ := step_put A hni hN h0 rfl
      rw [hg] at d1 d2
      have d1' : nE c n = 0 := by
        rw [← d1]
        unfold stpE
        rw [if_neg (fun q => q h0), if_neg o1, if_neg o6, if_neg o78, hn]
        exact he
      rw [d2]
      unfold nE at d1'
      by_cases o3 : c.op = 3
      · rw [if_pos o3] at d1'
        have e2 : invC g c = [⟨4, c.id, 0, 0, c.nm, nulV⟩] := by unfold invC; rw [if_neg o1, if_neg o2, if_pos o3]
        rw [e2]
        obtain ⟨f1, f2⟩ := step_put (y := nG c n) (c := ⟨4, c.id, 0, 0, c.nm, nulV⟩) A (by rw [nG_id]; exact hni) (.inr (.inl rfl)) (chk_unl hid hname) rfl
        have en : nG c n = { n with ls := insA n.ls (atS n.ls c.nm) c.nm } := by unfold nG; rw [if_pos o3]
        rw [en] at f1 f2 ⊢
        refine one_run (f1.trans ?_) ?_
        · show (if hasS (insA n.ls (atS n.ls c.nm) c.nm) c.nm = true then (0 : Int) else 23) = 0
          rw [if_pos has_ins]
        · rw [f2]
          show Pr (putN g k { n with ls := delA (insA n.ls (atS n.ls c.nm) c.nm) (atS (insA n.ls (atS n.ls c.nm) c.nm) c.nm) }) g
          rw [atS_ins, del_ins _ _ _ (at_le _ _), hg]
          exact ⟨rfl, rfl⟩
      · rw [if_neg o3] at d1'
        by_cases o4 : c.op = 4
        · rw [if_pos o4] at d1'
          have hs : hasS n.ls c.nm = true := by
            by_cases q : hasS n.ls c.nm = true
            · exact q
            · rw [if_neg q] at d1'; cases d1'
          have e2 : invC g c = [⟨3, c.id, 0, 0, c.nm, nulV⟩] := by unfold invC; rw [if_neg o1, if_neg o2, if_neg o3, if_pos o4]
          rw [e2]
          obtain ⟨f1, f2⟩ := step_put (y := nG c n) (c := ⟨3, c.id, 0, 0, c.nm, nulV⟩) A (by rw [nG_id]; exact hni) (.inl rfl) (chk_lab hid hname) rfl
          have en : nG c n = { n with ls := delA n.ls (atS n.ls c.nm) } := by unfold nG; rw [if_neg o3, if_pos o4]
          rw [en] at f1 f2 ⊢
          have hat := atS_spec hp.li (hasS_iff.1 hs)
          obtain ⟨hlt, hat'⟩ := List.getElem?_eq_some_iff.1 hat
          refine one_run (f1.trans ?_) ?_
          · show (if hasS (delA n.ls (atS n.ls c.nm)) c.nm = true then (7 : Int) else if 8 ≤ (delA n.ls (atS n.ls c.nm)).length then 20 else 0) = 0
            rw [if_neg (by rw [has_del hp.li hs]; decide), if_neg]
            have := delA_len n.ls _ hlt
            have := hp.l8
            omega
          · rw [f2]
            show Pr (putN g k { n with ls := insA (delA n.ls (atS n.ls c.nm)) (atS (delA n.ls (atS n.ls c.nm)) c.nm) c.nm }) g
            rw [atS_del _ hp.li, ins_del _ _ _ hlt, set_same hlt hat', hg]
            exact ⟨rfl, rfl⟩
        · have o5 : c.op = 5 := by unfold Nop at hN; omega
          obtain ⟨b1, b2, b3⟩ := set_back (v := c.v) hp (k := c.nm)
          have e3 : invC g c = [⟨5, c.id, 0, 0, c.nm, prpV n.ps c.nm⟩] := by unfold invC; rw [if_neg o1, if_neg o2, if_neg o3, if_neg o4, if_pos o5, hn]; rfl
          rw [e3]
          obtain ⟨f1, f2⟩ := step_put (y := nG c n) (c := ⟨5, c.id, 0, 0, c.nm, prpV n.ps c.nm⟩) A (by rw [nG_id]; exact hni) (.inr (.inr rfl)) (chk_set hid hname b3) rfl
          have en : nG c n = { n with ps := setP n.ps c.nm c.v } := by unfold nG; rw [if_neg o3, if_neg o4]
          rw [en] at f1 f2 ⊢
          refine one_run (f1.trans b1) ?_
          rw [f2]
          show Pr (putN g k { n with ps := setP (setP n.ps c.nm c.v) c.nm (prpV n.ps c.nm) }) g
          rw [b2, hg]
          exact ⟨rfl, rfl⟩
/-- All changes undone. -/
theorem undo_all : ∀ (l : List Ch) (g : Gr), Fine g → Run g l → Run (allG g l) (invAll g l) ∧ Pr (allG (allG g l) (invAll g l)) g
  | [], _, _, _ => ⟨trivial, rfl, rfl⟩
  | c :: r, g, hf, ⟨h0, hr⟩ => by
    obtain ⟨a1, a2⟩ := undo_all r (stpG g c) (fine_step hf h0) hr
    obtain ⟨b1, b2⟩ := undo_step hf h0
    show Run (allG (stpG g c) r) (invAll (stpG g c) r ++ invC g c) ∧ Pr (allG (allG (stpG g c) r) (invAll (stpG g c) r ++ invC g c)) g
    rw [run_app, allG_app]
    have q := run_pr (invC g c) a2.symm
    exact ⟨⟨a1, q.1 b1⟩, q.2.symm.trans b2⟩
end Go.Proofs.YtfbijdoomkgodaaGreatDoor

/-! ChangeRestores: what ApplyAll and Invert answer, as later calls read it; the mathematics put together. -/
namespace Go.Proofs.YtfbijdoomkgodaaGreatDoor
open Go.RowKit

theorem row_slC {w0 w : World} {base : Nat} {v : Value} {ps : List (Ch × AC)} (h : (rowC v ps).Own w base) (hk : Cok w0 ps) (hf : Fuw w0 w) : ∃ a k, v = .slice a ps.length k ∧ SlC w a (ps.map Prod.fst) k := by
  obtain ⟨a, k, e, -, hs⟩ := Lay.sl_own (Y := LC) h (fun p hp => (hk p hp).1) (fun p hp => SlV.onw (hk p hp).2 hf)
  exact ⟨a, k, e, hs⟩
theorem RetIv.st {w0 w w' : World} {g : Gr} {l : List Ch} {e : Ending} (h : RetIv w0 w g l e w') (h0 : Fuw w0 w) :
    ∃ a k, e = .returned (.tuple #[.slice a (invR g l).length k, .int .i64 ((appE g l).1 : Int), .int .i64 (appE g l).2]) ∧ SlC w' a (invR g l) k ∧ Fuw w w' := by
  obtain ⟨v, ps, rfl, hps, hk, ho, hf⟩ := h
  obtain ⟨a, k, e, hs⟩ := row_slC ho hk (h0.trans hf)
  rw [hps] at hs
  have hl : ps.length = (invR g l).length := by rw [← hps, List.length_map]
  exact ⟨a, k, by rw [e, hl], hs, hf⟩
theorem RetAp.gn {w0 w w' : World} {g : Gr} {l : List Ch} {e : Ending} (h : RetAp w0 w g l e w') :
    ∃ bn be dn de, e = .returned (.tuple #[grv (appG g l) bn be dn de, .int .i64 ((appE g l).1 : Int), .int .i64 (appE g l).2]) ∧ GIn w' (appG g l) bn be dn de ∧ Fuw w w' := by
  obtain ⟨G, base, rfl, hgr, hown, -, hf⟩ := h
  obtain ⟨bn, be, dn, de, e1, e2, hin⟩ := hown.gin
  rw [hgr] at hin
  have hl1 : (appG g l).ns.length = G.ns.length := by rw [← hgr]; unfold Gp.gr; simp
  have hl2 : (appG g l).es.length = G.es.length := by rw [← hgr]; unfold Gp.gr; simp
  have hx1 : (appG g l).nn = G.nn := by rw [← hgr]; rfl
  have hx2 : (appG g l).ne = G.ne := by rw [← hgr]; rfl
  exact ⟨bn, be, dn, de, by unfold grv; rw [e1, e2, hl1, hl2, hx1, hx2], hin, hf⟩
theorem app_run {g : Gr} {l : List Ch} (h : Fine g) (hr : Run g l) : (appE g l).2 = 0 ∧ appG g l = allG g l ∧ invR g l = invAll g l := by
  have e : (appE g l).2 = 0 := by
    rw [app_ok ((fine_iff g).2 h)]
    exact (run_iff l g 0).2 hr
  exact ⟨e, by unfold appG; rw [if_pos e], by unfold invR; rw [if_pos e]⟩
theorem inv_len : ∀ (l : List Ch) (g : Gr), Fine g → Run g l → (invAll g l).length ≤ 25 * l.length
  | [], _, _, _ => Nat.zero_le _
  | c :: r, g, hf, ⟨h0, hr⟩ => by
    have h1 := inv_len r (stpG g c) (fine_step hf h0) hr
    have h2 := invC_len hf c
    show (invAll (stpG g c) r ++ invC g c).length ≤ _
    rw [List.length_append, List.length_cons]
    omega
/-- ChangeRestores' mathematics. -/
theorem restore_maths {g : Gr} {l : List Ch} (h : (appE g l).2 = 0) :
    (appE (appG g l) (invR g l)).2 = 0 ∧ (appE (appG (appG g l) (invR g l)) (invR (appG g l) (invR g l))).2 = 0 ∧ Pr (appG (appG g l) (invR g l)) g ∧ Pr (appG (appG (appG g l) (invR g l)) (invR (appG g l) (invR g l))) (appG g l) ∧ (invR g l).length ≤ 25 * l.length := by
  have hc : chkV g = 0 := by
    by_cases q : chkV g = 0
    · exact q
    · unfold appE at h; rw [if_neg q] at h; exact absurd h q
  have hf := (fine_iff g).1 hc
  have hr : Run g l := by rw [app_ok hc] at h; exact (run_iff l g 0).1 h
  obtain ⟨-, e1, e2⟩ := app_run hf hr
  have hfa : Fine (allG g l) := fine_all l g 0 hf ((run_iff l g 0).2 hr)
  obtain ⟨a1, a2⟩ := undo_all l g hf hr
  obtain ⟨b0, b1, b2⟩ := app_run hfa a1
  have hfb : Fine (allG (allG g l) (invAll g l)) := fine_all _ _ 0 hfa ((run_iff _ _ 0).2 a1)
  obtain ⟨c1, c2⟩ := undo_all _ _ hfa a1
  obtain ⟨d0, d1, -⟩ := app_run hfb c1
  rw [e1, e2, b1, b2]
  exact ⟨b0, d0, a2, by rw [d1]; exact c2, inv_len l g hf hr⟩
theorem pr_same {g h : Gr} (p : Pr g h) : (al2 samN g.ns h.ns && al2 samE g.es h.es) = true := by
  rw [p.1, p.2, al2_self _ _ (fun x _ => samN_self x), al2_self _ _ (fun x _ => samE_self x)]; rfl
theorem inv_bad {g : Gr} {l : List Ch} (h : ¬ (appE g l).2 = 0) : invR g l = [] := by unfold invR; rw [if_neg h]
theorem sm_len {g : Gr} {l : List Ch} (h : smC g l 40 = true) : l.length ≤ 40 ∧ smlV g 40 60 = true := by
  unfold smC fewV at h
  simp only [Bool.and_eq_true, decide_eq_true_eq] at h
  exact ⟨h.2.2, h.1⟩
end Go.Proofs.YtfbijdoomkgodaaGreatDoor
