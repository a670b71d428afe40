/-
  CkA; TxA; TxB; TxC: texts of one kind in one file; each part says what it holds.
-/
import Derived.Test.YtfbijdoomkgodaaGreatDoorTK25
import Derived.Test.YtfbijdoomkgodaaGreatDoorTK06
import Derived.Test.YtfbijdoomkgodaaGreatDoorShelf
import Derived.Lib.ItoaLen
import Derived.FnData
import Derived.Test.YtfbijdoomkgodaaGreatDoorTK02
import Derived.Deep.RegionHeld3
import Derived.Test.YtfbijdoomkgodaaGreatDoorTK05
import Derived.Test.YtfbijdoomkgodaaGreatDoorTK07

/-! Plain mathematics: a change that can be made leaves a graph with nothing wrong as one with nothing wrong. No program, no world. -/
namespace Go.Proofs.YtfbijdoomkgodaaGreatDoor

theorem chkC_ok {c : Ch} (h : chkC c = 0) : opV c.op = true ∧ idsC c = true ∧ zeroC c = true ∧ (nmd c.op = true → nameV c.nm = true) ∧ (isN c.v = true ∨ plnV c.v = true) := by
  unfold chkC at h
  by_cases h1 : (opV c.op && idsC c && zeroC c) = false
  · rw [if_pos h1] at h; cases h
  · rw [if_neg h1] at h
    by_cases h2 : (nmd c.op && !nameV c.nm) = true
    · rw [if_pos h2] at h; cases h
    · rw [if_neg h2] at h
      by_cases h3 : (!isN c.v && !plnV c.v) = true
      · rw [if_pos h3] at h; cases h
      · simp only [Bool.not_eq_false, Bool.and_eq_true] at h1
        refine ⟨h1.1.1, h1.1.2, h1.2, fun hn => ?_, ?_⟩
        · rw [hn] at h2
          cases e : nameV c.nm with
          | true => rfl
          | false => rw [e] at h2; exact absurd rfl h2
        · cases hi : isN c.v with
          | true => exact .inl rfl
          | false =>
            cases hp : plnV c.v with
            | true => exact .inr rfl
            | false => rw [hi, hp] at h3; exact absurd rfl h3
theorem ins_pw {α : Type} (f : α → Int) {y : α} : ∀ {l : List α}, (l.Pairwise fun a b => f a < f b) → (∀ a ∈ l, f a ≠ f y) → (insA l (atI (l.map f) (f y)) y).Pairwise fun a b => f a < f b
  | [], _, _ => List.pairwise_singleton _ _
  | x :: r, h, hn => by
    have h' := List.pairwise_cons.1 h
    have hx := hn x (List.mem_cons_self ..)
    show (insA (x :: r) (if f x < f y then atI (r.map f) (f y) + 1 else 0) y).Pairwise _
    by_cases g : f x < f y
    · rw [if_pos g]
      show (x :: insA r (atI (r.map f) (f y)) y).Pairwise _
      refine List.pairwise_cons.2 ⟨fun a ha => ?_, ins_pw f h'.2 fun a ha => hn a (List.mem_cons_of_mem _ ha)⟩
      rcases insA_mem.1 ha with rfl | ha
      · exact g
      · exact h'.1 a ha
    · rw [if_neg g]
      show (y :: x :: r).Pairwise _
      refine List.pairwise_cons.2 ⟨fun a ha => ?_, h⟩
      rcases List.mem_cons.1 ha with rfl | ha
      · omega
      · have := h'.1 a ha; omega
theorem hasS_iff {l : List (List UInt8)} {s : List UInt8} : hasS l s = true ↔ s ∈ l := by
  unfold hasS
  rw [List.any_eq_true]
  constructor
  · rintro ⟨x, hx, e⟩
    rw [beq_iff_eq] at e
    rw [← e]; exact hx
  · intro h
    exact ⟨s, h, beq_self_eq_true s⟩
theorem ins_put {l : List (List UInt8)} {s : List UInt8} (hn : hasS l s = false) : insA l (atS l s) s = putS l s := by
  unfold putS insA
  rw [if_neg (fun e => by
    have k := hasS_iff.2 (List.mem_of_getElem? e)
    rw [hn] at k; cases k)]
  simp
theorem ins_incS {l : List (List UInt8)} {s : List UInt8} (h : incS l) (hn : hasS l s = false) : incS (insA l (atS l s) s) := by
  rw [ins_put hn]; exact put_inc s l h
theorem del_incS {l : List (List UInt8)} (h : incS l) (k : Nat) : incS (delA l k) := List.Pairwise.sublist (sub_del l k) h
theorem set_ids {α : Type} (f : α → Int) {l : List α} {k : Nat} (hk : k < l.length) {y : α} (hy : f y = f l[k]) : (l.set k y).map f = l.map f := by
  rw [List.map_set, hy]
  refine List.ext_getElem? fun i => ?_
  by_cases e : k = i
  · subst e
    rw [List.getElem?_set_self (by rw [List.length_map]; exact hk), List.getElem?_map, List.getElem?_eq_getElem hk]; rfl
  · rw [List.getElem?_set_ne e]
theorem hasN_ids {ns : List Nd} {x : Int} : hasN ns x = true ↔ x ∈ nidsV ns := by
  unfold hasN nidsV
  rw [List.any_eq_true, List.mem_map]
  constructor
  · rintro ⟨n, hn, e⟩; exact ⟨n, hn, by simpa using e⟩
  · rintro ⟨n, hn, e⟩; exact ⟨n, hn, by simpa using e⟩
theorem hasE_ids {es : List Ed} {x : Int} : hasE es x = true ↔ x ∈ eidsV es := by
  unfold hasE eidsV
  rw [List.any_eq_true, List.mem_map]
  constructor
  · rintro ⟨n, hn, e⟩; exact ⟨n, hn, by simpa using e⟩
  · rintro ⟨n, hn, e⟩; exact ⟨n, hn, by simpa using e⟩
theorem par_nil : Par [] [] := ⟨by decide, by decide, (fun _ h => by cases h), (fun _ h => by cases h), List.Pairwise.nil, List.Pairwise.nil, (fun _ h => by cases h)⟩
theorem par_of {ls : List (List UInt8)} {ps ps' : List Pp} (h : Par ls ps) (h1 : ps'.length ≤ 16) (h2 : ∀ p ∈ ps', p ∈ ps ∨ (nameV p.k = true ∧ plnV p.v = true)) (h3 : incS (keysV ps')) : Par ls ps' :=
  ⟨h.l8, h1, h.ln, fun p hp => (h2 p hp).elim (h.kn p) And.left, h.li, h3, fun p hp => (h2 p hp).elim (h.pv p) And.right⟩
theorem par_setP {ls : List (List UInt8)} {ps : List Pp} {k : List UInt8} {v : Vl} (h : Par ls ps) (hk : nameV k = true) (hv : isN v = true ∨ plnV v = true) (he : setE ps k v = 0) : Par ls (setP ps k v) := by
  unfold setP
  by_cases h1 : hasK ps k = true
  · rw [if_pos h1]
    obtain ⟨hl, hat⟩ := at_hasK h.ki h1
    by_cases h2 : isN v = true
    · rw [if_pos h2]
      refine par_of h (by have := delA_len ps _ hl; have := h.p16; omega) (fun p hp => .inl (delA_mem hp)) ?_
      show incS ((delA ps _).map Pp.k)
      rw [delA_map]
      exact del_incS h.ki _
    · rw [if_neg h2]
      have hp : plnV v = true := hv.resolve_left h2
      refine par_of h (by rw [List.length_set]; exact h.p16) (fun p hq => ?_) ?_
      · rcases List.mem_or_eq_of_mem_set hq with hq | rfl
        · exact .inl hq
        · exact .inr ⟨hk, hp⟩
      · have e : keysV (ps.set (atS (keysV ps) k) ⟨k, v⟩) = keysV ps := by
          show (ps.set _ _).map Pp.k = ps.map Pp.k
          rw [List.map_set]
          refine List.ext_getElem? fun i => ?_
          by_cases e : atS (keysV ps) k = i
          · subst e
            rw [List.getElem?_set_self (by rw [List.length_map]; exact hl), List.getElem?_map, List.getElem?_eq_getElem hl]
            exact congrArg some hat.symm
          · rw [List.getElem?_set_ne e]
        rw [e]; exact h.ki
  · rw [if_neg h1]
    have h1' : hasK ps k = false := by simpa using h1
    by_cases h2 : isN v = true
    · rw [if_pos h2]; exact h
    · rw [if_neg h2]
      have hp : plnV v = true := hv.resolve_left h2
      have hlt : ps.length < 16 := by
        unfold setE at he
        by_cases g : hasK ps k = false ∧ isN v = false ∧ 16 ≤ ps.length
        · rw [if_pos g] at he; cases he
        · have h2' : isN v = false := by simpa using h2
          exact Nat.lt_of_not_le fun q => g ⟨h1', h2', q⟩
      refine par_of h (by rw [insA_len]; omega) (fun p hq => ?_) ?_
      · rcases insA_mem.1 hq with rfl | hq
        · exact .inr ⟨hk, hp⟩
        · exact .inl hq
      · show incS ((insA ps _ _).map Pp.k)
        rw [insA_map]
        exact ins_incS h.ki h1'
theorem fine_node {g : Gr} (h : Fine g) {k : Nat} (hk : k < g.ns.length) {y : Nd} (hy : y.id = g.ns[k].id) (hp : Par y.ls y.ps) : Fine { g with ns := g.ns.set k y } := by
  have hids : nidsV (g.ns.set k y) = nidsV g.ns := set_ids Nd.id hk hy
  refine ⟨by simpa using h.n, h.e, h.nn, h.ne, ?_, ?_, h.pe, ?_⟩
  · have q := List.pairwise_map.2 h.pn
    have q2 : ((g.ns.set k y).map Nd.id).Pairwise (· < ·) := by
      rw [show (g.ns.set k y).map Nd.id = g.ns.map Nd.id from hids]; exact q
    exact List.pairwise_map.1 q2
  · intro n hn
    rcases List.mem_or_eq_of_mem_set hn with hn | rfl
    · exact h.nf n hn
    · have := h.nf _ (List.getElem_mem hk)
      exact ⟨by rw [hy]; exact this.lo, by rw [hy]; exact this.hi, hp⟩
  · intro e he
    have q := h.ef e he
    have hh : ∀ x, hasN g.ns x = true → hasN (g.ns.set k y) x = true := fun x hx => by rw [hasN_ids, hids, ← hasN_ids]; exact hx
    exact ⟨q.lo, q.hi, hh _ q.f, hh _ q.t, q.y, q.p⟩
theorem fine_edge {g : Gr} (h : Fine g) {k : Nat} (hk : k < g.es.length) {ps : List Pp} (hp : Par [] ps) : Fine { g with es := g.es.set k { g.es[k] with ps := ps } } := by
  have hids : eidsV (g.es.set k { g.es[k] with ps := ps }) = eidsV g.es := set_ids Ed.id hk rfl
  refine ⟨h.n, by simpa using h.e, h.nn, h.ne, h.pn, h.nf, ?_, ?_⟩
  · have q := List.pairwise_map.2 h.pe
    have q2 : ((g.es.set k { g.es[k] with ps := ps }).map Ed.id).Pairwise (· < ·) := by
      rw [show (g.es.set k { g.es[k] with ps := ps }).map Ed.id = g.es.map Ed.id from hids]; exact q
    exact List.pairwise_map.1 q2
  · intro e he
    rcases List.mem_or_eq_of_mem_set he with he | rfl
    · exact h.ef e he
    · have q := h.ef _ (List.getElem_mem hk)
      exact ⟨q.lo, q.hi, q.f, q.t, q.y, hp⟩
theorem mod_set {α : Type} (l : List α) (k : Nat) (f : α → α) (h : k < l.length) : l.modify k f = l.set k (f l[k]) := by
  refine List.ext_getElem? fun i => ?_
  rw [List.getElem?_modify]
  by_cases e : k = i
  · subst e
    rw [List.getElem?_set_self h, List.getElem?_eq_getElem h]
    simp
  · rw [List.getElem?_set_ne e]
    simp [e]
theorem del_has {ns : List Nd} {k : Nat} (hk : k < ns.length) {x : Int} (h : hasN ns x = true) (hx : x ≠ ns[k].id) : hasN (delA ns k) x = true := by
  rw [hasN_ids] at h ⊢
  unfold nidsV at h ⊢
  obtain ⟨n, hn, e⟩ := List.mem_map.1 h
  obtain ⟨i, hi, rfl⟩ := List.getElem_of_mem hn
  refine List.mem_map.2 ⟨ns[i], ?_, e⟩
  have hik : i ≠ k := fun q => hx (by subst q; exact e.symm)
  unfold delA
  rw [List.mem_append]
  rcases Nat.lt_or_ge i k with q | q
  · exact .inl (List.mem_take_iff_getElem.2 ⟨i, by omega, rfl⟩)
  · refine .inr (List.mem_drop_iff_getElem.2 ⟨i - (k + 1), by omega, ?_⟩)
    congr 1
    omega
theorem fine_addN {g : Gr} (h : Fine g) {x : Int} (hx : idV x = true) (hn : hasN g.ns x = false) (hl : g.ns.length < 2000) : Fine (addN g x) := by
  unfold idV at hx
  simp only [Bool.and_eq_true, decide_eq_true_eq] at hx
  have hno : ∀ a ∈ g.ns, Nd.id a ≠ Nd.id ⟨x, [], []⟩ := fun a ha e => by
    have : hasN g.ns x = true := hasN_ids.2 (List.mem_map.2 ⟨a, ha, e⟩)
    rw [hn] at this; cases this
  refine ⟨?_, h.e, ?_, h.ne, ?_, ?_, h.pe, ?_⟩
  · show (insA g.ns _ _).length ≤ 2000
    rw [insA_len]; omega
  · show 1 ≤ max g.nn (x + 1) ∧ max g.nn (x + 1) ≤ 1000001
    have := h.nn
    omega
  · exact ins_pw Nd.id h.pn hno
  · intro n hm
    show NdF (max g.nn (x + 1)) n
    rcases insA_mem.1 hm with rfl | hm
    · exact ⟨hx.1, (by show x < max g.nn (x + 1); omega), par_nil⟩
    · have q := h.nf n hm
      exact ⟨q.lo, by have := q.hi; omega, q.p⟩
  · intro e he
    have q := h.ef e he
    have hh : ∀ y, hasN g.ns y = true → hasN (insA g.ns (atI (nidsV g.ns) x) ⟨x, [], []⟩) y = true := fun y hy => by
      obtain ⟨n, hn1, hn2⟩ := List.mem_map.1 (hasN_ids.1 hy)
      exact hasN_ids.2 (List.mem_map.2 ⟨n, insA_mem.2 (.inr hn1), hn2⟩)
    exact ⟨q.lo, q.hi, hh _ q.f, hh _ q.t, q.y, q.p⟩
theorem fine_addE {g : Gr} {c : Ch} (h : Fine g) (hx : idV c.id = true) (hn : hasE g.es c.id = false) (hf : hasN g.ns c.fr = true) (ht : hasN g.ns c.tt = true) (hy : nameV c.nm = true) (hl : g.es.length < 4000) : Fine (addE g c) := by
  unfold idV at hx
  simp only [Bool.and_eq_true, decide_eq_true_eq] at hx
  have hno : ∀ a ∈ g.es, Ed.id a ≠ Ed.id ⟨c.id, c.fr, c.tt, c.nm, []⟩ := fun a ha e => by
    have : hasE g.es c.id = true := hasE_ids.2 (List.mem_map.2 ⟨a, ha, e⟩)
    rw [hn] at this; cases this
  refine ⟨h.n, ?_, h.nn, ?_, h.pn, h.nf, ?_, ?_⟩
  · show (insA g.es _ _).length ≤ 4000
    rw [insA_len]; omega
  · show 1 ≤ max g.ne (c.id + 1) ∧ max g.ne (c.id + 1) ≤ 1000001
    have := h.ne
    omega
  · exact ins_pw Ed.id h.pe hno
  · intro e hm
    show EdF g.ns (max g.ne (c.id + 1)) e
    rcases insA_mem.1 hm with rfl | hm
    · exact ⟨hx.1, (by show c.id < max g.ne (c.id + 1); omega), hf, ht, hy, par_nil⟩
    · have q := h.ef e hm
      exact ⟨q.lo, by have := q.hi; omega, q.f, q.t, q.y, q.p⟩
theorem fine_delE {g : Gr} (h : Fine g) (k : Nat) : Fine { g with es := delA g.es k } :=
  ⟨h.n, Nat.le_trans (sub_del g.es k).length_le h.e, h.nn, h.ne, h.pn, h.nf, List.Pairwise.sublist (sub_del g.es k) h.pe, fun e he => h.ef e (delA_mem he)⟩
theorem fine_delN {g : Gr} (h : Fine g) {k : Nat} (hk : k < g.ns.length) (hu : useV g.es g.ns[k].id = false) : Fine { g with ns := delA g.ns k } := by
  refine ⟨Nat.le_trans (sub_del g.ns k).length_le h.n, h.e, h.nn, h.ne, List.Pairwise.sublist (sub_del g.ns k) h.pn, fun n hn => h.nf n (delA_mem hn), h.pe, fun e he => ?_⟩
  have q := h.ef e he
  unfold useV at hu
  have hu' := List.any_eq_false.1 hu e he
  simp only [Bool.or_eq_true, beq_iff_eq, not_or] at hu'
  exact ⟨q.lo, q.hi, del_has hk q.f hu'.1, del_has hk q.t hu'.2, q.y, q.p⟩
/-- A change that can be made keeps a graph fine. -/
theorem fine_step {g : Gr} {c : Ch} (h : Fine g) (he : stpE g c = 0) : Fine (stpG g c) := by
  unfold stpE at he
  by_cases h0 : chkC c = 0
  · rw [if_neg (fun q => q h0)] at he
    obtain ⟨ho, hi, hz, hnm, hpl⟩ := chkC_ok h0
    have hid : idV c.id = true := by unfold idsC at hi; rw [Bool.and_eq_true] at hi; exact hi.1
    unfold stpG
    by_cases o1 : c.op = 1
    · rw [if_pos o1] at he ⊢
      by_cases q : hasN g.ns c.id = true
      · rw [if_pos q] at he; cases he
      · rw [if_neg q] at he
        by_cases q2 : 2000 ≤ g.ns.length
        · rw [if_pos q2] at he; cases he
        · exact fine_addN h hid (by simpa using q) (by omega)
    · rw [if_neg o1] at he ⊢
      by_cases o6 : c.op = 6
      · rw [if_pos o6] at he ⊢
        by_cases q : hasE g.es c.id = true
        · rw [if_pos q] at he; cases he
        · rw [if_neg q] at he
          by_cases q1 : (hasN g.ns c.fr && hasN g.ns c.tt) = false
          · rw [if_pos q1] at he; cases he
          · rw [if_neg q1] at he
            by_cases q2 : 4000 ≤ g.es.length
            · rw [if_pos q2] at he; cases he
            · simp only [Bool.not_eq_false, Bool.and_eq_true] at q1
              exact fine_addE h hid (by simpa using q) q1.1 q1.2 (hnm (by unfold nmd; simp [o6])) (by omega)
      · rw [if_neg o6] at he ⊢
        by_cases o78 : c.op = 7 ∨ c.op = 8
        · rw [if_pos o78] at he
          rcases at_edg (x := c.id) h.pe with ⟨q1, hl, q2, q3⟩ | ⟨q1, q2⟩
          · rw [q2] at he
            simp only at he
            by_cases o8 : c.op = 8
            · rw [if_pos o8] at he ⊢
              show Fine { g with es := g.es.modify (atI (eidsV g.es) c.id) _ }
              rw [mod_set _ _ _ hl]
              exact fine_edge h hl (par_setP (h.ef _ (List.getElem_mem hl)).p (hnm (by unfold nmd; simp [o8])) hpl he)
            · rw [if_neg o8, if_pos (by omega)]
              exact fine_delE h _
          · rw [q2] at he; cases he
        · rw [if_neg o78] at he
          rw [if_neg (by omega), if_neg (by omega)]
          rcases at_nod (x := c.id) h.pn with ⟨q1, hl, q2, q3⟩ | ⟨q1, q2⟩
          · rw [q2] at he
            simp only at he
            have hq := h.nf _ (List.getElem_mem hl)
            unfold nerr at he
            unfold nedi
            by_cases o3 : c.op = 3
            · rw [if_pos o3] at he ⊢
              show Fine { g with ns := g.ns.modify (atI (nidsV g.ns) c.id) _ }
              rw [mod_set _ _ _ hl]
              by_cases r : hasS g.ns[atI (nidsV g.ns) c.id].ls c.nm = true
              · rw [if_pos r] at he; cases he
              · rw [if_neg r] at he
                by_cases r2 : 8 ≤ g.ns[atI (nidsV g.ns) c.id].ls.length
                · rw [if_pos r2] at he; cases he
                · refine fine_node h hl rfl ?_
                  have hp := hq.p
                  exact ⟨by show (insA _ _ _).length ≤ 8; rw [insA_len]; omega, hp.p16, fun s hs => (insA_mem.1 hs).elim (fun e => e ▸ hnm (by unfold nmd; simp [o3])) (hp.ln s), hp.kn, ins_incS hp.li (by simpa using r), hp.ki, hp.pv⟩
            · rw [if_neg o3] at he ⊢
              by_cases o4 : c.op = 4
              · rw [if_pos o4] at he ⊢
                show Fine { g with ns := g.ns.modify (atI (nidsV g.ns) c.id) _ }
                rw [mod_set _ _ _ hl]
                refine fine_node h hl rfl ?_
                have hp := hq.p
                exact ⟨Nat.le_trans (sub_del _ _).length_le hp.l8, hp.p16, fun s hs => hp.ln s (delA_mem hs), hp.kn, del_incS hp.li _, hp.ki, hp.pv⟩
              · rw [if_neg o4] at he ⊢
                by_cases o5 : c.op = 5
                · rw [if_pos o5] at he ⊢
                  show Fine { g with ns := g.ns.modify (atI (nidsV g.ns) c.id) _ }
                  rw [mod_set _ _ _ hl]
                  exact fine_node h hl rfl (par_setP hq.p (hnm (by unfold nmd; simp [o5])) hpl he)
                · rw [if_neg o5] at he ⊢
                  by_cases r : useV g.es c.id = true
                  · rw [if_pos r] at he; cases he
                  · exact fine_delN h hl (by rw [q3]; simpa using r)
          · rw [q2] at he; cases he
  · rw [if_pos h0] at he; exact absurd he h0
end Go.Proofs.YtfbijdoomkgodaaGreatDoor

/-! Package num: Text returns the decimal numeral of every int value. Condition: in the world at the call the table of powers of ten of the library reads as its initialiser lays it (Good). -/
namespace Go.Proofs.YtfbijdoomkgodaaGreatDoor
open Go.RowKit


/-- The listed variables read as laid. -/
structure Good (w : World) : Prop where
  tab : Lib.TabIs Tryz.prog w "internal/strconv.uint64pow10" .u64 Lib.pow10Tab
  mx : ∃ m, w.cell? ⟨1, 0, none⟩ = some (.int .i64 m)
theorem Good.onw {w w' : World} (h : Good w) (hb : Fuw w w') : Good w' :=
  ⟨var_on h.tab hb, h.mx.imp fun _ k => cellOnw hb k⟩
theorem Good.on {w w' : World} (h : Good w) (hb : Fur w w') : Good w' := h.onw hb.b
theorem num_text (n : Int) (h0 : -9223372036854775808 ≤ n) (h1 : n ≤ 9223372036854775807) (w : World) (G : Good w) :
    Calls Tryz.prog 138 #[.int .i64 n] w fun e w' => e = .returned (.string (txt n)) ∧ Fur w w' := by
  go_enter Tryz.func138, Tryz.ntmps138
  go_wp2_with (go_at_call 54; refine (Tryz.strconv_Itoa n h0 h1 _ G.tab).mono ?_; rintro e w' ⟨rfl, k, os, rfl⟩)
  go_ret
  exact ⟨rfl, fur_grow0 _ _ _⟩
end Go.Proofs.YtfbijdoomkgodaaGreatDoor

/-! Package frac: Floor and Text. For every pair of ints (Text: where the table of powers of ten reads as laid); nothing that was there turns. -/
namespace Go.Proofs.YtfbijdoomkgodaaGreatDoor
open Go.RowKit

set_option maxHeartbeats 1600000 in
set_option maxRecDepth 100000 in
theorem nf_text (n d : Int) (w : World) (G : Good w) : Calls Tryz.prog 135 #[.agg #[.int .i64 n, .int .i64 d]] w (RetT w (texV n d)) := by
  obtain ⟨p0, f0⟩ := box1 w n d
  have VA := Lib.hid (fun w => nf_valid n d w)
  have GG := Lib.hid G
  cases va : okF n d
  · rw [show texV n d = ⟨#[]⟩ by unfold texV; rw [va]; rfl]
    rw [va] at VA
    clear va
    have c00 := p0.c0
    have c01 := p0.c1
    go_enter Tryz.func135, Tryz.ntmps135
    go_wp2_with fail
    go_at_call 160; refine (VA.out _).mono ?_; rintro e1 w1 ⟨rfl, f1⟩
    go_wp2
    go_ret
    exact ⟨rfl, f0.trans f1⟩
  · rw [show texV n d = fracTxt n d by unfold texV; rw [va]; rfl]
    have ha := okF_t va
    have a1 := ha.d1; have a2 := ha.d2; have a3 := ha.n1; have a4 := ha.n2
    rw [va] at VA
    have c00 := p0.c0
    have c01 := p0.c1
    clear va ha
    by_cases hd : d = 1
    · subst hd
      rw [show fracTxt n 1 = txt n by unfold fracTxt; rw [if_pos rfl]]
      go_enter Tryz.func135, Tryz.ntmps135
      go_wp2_with fail
      go_at_call 160; refine (VA.out _).mono ?_; rintro e1 w1 ⟨rfl, f1⟩
      clear c00 c01
      replace p0 := p0.on f1
      have c00 := p0.c0
      have c01 := p0.c1
      go_wp2_with fail
      go_at_call 138; refine (num_text _ (by omega) (by omega) _ (GG.out.on (f0.trans f1))).mono ?_; rintro e1 w2 ⟨rfl, f2⟩
      go_wp2
      go_ret
      exact ⟨rfl, (f0.trans f1).trans f2⟩
    · rw [show fracTxt n d = txt n ++ ⟨#[47]⟩ ++ txt d by unfold fracTxt; rw [if_neg hd]]
      have hdne : (d == 1) = false := by rw [beq_eq_false_iff_ne]; exact hd
      have z1 := txt_size n (by omega) (by omega)
      have z2 := txt_size d (by omega) (by omega)
      have z3 : ¬ (9223372036854775807 < (txt n).size + 1) := by omega
      have z4 : ¬ (9223372036854775807 < (txt n).size + 1 + (txt d).size) := by omega
      clear hd
      go_enter Tryz.func135, Tryz.ntmps135
      go_wp2_with fail
      go_at_call 160; refine (VA.out _).mono ?_; rintro e1 w1 ⟨rfl, f1⟩
      clear c00 c01
      replace p0 := p0.on f1
      replace f0 := f0.trans f1
      have c00 := p0.c0
      have c01 := p0.c1
      have G1 := Lib.hid (GG.out.on f0)
      go_wp2_with fail
      go_region_held3 (fun w' => Fur w1 w' ∧ w'.cell? ⟨w.heap.size, 0, none⟩ = some (.int .i64 n) ∧ w'.cell? ⟨w.heap.size, 1, none⟩ = some (.int .i64 d))
        (first
          | (refine ⟨Fur.drew (Fur.refl _), ?_, ?_⟩ <;> simp [*]; done)
          | go_keep
          | (refine ⟨Fur.trans ?_ (by assumption), cellOn (by assumption) ?_, cellOn (by assumption) ?_⟩ <;> simp [*]))
        (first
          | (go_at_call 138; refine (num_text _ ?_ ?_ _ (G1.out.on ?_)).mono ?_; omega; omega; (first | (simp [*]; done) | (exact Fur.drew (Fur.refl _)) | (simp only [*])); rintro e w4 ⟨rfl, f4⟩))
      have hS : Fur w1 w4 ∧ w4.cell? ⟨w.heap.size, 0, none⟩ = some (.int .i64 n) ∧ w4.cell? ⟨w.heap.size, 1, none⟩ = some (.int .i64 d) := by assumption
      have ff := f0.trans hS.1
      go_wp2
      go_ret
      exact ⟨rfl, ff⟩
end Go.Proofs.YtfbijdoomkgodaaGreatDoor

/-! Package value: the library's ReplaceAll at a quote and Join, as the text of a value has them (mathematics); texts, given what textValid answers of each element. Nothing that was there turns. -/
namespace Go.Proofs.YtfbijdoomkgodaaGreatDoor
open Go.RowKit

/-! Quotes doubled, by the library's words. -/
theorem ix_cons (b : UInt8) (l : List UInt8) : Lib.index (b :: l) [39] = if b = 39 then 0 else if Lib.index l [39] == -1 then -1 else Lib.index l [39] + 1 := by
  rw [Lib.index]
  have e : List.isPrefixOf [(39 : UInt8)] (b :: l) = (39 == b) := by simp [List.isPrefixOf]
  rw [e]
  by_cases h : b = 39
  · rw [if_pos h, h]; rfl
  · have : ((39 : UInt8) == b) = false := beq_eq_false_iff_ne.2 (fun t => h t.symm)
    rw [if_neg h, this]; rfl
theorem ct_39 : ∀ (s : List UInt8) (f : Nat), s.length < f → Lib.countFrom [39] f s = s.count 39
  | [], f, h => by
    cases f with
    | zero => omega
    | succ f => rw [Lib.countFrom]; rfl
  | b :: l, f, h => by
    cases f with
    | zero => omega
    | succ f =>
      have hl : l.length < f := by simp at h; omega
      by_cases hb : b = 39
      · have e : Lib.index (b :: l) [39] = 0 := by rw [ix_cons, if_pos hb]
        rw [Lib.countFrom, e]
        have := ct_39 l f hl
        simp [this, hb]
        omega
      · have ih := ct_39 l (f + 1) (by omega)
        rw [Lib.countFrom] at ih
        rw [Lib.countFrom, ix_cons, if_neg hb]
        have hc : (b :: l).count 39 = l.count 39 := List.count_cons_of_ne hb
        rw [hc, ← ih]
        have hge := Lib.index_ge l [39]
        by_cases hi : Lib.index l [39] = -1
        · rw [hi]; rfl
        · have h1 : (Lib.index l [39] == -1) = false := beq_eq_false_iff_ne.2 hi
          have h2 : (Lib.index l [39] + 1 == -1) = false := by rw [beq_eq_false_iff_ne]; omega
          rw [h1]
          simp only [Bool.false_eq_true, if_false, h2]
          rw [show (Lib.index l [39] + 1).toNat = (Lib.index l [39]).toNat + 1 by omega]
          rfl
theorem dbl_none : ∀ {s : List UInt8}, s.count 39 = 0 → dbl s = s
  | [], _ => rfl
  | b :: l, h => by
    by_cases hb : b = 39
    · rw [hb] at h; simp at h
    · rw [List.count_cons_of_ne hb] at h
      unfold dbl
      rw [if_neg hb, dbl_none h]
theorem rep_39 : ∀ (s : List UInt8) (k : Nat), s.count 39 ≤ k → Lib.replaceK [39] [39, 39] k s = dbl s
  | [], k, _ => by cases k <;> rfl
  | b :: l, 0, h => by
    rw [Lib.replaceK, dbl_none (by omega)]
  | b :: l, k + 1, h => by
    by_cases hb : b = 39
    · have e : Lib.index (b :: l) [39] = ((0 : Nat) : Int) := by rw [ix_cons, if_pos hb]; rfl
      rw [hb] at h
      have ih := rep_39 l k (by simp at h; omega)
      rw [Lib.replaceK_hit _ _ _ _ 0 e]
      unfold dbl
      rw [if_pos hb]
      simp [ih]
    · rw [List.count_cons_of_ne hb] at h
      have ih := rep_39 l (k + 1) h
      have hge := Lib.index_ge l [39]
      rw [Lib.replaceK, ix_cons, if_neg hb]
      rw [Lib.replaceK] at ih
      unfold dbl
      rw [if_neg hb, ← ih]
      by_cases hi : Lib.index l [39] = -1
      · rw [hi]; rfl
      · have h1 : (Lib.index l [39] == -1) = false := beq_eq_false_iff_ne.2 hi
        have h2 : (Lib.index l [39] + 1 == -1) = false := by rw [beq_eq_false_iff_ne]; omega
        rw [h1]
        simp only [Bool.false_eq_true, if_false, h2]
        rw [show (Lib.index l [39] + 1).toNat = (Lib.index l [39]).toNat + 1 by omega]
        rfl
theorem rep_dbl (s : List UInt8) : Lib.replaceAll s [39] [39, 39] = dbl s := by
  unfold Lib.replaceAll Lib.replace
  rw [if_neg (by decide)]
  apply rep_39
  unfold Lib.replaceNum
  rw [if_pos (.inl (by decide))]
  unfold Lib.count
  rw [ct_39 s _ (Nat.lt_succ_self _)]
  exact Nat.le_refl _
theorem ct_le (s : List UInt8) : Lib.count s [39] ≤ s.length := by
  unfold Lib.count
  rw [ct_39 s _ (Nat.lt_succ_self _)]
  exact List.count_le_length
theorem join_R (by_ : List UInt8) : ∀ l : List Vl, Lib.joinTail by_ (l.map texX) = texR by_ l
  | [] => rfl
  | x :: r => by
    have ih := join_R by_ r
    unfold texR
    rw [← ih]
    simp [Lib.joinTail]
theorem join_tex (by_ : List UInt8) (l : List Vl) : Lib.join (l.map texX) by_ = texL by_ l := by
  cases l with
  | nil => rfl
  | cons x r =>
    unfold texL
    rw [List.map_cons, Lib.join_cons, join_R]

/-! texts. -/
/-- The cells of a list of strings. -/
def cst (o : List (List UInt8)) : List Value := o.map fun s => .string (bs s)
theorem cst_set (o : List (List UInt8)) (j : Nat) (s : List UInt8) : (cst o).set j (.string (bs s)) = cst (o.set j s) := by
  unfold cst
  rw [List.map_set]
theorem cst_at {o : List (List UInt8)} {j : Nat} {s : List UInt8} (h : o[j]? = some s) : (cst o)[j]? = some (.string (bs s)) := by
  unfold cst
  rw [List.getElem?_map, h]; rfl
theorem made_empty (n : Nat) : (madeCells (Value.string ⟨#[]⟩).cells (n * 1)).toList = cst (List.replicate n []) := by
  rw [Nat.mul_one]
  unfold cst
  rw [List.map_replicate]
  exact toList_madeCells_one (.string ⟨#[]⟩) _
theorem own_beloww {w w' : World} {base e size : Nat} {v : Value} {n : Nat} {xs : List Value} (h : w.ownsRow base e size v n xs) (hf : Fuw w w') : w'.ownsRow base e size v n xs := by
  refine ⟨h.1, ?_⟩
  rcases h.2 with h0 | ⟨g, cap, cur, hv, hg, hh, rest⟩
  · exact .inl h0
  · refine .inr ⟨g, cap, cur, hv, hg, ?_, rest⟩
    have hlt : g < w.heap.size := by
      rcases Nat.lt_or_ge g w.heap.size with k | k
      · exact k
      · rw [Array.getElem?_eq_none k] at hh; cases hh
    rw [Below.block hf g hlt]; exact hh
/-- A string; nothing that was there has turned. -/
def RwT (w : World) (s : List UInt8) (e : Ending) (w' : World) : Prop := e = .returned (.string (bs s)) ∧ Fuw w w'
/-- What textValid answers of a value. -/
def TxAt (x : Vl) : Prop := ∀ (ao : Option Addr) (ca : Nat) (w : World), Vin x → SlV w ao x.ll ca → Good w → Calls Tryz.prog 95 #[vlv x ao ca] w (RwT w (texX x))
/-- The first i are done. -/
structure TxDone (l : List Vl) (i : Nat) (o : List (List UInt8)) : Prop where
  len : o.length = l.length
  has : ∀ j, j < i → ∀ x, l[j]? = some x → o[j]? = some (texX x)
theorem TxDone.step {l : List Vl} {i : Nat} {o : List (List UInt8)} (h : TxDone l i o) (hi : i < l.length) : TxDone l (i + 1) (o.set i (texX l[i])) := by
  refine ⟨by rw [List.length_set, h.len], fun j hj x hx => ?_⟩
  have hl := h.len
  by_cases e : j = i
  · subst e
    rw [List.getElem?_set_self (by omega)]
    rw [List.getElem?_eq_getElem hi] at hx
    cases hx; rfl
  · rw [List.getElem?_set_ne (fun t => e t.symm)]
    exact h.has j (by omega) x hx
theorem TxDone.all {l : List Vl} {o : List (List UInt8)} (h : TxDone l l.length o) : o = l.map texX := by
  apply List.ext_getElem?
  intro j
  rw [List.getElem?_map]
  rcases Nat.lt_or_ge j l.length with k | k
  · have e := List.getElem?_eq_getElem k
    rw [e, h.has j k _ e]; rfl
  · have := h.len
    rw [List.getElem?_eq_none k, List.getElem?_eq_none (by omega)]; rfl
/-- A slice of strings. -/
def RwS (w : World) (o : List (List UInt8)) (e : Ending) (w' : World) : Prop := ∃ b cap, e = .returned (.slice (some ⟨b, 0, none⟩) o.length cap) ∧ o.length ≤ cap ∧ b < w'.heap.size ∧ (∀ (j : Nat) s, o[j]? = some s → w'.cell? ⟨b, j, none⟩ = some (.string (bs s))) ∧ Fuw w w'

set_option maxHeartbeats 3200000 in
set_option maxRecDepth 100000 in
theorem ltexts_any (l : List Vl) (hO : ∀ x, x ∈ l → TxAt x) (h64 : l.length ≤ 64) (ao : Option Addr) (ca : Nat) (w : World) (hs : SlV w ao l ca) (G : Good w) :
    Calls Tryz.prog 139 #[.slice ao l.length ca] w (RwS w (l.map texX)) := by
  obtain ⟨i0, hi, hz0, hz1, hz2⟩ := info_parts infoS
  have HO := Lib.hid hO
  have HS := Lib.hid hs
  have HG := Lib.hid G
  clear hs hO G
  go_enter Tryz.func139, Tryz.ntmps139
  go_wp2_with (at_make; refine wpList_make_full _ rfl (.tmp 7) (.tmp 7) 51 rfl w.heap.size 9 i0 (.string ⟨#[]⟩) 1 Tryz.underlying51 hi hz0 hz1 .i64 .i64 _ _ l.length rfl rfl (by omega) (by omega) (by rw [hz2]; omega) (by unfold maxLen; omega) (Nat.le_refl _) ?_; intro w1 hown0 hgrow0)
  have hown1 : w1.ownsRow w.heap.size 9 1 (.slice (some ⟨w.heap.size, 0, none⟩) l.length l.length) l.length (cst (List.replicate l.length [])) := by
    rw [made_empty] at hown0
    exact hown0
  have hf1 : Fuw w w1 := Below.grown (Fuw.refl w) hgrow0 (Nat.le_refl _) (by intro k hk; cases hk)
  clear hown0 hgrow0
  go_wp2
  go_loopw [11] (fun iv wr => ∃ (i : Nat) (o : List (List UInt8)), iv = .int .i64 i ∧ i ≤ l.length ∧ wr.ownsRow w.heap.size 9 1 (.slice (some ⟨w.heap.size, 0, none⟩) l.length l.length) l.length (cst o) ∧ Fuw w wr ∧ Hid (TxDone l i o)) (fun iv _ => l.length - (RowKit.intOf iv).toNat)
  case atStart => exact ⟨0, _, rfl, Nat.zero_le _, hown1, hf1, ⟨by simp, fun j hj => by omega⟩⟩
  case round =>
    obtain ⟨i, o, rfl, hil, hown, hf, HN⟩ := hrel
    by_cases hlt : i < l.length
    · obtain ⟨b, of, rfl, hc⟩ := (HS.out.onw hf).get hlt
      have hT := HO.out l[i] (List.getElem_mem hlt)
      obtain ⟨hy, c0, c1, c2, c3, a1, k1, c4, hs2⟩ := VC_of hc
      obtain ⟨p0, f0⟩ := bx1 wr l[i] a1 k1
      have HC := Lib.hid (fun w' (hf' : Fuw wr w') => hT a1 k1 w' hy (hs2.onw hf') (HG.out.onw (hf.trans hf')))
      have HN2 := Lib.hid (HN.out.step hlt)
      have hol := HN.out.len
      unfold vlv at HC
      clear hc hs2 hy hT HN
      generalize l[i] = x at *
      generalize texX x = t at *
      go_wp2_with fail
      go_at_call 95; refine (HC.out _ f0.b).mono ?_; rintro e1 w1 ⟨rfl, f1⟩
      have ff : Fuw wr w1 := f0.w.trans f1
      have hown' := own_beloww hown ff
      have hco := hown'.cellAt i (by omega)
      have hfz := hown'.frozenAt i
      have hst := (hown'.stored i (.string (bs t))).1
      rw [cst_set] at hst
      have HST := Lib.hid hst
      have hf3 : Fuw w (w1.setCell ⟨w.heap.size, i, none⟩ (.string (bs t))) := Below.setCell (hf.trans ff) (Nat.le_refl w.heap.size) _
      obtain ⟨u, hu⟩ : ∃ u, (cst o)[i]? = some u := ⟨_, List.getElem?_eq_getElem (by unfold cst; rw [List.length_map]; omega)⟩
      rw [hu] at hco
      clear hst hown hown' hu hol
      go_wp2
      go_roundw
      case rel => exact ⟨i + 1, _, by go_num, by omega, HST.out, hf3, HN2.out⟩
      case measure => simp [RowKit.intOf]; omega
    · have e : i = l.length := by omega
      have hE := HN.out
      rw [e] at hE
      have HE := Lib.hid hE.all
      clear hE
      have HW := Lib.hid hown
      have hb : w.heap.size < wr.heap.size := by
        have c := hf1.size
        rcases hown.2 with ⟨h0, -⟩ | ⟨g, cap, cur, hv, hg, hh, -⟩
        · cases h0
        · have e1 : g = w.heap.size := by
            have := (Value.slice.inj hv).1
            have := (Addr.mk.inj (Option.some.inj this)).1
            exact this.symm
          subst e1
          rcases Nat.lt_or_ge w.heap.size wr.heap.size with k | k
          · exact k
          · rw [Array.getElem?_eq_none k] at hh; cases hh
      have HL := Lib.hid HN.out.len
      clear hown
      go_wp2
      go_ret
      refine ⟨w.heap.size, l.length, ret_slice (List.length_map (f := texX)).symm, by rw [List.length_map]; exact Nat.le_refl _, hb, fun j s hj => ?_, hf⟩
      have c := HW.out.cellAt j (by
        have := (List.getElem?_eq_some_iff.1 hj).1
        rw [List.length_map] at this
        omega)
      rw [c, HE.out]
      exact cst_at hj
end Go.Proofs.YtfbijdoomkgodaaGreatDoor
