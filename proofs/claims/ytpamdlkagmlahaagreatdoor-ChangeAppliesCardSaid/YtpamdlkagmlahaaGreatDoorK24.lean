/-
  CkA; TxA; TxB; TxC; TxD; Tl: texts of one kind in one file; each part says what it holds.
-/
import Derived.Test.YtpamdlkagmlahaaGreatDoorK23
import Derived.Test.YtpamdlkagmlahaaGreatDoorK07
import Derived.Test.YtpamdlkagmlahaaGreatDoorShelf
import Derived.Lib.ItoaLen
import Derived.FnData
import Derived.Test.YtpamdlkagmlahaaGreatDoorK02
import Derived.Deep.RegionHeld3
import Derived.Test.YtpamdlkagmlahaaGreatDoorK05
import Derived.OrdersHeld
import Derived.RegionTactic
import Derived.Test.YtpamdlkagmlahaaGreatDoorK01

namespace Go.Proofs.YtpamdlkagmlahaaGreatDoor
theorem chkC_ok {c : Ch} (h : chkC c = 0) : opV c.op = true ∧ idsC c = true ∧ zeroC c = true ∧ (nmd c.op = true → nameV c.nm = true) ∧ (isN c.v = true ∨ plnV c.v = true) := by
 unfold chkC at h
 by_cases h1 : (opV c.op && idsC c && zeroC c) = false
 ·rw [if_pos h1] at h; cases h
 ·rw [if_neg h1] at h
  by_cases h2 : (nmd c.op && !nameV c.nm) = true
  ·rw [if_pos h2] at h; cases h
  ·rw [if_neg h2] at h
   by_cases h3 : (!isN c.v && !plnV c.v) = true
   ·rw [if_pos h3] at h; cases h
   ·simp only [Bool.not_eq_false, Bool.and_eq_true] at h1
    refine ⟨h1.1.1, h1.1.2, h1.2, fun hn => ?_, ?_⟩
    ·rw [hn] at h2
     cases e : nameV c.nm with
     | true => rfl
     | false => rw [e] at h2; exact absurd rfl h2
    ·cases hi : isN c.v with
     | true => exact .inl rfl
     | false =>
      cases hp : plnV c.v with
      | true => exact .inr rfl
      | false => rw [hi, hp] at h3; exact absurd rfl h3
theorem ins_pw {α : Type} (f : α → Int) {y : α} : ∀ {l : List α}, (l.Pairwise fun a b => f a < f b) → (∀ a ∈ l, f a ≠ f y) → (insA l (atI (l.map f) (f y)) y).Pairwise fun a b => f a < f b
 | [], _, _ => List.pairwise_singleton _ _
 | x :: r, h, hn => by
  have h' := List.pairwise_cons.1 h
  have hx := hn x (List.mem_cons_self ..)
  show (insA (x :: r) (if f x < f y then atI (r.map f) (f y) + 1 else 0) y).Pairwise _
  by_cases g : f x < f y
  ·rw [if_pos g]
   show (x :: insA r (atI (r.map f) (f y)) y).Pairwise _
   refine List.pairwise_cons.2 ⟨fun a ha => ?_, ins_pw f h'.2 fun a ha => hn a (List.mem_cons_of_mem _ ha)⟩
   rcases insA_mem.1 ha with rfl | ha
   ·exact g
   ·exact h'.1 a ha
  ·rw [if_neg g]
   show (y :: x :: r).Pairwise _
   refine List.pairwise_cons.2 ⟨fun a ha => ?_, h⟩
   rcases List.mem_cons.1 ha with rfl | ha
   ·omega
   ·have := h'.1 a ha; omega
theorem hasS_iff {l : List (List UInt8)} {s : List UInt8} : hasS l s = true ↔ s ∈ l := by
 unfold hasS
 rw [List.any_eq_true]
 constructor
 ·rintro ⟨x, hx, e⟩
  rw [beq_iff_eq] at e
  rw [← e]; exact hx
 ·intro h
  exact ⟨s, h, beq_self_eq_true s⟩
theorem ins_put {l : List (List UInt8)} {s : List UInt8} (hn : hasS l s = false) : insA l (atS l s) s = putS l s := by
 unfold putS insA
 rw [if_neg (fun e => by
  have k := hasS_iff.2 (List.mem_of_getElem? e)
  rw [hn] at k; cases k)]
 simp
theorem ins_incS {l : List (List UInt8)} {s : List UInt8} (h : incS l) (hn : hasS l s = false) : incS (insA l (atS l s) s) := by
 rw [ins_put hn]; exact put_inc s l h
theorem del_incS {l : List (List UInt8)} (h : incS l) (k : Nat) : incS (delA l k) := List.Pairwise.sublist (sub_del l k) h
theorem set_ids {α : Type} (f : α → Int) {l : List α} {k : Nat} (hk : k < l.length) {y : α} (hy : f y = f l[k]) : (l.set k y).map f = l.map f := by
 rw [List.map_set, hy]
 refine List.ext_getElem? fun i => ?_
 by_cases e : k = i
 ·subst e
  rw [List.getElem?_set_self (by rw [List.length_map]; exact hk), List.getElem?_map, List.getElem?_eq_getElem hk]; rfl
 ·rw [List.getElem?_set_ne e]
theorem hasN_ids {ns : List Nd} {x : Int} : hasN ns x = true ↔ x ∈ nidsV ns := by
 unfold hasN nidsV
 rw [List.any_eq_true, List.mem_map]
 constructor
 ·rintro ⟨n, hn, e⟩; exact ⟨n, hn, by simpa using e⟩
 ·rintro ⟨n, hn, e⟩; exact ⟨n, hn, by simpa using e⟩
theorem hasE_ids {es : List Ed} {x : Int} : hasE es x = true ↔ x ∈ eidsV es := by
 unfold hasE eidsV
 rw [List.any_eq_true, List.mem_map]
 constructor
 ·rintro ⟨n, hn, e⟩; exact ⟨n, hn, by simpa using e⟩
 ·rintro ⟨n, hn, e⟩; exact ⟨n, hn, by simpa using e⟩
theorem par_nil : Par [] [] := ⟨by decide, by decide, (fun _ h => by cases h), (fun _ h => by cases h), List.Pairwise.nil, List.Pairwise.nil, (fun _ h => by cases h)⟩
theorem par_of {ls : List (List UInt8)} {ps ps' : List Pp} (h : Par ls ps) (h1 : ps'.length ≤ 16) (h2 : ∀ p ∈ ps', p ∈ ps ∨ (nameV p.k = true ∧ plnV p.v = true)) (h3 : incS (keysV ps')) : Par ls ps' :=
 ⟨h.l8, h1, h.ln, fun p hp => (h2 p hp).elim (h.kn p) And.left, h.li, h3, fun p hp => (h2 p hp).elim (h.pv p) And.right⟩
theorem par_setP {ls : List (List UInt8)} {ps : List Pp} {k : List UInt8} {v : Vl} (h : Par ls ps) (hk : nameV k = true) (hv : isN v = true ∨ plnV v = true) (he : setE ps k v = 0) : Par ls (setP ps k v) := by
 unfold setP
 by_cases h1 : hasK ps k = true
 ·rw [if_pos h1]
  obtain ⟨hl, hat⟩ := at_hasK h.ki h1
  by_cases h2 : isN v = true
  ·rw [if_pos h2]
   refine par_of h (by have := delA_len ps _ hl; have := h.p16; omega) (fun p hp => .inl (delA_mem hp)) ?_
   show incS ((delA ps _).map Pp.k)
   rw [delA_map]
   exact del_incS h.ki _
  ·rw [if_neg h2]
   have hp : plnV v = true := hv.resolve_left h2
   refine par_of h (by rw [List.length_set]; exact h.p16) (fun p hq => ?_) ?_
   ·rcases List.mem_or_eq_of_mem_set hq with hq | rfl
    ·exact .inl hq
    ·exact .inr ⟨hk, hp⟩
   ·have e : keysV (ps.set (atS (keysV ps) k) ⟨k, v⟩) = keysV ps := by
     show (ps.set _ _).map Pp.k = ps.map Pp.k
     rw [List.map_set]
     refine List.ext_getElem? fun i => ?_
     by_cases e : atS (keysV ps) k = i
     ·subst e
      rw [List.getElem?_set_self (by rw [List.length_map]; exact hl), List.getElem?_map, List.getElem?_eq_getElem hl]
      exact congrArg some hat.symm
     ·rw [List.getElem?_set_ne e]
    rw [e]; exact h.ki
 ·rw [if_neg h1]
  have h1' : hasK ps k = false := by simpa using h1
  by_cases h2 : isN v = true
  ·rw [if_pos h2]; exact h
  ·rw [if_neg h2]
   have hp : plnV v = true := hv.resolve_left h2
   have hlt : ps.length < 16 := by
    unfold setE at he
    by_cases g : hasK ps k = false ∧ isN v = false ∧ 16 ≤ ps.length
    ·rw [if_pos g] at he; cases he
    ·have h2' : isN v = false := by simpa using h2
     exact Nat.lt_of_not_le fun q => g ⟨h1', h2', q⟩
   refine par_of h (by rw [insA_len]; omega) (fun p hq => ?_) ?_
   ·rcases insA_mem.1 hq with rfl | hq
    ·exact .inr ⟨hk, hp⟩
    ·exact .inl hq
   ·show incS ((insA ps _ _).map Pp.k)
    rw [insA_map]
    exact ins_incS h.ki h1'
theorem fine_node {g : Gr} (h : Fine g) {k : Nat} (hk : k < g.ns.length) {y : Nd} (hy : y.id = g.ns[k].id) (hp : Par y.ls y.ps) : Fine { g with ns := g.ns.set k y } := by
 have hids : nidsV (g.ns.set k y) = nidsV g.ns := set_ids Nd.id hk hy
 refine ⟨by simpa using h.n, h.e, h.nn, h.ne, ?_, ?_, h.pe, ?_⟩
 ·have q := List.pairwise_map.2 h.pn
  have q2 : ((g.ns.set k y).map Nd.id).Pairwise (· < ·) := by
   rw [show (g.ns.set k y).map Nd.id = g.ns.map Nd.id from hids]; exact q
  exact List.pairwise_map.1 q2
 ·intro n hn
  rcases List.mem_or_eq_of_mem_set hn with hn | rfl
  ·exact h.nf n hn
  ·have := h.nf _ (List.getElem_mem hk)
   exact ⟨by rw [hy]; exact this.lo, by rw [hy]; exact this.hi, hp⟩
 ·intro e he
  have q := h.ef e he
  have hh : ∀ x, hasN g.ns x = true → hasN (g.ns.set k y) x = true := fun x hx => by rw [hasN_ids, hids, ← hasN_ids]; exact hx
  exact ⟨q.lo, q.hi, hh _ q.f, hh _ q.t, q.y, q.p⟩
theorem fine_edge {g : Gr} (h : Fine g) {k : Nat} (hk : k < g.es.length) {ps : List Pp} (hp : Par [] ps) : Fine { g with es := g.es.set k { g.es[k] with ps := ps } } := by
 have hids : eidsV (g.es.set k { g.es[k] with ps := ps }) = eidsV g.es := set_ids Ed.id hk rfl
 refine ⟨h.n, by simpa using h.e, h.nn, h.ne, h.pn, h.nf, ?_, ?_⟩
 ·have q := List.pairwise_map.2 h.pe
  have q2 : ((g.es.set k { g.es[k] with ps := ps }).map Ed.id).Pairwise (· < ·) := by
   rw [show (g.es.set k { g.es[k] with ps := ps }).map Ed.id = g.es.map Ed.id from hids]; exact q
  exact List.pairwise_map.1 q2
 ·intro e he
  rcases List.mem_or_eq_of_mem_set he with he | rfl
  ·exact h.ef e he
  ·have q := h.ef _ (List.getElem_mem hk)
   exact ⟨q.lo, q.hi, q.f, q.t, q.y, hp⟩
theorem mod_set {α : Type} (l : List α) (k : Nat) (f : α → α) (h : k < l.length) : l.modify k f = l.set k (f l[k]) := by
 refine List.ext_getElem? fun i => ?_
 rw [List.getElem?_modify]
 by_cases e : k = i
 ·subst e
  rw [List.getElem?_set_self h, List.getElem?_eq_getElem h]
  simp
 ·rw [List.getElem?_set_ne e]
  simp [e]
theorem del_has {ns : List Nd} {k : Nat} (hk : k < ns.length) {x : Int} (h : hasN ns x = true) (hx : x ≠ ns[k].id) : hasN (delA ns k) x = true := by
 rw [hasN_ids] at h ⊢
 unfold nidsV at h ⊢
 obtain ⟨n, hn, e⟩ := List.mem_map.1 h
 obtain ⟨i, hi, rfl⟩ := List.getElem_of_mem hn
 refine List.mem_map.2 ⟨ns[i], ?_, e⟩
 have hik : i ≠ k := fun q => hx (by subst q; exact e.symm)
 unfold delA
 rw [List.mem_append]
 rcases Nat.lt_or_ge i k with q | q
 ·exact .inl (List.mem_take_iff_getElem.2 ⟨i, by omega, rfl⟩)
 ·refine .inr (List.mem_drop_iff_getElem.2 ⟨i - (k + 1), by omega, ?_⟩)
  congr 1
  omega
theorem fine_addN {g : Gr} (h : Fine g) {x : Int} (hx : idV x = true) (hn : hasN g.ns x = false) (hl : g.ns.length < 2000) : Fine (addN g x) := by
 unfold idV at hx
 simp only [Bool.and_eq_true, decide_eq_true_eq] at hx
 have hno : ∀ a ∈ g.ns, Nd.id a ≠ Nd.id ⟨x, [], []⟩ := fun a ha e => by
  have : hasN g.ns x = true := hasN_ids.2 (List.mem_map.2 ⟨a, ha, e⟩)
  rw [hn] at this; cases this
 refine ⟨?_, h.e, ?_, h.ne, ?_, ?_, h.pe, ?_⟩
 ·show (insA g.ns _ _).length ≤ 2000
  rw [insA_len]; omega
 ·show 1 ≤ max g.nn (x + 1) ∧ max g.nn (x + 1) ≤ 1000001
  have := h.nn
  omega
 ·exact ins_pw Nd.id h.pn hno
 ·intro n hm
  show NdF (max g.nn (x + 1)) n
  rcases insA_mem.1 hm with rfl | hm
  ·exact ⟨hx.1, (by show x < max g.nn (x + 1); omega), par_nil⟩
  ·have q := h.nf n hm
   exact ⟨q.lo, by have := q.hi; omega, q.p⟩
 ·intro e he
  have q := h.ef e he
  have hh : ∀ y, hasN g.ns y = true → hasN (insA g.ns (atI (nidsV g.ns) x) ⟨x, [], []⟩) y = true := fun y hy => by
   obtain ⟨n, hn1, hn2⟩ := List.mem_map.1 (hasN_ids.1 hy)
   exact hasN_ids.2 (List.mem_map.2 ⟨n, insA_mem.2 (.inr hn1), hn2⟩)
  exact ⟨q.lo, q.hi, hh _ q.f, hh _ q.t, q.y, q.p⟩
theorem fine_addE {g : Gr} {c : Ch} (h : Fine g) (hx : idV c.id = true) (hn : hasE g.es c.id = false) (hf : hasN g.ns c.fr = true) (ht : hasN g.ns c.tt = true) (hy : nameV c.nm = true) (hl : g.es.length < 4000) : Fine (addE g c) := by
 unfold idV at hx
 simp only [Bool.and_eq_true, decide_eq_true_eq] at hx
 have hno : ∀ a ∈ g.es, Ed.id a ≠ Ed.id ⟨c.id, c.fr, c.tt, c.nm, []⟩ := fun a ha e => by
  have : hasE g.es c.id = true := hasE_ids.2 (List.mem_map.2 ⟨a, ha, e⟩)
  rw [hn] at this; cases this
 refine ⟨h.n, ?_, h.nn, ?_, h.pn, h.nf, ?_, ?_⟩
 ·show (insA g.es _ _).length ≤ 4000
  rw [insA_len]; omega
 ·show 1 ≤ max g.ne (c.id + 1) ∧ max g.ne (c.id + 1) ≤ 1000001
  have := h.ne
  omega
 ·exact ins_pw Ed.id h.pe hno
 ·intro e hm
  show EdF g.ns (max g.ne (c.id + 1)) e
  rcases insA_mem.1 hm with rfl | hm
  ·exact ⟨hx.1, (by show c.id < max g.ne (c.id + 1); omega), hf, ht, hy, par_nil⟩
  ·have q := h.ef e hm
   exact ⟨q.lo, by have := q.hi; omega, q.f, q.t, q.y, q.p⟩
theorem fine_delE {g : Gr} (h : Fine g) (k : Nat) : Fine { g with es := delA g.es k } :=
 ⟨h.n, Nat.le_trans (sub_del g.es k).length_le h.e, h.nn, h.ne, h.pn, h.nf, List.Pairwise.sublist (sub_del g.es k) h.pe, fun e he => h.ef e (delA_mem he)⟩
theorem fine_delN {g : Gr} (h : Fine g) {k : Nat} (hk : k < g.ns.length) (hu : useV g.es g.ns[k].id = false) : Fine { g with ns := delA g.ns k } := by
 refine ⟨Nat.le_trans (sub_del g.ns k).length_le h.n, h.e, h.nn, h.ne, List.Pairwise.sublist (sub_del g.ns k) h.pn, fun n hn => h.nf n (delA_mem hn), h.pe, fun e he => ?_⟩
 have q := h.ef e he
 unfold useV at hu
 have hu' := List.any_eq_false.1 hu e he
 simp only [Bool.or_eq_true, beq_iff_eq, not_or] at hu'
 exact ⟨q.lo, q.hi, del_has hk q.f hu'.1, del_has hk q.t hu'.2, q.y, q.p⟩
theorem fine_step {g : Gr} {c : Ch} (h : Fine g) (he : stpE g c = 0) : Fine (stpG g c) := by
 unfold stpE at he
 by_cases h0 : chkC c = 0
 ·rw [if_neg (fun q => q h0)] at he
  obtain ⟨ho, hi, hz, hnm, hpl⟩ := chkC_ok h0
  have hid : idV c.id = true := by unfold idsC at hi; rw [Bool.and_eq_true] at hi; exact hi.1
  unfold stpG
  by_cases o1 : c.op = 1
  ·rw [if_pos o1] at he ⊢
   by_cases q : hasN g.ns c.id = true
   ·rw [if_pos q] at he; cases he
   ·rw [if_neg q] at he
    by_cases q2 : 2000 ≤ g.ns.length
    ·rw [if_pos q2] at he; cases he
    ·exact fine_addN h hid (by simpa using q) (by omega)
  ·rw [if_neg o1] at he ⊢
   by_cases o6 : c.op = 6
   ·rw [if_pos o6] at he ⊢
    by_cases q : hasE g.es c.id = true
    ·rw [if_pos q] at he; cases he
    ·rw [if_neg q] at he
     by_cases q1 : (hasN g.ns c.fr && hasN g.ns c.tt) = false
     ·rw [if_pos q1] at he; cases he
     ·rw [if_neg q1] at he
      by_cases q2 : 4000 ≤ g.es.length
      ·rw [if_pos q2] at he; cases he
      ·simp only [Bool.not_eq_false, Bool.and_eq_true] at q1
       exact fine_addE h hid (by simpa using q) q1.1 q1.2 (hnm (by unfold nmd; simp [o6])) (by omega)
   ·rw [if_neg o6] at he ⊢
    by_cases o78 : c.op = 7 ∨ c.op = 8
    ·rw [if_pos o78] at he
     rcases at_edg (x := c.id) h.pe with ⟨q1, hl, q2, q3⟩ | ⟨q1, q2⟩
     ·rw [q2] at he
      simp only at he
      by_cases o8 : c.op = 8
      ·rw [if_pos o8] at he ⊢
       show Fine { g with es := g.es.modify (atI (eidsV g.es) c.id) _ }
       rw [mod_set _ _ _ hl]
       exact fine_edge h hl (par_setP (h.ef _ (List.getElem_mem hl)).p (hnm (by unfold nmd; simp [o8])) hpl he)
      ·rw [if_neg o8, if_pos (by omega)]
       exact fine_delE h _
     ·rw [q2] at he; cases he
    ·rw [if_neg o78] at he
     rw [if_neg (by omega), if_neg (by omega)]
     rcases at_nod (x := c.id) h.pn with ⟨q1, hl, q2, q3⟩ | ⟨q1, q2⟩
     ·rw [q2] at he
      simp only at he
      have hq := h.nf _ (List.getElem_mem hl)
      unfold nerr at he
      unfold nedi
      by_cases o3 : c.op = 3
      ·rw [if_pos o3] at he ⊢
       show Fine { g with ns := g.ns.modify (atI (nidsV g.ns) c.id) _ }
       rw [mod_set _ _ _ hl]
       by_cases r : hasS g.ns[atI (nidsV g.ns) c.id].ls c.nm = true
       ·rw [if_pos r] at he; cases he
       ·rw [if_neg r] at he
        by_cases r2 : 8 ≤ g.ns[atI (nidsV g.ns) c.id].ls.length
        ·rw [if_pos r2] at he; cases he
        ·refine fine_node h hl rfl ?_
         have hp := hq.p
         exact ⟨by show (insA _ _ _).length ≤ 8; rw [insA_len]; omega, hp.p16, fun s hs => (insA_mem.1 hs).elim (fun e => e ▸ hnm (by unfold nmd; simp [o3])) (hp.ln s), hp.kn, ins_incS hp.li (by simpa using r), hp.ki, hp.pv⟩
      ·rw [if_neg o3] at he ⊢
       by_cases o4 : c.op = 4
       ·rw [if_pos o4] at he ⊢
        show Fine { g with ns := g.ns.modify (atI (nidsV g.ns) c.id) _ }
        rw [mod_set _ _ _ hl]
        refine fine_node h hl rfl ?_
        have hp := hq.p
        exact ⟨Nat.le_trans (sub_del _ _).length_le hp.l8, hp.p16, fun s hs => hp.ln s (delA_mem hs), hp.kn, del_incS hp.li _, hp.ki, hp.pv⟩
       ·rw [if_neg o4] at he ⊢
        by_cases o5 : c.op = 5
        ·rw [if_pos o5] at he ⊢
         show Fine { g with ns := g.ns.modify (atI (nidsV g.ns) c.id) _ }
         rw [mod_set _ _ _ hl]
         exact fine_node h hl rfl (par_setP hq.p (hnm (by unfold nmd; simp [o5])) hpl he)
        ·rw [if_neg o5] at he ⊢
         by_cases r : useV g.es c.id = true
         ·rw [if_pos r] at he; cases he
         ·exact fine_delN h hl (by rw [q3]; simpa using r)
     ·rw [q2] at he; cases he
 ·rw [if_pos h0] at he; exact absurd he h0
end Go.Proofs.YtpamdlkagmlahaaGreatDoor

namespace Go.Proofs.YtpamdlkagmlahaaGreatDoor
open Go.RowKit
structure Good (w : World) : Prop where
 tab : Lib.TabIs Tryz.prog w "internal/strconv.uint64pow10" .u64 Lib.pow10Tab
 mx : ∃ m, w.cell? ⟨1, 0, none⟩ = some (.int .i64 m)
theorem Good.onw {w w' : World} (h : Good w) (hb : Fuw w w') : Good w' :=
 ⟨var_on h.tab hb, h.mx.imp fun _ k => cellOnw hb k⟩
theorem Good.on {w w' : World} (h : Good w) (hb : Fur w w') : Good w' := h.onw hb.b
theorem num_text (n : Int) (h0 : -9223372036854775808 ≤ n) (h1 : n ≤ 9223372036854775807) (w : World) (G : Good w) :
  Calls Tryz.prog 121 #[.int .i64 n] w fun e w' => e = .returned (.string (txt n)) ∧ Fur w w' := by
 go_enter Tryz.func121, Tryz.ntmps121
 go_wp2_with (go_at_call 44; refine (Tryz.strconv_Itoa n h0 h1 _ G.tab).mono ?_; rintro e w' ⟨rfl, k, os, rfl⟩)
 go_ret
 exact ⟨rfl, fur_grow0 _ _ _⟩
end Go.Proofs.YtpamdlkagmlahaaGreatDoor

namespace Go.Proofs.YtpamdlkagmlahaaGreatDoor
open Go.RowKit
set_option maxHeartbeats 1600000 in
set_option maxRecDepth 100000 in
theorem nf_text (n d : Int) (w : World) (G : Good w) : Calls Tryz.prog 118 #[.agg #[.int .i64 n, .int .i64 d]] w (RetT w (texV n d)) := by
 obtain ⟨p0, f0⟩ := box1 w n d
 have VA := Lib.hid (fun w => nf_valid n d w)
 have GG := Lib.hid G
 cases va : okF n d
 ·rw [show texV n d = ⟨#[]⟩ by unfold texV; rw [va]; rfl]
  rw [va] at VA
  clear va
  have c00 := p0.c0
  have c01 := p0.c1
  go_enter Tryz.func118, Tryz.ntmps118
  go_wp2_with fail
  go_at_call 139; refine (VA.out _).mono ?_; rintro e1 w1 ⟨rfl, f1⟩
  go_wp2
  go_ret
  exact ⟨rfl, f0.trans f1⟩
 ·rw [show texV n d = fracTxt n d by unfold texV; rw [va]; rfl]
  have ha := okF_t va
  have a1 := ha.d1; have a2 := ha.d2; have a3 := ha.n1; have a4 := ha.n2
  rw [va] at VA
  have c00 := p0.c0
  have c01 := p0.c1
  clear va ha
  by_cases hd : d = 1
  ·subst hd
   rw [show fracTxt n 1 = txt n by unfold fracTxt; rw [if_pos rfl]]
   go_enter Tryz.func118, Tryz.ntmps118
   go_wp2_with fail
   go_at_call 139; refine (VA.out _).mono ?_; rintro e1 w1 ⟨rfl, f1⟩
   clear c00 c01
   replace p0 := p0.on f1
   have c00 := p0.c0
   have c01 := p0.c1
   go_wp2_with fail
   go_at_call 121; refine (num_text _ (by omega) (by omega) _ (GG.out.on (f0.trans f1))).mono ?_; rintro e1 w2 ⟨rfl, f2⟩
   go_wp2
   go_ret
   exact ⟨rfl, (f0.trans f1).trans f2⟩
  ·rw [show fracTxt n d = txt n ++ ⟨#[47]⟩ ++ txt d by unfold fracTxt; rw [if_neg hd]]
   have hdne : (d == 1) = false := by rw [beq_eq_false_iff_ne]; exact hd
   have z1 := txt_size n (by omega) (by omega)
   have z2 := txt_size d (by omega) (by omega)
   have z3 : ¬ (9223372036854775807 < (txt n).size + 1) := by omega
   have z4 : ¬ (9223372036854775807 < (txt n).size + 1 + (txt d).size) := by omega
   clear hd
   go_enter Tryz.func118, Tryz.ntmps118
   go_wp2_with fail
   go_at_call 139; refine (VA.out _).mono ?_; rintro e1 w1 ⟨rfl, f1⟩
   clear c00 c01
   replace p0 := p0.on f1
   replace f0 := f0.trans f1
   have c00 := p0.c0
   have c01 := p0.c1
   have G1 := Lib.hid (GG.out.on f0)
   go_wp2_with fail
   go_region_held3 (fun w' => Fur w1 w' ∧ w'.cell? ⟨w.heap.size, 0, none⟩ = some (.int .i64 n) ∧ w'.cell? ⟨w.heap.size, 1, none⟩ = some (.int .i64 d))
    (first
     | (refine ⟨Fur.drew (Fur.refl _), ?_, ?_⟩ <;> simp [*]; done)
     | go_keep
     | (refine ⟨Fur.trans ?_ (by assumption), cellOn (by assumption) ?_, cellOn (by assumption) ?_⟩ <;> simp [*]))
    (first
     | (go_at_call 121; refine (num_text _ ?_ ?_ _ (G1.out.on ?_)).mono ?_; omega; omega; (first | (simp [*]; done) | (exact Fur.drew (Fur.refl _)) | (simp only [*])); rintro e w4 ⟨rfl, f4⟩))
   have hS : Fur w1 w4 ∧ w4.cell? ⟨w.heap.size, 0, none⟩ = some (.int .i64 n) ∧ w4.cell? ⟨w.heap.size, 1, none⟩ = some (.int .i64 d) := by assumption
   have ff := f0.trans hS.1
   go_wp2
   go_ret
   exact ⟨rfl, ff⟩
end Go.Proofs.YtpamdlkagmlahaaGreatDoor

namespace Go.Proofs.YtpamdlkagmlahaaGreatDoor
open Go.RowKit
def RwT (w : World) (s : List UInt8) (e : Ending) (w' : World) : Prop := e = .returned (.string (bs s)) ∧ Fuw w w'
structure TxDone (l : List Vl) (i : Nat) (o : List (List UInt8)) : Prop where
 len : o.length = l.length
 has : ∀ j, j < i → ∀ x, l[j]? = some x → o[j]? = some (texX x)
theorem TxDone.step {l : List Vl} {i : Nat} {o : List (List UInt8)} (h : TxDone l i o) (hi : i < l.length) : TxDone l (i + 1) (o.set i (texX l[i])) := by
 refine ⟨by rw [List.length_set, h.len], fun j hj x hx => ?_⟩
 have hl := h.len
 by_cases e : j = i
 ·subst e
  rw [List.getElem?_set_self (by omega)]
  rw [List.getElem?_eq_getElem hi] at hx
  cases hx; rfl
 ·rw [List.getElem?_set_ne (fun t => e t.symm)]
  exact h.has j (by omega) x hx
theorem TxDone.all {l : List Vl} {o : List (List UInt8)} (h : TxDone l l.length o) : o = l.map texX := by
 apply List.ext_getElem?
 intro j
 rw [List.getElem?_map]
 rcases Nat.lt_or_ge j l.length with k | k
 ·have e := List.getElem?_eq_getElem k
  rw [e, h.has j k _ e]; rfl
 ·have := h.len
  rw [List.getElem?_eq_none k, List.getElem?_eq_none (by omega)]; rfl
end Go.Proofs.YtpamdlkagmlahaaGreatDoor

namespace Go.Proofs.YtpamdlkagmlahaaGreatDoor
open Go.RowKit
theorem map_bsT (o : List (List UInt8)) : (o.map bs).map (fun x => x.data.toList) = o := by
 rw [List.map_map]
 conv => rhs; rw [← List.map_id o]
 rfl
theorem ljoin_any (o : List (List UInt8)) (sep : List UInt8) (b cap : Nat) (w : World) (h64 : o.length ≤ 64) (hcap : o.length ≤ cap) (hb : b < w.heap.size) (hc : ∀ (j : Nat) s, o[j]? = some s → w.cell? ⟨b, j, none⟩ = some (.string (bs s))) (hl : (Lib.join o sep).length ≤ 1000000) :
  Calls Tryz.prog 46 #[.slice (some ⟨b, 0, none⟩) o.length cap, .string (bs sep)] w (RwT w (Lib.join o sep)) := by
 have k := Tryz.strings_Join b 0 cap (o.map bs) (bs sep) w (fun j x hx => by
  rw [List.getElem?_map] at hx
  obtain ⟨s, hs, rfl⟩ := Option.map_eq_some_iff.1 hx
  rw [Nat.zero_add]
  exact hc j s hs) hb (by rw [List.length_map]; omega) (by rw [List.length_map]; exact hcap) (by rw [map_bsT]; show (Lib.join o sep).length ≤ _; omega)
 rw [List.length_map, map_bsT] at k
 exact k
theorem int_tx {n : Int} (h : -1000000000000000 ≤ n ∧ n ≤ 1000000000000000) : texV n 1 = bs (Lib.itoa n) := by
 have o : OkF n 1 := ⟨by decide, by decide, h.1, h.2, Nat.gcd_one_right _⟩
 unfold texV fracTxt
 rw [if_pos o.b, if_pos rfl]; rfl
theorem nf_text_w (n d : Int) (w : World) (G : Good w) (t : List UInt8) (h : texV n d = bs t) : Calls Tryz.prog 118 #[.agg #[.int .i64 n, .int .i64 d]] w (RwT w t) :=
 (nf_text n d w G).mono fun _ _ ⟨he, hf⟩ => ⟨by rw [he, h], hf.b⟩
theorem lfrac_w (x : Vl) (ao : Option Addr) (cap : Nat) (w : World) : Calls Tryz.prog 119 #[vlv x ao cap] w (RetF w x.nn (frD x.kd x.dd)) := lfrac_any x ao cap w
theorem tex_of' {k n d : Int} {s : List UInt8} {l : List Vl} (h : okX (.mk k n d s l) = true) : texX (.mk k n d s l) =
  if k = 1 then (if n = 1 then [116, 114, 117, 101] else [102, 97, 108, 115, 101])
  else if k = 2 then Lib.itoa n
  else if k = 3 then Lib.itoa n ++ 47 :: Lib.itoa d
  else if k = 4 then 39 :: (dbl s ++ [39])
  else if k = 5 then 35 :: Lib.itoa n
  else if k = 6 then 64 :: Lib.itoa n
  else if k = 8 then 91 :: (texL [44, 32] l ++ [93])
  else if k = 7 then 60 :: (texL [32] l ++ [62])
  else [110, 117, 108, 108] := tex_of h
set_option maxHeartbeats 3200000 in
set_option maxRecDepth 100000 in
theorem ltv2 (n d : Int) (s : List UInt8) (l : List Vl) (ao : Option Addr) (cap : Nat) (w : World) (h : -1000000000000000 ≤ n ∧ n ≤ 1000000000000000) (G : Good w) : Calls Tryz.prog 83 #[vlv (.mk 2 n d s l) ao cap] w (RwT w (Lib.itoa n)) := by
 obtain ⟨p0, f0⟩ := bx1 w (.mk 2 n d s l) ao cap
 have HG := Lib.hid G
 clear G
 simp only [vlv, Vl.kd, Vl.nn, Vl.dd, Vl.ss, Vl.ll] at f0 p0 ⊢
 obtain ⟨W, hW⟩ : ∃ W, (w.alloc (.cells #[.int .i64 2, .int .i64 n, .int .i64 d, .string (bs s), .slice ao l.length cap] 28)) = W := ⟨_, rfl⟩
 rw [hW] at f0 p0
 have c0 := p0.c0; have c1 := p0.c1; have c2 := p0.c2; have c3 := p0.c3; have c4 := p0.c4
 simp only [Vl.kd, Vl.nn, Vl.dd, Vl.ss, Vl.ll] at c0 c1 c2 c3 c4
 have FR := Lib.hid (fun w => lfrac_w (.mk 2 n d s l) ao cap w)
 have HT := Lib.hid (fun w G => nf_text_w n 1 w G (Lib.itoa n) (int_tx h))
 have e3 : frD 2 d = 1 := rfl
 simp only [vlv, Vl.kd, Vl.nn, Vl.dd, e3] at FR
 clear e3 h
 generalize Lib.itoa n = t at *
 go_enter Tryz.func83, Tryz.ntmps83
 go_upto_region 1 with fail
 clear hW
 go_wp2_with fail
 go_at_call 119; refine (FR.out _).mono ?_; rintro e2 w2 ⟨rfl, f2⟩
 have G2 := HG.out.on (f0.trans f2)
 go_wp2_with fail
 go_at_call 118; refine (HT.out _ G2).mono ?_; rintro e3 w3 ⟨rfl, f3⟩
 go_wp2
 go_ret
 exact ⟨rfl, (f0.trans f2).w.trans f3⟩
set_option maxHeartbeats 800000 in
theorem ltext_by (x : Vl) (ao : Option Addr) (cap : Nat) (w : World) (hi : Vin x) (hs : SlV w ao x.ll cap) (hT : okX x = true → ∀ w', Fur w w' → Calls Tryz.prog 83 #[vlv x ao cap] w' (RwT w' (texX x))) :
  Calls Tryz.prog 45 #[vlv x ao cap] w (RwT w (texX x)) := by
 obtain ⟨p0, f0⟩ := bx1 w x ao cap
 have HV := Lib.hid (fun w' (hf : Fur w w') => lvalid_any x ao cap w' hi (hs.on hf))
 have HN := Lib.hid (fun (h : okX x = false) => show texX x = [63] by obtain ⟨k, n, d, s, l⟩ := x; unfold texX; rw [if_pos h])
 have HT := Lib.hid (hT)
 clear hi hs hT
 generalize texX x = t at *
 generalize okX x = p at *
 unfold vlv at *
 cases p
 ·have HE := Lib.hid (HN.out rfl)
  go_enter Tryz.func45, Tryz.ntmps45
  go_wp2_with fail
  go_at_call 61; refine (HV.out _ f0).mono ?_; rintro e1 w1 ⟨rfl, f1⟩
  go_wp2
  go_ret
  exact ⟨ret_str (by rw [HE.out]; rfl), (f0.trans f1).w⟩
 ·have HK := Lib.hid (HT.out rfl)
  clear HT HN
  go_enter Tryz.func45, Tryz.ntmps45
  go_wp2_with fail
  go_at_call 61; refine (HV.out _ f0).mono ?_; rintro e1 w1 ⟨rfl, f1⟩
  have q := p0.on f1
  have c0 := q.c0; have c1 := q.c1; have c2 := q.c2; have c3 := q.c3; have c4 := q.c4
  go_wp2_with fail
  go_at_call 83; refine (HK.out _ (f0.trans f1)).mono ?_; rintro e2 w2 ⟨rfl, f2⟩
  go_wp2
  go_ret
  exact ⟨rfl, (f0.trans f1).w.trans f2⟩
theorem ltext_int (n d : Int) (s : List UInt8) (l : List Vl) (hx : okX (.mk 2 n d s l) = true) (h : -1000000000000000 ≤ n ∧ n ≤ 1000000000000000) (ao : Option Addr) (cap : Nat) (w : World) (hi : Vin (.mk 2 n d s l)) (hs : SlV w ao (Vl.mk 2 n d s l).ll cap) (G : Good w) :
  Calls Tryz.prog 45 #[vlv (.mk 2 n d s l) ao cap] w (RwT w (texX (.mk 2 n d s l))) :=
 ltext_by _ ao cap w hi hs fun _ w' hf => by
  rw [tex_of' hx]
  exact ltv2 n d s l ao cap w' h (G.on hf)
end Go.Proofs.YtpamdlkagmlahaaGreatDoor

namespace Go.Proofs.YtpamdlkagmlahaaGreatDoor
open Go
def waitsFor (ops : Array Oper) (i : Nat) : Nat → Nat → Bool
 | 0, j => j == i
 | n + 1, j => j == i || (match ops[j]? with | some o => o.after.any fun e => Region.binds .any e && waitsFor ops i n e.on | none => false)
def Cl (ops : Array Oper) (L : Array Bool) : Prop := ∀ (k : Nat) (o : Oper), ops[k]? = some o → L.getD k false = true → ∀ e ∈ o.after, Region.binds .any e = true → L.getD e.on false = true
def clB (ops : Array Oper) (L : Array Bool) : Bool := (List.range ops.size).all fun k => !L.getD k false || (match ops[k]? with | some o => o.after.all fun e => !Region.binds .any e || L.getD e.on false | none => true)
theorem cl_of {ops : Array Oper} {L : Array Bool} (h : clB ops L = true) : Cl ops L := by
 intro k o ho hk e he hb
 have q := List.all_eq_true.1 h k (List.mem_range.2 (Array.getElem?_eq_some_iff.1 ho).1)
 rw [ho] at q
 simp only [hk, Bool.not_true, Bool.false_or] at q
 have := Array.all_eq_true_iff_forall_mem.1 q e he
 rw [hb] at this
 simpa using this
theorem Cl.set {ops : Array Oper} {L : Array Bool} {j : Nat} (h : Cl ops L) (hj : j ∈ Region.ready .any ops L) : Cl ops (L.setIfInBounds j true) := by
 intro k o ho hk e he hb
 by_cases g : j = k
 ·subst g
  obtain ⟨_, o', ho', ha⟩ := mem_ready.1 hj
  rw [ho] at ho'
  obtain rfl := Option.some.inj ho'
  exact getD_set_true (ha e he hb)
 ·rw [getD_set_ne false g] at hk
  exact getD_set_true (h k o ho hk e he hb)
theorem Cl.back {ops : Array Oper} {L : Array Bool} (h : Cl ops L) {i : Nat} : ∀ (n j : Nat), waitsFor ops i n j = true → L.getD j false = true → L.getD i false = true
 | 0, j, hw, hl => by
  have e : j = i := by simpa [waitsFor] using hw
  rw [← e]; exact hl
 | n + 1, j, hw, hl => by
  unfold waitsFor at hw
  rw [Bool.or_eq_true] at hw
  rcases hw with e | hw
  ·have e : j = i := by simpa using e
   rw [← e]; exact hl
  ·cases ho : ops[j]? with
   | none => rw [ho] at hw; cases hw
   | some o =>
    rw [ho] at hw
    have hw' : (o.after.any fun e => Region.binds .any e && waitsFor ops i n e.on) = true := hw
    obtain ⟨q, hq, hb⟩ := Array.any_eq_true.1 hw'
    rw [Bool.and_eq_true] at hb
    exact h.back n _ hb.2 (h j o ho hl _ (Array.getElem_mem hq) hb.1)
def some1 (N : List Nat) (L : Array Bool) : Bool := N.any fun k => L.getD k false
theorem some1_iff {N : List Nat} {L : Array Bool} : some1 N L = true ↔ ∃ k ∈ N, L.getD k false = true := List.any_eq_true
theorem some1_set {N : List Nat} {L : Array Bool} (i : Nat) (h : some1 N L = true) : some1 N (L.setIfInBounds i true) = true := by
 obtain ⟨k, hk, h⟩ := some1_iff.1 h
 exact some1_iff.2 ⟨k, hk, getD_set_true h⟩
theorem some1_of_set {N : List Nat} {L : Array Bool} {i : Nat} (hi : i ∉ N) (h : some1 N (L.setIfInBounds i true) = true) : some1 N L = true := by
 obtain ⟨k, hk, h⟩ := some1_iff.1 h
 refine some1_iff.2 ⟨k, hk, ?_⟩
 rwa [getD_set_ne false (fun e => hi (by rw [e]; exact hk))] at h
section
variable {P : Program} {ops : Array Oper} {Q : Exit → Act → World → Prop} {S : World → Prop} {N : List Nat}
def Lst (P : Program) (ops : Array Oper) (Q : Exit → Act → World → Prop) (N : List Nat) (S : World → Prop) : Nat → Array Bool → Act → World → Prop
 | 0, L, a, w => Region.ready .any ops L = [] ∧ Q .normal a w
 | n + 1, L, a, w => (Region.ready .any ops L = [] → Q .normal a w) ∧ ∀ i ∈ Region.ready .any ops L, wpOp P ops Q i (fun a' w' => (some1 N (L.setIfInBounds i true) = true ∨ S w') ∧ Lst P ops Q N S n (L.setIfInBounds i true) a' w') a w
theorem Lst.any : ∀ (n : Nat) (L : Array Bool) (a : Act) (w : World), Lst P ops Q N S n L a w → wpAny P .any ops Q n L a w
 | 0, _, _, _, h => h
 | n + 1, _, _, _, h => ⟨h.1, fun i hi => wpOp_mono (fun a' w' k => Lst.any n _ a' w' k.2) (h.2 i hi)⟩
theorem lst_start {id : Nat} {a : Act} {w : World} (N : List Nat) (S : World → Prop) (hm : P.follows .mixedOrders = true) (h : Lst P ops Q N S ops.size (Array.replicate ops.size false) a w.drew) : (Code.region id ops true).wp P Q a w :=
 wp_region_any hm (Lst.any _ _ _ _ h)
theorem lst_done {L : Array Bool} {a : Act} {w : World} (hr : Region.ready .any ops L = []) (h : Q .normal a w) : ∀ n, Lst P ops Q N S n L a w
 | 0 => ⟨hr, h⟩
 | _ + 1 => ⟨fun _ => h, fun i hi => by rw [hr] at hi; cases hi⟩
theorem lst_first {i : Nat} {o : Oper} {v : Value} {S' : World → Prop} (hi : ops[i]? = some o) (hiN : i ∉ N) (hsel : ∀ (j : Nat) (o : Oper) cs b, ops[j]? = some o → o.op ≠ .select cs b)
  (hN : (∀ w, S' w) ∨ ((∀ w, S w → S' w) ∧ ∀ j ∈ N, waitsFor ops i ops.size j = true)) (hQ : ∀ c a w, Q (.panic c) (a.put o.dst v) w → Q (.panic c) a w) (n : Nat) : ∀ (L : Array Bool) (a : Act) (w : World), Cl ops L →
  (∀ j oj, ops[j]? = some oj → j ≠ i → L.getD j true = false → (∀ e ∈ oj.after, Region.binds .any e = true → e.on ≠ i) → o.apart ops oj = true) →
  i ∈ Region.ready .any ops L → YieldsIf P ops S' o v a → S' w → (some1 N L = true ∨ S w) → Lst P ops Q N S n (L.setIfInBounds i true) (a.put o.dst v) w → Lst P ops Q N S (n + 1) L a w := by
 induction n with
 | zero =>
  intro L a w _ _ hr hy hS hD H
  refine ⟨fun e => absurd hr (by rw [e]; simp), fun j hj => ?_⟩
  rcases Nat.decEq j i with g | rfl
  ·exact absurd (ready_mono hj g) (by rw [H.1]; simp)
  ·exact hy.wpOp hi hS ⟨hD.imp (some1_set _) id, H⟩
 | succ n ih =>
  intro L a w hcl hfr hr hy hS hD H
  refine ⟨fun e => absurd hr (by rw [e]; simp), fun j hj => ?_⟩
  rcases Nat.decEq j i with g | rfl
  case isTrue => exact hy.wpOp hi hS ⟨hD.imp (some1_set _) id, H⟩
  obtain ⟨hju, oj, hoj, haf⟩ := mem_ready.1 hj
  have hiu := (mem_ready.1 hr).1
  have hio : ¬ L.getD i false = true := by
   intro q
   rw [Array.getD_eq_getD_getElem?] at hiu q
   cases hq : L[i]? with
   | none => rw [hq] at hiu; cases hiu
   | some b => rw [hq] at hiu q; simp at hiu q; rw [hiu] at q; cases q
  have hno : ∀ e ∈ oj.after, Region.binds .any e = true → e.on ≠ i := fun e he hb k => hio (by have := haf e he hb; rwa [k] at this)
  have hstill : i ∈ Region.ready .any ops (L.setIfInBounds j true) := ready_mono hr (fun k => g k.symm)
  refine wpOp_mono (fun a' w' q => ?_) (wpOp_putIf hoj (hfr j oj hoj g hju hno) (fun cs b => hsel i o cs b hi) (fun cs b => hsel j oj cs b hoj) hQ hy (H.2 j (ready_mono hj g)))
  obtain ⟨hy', hD', H'⟩ := q
  rw [Array.setIfInBounds_comm _ _ (fun k => g k.symm)] at H' hD'
  have hD2 : some1 N (L.setIfInBounds j true) = true ∨ S w' := hD'.imp (some1_of_set hiN) id
  have hSw : S' w' := by
   rcases hN with hN | ⟨hS2, hN⟩
   ·exact hN w'
   ·refine hS2 w' (hD2.resolve_left fun q => ?_)
    obtain ⟨k, hk, hkl⟩ := some1_iff.1 q
    have h2 : (L.setIfInBounds j true).getD i false = true := (hcl.set hj).back ops.size k (hN k hk) hkl
    rw [getD_set_ne false g] at h2
    exact hio h2
  refine ⟨hD2, ih _ a' w' (hcl.set hj) (fun k ok hk hki hun hn => hfr k ok hk hki ?_ hn) hstill hy' hSw hD2 H'⟩
  by_cases e : j = k
  ·subst e; exact hju
  ·rw [getD_set_ne true e] at hun; exact hun
def outN (ops : Array Oper) (i : Nat) (N : List Nat) : Bool := !N.contains i && N.all fun j => waitsFor ops i ops.size j
theorem takeL {i : Nat} {d : Option Tmp} {o : Oper} {v : Value} {n : Nat} {L : Array Bool} {a : Act} {w : World} (hi : ops[i]? = some o) (hd : o.dst = d)
  (hs : Region.noSelect ops = true) (hc : clB ops L = true) (hN : outN ops i N = true) (hf : Region.free .any ops L i = true) (hr : (Region.ready .any ops L).contains i = true)
  (hQ : ∀ c a w, Q (.panic c) (a.put d v) w → Q (.panic c) a w) (hy : YieldsIf P ops S o v a) (hS : S w)
  (h : Lst P ops Q N S n (L.setIfInBounds i true) (a.put d v) w) : Lst P ops Q N S (n + 1) L a w := by
 subst hd
 unfold outN at hN
 rw [Bool.and_eq_true] at hN
 exact lst_first hi (by simpa using hN.1) (Region.noSelect_spec hs) (.inr ⟨fun _ h => h, fun j hj => List.all_eq_true.1 hN.2 j hj⟩) hQ n L a w (cl_of hc) (Region.free_spec hi hf) (by simpa using hr) hy hS (.inr hS) h
theorem takeP {i : Nat} {d : Option Tmp} {o : Oper} {v : Value} {n : Nat} {L : Array Bool} {a : Act} {w : World} (hi : ops[i]? = some o) (hd : o.dst = d)
  (hs : Region.noSelect ops = true) (hc : clB ops L = true) (hN : N.contains i = false) (hf : Region.free .any ops L i = true) (hr : (Region.ready .any ops L).contains i = true)
  (hQ : ∀ c a w, Q (.panic c) (a.put d v) w → Q (.panic c) a w) (hy : YieldsIf P ops (fun _ => True) o v a) (hS : some1 N L = true ∨ S w)
  (h : Lst P ops Q N S n (L.setIfInBounds i true) (a.put d v) w) : Lst P ops Q N S (n + 1) L a w := by
 subst hd
 exact lst_first hi (by simpa using hN) (Region.noSelect_spec hs) (.inl fun _ => trivial) hQ n L a w (cl_of hc) (Region.free_spec hi hf) (by simpa using hr) hy trivial hS h
theorem oneL {i : Nat} {o : Oper} {n : Nat} {L : Array Bool} {a : Act} {w : World} (hi : ops[i]? = some o) (hr : Region.ready .any ops L = [i])
  (h : ∀ K : Act → World → Prop, (∀ a' w', S w' → Lst P ops Q N S n (L.setIfInBounds i true) a' w' → K a' w') → if Region.wanted o (yielded ops a.tmps) = true then Oper.wp P o a w K Q else K (a.put o.dst undef) w) : Lst P ops Q N S (n + 1) L a w := by
 refine ⟨fun e => absurd hr (by rw [e]; simp), fun j hj => ?_⟩
 obtain rfl : j = i := by rw [hr] at hj; simpa using hj
 exact wpOp_step hi fun K hK => h K fun a' w' hS hw => hK a' w' ⟨.inr hS, hw⟩
theorem outL {i : Nat} {o : Oper} {n : Nat} {L : Array Bool} {a : Act} {w : World} (hi : ops[i]? = some o) (hr : Region.ready .any ops L = [i]) (hn : some1 N (L.setIfInBounds i true) = true)
  (h : ∀ K : Act → World → Prop, (∀ a' w', Lst P ops Q N S n (L.setIfInBounds i true) a' w' → K a' w') → if Region.wanted o (yielded ops a.tmps) = true then Oper.wp P o a w K Q else K (a.put o.dst undef) w) : Lst P ops Q N S (n + 1) L a w := by
 refine ⟨fun e => absurd hr (by rw [e]; simp), fun j hj => ?_⟩
 obtain rfl : j = i := by rw [hr] at hj; simpa using hj
 exact wpOp_step hi fun K hK => h K fun a' w' hw => hK a' w' ⟨.inl hn, hw⟩
end
end Go.Proofs.YtpamdlkagmlahaaGreatDoor
