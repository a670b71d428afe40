/-
  AmA; RsM; RsN; RbE; RbM; GrBr: texts of one kind in one file; each part says what it holds.
-/
import Derived.Test.YtpamdlkagmlahaaGreatDoorAlA
import Derived.Test.YtpamdlkagmlahaaGreatDoorK33
import Derived.Test.YtpamdlkagmlahaaGreatDoorGtD
import Derived.Test.YtpamdlkagmlahaaGreatDoorK27
import Derived.Test.YtpamdlkagmlahaaGreatDoorK14
import Derived.Test.YtpamdlkagmlahaaGreatDoorK28
import Derived.Test.YtpamdlkagmlahaaGreatDoorM05
import Derived.Test.YtpamdlkagmlahaaGreatDoorK32
import Derived.Test.YtpamdlkagmlahaaGreatDoorK31
import Derived.Laws.Cover1
import Derived.Laws.MakeOwn
import Derived.Deep.RegionHeld3

namespace Go.Proofs.YtpamdlkagmlahaaGreatDoor
open Go.RowKit
theorem Bk.g4 {w : World} {B : Nat} {cs : Array Value} {t : TypeId} (h : Bk w B cs t) : w.cell? ⟨B, 0, none⟩ = cs[0]? ∧ w.cell? ⟨B, 1, none⟩ = cs[1]? ∧ w.cell? ⟨B, 2, none⟩ = cs[2]? ∧ w.cell? ⟨B, 3, none⟩ = cs[3]? := ⟨h.c 0, h.c 1, h.c 2, h.c 3⟩
theorem Bk.f4 {w : World} {B : Nat} {cs : Array Value} {t : TypeId} (h : Bk w B cs t) : w.frozen? ⟨B, 0, none⟩ = false ∧ w.frozen? ⟨B, 1, none⟩ = false ∧ w.frozen? ⟨B, 2, none⟩ = false ∧ w.frozen? ⟨B, 3, none⟩ = false := ⟨h.f 0, h.f 1, h.f 2, h.f 3⟩
theorem Bk.ch {w : World} {B k : Nat} {c : Ch} {a : Option Addr} {t : TypeId} (h : Bk w B (chC c a k) t) : w.cell? ⟨B, 0, none⟩ = some (.int .i64 c.op) ∧ w.cell? ⟨B, 1, none⟩ = some (.int .i64 c.id) ∧ w.cell? ⟨B, 2, none⟩ = some (.int .i64 c.fr) ∧ w.cell? ⟨B, 3, none⟩ = some (.int .i64 c.tt) ∧ w.cell? ⟨B, 4, none⟩ = some (.string (bs c.nm)) ∧ w.cell? ⟨B, 5, none⟩ = some (.int .i64 c.v.kd) ∧ w.cell? ⟨B, 6, none⟩ = some (.int .i64 c.v.nn) ∧ w.cell? ⟨B, 7, none⟩ = some (.int .i64 c.v.dd) ∧ w.cell? ⟨B, 8, none⟩ = some (.string (bs c.v.ss)) ∧ w.cell? ⟨B, 9, none⟩ = some (.slice a c.v.ll.length k) := ⟨h.c 0, h.c 1, h.c 2, h.c 3, h.c 4, h.c 5, h.c 6, h.c 7, h.c 8, h.c 9⟩
structure Fux (B : Nat) (w w' : World) : Prop where
 os : w'.os = w.os
 tape : w'.tape = w.tape
 output : w'.output = w.output
 size : w.heap.size ≤ w'.heap.size
 block : ∀ k, k < w.heap.size → k ≠ B → w'.heap[k]? = w.heap[k]?
theorem Fux.of {B : Nat} {a b : World} (h : Fuw a b) : Fux B a b := ⟨h.os, h.tape, h.output, h.size, fun k hk _ => h.block k hk⟩
theorem Fux.trans {B : Nat} {a b c : World} (h : Fux B a b) (k : Fux B b c) : Fux B a c :=
 ⟨k.os.trans h.os, k.tape.trans h.tape, k.output.trans h.output, Nat.le_trans h.size k.size, fun i hi hb => (k.block i (Nat.lt_of_lt_of_le hi h.size) hb).trans (h.block i hi hb)⟩
theorem Fux.set {B : Nat} {a b : World} (h : Fux B a b) (j : Nat) (u : Value) : Fux B a (b.setCell ⟨B, j, none⟩ u) :=
 h.trans ⟨rfl, rfl, rfl, (by simp [World.setCell]), fun k _ hb => Below.heap_setCell b ⟨B, j, none⟩ u k hb⟩
theorem Fux.via {B : Nat} {w a b : World} (h : Fuw w a) (k : Fux B a b) (hB : w.heap.size ≤ B) : Fuw w b :=
 ⟨k.os.trans h.os, k.tape.trans h.tape, k.output.trans h.output, Nat.le_trans h.size k.size, fun i hi => (k.block i (Nat.lt_of_lt_of_le hi h.size) (by omega)).trans (h.block i hi)⟩
def StG (B : Nat) (wr : World) (g : Gr) (an ae : Option Addr) (cn ce : Nat) : Prop := ∀ w', Fux B wr w' → GIn w' g an ae cn ce
theorem StG.on {B : Nat} {a b : World} {g : Gr} {an ae : Option Addr} {cn ce : Nat} (h : StG B a g an ae cn ce) (f : Fux B a b) : StG B b g an ae cn ce := fun w' f' => h w' (f.trans f')
theorem StG.now {B : Nat} {a : World} {g : Gr} {an ae : Option Addr} {cn ce : Nat} (h : StG B a g an ae cn ce) : GIn a g an ae cn ce := h a (Fux.of (Fuw.refl a))
theorem stg_own {B base : Nat} {w wr : World} {G : Gp} {an ae : Option Addr} {ln le cn ce : Nat} (h : GOwn w wr base G) (hb : B < base) (hB : w.heap.size ≤ B) (e1 : G.vn = .slice an ln cn) (e2 : G.ve = .slice ae le ce) : StG B wr G.gr an ae cn ce := by
 intro w' f
 refine gin_at (w0 := w) (base := base) ?_ e1 e2
 refine ⟨⟨fun r hr => own_heap (h.rows.own r hr) fun g hg => ?_, h.rows.apart⟩, h.no, h.eo, h.i1, h.i2, f.via h.fu hB, h.lo⟩
 have q := h.rows.shut (blks_mem.2 ⟨r, hr, hg⟩)
 exact f.block g q.2 (by omega)
theorem pm_reb {w1 w : World} {pm : List (Pp × AC)} (h : PmOk w1 pm) (hl : ∀ p ∈ pm.map Prod.fst, p.v.ll = []) : PmOk w pm := fun p hp => by
 refine ⟨(h p hp).1, ?_⟩
 have q := (h p hp).2
 have e := hl p.1 (List.mem_map_of_mem hp)
 rw [e] at q ⊢
 exact slv_nil q
theorem gown_reb {w1 w2 w : World} {base : Nat} {G : Gp} (h : GOwn w1 w2 base G) (hf : Fine G.gr) (f : Fuw w w2) (hb : w.heap.size ≤ base) : GOwn w w2 base G := by
 refine ⟨h.rows, fun x hx => ?_, fun x hx => ?_, h.i1, h.i2, f, hb⟩
 ·have q := h.no x hx
  exact ⟨q.i, q.l, pm_reb q.p fun p hp => pln_ll ((hf.nf x.nd (List.mem_map_of_mem hx)).p.pv p hp)⟩
 ·have q := h.eo x hx
  exact ⟨q.i, q.f, q.t, q.y, pm_reb q.p fun p hp => pln_ll ((hf.ef x.ed (List.mem_map_of_mem hx)).p.pv p hp)⟩
theorem RetAp.st {w0 w w' : World} {B : Nat} {g : Gr} {l : List Ch} {e : Ending} (h : RetAp w0 w g l e w') (hB : w0.heap.size ≤ B) (hb : B < w.heap.size) :
  ∃ bn be dn de, e = .returned (.tuple #[grv (appG g l) bn be dn de, .int .i64 ((appE g l).1 : Int), .int .i64 (appE g l).2]) ∧ StG B w' (appG g l) bn be dn de ∧ Fuw w w' := by
 obtain ⟨G, base, rfl, hgr, hown, hbs, hf⟩ := h
 obtain ⟨bn, be, dn, de, e1, e2, -⟩ := hown.gin
 have hl1 : (appG g l).ns.length = G.ns.length := by rw [← hgr]; unfold Gp.gr; simp
 have hl2 : (appG g l).es.length = G.es.length := by rw [← hgr]; unfold Gp.gr; simp
 have hx1 : (appG g l).nn = G.nn := by rw [← hgr]; rfl
 have hx2 : (appG g l).ne = G.ne := by rw [← hgr]; rfl
 have hs := stg_own hown (B := B) (by omega) hB e1 e2
 rw [hgr] at hs
 exact ⟨bn, be, dn, de, by unfold grv; rw [e1, e2, hl1, hl2, hx1, hx2], hs, hf⟩
def StH (w : World) (lo : Nat) (w2 : World) (g : Gr) (an ae : Option Addr) (cn ce : Nat) : Prop := ∀ w', Fuw w w' → w2.heap.size ≤ w'.heap.size → (∀ k, lo ≤ k → k < w2.heap.size → w'.heap[k]? = w2.heap[k]?) → GIn w' g an ae cn ce
theorem StH.g {w w2 Y : World} {lo B : Nat} {g : Gr} {an ae : Option Addr} {cn ce : Nat} (h : StH w lo w2 g an ae cn ce) (f : Fuw w Y) (hs : w2.heap.size ≤ Y.heap.size) (hk : ∀ k, lo ≤ k → k < w2.heap.size → Y.heap[k]? = w2.heap[k]?) (hb : B < lo) (hB : w.heap.size ≤ B) : StG B Y g an ae cn ce := fun w' f' =>
 h w' (f'.via f hB) (Nat.le_trans hs f'.size) fun k h1 h2 => (f'.block k (Nat.lt_of_lt_of_le h2 hs) (by omega)).trans (hk k h1 h2)
theorem sth_own {lo base : Nat} {w wr : World} {G : Gp} {an ae : Option Addr} {ln le cn ce : Nat} (h : GOwn w wr base G) (hb : lo ≤ base) (e1 : G.vn = .slice an ln cn) (e2 : G.ve = .slice ae le ce) : StH w lo wr G.gr an ae cn ce := by
 intro w' f hs hk
 refine gin_at (w0 := w) (base := base) ?_ e1 e2
 refine ⟨⟨fun r hr => own_heap (h.rows.own r hr) fun g hg => ?_, h.rows.apart⟩, h.no, h.eo, h.i1, h.i2, f, h.lo⟩
 have q := h.rows.shut (blks_mem.2 ⟨r, hr, hg⟩)
 exact hk g (by omega) q.2
theorem RetA2.st {w0 w w' : World} {g : Gr} {c : Ch} {e : Ending} (h : RetA2 w g c e w') (h0 : Fuw w0 w) :
  ∃ bn be dn de, e = .returned (.tuple #[grv (appG g [c]) bn be dn de, .int .i64 (appE g [c]).2]) ∧ (Fine (appG g [c]) → StH w0 w.heap.size w' (appG g [c]) bn be dn de) ∧ Fuw w w' := by
 obtain ⟨G, base, rfl, hgr, hown, hbs, hf⟩ := h
 obtain ⟨bn, be, dn, de, e1, e2, -⟩ := hown.gin
 have hl1 : (appG g [c]).ns.length = G.ns.length := by rw [← hgr]; unfold Gp.gr; simp
 have hl2 : (appG g [c]).es.length = G.es.length := by rw [← hgr]; unfold Gp.gr; simp
 have hx1 : (appG g [c]).nn = G.nn := by rw [← hgr]; rfl
 have hx2 : (appG g [c]).ne = G.ne := by rw [← hgr]; rfl
 refine ⟨bn, be, dn, de, by unfold grv; rw [e1, e2, hl1, hl2, hx1, hx2], fun hfi => ?_, hf⟩
 rw [← hgr] at hfi
 have hs := sth_own (gown_reb hown hfi (h0.trans hf) (by have := h0.size; omega)) (lo := w.heap.size) (Nat.le_of_lt hbs) e1 e2
 rw [hgr] at hs
 exact hs
theorem app_one {g : Gr} {c : Ch} (hf : Fine g) : (appE g [c]).2 = stpE g c ∧ (stpE g c = 0 → appG g [c] = stpG g c) := by
 have h0 : (appE g [c]).2 = stpE g c := by
  unfold appE
  rw [if_pos ((fine_iff g).2 hf)]
  unfold allE
  by_cases q : stpE g c = 0
  ·rw [if_pos q, q]; rfl
  ·rw [if_neg q]
 refine ⟨h0, fun q => ?_⟩
 unfold appG
 rw [if_pos (h0.trans q)]
 rfl
theorem app_chk {g : Gr} {l : List Ch} (h : ¬ chkV g = 0) : appE g l = (0, chkV g) ∧ appG g l = zerG := by
 have e : appE g l = (0, chkV g) := by unfold appE; rw [if_neg h]
 exact ⟨e, by unfold appG; rw [e]; exact if_neg h⟩
end Go.Proofs.YtpamdlkagmlahaaGreatDoor

namespace Go.Proofs.YtpamdlkagmlahaaGreatDoor
def Pr (g h : Gr) : Prop := g.ns = h.ns ∧ g.es = h.es
theorem Pr.symm {g h : Gr} (p : Pr g h) : Pr h g := ⟨p.1.symm, p.2.symm⟩
theorem Pr.trans {g h k : Gr} (p : Pr g h) (q : Pr h k) : Pr g k := ⟨p.1.trans q.1, p.2.trans q.2⟩
theorem set_same {α : Type} {l : List α} {k : Nat} (hk : k < l.length) {x : α} (h : l[k] = x) : l.set k x = l := by
 subst h; exact List.set_getElem_self hk
theorem atI_cons (y : Int) (r : List Int) (x : Int) : atI (y :: r) x = if y < x then atI r x + 1 else 0 := rfl
end Go.Proofs.YtpamdlkagmlahaaGreatDoor

namespace Go.Proofs.YtpamdlkagmlahaaGreatDoor
theorem mod_set2 {α : Type} (l : List α) (k : Nat) (y : α) (f : α → α) (h : k < l.length) : (l.set k y).modify k f = l.set k (f y) := by
 rw [mod_set _ k f (by rw [List.length_set]; exact h), List.getElem_set_self, List.set_set]
theorem pw_ids {α : Type} {f : α → Int} {l m : List α} (h : l.map f = m.map f) (p : l.Pairwise fun a b => f a < f b) : m.Pairwise fun a b => f a < f b := by
 have q := List.pairwise_map.2 p
 have q2 : (m.map f).Pairwise (· < ·) := by rw [← h]; exact q
 exact List.pairwise_map.1 q2
def putN (g : Gr) (k : Nat) (y : Nd) : Gr := { g with ns := g.ns.set k y }
def putE (g : Gr) (k : Nat) (y : Ed) : Gr := { g with es := g.es.set k y }
structure AtN (g : Gr) (id : Int) (k : Nat) : Prop where
 pw : g.ns.Pairwise fun a b => a.id < b.id
 at_ : atI (nidsV g.ns) id = k
 lt : k < g.ns.length
 i : (g.ns[k]'lt).id = id
structure AtE (g : Gr) (id : Int) (k : Nat) : Prop where
 pw : g.es.Pairwise fun a b => a.id < b.id
 at_ : atI (eidsV g.es) id = k
 lt : k < g.es.length
 i : (g.es[k]'lt).id = id
theorem nod_put {g : Gr} {id : Int} {k : Nat} {y : Nd} (h : AtN g id k) (hy : y.id = id) : nodV (g.ns.set k y) id = some y ∧ atI (nidsV (g.ns.set k y)) id = k := by
 have hids : nidsV (g.ns.set k y) = nidsV g.ns := set_ids Nd.id h.lt (hy.trans h.i.symm)
 have ha : atI (nidsV (g.ns.set k y)) id = k := by rw [hids]; exact h.at_
 refine ⟨?_, ha⟩
 rcases at_nod (x := id) (pw_ids (f := Nd.id) hids.symm h.pw) with ⟨-, hl, e1, -⟩ | ⟨hn, -⟩
 ·have q := List.getElem?_eq_getElem hl
  rw [← e1, ha, List.getElem?_set_self h.lt] at q
  exact q.symm
 ·exfalso
  have : hasN (g.ns.set k y) id = true := hasN_ids.2 (by rw [hids, ← h.i]; exact List.mem_map_of_mem (List.getElem_mem h.lt))
  rw [hn] at this; cases this
theorem edg_put {g : Gr} {id : Int} {k : Nat} {y : Ed} (h : AtE g id k) (hy : y.id = id) : edgV (g.es.set k y) id = some y ∧ atI (eidsV (g.es.set k y)) id = k := by
 have hids : eidsV (g.es.set k y) = eidsV g.es := set_ids Ed.id h.lt (hy.trans h.i.symm)
 have ha : atI (eidsV (g.es.set k y)) id = k := by rw [hids]; exact h.at_
 refine ⟨?_, ha⟩
 rcases at_edg (x := id) (pw_ids (f := Ed.id) hids.symm h.pw) with ⟨-, hl, e1, -⟩ | ⟨hn, -⟩
 ·have q := List.getElem?_eq_getElem hl
  rw [← e1, ha, List.getElem?_set_self h.lt] at q
  exact q.symm
 ·exfalso
  have : hasE (g.es.set k y) id = true := hasE_ids.2 (by rw [hids, ← h.i]; exact List.mem_map_of_mem (List.getElem_mem h.lt))
  rw [hn] at this; cases this
theorem at_n {g : Gr} {id : Int} {n : Nd} (h : Fine g) (hn : nodV g.ns id = some n) : ∃ k, AtN g id k ∧ putN g k n = g ∧ n ∈ g.ns ∧ n.id = id := by
 rcases at_nod (x := id) h.pn with ⟨-, hl, e1, e2⟩ | ⟨-, e⟩
 ·have en : g.ns[atI (nidsV g.ns) id] = n := Option.some.inj (e1.symm.trans hn)
  refine ⟨_, ⟨h.pn, rfl, hl, e2⟩, ?_, by rw [← en]; exact List.getElem_mem hl, by rw [← en]; exact e2⟩
  unfold putN
  rw [set_same hl en]
 ·rw [hn] at e; cases e
theorem at_e {g : Gr} {id : Int} {n : Ed} (h : Fine g) (hn : edgV g.es id = some n) : ∃ k, AtE g id k ∧ putE g k n = g ∧ n ∈ g.es ∧ n.id = id := by
 rcases at_edg (x := id) h.pe with ⟨-, hl, e1, e2⟩ | ⟨-, e⟩
 ·have en : g.es[atI (eidsV g.es) id] = n := Option.some.inj (e1.symm.trans hn)
  refine ⟨_, ⟨h.pe, rfl, hl, e2⟩, ?_, by rw [← en]; exact List.getElem_mem hl, by rw [← en]; exact e2⟩
  unfold putE
  rw [set_same hl en]
 ·rw [hn] at e; cases e
def Nop (op : Int) : Prop := op = 3 ∨ op = 4 ∨ op = 5
def nE (c : Ch) (n : Nd) : Int :=
 if c.op = 3 then (if hasS n.ls c.nm = true then 7 else if 8 ≤ n.ls.length then 20 else 0)
 else if c.op = 4 then (if hasS n.ls c.nm = true then 0 else 23)
 else setE n.ps c.nm c.v
def nG (c : Ch) (n : Nd) : Nd :=
 if c.op = 3 then { n with ls := insA n.ls (atS n.ls c.nm) c.nm }
 else if c.op = 4 then { n with ls := delA n.ls (atS n.ls c.nm) }
 else { n with ps := setP n.ps c.nm c.v }
theorem nG_id (c : Ch) (n : Nd) : (nG c n).id = n.id := by
 unfold nG
 split
 ·rfl
 ·split <;> rfl
theorem step_put {g : Gr} {id : Int} {k : Nat} {y : Nd} {c : Ch} (h : AtN g id k) (hy : y.id = id) (ho : Nop c.op) (hc : chkC c = 0) (hid : c.id = id) : stpE (putN g k y) c = nE c y ∧ stpG (putN g k y) c = putN g k (nG c y) := by
 obtain ⟨h1, h2⟩ := nod_put h hy
 have o1 : c.op ≠ 1 := by unfold Nop at ho; omega
 have o6 : c.op ≠ 6 := by unfold Nop at ho; omega
 have o7 : c.op ≠ 7 := by unfold Nop at ho; omega
 have o8 : c.op ≠ 8 := by unfold Nop at ho; omega
 constructor
 ·unfold stpE
  rw [if_neg (fun q => q hc), if_neg o1, if_neg o6, if_neg (fun q => q.elim o7 o8), hid]
  show (match nodV (g.ns.set k y) id with | none => 10 | some n => nerr (putN g k y) c n) = nE c y
  rw [h1]
  show nerr (putN g k y) c y = nE c y
  unfold nerr nE
  rcases ho with o | o | o
  ·rw [if_pos o, if_pos o]
  ·have n3 : ¬ c.op = 3 := by omega
   rw [if_neg n3, if_pos o, if_neg n3, if_pos o]
  ·have n3 : ¬ c.op = 3 := by omega
   have n4 : ¬ c.op = 4 := by omega
   rw [if_neg n3, if_neg n4, if_pos o, if_neg n3, if_neg n4]
 ·unfold stpG
  rw [if_neg o1, if_neg o6, if_neg o8, if_neg o7]
  unfold nedi nG ediN putN
  simp only [hid, h2]
  rcases ho with o | o | o
  ·rw [if_pos o, if_pos o, mod_set2 _ _ _ _ h.lt]
  ·rw [if_neg (by omega), if_pos o, if_neg (by omega), if_pos o, mod_set2 _ _ _ _ h.lt]
  ·rw [if_neg (by omega), if_neg (by omega), if_pos o, if_neg (by omega), if_neg (by omega), mod_set2 _ _ _ _ h.lt]
theorem step_pute {g : Gr} {id : Int} {k : Nat} {y : Ed} {c : Ch} (h : AtE g id k) (hy : y.id = id) (ho : c.op = 8) (hc : chkC c = 0) (hid : c.id = id) : stpE (putE g k y) c = setE y.ps c.nm c.v ∧ stpG (putE g k y) c = putE g k { y with ps := setP y.ps c.nm c.v } := by
 obtain ⟨h1, h2⟩ := edg_put h hy
 have o1 : c.op ≠ 1 := by omega
 have o6 : c.op ≠ 6 := by omega
 constructor
 ·unfold stpE
  rw [if_neg (fun q => q hc), if_neg o1, if_neg o6, if_pos (.inr ho), hid]
  show (match edgV (g.es.set k y) id with | none => 11 | some e => if c.op = 8 then setE e.ps c.nm c.v else 0) = _
  rw [h1]
  show (if c.op = 8 then setE y.ps c.nm c.v else 0) = _
  rw [if_pos ho]
 ·unfold stpG
  rw [if_neg o1, if_neg o6, if_pos ho]
  unfold ediE putE
  simp only [hid, h2]
  rw [mod_set2 _ _ _ _ h.lt]
end Go.Proofs.YtpamdlkagmlahaaGreatDoor

namespace Go.Proofs.YtpamdlkagmlahaaGreatDoor
open Go.RowKit
theorem cell_fux {B b o : Nat} {w X : World} {u : Value} (f : Fux B w X) (hb : b ≠ B) (h : w.cell? ⟨b, o, none⟩ = some u) : X.cell? ⟨b, o, none⟩ = some u := by
 have hlt : b < w.heap.size := by
  unfold World.cell? at h
  simp only at h
  cases hh : w.heap[b]? with
  | none => rw [hh] at h; cases h
  | some x => exact (Array.getElem?_eq_some_iff.1 hh).1
 have e := f.block b hlt hb
 unfold World.cell? at h ⊢
 simp only at h ⊢
 rw [e]; exact h
def NoP (cs : Array Value) : Prop := ∀ (o : Nat) (s : ByteArray) (n : Int), ¬ (cs[o]? = some (.string s) ∧ cs[o + 1]? = some (.int .i64 n))
def NoS (cs : Array Value) : Prop := ∀ (o : Nat) (s : ByteArray), cs[o]? ≠ some (.string s)
theorem NoS.p {cs : Array Value} (h : NoS cs) : NoP cs := fun o s _ q => h o s q.1
section
variable {B : Nat} {w X : World} {cs : Array Value} {t : TypeId} (hB : Bk w B cs t) (f : Fux B w X)
include hB
theorem s_ne (hs : NoS cs) {b o : Nat} {s : ByteArray} (h : w.cell? ⟨b, o, none⟩ = some (.string s)) : b ≠ B := by
 rintro rfl
 rw [hB.c] at h
 exact hs o s h
theorem p_ne (hs : NoP cs) {b o : Nat} {s : ByteArray} {n : Int} (h : w.cell? ⟨b, o, none⟩ = some (.string s)) (h' : w.cell? ⟨b, o + 1, none⟩ = some (.int .i64 n)) : b ≠ B := by
 rintro rfl
 rw [hB.c] at h h'
 exact hs o s n ⟨h, h'⟩
include f
theorem slS_fux (hs : NoS cs) {ao : Option Addr} {l : List (List UInt8)} {cap : Nat} (h : SlS w ao l cap) : SlS X ao l cap := h.onP fun _ _ _ k => ⟨k.1, cell_fux f (s_ne hB hs k.2) k.2⟩
theorem pC_fux (hs : NoP cs) {p : Pp} {b o : Nat} (hl : p.v.ll = []) (h : PC w p b o) : PC X p b o := by
 obtain ⟨h1, h2, h3⟩ := h
 obtain ⟨hi, c1, c2, c3, c4, a, k, c5, -⟩ := VC_of h3
 have hb := p_ne hB hs h2 c1
 exact ⟨h1, cell_fux f hb h2, VC_mk hi (cell_fux f hb c1) (cell_fux f hb c2) (cell_fux f hb c3) (cell_fux f hb c4) (cell_fux f hb c5) (by
  obtain ⟨hi', -, -, -, -, a', k', c5', hs'⟩ := VC_of h3
  rw [c5] at c5'
  have e := Option.some.inj c5'
  injection e with e1 _ e2
  subst e1 e2
  rw [hl] at hs' ⊢
  exact slv_nil hs')⟩
theorem slP_fux (hs : NoP cs) {ao : Option Addr} {l : List Pp} {cap : Nat} (hl : ∀ p ∈ l, p.v.ll = []) (h : SlP w ao l cap) : SlP X ao l cap :=
 ⟨h.le, h.max, h.nil, fun hp => by obtain ⟨b, o, e, he⟩ := h.at_ hp; exact ⟨b, o, e, fun i hi => pC_fux hB f hs (hl _ (List.getElem_mem hi)) (he i hi)⟩⟩
end
structure Flat (g : Gr) : Prop where
 n : ∀ x ∈ g.ns, ∀ p ∈ x.ps, p.v.ll = []
 e : ∀ x ∈ g.es, ∀ p ∈ x.ps, p.v.ll = []
theorem Fine.flat {g : Gr} (h : Fine g) : Flat g := ⟨fun x hx p hp => pln_ll ((h.nf x hx).p.pv p hp), fun x hx p hp => pln_ll ((h.ef x hx).p.pv p hp)⟩
theorem zerG_flat : Flat zerG := ⟨(fun _ h => by cases h), (fun _ h => by cases h)⟩
theorem box_noS (an ae : Option Addr) (l1 l2 cn ce : Nat) (x y : Int) : NoS #[.slice an l1 cn, .slice ae l2 ce, .int .i64 x, .int .i64 y] := fun o s h => by
 rcases o with _ | _ | _ | _ | o
 ·cases h
 ·cases h
 ·cases h
 ·cases h
 ·rw [Array.getElem?_eq_none (by simp)] at h; cases h
theorem nod_noS (x : Int) (a p : Option Addr) (l1 l2 k1 k2 : Nat) : NoS #[.int .i64 x, .slice a l1 k1, .slice p l2 k2] := fun o s h => by
 rcases o with _ | _ | _ | o
 ·cases h
 ·cases h
 ·cases h
 ·rw [Array.getElem?_eq_none (by simp)] at h; cases h
theorem edg_noP (x y z : Int) (s : ByteArray) (p : Option Addr) (l k : Nat) : NoP #[.int .i64 x, .int .i64 y, .int .i64 z, .string s, .slice p l k] := fun o s n h => by
 rcases o with _ | _ | _ | _ | o
 ·cases h.1
 ·cases h.1
 ·cases h.1
 ·cases h.2
 ·have h2 := h.2
  rw [Array.getElem?_eq_none (by simp)] at h2; cases h2
theorem gin_fux {B : Nat} {w X : World} {g : Gr} {an ae ax ay : Option Addr} {cn ce l1 l2 k1 k2 : Nat} {x y : Int} {t : TypeId} (hB : Bk w B #[.slice ax l1 k1, .slice ay l2 k2, .int .i64 x, .int .i64 y] t) (hg : GIn w g an ae cn ce) (hf : Flat g) (f : Fux B w X) : GIn X g an ae cn ce := by
 have hns := box_noS ax ay l1 l2 k1 k2 x y
 refine ⟨⟨hg.n.le, hg.n.max, hg.n.nil, fun hp => ?_⟩, ⟨hg.e.le, hg.e.max, hg.e.nil, fun hp => ?_⟩, hg.i1, hg.i2⟩
 ·obtain ⟨b, o, e, he⟩ := hg.n.at_ hp
  refine ⟨b, o, e, fun i hi => ?_⟩
  obtain ⟨h1, h2, ⟨a, c, h3, h4⟩, a', c', h5, h6⟩ := he i hi
  have hb : b ≠ B := by
   rintro rfl
   rw [hB.c] at h2 h3
   generalize o + i * 3 = q at h2 h3
   rcases q with _ | _ | _ | _ | q
   ·cases h2
   ·cases h2
   ·cases h3
   ·rw [Array.getElem?_eq_none (by simp)] at h3; cases h3
   ·rw [Array.getElem?_eq_none (by simp)] at h2; cases h2
  exact ⟨h1, cell_fux f hb h2, ⟨a, c, cell_fux f hb h3, slS_fux hB f hns h4⟩, a', c', cell_fux f hb h5, slP_fux hB f hns.p (hf.n _ (List.getElem_mem hi)) h6⟩
 ·obtain ⟨b, o, e, he⟩ := hg.e.at_ hp
  refine ⟨b, o, e, fun i hi => ?_⟩
  obtain ⟨h1, h2, h3, h4, c0, c1, c2, c3, a, c, c4, h5⟩ := he i hi
  have hb := s_ne hB hns c3
  exact ⟨h1, h2, h3, h4, cell_fux f hb c0, cell_fux f hb c1, cell_fux f hb c2, cell_fux f hb c3, a, c, cell_fux f hb c4, slP_fux hB f hns.p (hf.e _ (List.getElem_mem hi)) h5⟩
theorem fux_set4 {B : Nat} (w : World) (u0 u1 u2 u3 : Value) : Fux B w ((((w.setCell ⟨B, 0, none⟩ u0).setCell ⟨B, 1, none⟩ u1).setCell ⟨B, 2, none⟩ u2).setCell ⟨B, 3, none⟩ u3) :=
 ((((Fux.of (Fuw.refl w)).set 0 u0).set 1 u1).set 2 u2).set 3 u3
theorem zerG_in (w : World) : GIn w zerG none none 0 0 := ⟨Sl.empty _, Sl.empty _, ⟨by decide, by decide⟩, ⟨by decide, by decide⟩⟩
def RetSt (w : World) (E : Int) (T : Gr) (e : Ending) (w' : World) : Prop := ∃ an ae cn ce, e = .returned (.tuple #[grv T an ae cn ce, .int .i64 E]) ∧ GIn w' T an ae cn ce ∧ Fuw w w'
end Go.Proofs.YtpamdlkagmlahaaGreatDoor

namespace Go.Proofs.YtpamdlkagmlahaaGreatDoor
def putA {α : Type} (f : α → Int) (y : α) : Bool → List α → List α
 | d, [] => if d = true then [] else [y]
 | d, x :: r => (if d = false ∧ f y ≤ f x then [y] else []) ++ ((if f x = f y then [] else [x]) ++ putA f y (d || decide (f y ≤ f x)) r)
theorem putA_done {α : Type} (f : α → Int) (y : α) : ∀ l : List α, (∀ x ∈ l, f y < f x) → putA f y true l = l
 | [], _ => rfl
 | x :: r, h => by
  have h0 := h x (List.mem_cons_self ..)
  show (if true = false ∧ f y ≤ f x then [y] else []) ++ ((if f x = f y then [] else [x]) ++ putA f y (true || decide (f y ≤ f x)) r) = x :: r
  rw [if_neg (fun q => by cases q.1), if_neg (by omega), Bool.true_or, putA_done f y r fun z hz => h z (List.mem_cons_of_mem _ hz)]
  rfl
theorem putA_cons {α : Type} (f : α → Int) (y x : α) (r : List α) : putA f y false (x :: r) = (if f y ≤ f x then [y] else []) ++ ((if f x = f y then [] else [x]) ++ putA f y (decide (f y ≤ f x)) r) := by
 show (if false = false ∧ f y ≤ f x then [y] else []) ++ ((if f x = f y then [] else [x]) ++ putA f y (false || decide (f y ≤ f x)) r) = _
 rw [Bool.false_or]
 by_cases h : f y ≤ f x
 ·rw [if_pos ⟨rfl, h⟩, if_pos h]
 ·rw [if_neg (fun q => h q.2), if_neg h]
theorem putA_set {α : Type} (f : α → Int) (y : α) : ∀ {l : List α}, (l.Pairwise fun a b => f a < f b) → f y ∈ l.map f → putA f y false l = l.set (atI (l.map f) (f y)) y
 | [], _, h => by cases h
 | x :: r, hp, h => by
  have hp' := List.pairwise_cons.1 hp
  rw [putA_cons, List.map_cons, atI_cons]
  rw [List.map_cons, List.mem_cons] at h
  by_cases q : f x < f y
  ·rw [if_neg (by omega), if_neg (by omega), if_pos q, decide_eq_false (by omega), putA_set f y hp'.2 (h.resolve_left (by omega))]
   rfl
  ·rw [if_pos (by omega), if_neg q, decide_eq_true (by omega)]
   have e : f x = f y := by
    rcases h with h | h
    ·exact h.symm
    ·obtain ⟨z, hz, ez⟩ := List.mem_map.1 h
     have := hp'.1 z hz
     omega
   rw [if_pos e, putA_done f y r fun z hz => by have := hp'.1 z hz; omega]
   rfl
theorem putA_ins {α : Type} (f : α → Int) (y : α) : ∀ {l : List α}, (l.Pairwise fun a b => f a < f b) → f y ∉ l.map f → putA f y false l = insA l (atI (l.map f) (f y)) y
 | [], _, _ => rfl
 | x :: r, hp, h => by
  have hp' := List.pairwise_cons.1 hp
  rw [putA_cons, List.map_cons, atI_cons]
  rw [List.map_cons, List.mem_cons, not_or] at h
  by_cases q : f x < f y
  ·rw [if_neg (by omega), if_neg (by omega), if_pos q, decide_eq_false (by omega), putA_ins f y hp'.2 h.2]
   rfl
  ·have e : f x ≠ f y := fun e => h.1 e.symm
   rw [if_pos (by omega), if_neg q, decide_eq_true (by omega), if_neg e, putA_done f y r fun z hz => by have := hp'.1 z hz; omega]
   rfl
theorem putA_drop {α : Type} (f : α → Int) (y : α) (d : Bool) (l : List α) (i : Nat) (h : i < l.length) : putA f y d (l.drop i) = (if d = false ∧ f y ≤ f l[i] then [y] else []) ++ ((if f l[i] = f y then [] else [l[i]]) ++ putA f y (d || decide (f y ≤ f l[i])) (l.drop (i + 1))) := by
 rw [List.drop_eq_getElem_cons h]; rfl
def butA {α : Type} (f : α → Int) (x : Int) : List α → List α
 | [] => []
 | y :: r => (if f y = x then [] else [y]) ++ butA f x r
theorem butA_all {α : Type} (f : α → Int) (x : Int) : ∀ l : List α, (∀ y ∈ l, f y ≠ x) → butA f x l = l
 | [], _ => rfl
 | y :: r, h => by
  show (if f y = x then [] else [y]) ++ butA f x r = _
  rw [if_neg (h y (List.mem_cons_self ..)), butA_all f x r fun z hz => h z (List.mem_cons_of_mem _ hz)]
  rfl
theorem butA_del {α : Type} (f : α → Int) (x : Int) : ∀ {l : List α}, (l.Pairwise fun a b => f a < f b) → x ∈ l.map f → butA f x l = delA l (atI (l.map f) x)
 | [], _, h => by cases h
 | y :: r, hp, h => by
  have hp' := List.pairwise_cons.1 hp
  show (if f y = x then [] else [y]) ++ butA f x r = _
  rw [List.map_cons, atI_cons]
  rw [List.map_cons, List.mem_cons] at h
  by_cases q : f y < x
  ·rw [if_neg (by omega), if_pos q, butA_del f x hp'.2 (h.resolve_left (by omega))]
   rfl
  ·rw [if_neg q]
   have e : f y = x := by
    rcases h with h | h
    ·exact h.symm
    ·obtain ⟨z, hz, ez⟩ := List.mem_map.1 h
     have := hp'.1 z hz
     omega
   rw [if_pos e, butA_all f x r fun z hz => by have := hp'.1 z hz; omega]
   rfl
theorem butA_drop {α : Type} (f : α → Int) (x : Int) (l : List α) (i : Nat) (h : i < l.length) : butA f x (l.drop i) = (if f l[i] = x then [] else [l[i]]) ++ butA f x (l.drop (i + 1)) := by
 rw [List.drop_eq_getElem_cons h]; rfl
def butS (s : List UInt8) : List (List UInt8) → List (List UInt8)
 | [] => []
 | y :: r => (if y = s then [] else [y]) ++ butS s r
theorem butS_all (s : List UInt8) : ∀ l : List (List UInt8), (∀ y ∈ l, y ≠ s) → butS s l = l
 | [], _ => rfl
 | y :: r, h => by
  show (if y = s then [] else [y]) ++ butS s r = _
  rw [if_neg (h y (List.mem_cons_self ..)), butS_all s r fun z hz => h z (List.mem_cons_of_mem _ hz)]
  rfl
theorem butS_del (s : List UInt8) : ∀ {l : List (List UInt8)}, incS l → s ∈ l → butS s l = delA l (atS l s)
 | [], _, h => by cases h
 | y :: r, hp, h => by
  have hp' := List.pairwise_cons.1 hp
  show (if y = s then [] else [y]) ++ butS s r = _
  rw [at_cons]
  by_cases q : Op.bytesLess y s = true
  ·have hne : y ≠ s := fun e => by rw [e, bl_irr] at q; cases q
   rw [if_neg hne, if_pos q, butS_del s hp'.2 ((List.mem_cons.1 h).resolve_left fun e => hne e.symm)]
   rfl
  ·rw [if_neg q]
   have e : y = s := by
    rcases List.mem_cons.1 h with h | h
    ·exact h.symm
    ·exact absurd (hp'.1 s h) q
   subst e
   rw [if_pos rfl, butS_all y r fun z hz e => by have := hp'.1 z hz; rw [e, bl_irr] at this; cases this]
   rfl
theorem butS_drop (s : List UInt8) (l : List (List UInt8)) (i : Nat) (h : i < l.length) : butS s (l.drop i) = (if l[i] = s then [] else [l[i]]) ++ butS s (l.drop (i + 1)) := by
 rw [List.drop_eq_getElem_cons h]; rfl
def putP (k : List UInt8) (v : Vl) (z : Bool) : Bool → List Pp → List Pp
 | d, [] => if d = false ∧ z = false then [⟨k, v⟩] else []
 | d, p :: r => (if (d = false ∧ Op.bytesLess p.k k = false) ∧ z = false then [⟨k, v⟩] else []) ++ ((if p.k = k then [] else [p]) ++ putP k v z (d || !Op.bytesLess p.k k) r)
theorem putP_done (k : List UInt8) (v : Vl) (z : Bool) : ∀ l : List Pp, (∀ p ∈ l, Op.bytesLess k p.k = true) → putP k v z true l = l
 | [], _ => rfl
 | p :: r, h => by
  have h0 := h p (List.mem_cons_self ..)
  have hne : ¬ p.k = k := fun e => by rw [e, bl_irr] at h0; cases h0
  show (if (true = false ∧ _) ∧ z = false then [(⟨k, v⟩ : Pp)] else []) ++ ((if p.k = k then [] else [p]) ++ putP k v z (true || !Op.bytesLess p.k k) r) = p :: r
  rw [if_neg (fun q => by cases q.1.1), if_neg hne, Bool.true_or, putP_done k v z r fun q hq => h q (List.mem_cons_of_mem _ hq)]
  rfl
theorem putP_cons (k : List UInt8) (v : Vl) (z : Bool) (p : Pp) (r : List Pp) : putP k v z false (p :: r) = (if Op.bytesLess p.k k = false ∧ z = false then [⟨k, v⟩] else []) ++ ((if p.k = k then [] else [p]) ++ putP k v z (!Op.bytesLess p.k k) r) := by
 show (if (false = false ∧ _) ∧ z = false then [(⟨k, v⟩ : Pp)] else []) ++ ((if p.k = k then [] else [p]) ++ putP k v z (false || !Op.bytesLess p.k k) r) = _
 rw [Bool.false_or]
 by_cases h : Op.bytesLess p.k k = false ∧ z = false
 ·rw [if_pos ⟨⟨rfl, h.1⟩, h.2⟩, if_pos h]
 ·rw [if_neg (fun q => h ⟨q.1.2, q.2⟩), if_neg h]
theorem hasK_cons (p : Pp) (r : List Pp) (k : List UInt8) : hasK (p :: r) k = (p.k == k || hasK r k) := rfl
theorem putP_set (k : List UInt8) (v : Vl) : ∀ {l : List Pp}, incS (keysV l) → putP k v (isN v) false l = setP l k v
 | [], _ => by
  show (if false = false ∧ isN v = false then [(⟨k, v⟩ : Pp)] else []) = setP [] k v
  unfold setP
  rw [if_neg (show ¬ hasK [] k = true from fun e => by cases (show false = true from e))]
  by_cases h : isN v = true
  ·rw [if_pos h, if_neg (fun q => by rw [h] at q; cases q.2)]
  ·have h' : isN v = false := by simpa using h
   rw [if_neg h, if_pos ⟨rfl, h'⟩]; rfl
 | p :: r, hp => by
  have hp' := List.pairwise_cons.1 (show incS (p.k :: keysV r) from hp)
  have ih := putP_set k v (l := r) hp'.2
  have hk : keysV (p :: r) = p.k :: keysV r := rfl
  rw [putP_cons]
  unfold setP
  rw [hk, at_cons, hasK_cons]
  by_cases q : Op.bytesLess p.k k = true
  ·have hne : ¬ p.k = k := fun e => by rw [e, bl_irr] at q; cases q
   have hb : (p.k == k) = false := beq_eq_false_iff_ne.2 hne
   rw [if_neg (fun x => by rw [q] at x; cases x.1), if_neg hne, q, hb, Bool.false_or, if_pos rfl]
   show [] ++ ([p] ++ putP k v (isN v) false r) = _
   rw [ih]
   unfold setP
   by_cases g1 : hasK r k = true <;> by_cases g2 : isN v = true
   ·rw [if_pos g1, if_pos g2, if_pos g1, if_pos g2]; rfl
   ·rw [if_pos g1, if_neg g2, if_pos g1, if_neg g2]; rfl
   ·rw [if_neg g1, if_pos g2, if_neg g1, if_pos g2]; rfl
   ·rw [if_neg g1, if_neg g2, if_neg g1, if_neg g2]; rfl
  ·have q' : Op.bytesLess p.k k = false := by simpa using q
   rw [q', if_neg (show ¬ false = true by decide)]
   show (if false = false ∧ isN v = false then [(⟨k, v⟩ : Pp)] else []) ++ ((if p.k = k then [] else [p]) ++ putP k v (isN v) true r) = _
   by_cases e : p.k = k
   ·have hb : (p.k == k) = true := by rw [e]; exact beq_self_eq_true k
    rw [if_pos e, hb, Bool.true_or, if_pos rfl, putP_done k v (isN v) r fun z hz => by
     have := hp'.1 z.k (List.mem_map_of_mem hz)
     rwa [e] at this]
    by_cases g2 : isN v = true
    ·rw [if_pos g2, if_neg (fun x => by rw [g2] at x; cases x.2)]; rfl
    ·rw [if_neg g2, if_pos ⟨rfl, by simpa using g2⟩]; rfl
   ·have hlt : Op.bytesLess k p.k = true := by
     cases g : Op.bytesLess k p.k with
     | true => rfl
     | false => exact absurd (bl_tri q' g) e
    have hb : (p.k == k) = false := beq_eq_false_iff_ne.2 e
    have hr : hasK r k = false := by
     cases g : hasK r k with
     | false => rfl
     | true =>
      have := hp'.1 k (hasS_iff.1 g)
      rw [q'] at this; cases this
    rw [if_neg e, hb, hr, Bool.false_or, if_neg (show ¬ false = true by decide), putP_done k v (isN v) r fun z hz => bl_trans hlt (hp'.1 z.k (List.mem_map_of_mem hz))]
    by_cases g2 : isN v = true
    ·rw [if_pos g2, if_neg (fun x => by rw [g2] at x; cases x.2)]; rfl
    ·rw [if_neg g2, if_pos ⟨rfl, by simpa using g2⟩]; rfl
theorem putP_drop (k : List UInt8) (v : Vl) (z d : Bool) (l : List Pp) (i : Nat) (h : i < l.length) : putP k v z d (l.drop i) = (if (d = false ∧ Op.bytesLess l[i].k k = false) ∧ z = false then [⟨k, v⟩] else []) ++ ((if l[i].k = k then [] else [l[i]]) ++ putP k v z (d || !Op.bytesLess l[i].k k) (l.drop (i + 1))) := by
 rw [List.drop_eq_getElem_cons h]; rfl
end Go.Proofs.YtpamdlkagmlahaaGreatDoor

namespace Go.Proofs.YtpamdlkagmlahaaGreatDoor
open Go.RowKit
theorem rlet_any (c : UInt8) (w : World) : Calls Tryz.prog 63 #[.int .u8 (c.toNat : Int)] w (PureB w (letV c)) := by
 have hc := c.toNat_lt
 have HL := Lib.hid (show letV c = ((decide (97 ≤ c.toNat) && decide (c.toNat ≤ 122)) || (decide (65 ≤ c.toNat) && decide (c.toNat ≤ 90))) from rfl)
 generalize letV c = L at *
 go_enter Tryz.func63, Tryz.ntmps63
 go_wp2
 all_goals
  go_ret
  exact ⟨ret_bool (by rw [HL.out, Bool.eq_iff_iff]; simp; omega), rfl⟩
set_option maxHeartbeats 3200000 in
set_option maxRecDepth 100000 in
theorem rname_any (s : ByteArray) (w : World) (hs : s.size ≤ maxLen) : Calls Tryz.prog 32 #[.string s] w (PureB w (nameV s.data.toList)) := by
 unfold maxLen at hs
 rcases Nat.eq_zero_or_pos s.size with h0 | h0
 ·obtain rfl := empty_of h0
  clear h0
  go_enter Tryz.func32, Tryz.ntmps32
  go_wp2
  go_ret
  exact ⟨rfl, rfl⟩
 ·have h1 : ¬ (s.size : Int) < 1 := by omega
  by_cases hl : 20 < s.size
  ·have HE := Lib.hid (name_long hl)
   have hl' : 20 < (s.size : Int) := by omega
   clear hl
   go_enter Tryz.func32, Tryz.ntmps32
   go_wp2
   go_ret
   exact ⟨ret_bool HE.out.symm, rfl⟩
  ·have hl' : ¬ 20 < (s.size : Int) := by omega
   have h0' : 0 < (s.size : Int) := by omega
   cases hf : letV s[0] with
   | false =>
    have HE := Lib.hid (name_first h0 hf)
    go_enter Tryz.func32, Tryz.ntmps32
    go_wp2_with (go_at_call 63; refine (rlet_any _ _).mono ?_; rintro e w' ⟨rfl, rfl⟩)
    go_ret
    exact ⟨ret_bool HE.out.symm, rfl⟩
   | true =>
    have HE := Lib.hid (name_rest1 h0 (by omega) hf)
    go_enter Tryz.func32, Tryz.ntmps32
    go_wp2_with (go_at_call 63; refine (rlet_any _ _).mono ?_; rintro e w' ⟨rfl, rfl⟩)
    clear hf
    go_loop [3] (fun iv => ∃ i : Nat, iv = .int .i64 i ∧ i ≤ s.size ∧ Hid (nameV s.data.toList = (s.data.toList.drop i).all chrV)) (fun iv => s.size - (RowKit.intOf iv).toNat)
    case atStart => exact ⟨1, rfl, by omega, HE.out⟩
    case round =>
     obtain ⟨i, rfl, hi, HN⟩ := hrel
     by_cases hlt : i < s.size
     ·have hA := chr_step s i hlt
      have HU := Lib.hid (chr_u s[i])
      have HC := Lib.hid (HN.out.trans hA)
      have HDG := Lib.hid (show digV s[i] = (decide (48 ≤ s[i].toNat) && decide (s[i].toNat ≤ 57)) from rfl)
      clear hA HN HE
      cases hL : letV s[i] with
      | true =>
       have HD := Lib.hid (show nameV s.data.toList = (s.data.toList.drop (i + 1)).all chrV by rw [HC.out, HU.out, hL]; rfl)
       go_wp2_with (go_at_call 63; refine (rlet_any _ _).mono ?_; rintro e w' ⟨rfl, rfl⟩)
       go_round
       case rel => exact ⟨i + 1, by go_num, by omega, HD.out⟩
       case measure => simp [RowKit.intOf]; omega
      | false =>
       by_cases h95 : s[i].toNat = 95
       ·have HD := Lib.hid (show nameV s.data.toList = (s.data.toList.drop (i + 1)).all chrV by
         rw [HC.out, HU.out, hL, decide_eq_true h95, Bool.or_true]; rfl)
        have hB : ((s[i].toNat : Int) != 95) = false := by rw [h95]; rfl
        clear h95
        go_wp2_with (go_at_call 63; refine (rlet_any _ _).mono ?_; rintro e w' ⟨rfl, rfl⟩)
        go_round
        case rel => exact ⟨i + 1, by go_num, by omega, HD.out⟩
        case measure => simp [RowKit.intOf]; omega
       ·have hB : ((s[i].toNat : Int) != 95) = true := by
         have : (s[i].toNat : Int) ≠ 95 := by omega
         simpa using this
        have HX := Lib.hid (show chrV s[i] = digV s[i] by rw [HU.out, hL, decide_eq_false h95]; simp)
        clear h95
        by_cases g1 : (s[i].toNat : Int) < 48
        ·have HD := Lib.hid (show nameV s.data.toList = false by
          rw [HC.out, HX.out, HDG.out, decide_eq_false (show ¬ 48 ≤ s[i].toNat by omega)]; rfl)
         go_wp2_with (go_at_call 63; refine (rlet_any _ _).mono ?_; rintro e w' ⟨rfl, rfl⟩)
         go_ret
         exact ⟨ret_bool HD.out.symm, rfl⟩
        ·by_cases g2 : 57 < (s[i].toNat : Int)
         ·have HD := Lib.hid (show nameV s.data.toList = false by
           rw [HC.out, HX.out, HDG.out, decide_eq_false (show ¬ s[i].toNat ≤ 57 by omega), Bool.and_false]; rfl)
          go_wp2_with (go_at_call 63; refine (rlet_any _ _).mono ?_; rintro e w' ⟨rfl, rfl⟩)
          go_ret
          exact ⟨ret_bool HD.out.symm, rfl⟩
         ·have HD := Lib.hid (show nameV s.data.toList = (s.data.toList.drop (i + 1)).all chrV by
           rw [HC.out, HX.out, HDG.out, decide_eq_true (show 48 ≤ s[i].toNat by omega), decide_eq_true (show s[i].toNat ≤ 57 by omega)]; rfl)
          go_wp2_with (go_at_call 63; refine (rlet_any _ _).mono ?_; rintro e w' ⟨rfl, rfl⟩)
          go_round
          case rel => exact ⟨i + 1, by go_num, by omega, HD.out⟩
          case measure => simp [RowKit.intOf]; omega
     ·have HD := Lib.hid (show nameV s.data.toList = true by rw [HN.out, chr_end s i (by omega)])
      clear HN HE
      go_wp2
      go_ret
      exact ⟨ret_bool HD.out.symm, rfl⟩
end Go.Proofs.YtpamdlkagmlahaaGreatDoor
