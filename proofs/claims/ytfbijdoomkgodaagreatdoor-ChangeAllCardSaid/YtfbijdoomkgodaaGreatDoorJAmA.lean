/-
  The laws of package change: what stays readable of a graph while one box turns; a list of changes told one by one. No program's function is walked here.
-/
import Derived.Test.YtfbijdoomkgodaaGreatDoorJAlA
import Derived.Test.YtfbijdoomkgodaaGreatDoorK38
import Derived.Test.YtfbijdoomkgodaaGreatDoorJGtD
import Derived.Test.YtfbijdoomkgodaaGreatDoorK31
import Derived.Test.YtfbijdoomkgodaaGreatDoorK15
import Derived.Test.YtfbijdoomkgodaaGreatDoorJM05
import Derived.Test.YtfbijdoomkgodaaGreatDoorK37
import Derived.Test.YtfbijdoomkgodaaGreatDoorK34
namespace Go.Proofs.YtfbijdoomkgodaaGreatDoor
open Go.RowKit

/-- The world has grown; of what was there, one block alone may have turned. -/
structure Fux (B : Nat) (w w' : World) : Prop where
  os : w'.os = w.os
  tape : w'.tape = w.tape
  output : w'.output = w.output
  size : w.heap.size ≤ w'.heap.size
  block : ∀ k, k < w.heap.size → k ≠ B → w'.heap[k]? = w.heap[k]?
theorem Fux.of {B : Nat} {a b : World} (h : Fuw a b) : Fux B a b := ⟨h.os, h.tape, h.output, h.size, fun k hk _ => h.block k hk⟩
theorem Fux.trans {B : Nat} {a b c : World} (h : Fux B a b) (k : Fux B b c) : Fux B a c :=
  ⟨k.os.trans h.os, k.tape.trans h.tape, k.output.trans h.output, Nat.le_trans h.size k.size, fun i hi hb => (k.block i (Nat.lt_of_lt_of_le hi h.size) hb).trans (h.block i hi hb)⟩
theorem Fux.set {B : Nat} {a b : World} (h : Fux B a b) (j : Nat) (u : Value) : Fux B a (b.setCell ⟨B, j, none⟩ u) :=
  h.trans ⟨rfl, rfl, rfl, (by simp [World.setCell]), fun k _ hb => Below.heap_setCell b ⟨B, j, none⟩ u k hb⟩
theorem Fux.via {B : Nat} {w a b : World} (h : Fuw w a) (k : Fux B a b) (hB : w.heap.size ≤ B) : Fuw w b :=
  ⟨k.os.trans h.os, k.tape.trans h.tape, k.output.trans h.output, Nat.le_trans h.size k.size, fun i hi => (k.block i (Nat.lt_of_lt_of_le hi h.size) (by omega)).trans (h.block i hi)⟩
/-- A graph can be read, now and whatever happens to that one block. -/
def StG (B : Nat) (wr : World) (g : Gr) (an ae : Option Addr) (cn ce : Nat) : Prop := ∀ w', Fux B wr w' → GIn w' g an ae cn ce
theorem StG.on {B : Nat} {a b : World} {g : Gr} {an ae : Option Addr} {cn ce : Nat} (h : StG B a g an ae cn ce) (f : Fux B a b) : StG B b g an ae cn ce := fun w' f' => h w' (f.trans f')
theorem StG.now {B : Nat} {a : World} {g : Gr} {an ae : Option Addr} {cn ce : Nat} (h : StG B a g an ae cn ce) : GIn a g an ae cn ce := h a (Fux.of (Fuw.refl a))
theorem stg_in {B : Nat} {w wr : World} {g : Gr} {an ae : Option Addr} {cn ce : Nat} (h : GIn w g an ae cn ce) (f : Fuw w wr) (hB : w.heap.size ≤ B) : StG B wr g an ae cn ce := fun _ f' => h.on (f'.via f hB)
theorem stg_own {B base : Nat} {w wr : World} {G : Gp} {an ae : Option Addr} {ln le cn ce : Nat} (h : GOwn w wr base G) (hb : B < base) (hB : w.heap.size ≤ B) (e1 : G.vn = .slice an ln cn) (e2 : G.ve = .slice ae le ce) : StG B wr G.gr an ae cn ce := by
  intro w' f
  refine gin_at (w0 := w) (base := base) ?_ e1 e2
  refine ⟨⟨fun r hr => own_heap (h.rows.own r hr) fun g hg => ?_, h.rows.apart⟩, h.no, h.eo, h.i1, h.i2, f.via h.fu hB, h.lo⟩
  have q := h.rows.shut (blks_mem.2 ⟨r, hr, hg⟩)
  exact f.block g q.2 (by omega)
theorem pm_reb {w1 w : World} {pm : List (Pp × AC)} (h : PmOk w1 pm) (hl : ∀ p ∈ pm.map Prod.fst, p.v.ll = []) : PmOk w pm := fun p hp => by
  refine ⟨(h p hp).1, ?_⟩
  have q := (h p hp).2
  have e := hl p.1 (List.mem_map_of_mem hp)
  rw [e] at q ⊢
  exact slv_nil q
/-- A fine graph's values hold no lists, so that what is told of them holds in every world. -/
theorem gown_reb {w1 w2 w : World} {base : Nat} {G : Gp} (h : GOwn w1 w2 base G) (hf : Fine G.gr) (f : Fuw w w2) (hb : w.heap.size ≤ base) : GOwn w w2 base G := by
  refine ⟨h.rows, fun x hx => ?_, fun x hx => ?_, h.i1, h.i2, f, hb⟩
  · have q := h.no x hx
    exact ⟨q.i, q.l, pm_reb q.p fun p hp => pln_ll ((hf.nf x.nd (List.mem_map_of_mem hx)).p.pv p hp)⟩
  · have q := h.eo x hx
    exact ⟨q.i, q.f, q.t, q.y, pm_reb q.p fun p hp => pln_ll ((hf.ef x.ed (List.mem_map_of_mem hx)).p.pv p hp)⟩
theorem RetAp.st {w0 w w' : World} {B : Nat} {g : Gr} {l : List Ch} {e : Ending} (h : RetAp w0 w g l e w') (hB : w0.heap.size ≤ B) (hb : B < w.heap.size) :
    ∃ bn be dn de, e = .returned (.tuple #[grv (appG g l) bn be dn de, .int .i64 ((appE g l).1 : Int), .int .i64 (appE g l).2]) ∧ StG B w' (appG g l) bn be dn de ∧ Fuw w w' := by
  obtain ⟨G, base, rfl, hgr, hown, hbs, hf⟩ := h
  obtain ⟨bn, be, dn, de, e1, e2, -⟩ := hown.gin
  have hl1 : (appG g l).ns.length = G.ns.length := by rw [← hgr]; unfold Gp.gr; simp
  have hl2 : (appG g l).es.length = G.es.length := by rw [← hgr]; unfold Gp.gr; simp
  have hx1 : (appG g l).nn = G.nn := by rw [← hgr]; rfl
  have hx2 : (appG g l).ne = G.ne := by rw [← hgr]; rfl
  have hs := stg_own hown (B := B) (by omega) hB e1 e2
  rw [hgr] at hs
  exact ⟨bn, be, dn, de, by unfold grv; rw [e1, e2, hl1, hl2, hx1, hx2], hs, hf⟩
/-- A graph whose rows lie from lo on: it can be read wherever those blocks are the same. -/
def StH (w : World) (lo : Nat) (w2 : World) (g : Gr) (an ae : Option Addr) (cn ce : Nat) : Prop := ∀ w', Fuw w w' → w2.heap.size ≤ w'.heap.size → (∀ k, lo ≤ k → k < w2.heap.size → w'.heap[k]? = w2.heap[k]?) → GIn w' g an ae cn ce
theorem StH.g {w w2 Y : World} {lo B : Nat} {g : Gr} {an ae : Option Addr} {cn ce : Nat} (h : StH w lo w2 g an ae cn ce) (f : Fuw w Y) (hs : w2.heap.size ≤ Y.heap.size) (hk : ∀ k, lo ≤ k → k < w2.heap.size → Y.heap[k]? = w2.heap[k]?) (hb : B < lo) (hB : w.heap.size ≤ B) : StG B Y g an ae cn ce := fun w' f' =>
  h w' (f'.via f hB) (Nat.le_trans hs f'.size) fun k h1 h2 => (f'.block k (Nat.lt_of_lt_of_le h2 hs) (by omega)).trans (hk k h1 h2)
theorem sth_own {lo base : Nat} {w wr : World} {G : Gp} {an ae : Option Addr} {ln le cn ce : Nat} (h : GOwn w wr base G) (hb : lo ≤ base) (e1 : G.vn = .slice an ln cn) (e2 : G.ve = .slice ae le ce) : StH w lo wr G.gr an ae cn ce := by
  intro w' f hs hk
  refine gin_at (w0 := w) (base := base) ?_ e1 e2
  refine ⟨⟨fun r hr => own_heap (h.rows.own r hr) fun g hg => ?_, h.rows.apart⟩, h.no, h.eo, h.i1, h.i2, f, h.lo⟩
  have q := h.rows.shut (blks_mem.2 ⟨r, hr, hg⟩)
  exact hk g (by omega) q.2
theorem RetA2.st {w0 w w' : World} {g : Gr} {c : Ch} {e : Ending} (h : RetA2 w g c e w') (h0 : Fuw w0 w) :
    ∃ bn be dn de, e = .returned (.tuple #[grv (appG g [c]) bn be dn de, .int .i64 (appE g [c]).2]) ∧ (Fine (appG g [c]) → StH w0 w.heap.size w' (appG g [c]) bn be dn de) ∧ Fuw w w' := by
  obtain ⟨G, base, rfl, hgr, hown, hbs, hf⟩ := h
  obtain ⟨bn, be, dn, de, e1, e2, -⟩ := hown.gin
  have hl1 : (appG g [c]).ns.length = G.ns.length := by rw [← hgr]; unfold Gp.gr; simp
  have hl2 : (appG g [c]).es.length = G.es.length := by rw [← hgr]; unfold Gp.gr; simp
  have hx1 : (appG g [c]).nn = G.nn := by rw [← hgr]; rfl
  have hx2 : (appG g [c]).ne = G.ne := by rw [← hgr]; rfl
  refine ⟨bn, be, dn, de, by unfold grv; rw [e1, e2, hl1, hl2, hx1, hx2], fun hfi => ?_, hf⟩
  rw [← hgr] at hfi
  have hs := sth_own (gown_reb hown hfi (h0.trans hf) (by have := h0.size; omega)) (lo := w.heap.size) (Nat.le_of_lt hbs) e1 e2
  rw [hgr] at hs
  exact hs
/-- One change of a fine graph. -/
theorem app_one {g : Gr} {c : Ch} (hf : Fine g) : (appE g [c]).2 = stpE g c ∧ (stpE g c = 0 → appG g [c] = stpG g c) := by
  have h0 : (appE g [c]).2 = stpE g c := by
    unfold appE
    rw [if_pos ((fine_iff g).2 hf)]
    unfold allE
    by_cases q : stpE g c = 0
    · rw [if_pos q, q]; rfl
    · rw [if_neg q]
  refine ⟨h0, fun q => ?_⟩
  unfold appG
  rw [if_pos (h0.trans q)]
  rfl
theorem app_chk {g : Gr} {l : List Ch} (h : ¬ chkV g = 0) : appE g l = (0, chkV g) ∧ appG g l = zerG := by
  have e : appE g l = (0, chkV g) := by unfold appE; rw [if_neg h]
  exact ⟨e, by unfold appG; rw [e]; exact if_neg h⟩
theorem app_ok {g : Gr} {l : List Ch} (h : chkV g = 0) : appE g l = allE g l 0 := by unfold appE; rw [if_pos h]
theorem app_bad {g : Gr} {l : List Ch} {n : Nat} {x : Int} (h : appE g l = (n, x)) (hx : x ≠ 0) : appG g l = zerG := by unfold appG; rw [h]; exact if_neg hx
theorem app_good {g : Gr} {l : List Ch} {n : Nat} (h : appE g l = (n, 0)) : appG g l = allG g l := by unfold appG; rw [h]; exact if_pos rfl
end Go.Proofs.YtfbijdoomkgodaaGreatDoor
