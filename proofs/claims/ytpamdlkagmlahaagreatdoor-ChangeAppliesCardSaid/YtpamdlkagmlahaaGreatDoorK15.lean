/-
  ChM; ChR; ChB: texts of one kind in one file; each part says what it holds.
-/
import Derived.Test.YtpamdlkagmlahaaGreatDoorK14
import Derived.Laws.IdiomCopy
import Derived.Lib.SliceRun
import Derived.Laws.CopyRow

namespace Go.Proofs.YtpamdlkagmlahaaGreatDoor
structure Ch where
 op : Int
 id : Int
 fr : Int
 tt : Int
 nm : List UInt8
 v : Vl
def nulV : Vl := .mk 0 0 0 [] []
def isN (x : Vl) : Bool := decide (ordV x nulV = 0)
def idV (n : Int) : Bool := decide (1 ≤ n) && decide (n ≤ 1000000)
def nmd (op : Int) : Bool := decide (op = 3) || decide (op = 4) || decide (op = 5) || decide (op = 6) || decide (op = 8)
def vld (op : Int) : Bool := decide (op = 5) || decide (op = 8)
def opV (op : Int) : Bool := decide (1 ≤ op) && decide (op ≤ 8)
def idsC (c : Ch) : Bool := idV c.id && (!decide (c.op = 6) || (idV c.fr && idV c.tt))
def zeroC (c : Ch) : Bool := (decide (c.op = 6) || (decide (c.fr = 0) && decide (c.tt = 0))) && (nmd c.op || c.nm.isEmpty) && (vld c.op || isN c.v)
def chkC (c : Ch) : Int :=
 if (opV c.op && idsC c && zeroC c) = false then 1
 else if (nmd c.op && !nameV c.nm) = true then 6
 else if (!isN c.v && !plnV c.v) = true then 8 else 0
def atI : List Int → Int → Nat
 | [], _ => 0
 | y :: r, x => if y < x then atI r x + 1 else 0
theorem atI_le : ∀ (l : List Int) (x : Int), atI l x ≤ l.length
 | [], _ => Nat.le_refl _
 | y :: r, x => by
  unfold atI
  split
  ·have := atI_le r x; simp; omega
  ·simp
def insA {α : Type} (l : List α) (k : Nat) (x : α) : List α := l.take k ++ x :: l.drop k
def delA {α : Type} (l : List α) (k : Nat) : List α := l.take k ++ l.drop (k + 1)
theorem insA_len {α : Type} (l : List α) (k : Nat) (x : α) : (insA l k x).length = l.length + 1 := by
 unfold insA
 rw [List.length_append, List.length_cons, List.length_take, List.length_drop]; omega
theorem delA_len {α : Type} (l : List α) (k : Nat) (h : k < l.length) : (delA l k).length + 1 = l.length := by
 unfold delA
 rw [List.length_append, List.length_take, List.length_drop]; omega
theorem insA_map {α β : Type} (f : α → β) (l : List α) (k : Nat) (x : α) : (insA l k x).map f = insA (l.map f) k (f x) := by
 unfold insA
 rw [List.map_append, List.map_cons, List.map_take, List.map_drop]
theorem delA_map {α β : Type} (f : α → β) (l : List α) (k : Nat) : (delA l k).map f = delA (l.map f) k := by
 unfold delA
 rw [List.map_append, List.map_take, List.map_drop]
theorem insA_mem {α : Type} {l : List α} {k : Nat} {x y : α} : y ∈ insA l k x ↔ y = x ∨ y ∈ l := by
 unfold insA
 rw [List.mem_append, List.mem_cons]
 constructor
 ·rintro (h | h | h)
  ·exact .inr (List.mem_of_mem_take h)
  ·exact .inl h
  ·exact .inr (List.mem_of_mem_drop h)
 ·rintro (h | h)
  ·exact .inr (.inl h)
  ·rw [← List.take_append_drop k l, List.mem_append] at h
   rcases h with h | h
   ·exact .inl h
   ·exact .inr (.inr h)
theorem delA_mem {α : Type} {l : List α} {k : Nat} {y : α} (h : y ∈ delA l k) : y ∈ l := by
 unfold delA at h
 rcases List.mem_append.1 h with h | h
 ·exact List.mem_of_mem_take h
 ·exact List.mem_of_mem_drop h
def nidsV (ns : List Nd) : List Int := ns.map Nd.id
def eidsV (es : List Ed) : List Int := es.map Ed.id
def hasE (es : List Ed) (x : Int) : Bool := es.any fun e => e.id == x
def useV (es : List Ed) (x : Int) : Bool := es.any fun e => e.fr == x || e.to == x
def addN (g : Gr) (x : Int) : Gr := { g with ns := insA g.ns (atI (nidsV g.ns) x) ⟨x, [], []⟩, nn := max g.nn (x + 1) }
def addE (g : Gr) (c : Ch) : Gr := { g with es := insA g.es (atI (eidsV g.es) c.id) ⟨c.id, c.fr, c.tt, c.nm, []⟩, ne := max g.ne (c.id + 1) }
def delN (g : Gr) (x : Int) : Gr := { g with ns := delA g.ns (atI (nidsV g.ns) x) }
def delE (g : Gr) (x : Int) : Gr := { g with es := delA g.es (atI (eidsV g.es) x) }
def hasK (ps : List Pp) (k : List UInt8) : Bool := hasS (keysV ps) k
def setE (ps : List Pp) (k : List UInt8) (v : Vl) : Int := if hasK ps k = false ∧ isN v = false ∧ 16 ≤ ps.length then 20 else 0
def setP (ps : List Pp) (k : List UInt8) (v : Vl) : List Pp :=
 if hasK ps k = true then (if isN v = true then delA ps (atS (keysV ps) k) else ps.set (atS (keysV ps) k) ⟨k, v⟩)
 else if isN v = true then ps else insA ps (atS (keysV ps) k) ⟨k, v⟩
def ediN (g : Gr) (x : Int) (f : Nd → Nd) : Gr := { g with ns := g.ns.modify (atI (nidsV g.ns) x) f }
def ediE (g : Gr) (x : Int) (f : Ed → Ed) : Gr := { g with es := g.es.modify (atI (eidsV g.es) x) f }
def nerr (g : Gr) (c : Ch) (n : Nd) : Int :=
 if c.op = 3 then (if hasS n.ls c.nm = true then 7 else if 8 ≤ n.ls.length then 20 else 0)
 else if c.op = 4 then (if hasS n.ls c.nm = true then 0 else 23)
 else if c.op = 5 then setE n.ps c.nm c.v
 else if useV g.es c.id = true then 12 else 0
def nedi (g : Gr) (c : Ch) : Gr :=
 if c.op = 3 then ediN g c.id (fun n => { n with ls := insA n.ls (atS n.ls c.nm) c.nm })
 else if c.op = 4 then ediN g c.id (fun n => { n with ls := delA n.ls (atS n.ls c.nm) })
 else if c.op = 5 then ediN g c.id (fun n => { n with ps := setP n.ps c.nm c.v })
 else delN g c.id
def stpE (g : Gr) (c : Ch) : Int :=
 if chkC c ≠ 0 then chkC c
 else if c.op = 1 then (if hasN g.ns c.id = true then 7 else if 2000 ≤ g.ns.length then 20 else 0)
 else if c.op = 6 then (if hasE g.es c.id = true then 7 else if (hasN g.ns c.fr && hasN g.ns c.tt) = false then 10 else if 4000 ≤ g.es.length then 20 else 0)
 else if c.op = 7 ∨ c.op = 8 then
  (match edgV g.es c.id with
  | none => 11
  | some e => if c.op = 8 then setE e.ps c.nm c.v else 0)
 else
  (match nodV g.ns c.id with
  | none => 10
  | some n => nerr g c n)
def stpG (g : Gr) (c : Ch) : Gr :=
 if c.op = 1 then addN g c.id
 else if c.op = 6 then addE g c
 else if c.op = 8 then ediE g c.id (fun e => { e with ps := setP e.ps c.nm c.v })
 else if c.op = 7 then delE g c.id
 else nedi g c
def allE : Gr → List Ch → Nat → Nat × Int
 | _, [], i => (i, 0)
 | g, c :: r, i => if stpE g c = 0 then allE (stpG g c) r (i + 1) else (i, stpE g c)
def allG : Gr → List Ch → Gr
 | g, [] => g
 | g, c :: r => allG (stpG g c) r
end Go.Proofs.YtpamdlkagmlahaaGreatDoor

namespace Go.Proofs.YtpamdlkagmlahaaGreatDoor
open Go.RowKit
structure Rw where
 e : TypeId
 s : Nat
 v : Value
 n : Nat
 xs : List Value
def Rw.Own (w : World) (base : Nat) (r : Rw) : Prop := w.ownsRow base r.e r.s r.v r.n r.xs
def blks (L : List Rw) : List Nat := L.filterMap fun r => r.v.ownBlock
structure Rows (w : World) (base : Nat) (L : List Rw) : Prop where
 own : ∀ r ∈ L, r.Own w base
 apart : (blks L).Nodup
theorem blks_perm {L M : List Rw} (h : L.Perm M) : (blks L).Perm (blks M) := h.filterMap _
theorem Rows.perm {w : World} {base : Nat} {L M : List Rw} (h : Rows w base L) (hp : L.Perm M) : Rows w base M :=
 ⟨fun r hr => h.own r (hp.mem_iff.2 hr), (blks_perm hp).nodup_iff.1 h.apart⟩
theorem blks_mem {L : List Rw} {k : Nat} : k ∈ blks L ↔ ∃ r ∈ L, r.v.ownBlock = some k := by unfold blks; rw [List.mem_filterMap]
theorem Rows.later {w w' : World} {base : Nat} {L : List Rw} (h : Rows w base L) (hf : Fuw w w') : Rows w' base L := ⟨fun r hr => own_on (h.own r hr) hf, h.apart⟩
theorem Rows.tail {w : World} {base : Nat} {r : Rw} {L : List Rw} (h : Rows w base (r :: L)) : Rows w base L := by
 refine ⟨fun q hq => h.own q (List.mem_cons_of_mem _ hq), ?_⟩
 have k := h.apart
 unfold blks at k ⊢
 rw [List.filterMap_cons] at k
 cases hb : r.v.ownBlock with
 | none => rw [hb] at k; exact k
 | some b => rw [hb] at k; exact (List.nodup_cons.1 k).2
theorem Rows.head_apart {w : World} {base : Nat} {r : Rw} {L : List Rw} (h : Rows w base (r :: L)) {q : Rw} (hq : q ∈ L) : q.v.ownBlock = none ∨ q.v.ownBlock ≠ r.v.ownBlock := by
 cases hb : q.v.ownBlock with
 | none => exact .inl rfl
 | some b =>
  refine .inr fun e => ?_
  have k := h.apart
  unfold blks at k
  rw [List.filterMap_cons, ← e] at k
  exact (List.nodup_cons.1 k).1 (blks_mem.2 ⟨q, hq, hb⟩)
theorem Rows.turn {w w' : World} {base : Nat} {r r' : Rw} {L : List Rw} (h : Rows w base (r :: L)) (hg : w.grownBy w' r.v.ownBlock) (ho : r'.Own w' base)
  (hat : r'.v.ownBlock = r.v.ownBlock ∨ ∀ k, r'.v.ownBlock = some k → w.heap.size ≤ k) : Rows w' base (r' :: L) := by
 refine ⟨fun q hq => ?_, ?_⟩
 ·rcases List.mem_cons.1 hq with rfl | hq
  ·exact ho
  ·exact World.ownsRow.kept (h.own q (List.mem_cons_of_mem _ hq)) hg (h.head_apart hq)
 ·have k := h.apart
  have kt := h.tail.apart
  unfold blks at k kt ⊢
  rw [List.filterMap_cons] at k ⊢
  cases hb : r'.v.ownBlock with
  | none => exact kt
  | some b =>
   refine List.nodup_cons.2 ⟨fun hm => ?_, kt⟩
   obtain ⟨q, hq, hqb⟩ := blks_mem.1 hm
   rcases hat with e | e
   ·rcases h.head_apart hq with g | g
    ·rw [hqb] at g; cases g
    ·exact g (by rw [hqb, ← e, hb])
   ·have h1 := e b hb
    have h2 := ((h.own q (List.mem_cons_of_mem _ hq)).lt b hqb).2
    omega
theorem Rows.more {w w' : World} {base : Nat} {r : Rw} {L : List Rw} (h : Rows w base L) (hf : Fuw w w') (ho : r.Own w' base) (hat : ∀ k, r.v.ownBlock = some k → w.heap.size ≤ k) : Rows w' base (r :: L) := by
 refine ⟨fun q hq => ?_, ?_⟩
 ·rcases List.mem_cons.1 hq with rfl | hq
  ·exact ho
  ·exact own_on (h.own q hq) hf
 ·have kt := h.apart
  unfold blks at kt ⊢
  rw [List.filterMap_cons]
  cases hb : r.v.ownBlock with
  | none => exact kt
  | some b =>
   refine List.nodup_cons.2 ⟨fun hm => ?_, kt⟩
   obtain ⟨q, hq, hqb⟩ := blks_mem.1 hm
   have h1 := hat b hb
   have h2 := ((h.own q hq).lt b hqb).2
   omega
theorem Rows.nil (w : World) (base : Nat) : Rows w base [] := ⟨fun _ h => (by cases h), List.nodup_nil⟩
theorem Rows.shut {w : World} {base : Nat} {L : List Rw} (h : Rows w base L) {k : Nat} (hk : k ∈ blks L) : base ≤ k ∧ k < w.heap.size := by
 obtain ⟨q, hq, hqb⟩ := blks_mem.1 hk
 exact (h.own q hq).lt k hqb
end Go.Proofs.YtpamdlkagmlahaaGreatDoor

namespace Go.Proofs.YtpamdlkagmlahaaGreatDoor
open Go.RowKit
def segL (l : List Value) (o : Nat) (vs : List Value) : List Value := l.take o ++ vs ++ l.drop (o + vs.length)
theorem segL_len {l : List Value} {o : Nat} {vs : List Value} (h : o + vs.length ≤ l.length) : (segL l o vs).length = l.length := by
 unfold segL
 rw [List.length_append, List.length_append, List.length_take, List.length_drop]; omega
theorem segL_nil (l : List Value) (o : Nat) : segL l o [] = l := by
 unfold segL
 simp
theorem segL_cons (l : List Value) (o : Nat) (v : Value) (vs : List Value) (h : o + (vs.length + 1) ≤ l.length) : segL (l.set o v) (o + 1) vs = segL l o (v :: vs) := by
 unfold segL
 have e1 : (l.set o v).take (o + 1) = l.take o ++ [v] := by
  rw [List.take_succ_eq_append_getElem (by rw [List.length_set]; omega), List.take_set_of_le (Nat.le_refl _)]
  simp
 have e2 : (l.set o v).drop (o + 1 + vs.length) = l.drop (o + (v :: vs).length) := by
  rw [List.drop_set_of_lt (by omega), List.length_cons]
  congr 1
  omega
 rw [e1, e2]
 simp
theorem heap_setCells {g : Nat} {e : TypeId} : ∀ (vs : List Value) (o : Nat) (cur : List Value) (w : World), w.heap[g]? = some (.cells cur.toArray e (0, 0)) → o + vs.length ≤ cur.length → (w.setCells g o vs).heap[g]? = some (.cells (segL cur o vs).toArray e (0, 0))
 | [], o, cur, w, h, _ => by rw [segL_nil]; exact h
 | v :: vs, o, cur, w, h, hl => by
  rw [List.length_cons] at hl
  have h1 := heap_setCell_same w g o cur.toArray e v h
  rw [List.setIfInBounds_toArray] at h1
  have := heap_setCells vs (o + 1) (cur.set o v) (w.setCell ⟨g, o, none⟩ v) h1 (by rw [List.length_set]; omega)
  rw [segL_cons cur o v vs hl] at this
  exact this
theorem heap_setCells_other (g k : Nat) (hk : k ≠ g) : ∀ (vs : List Value) (o : Nat) (w : World), (w.setCells g o vs).heap[k]? = w.heap[k]?
 | [], _, _ => rfl
 | v :: vs, o, w => by
  show ((w.setCell ⟨g, o, none⟩ v).setCells g (o + 1) vs).heap[k]? = _
  rw [heap_setCells_other g k hk vs (o + 1), heap_setCell_other w ⟨g, o, none⟩ k v hk]
theorem flat_setCells (g : Nat) : ∀ (vs : List Value) (o : Nat) (w : World), (w.setCells g o vs).os = w.os ∧ (w.setCells g o vs).tape = w.tape ∧ (w.setCells g o vs).output = w.output ∧ (w.setCells g o vs).heap.size = w.heap.size
 | [], _, _ => ⟨rfl, rfl, rfl, rfl⟩
 | v :: vs, o, w => by
  obtain ⟨h1, h2, h3, h4⟩ := flat_setCells g vs (o + 1) (w.setCell ⟨g, o, none⟩ v)
  refine ⟨h1, h2, h3, ?_⟩
  show ((w.setCell ⟨g, o, none⟩ v).setCells g (o + 1) vs).heap.size = _
  rw [h4]; simp
theorem grown_setCells (w : World) (g o : Nat) (vs : List Value) : w.grownBy (w.setCells g o vs) (some g) := by
 obtain ⟨h1, h2, h3, h4⟩ := flat_setCells g vs o w
 exact ⟨h1, h2, h3, by omega, fun k _ hne => heap_setCells_other g k (fun e => hne (by rw [e])) vs o w⟩
theorem grown_drew {w w' : World} {r : Option Nat} (h : w.grownBy w' r) : w.grownBy w'.drew r := ⟨h.os, h.tape, h.output, h.size, h.block⟩
theorem grown_refl (w : World) (r : Option Nat) : w.grownBy w r := ⟨rfl, rfl, rfl, Nat.le_refl _, fun _ _ _ => rfl⟩
theorem grown_trans {w w1 w2 : World} {r : Option Nat} (h : w.grownBy w1 r) (k : w1.grownBy w2 r) : w.grownBy w2 r :=
 ⟨k.os.trans h.os, k.tape.trans h.tape, k.output.trans h.output, Nat.le_trans h.size k.size, fun b hb hne => (k.block b (Nat.lt_of_lt_of_le hb h.size) hne).trans (h.block b hb hne)⟩
theorem grown_new {w w1 w2 : World} {r : Option Nat} (h : w.grownBy w1 r) {k : Nat} (hk : w.heap.size ≤ k) (h2 : w1.grownBy w2 (some k)) : w.grownBy w2 r :=
 ⟨h2.os.trans h.os, h2.tape.trans h.tape, h2.output.trans h.output, Nat.le_trans h.size h2.size, fun b hb hne => (h2.block b (Nat.lt_of_lt_of_le hb h.size) (fun e => by injection e; omega)).trans (h.block b hb hne)⟩
section
variable {P : Program}
theorem run_copy_k (w : World) (dT sT ty elem : TypeId) (size b o dLen dCap : Nat) (a : Addr) (sLen sCap : Nat) (cs : List Value)
  (hu : P.underlying dT = some (.slice elem)) (hs : (P.info? elem).map (·.size) = some size) (m : Nat) (hm : m = Nat.min sLen dLen) (hn : cs.length = m * size)
  (hsrc : ∀ j v, cs[j]? = some v → w.cell? (a.add j) = some v) (hc : ∀ j, j < cs.length → (w.cell? ⟨b, o + j, none⟩).isSome = true) (hf : ∀ j, j < cs.length → w.frozen? ⟨b, o + j, none⟩ = false) (h1 : ∀ v ∈ cs, v.oneCell' = true) :
  (Builtin.copy_ #[dT, sT] ty #[.slice (some ⟨b, o, none⟩) dLen dCap, .slice (some a) sLen sCap]).run P w = .ok (goInt m) (w.setCells b o cs) := by
 have hl := run_loadCells_list (P := P) w a cs hsrc
 rw [hn] at hl
 have hst := run_storeCells_cells (P := P) b o cs 0 w (by simpa using hc) (by simpa using hf) h1
 cases hq : P.info? elem with
 | none => simp [hq] at hs
 | some i =>
  have hi : i.size = size := by simpa [hq] using hs
  simp [Builtin.copy_, run_underlying hu, Builtin.lenOf, Builtin.firstCells, sizeOf, typeInfo, hq, hi, ← hm, hl, hst]
theorem run_clear_k (w : World) (t e ty : TypeId) (z : Value) (size : Nat) (ht : P.underlying t = some (.slice e)) (hv : ∀ w, (zeroValue e).run P w = .ok z w) (hz : z.cells.size = size) (h1 : ∀ v ∈ z.cells.toList, v.oneCell' = true) (b o n c : Nat) (hn : 0 < n)
  (hc : ∀ j, j < n * size → (w.cell? ⟨b, o + j, none⟩).isSome = true) (hf : ∀ j, j < n * size → w.frozen? ⟨b, o + j, none⟩ = false) :
  ∃ zs : List Value, zs.length = n * size ∧ (Builtin.clear_ #[t] ty #[.slice (some ⟨b, o, none⟩) n c]).run P w = .ok (.tuple #[]) (w.setCells b o zs) := by
 refine ⟨(Builtin.zeroCells z.cells n).toList, by simp [Builtin.zeroCells, hz], ?_⟩
 have hlen : (Builtin.zeroCells z.cells n).toList.length = n * size := by simp [Builtin.zeroCells, hz]
 have hone : ∀ v ∈ (Builtin.zeroCells z.cells n).toList, v.oneCell' = true := by
  intro v hv
  simp only [Builtin.zeroCells, Array.toList_map, List.mem_map] at hv
  obtain ⟨i, hi, rfl⟩ := hv
  have hi' : i < n * z.cells.size := by simpa using hi
  have hp : 0 < z.cells.size := by
   rcases Nat.eq_zero_or_pos z.cells.size with h0 | h0
   ·rw [h0] at hi'; simp at hi'
   ·exact h0
  have hlt := Nat.mod_lt i hp
  rw [getElem!_pos z.cells _ hlt]
  exact h1 _ (by simp)
 have hst := run_storeCells_cells (P := P) b o _ 0 w (by rw [hlen]; simpa using hc) (by rw [hlen]; simpa using hf) hone
 simp only [Nat.add_zero] at hst
 obtain ⟨m, rfl⟩ : ∃ m, n = m + 1 := ⟨n - 1, by omega⟩
 simp [Builtin.clear_, run_underlying ht, hv, hst]
end
theorem own_row {w : World} {base e size g n cap : Nat} {xs : List Value} (h : w.ownsRow base e size (.slice (some ⟨g, 0, none⟩) n cap) n xs) :
  ∃ cur : List Value, w.heap[g]? = some (.cells cur.toArray e (0, 0)) ∧ base ≤ g ∧ n ≤ cap ∧ cap ≤ maxLen ∧ cur.length = cap * size ∧ cur.take (n * size) = xs ∧ xs.length = n * size := by
 rcases h.2 with ⟨h', _⟩ | ⟨g', cap', cur, h', hb, hg, h1, h2, h3, h4⟩
 ·cases h'
 ·cases h'
  exact ⟨cur.toList, by simpa using hg, hb, h1, h2, by simpa using h3, h4, h.1⟩
theorem own_of {w : World} {base e size g n cap : Nat} {cur : List Value} (hg : w.heap[g]? = some (.cells cur.toArray e (0, 0))) (hb : base ≤ g) (h1 : n ≤ cap) (h2 : cap ≤ maxLen) (h3 : cur.length = cap * size) :
  w.ownsRow base e size (.slice (some ⟨g, 0, none⟩) n cap) n (cur.take (n * size)) := by
 have : n * size ≤ cap * size := Nat.mul_le_mul_right _ h1
 exact ⟨by rw [List.length_take]; omega, .inr ⟨g, cap, cur.toArray, rfl, hb, hg, h1, h2, by simpa using h3, by simp⟩⟩
theorem row_cell {w : World} {g e : Nat} {cur : List Value} (hg : w.heap[g]? = some (.cells cur.toArray e (0, 0))) {j : Nat} (hj : j < cur.length) : w.cell? ⟨g, j, none⟩ = some cur[j] := by
 rw [cell_of_row w g j cur.toArray e (0, 0) hg]
 simp [hj]
theorem row_some {w : World} {g e : Nat} {cur : List Value} (hg : w.heap[g]? = some (.cells cur.toArray e (0, 0))) {j : Nat} (hj : j < cur.length) : (w.cell? ⟨g, j, none⟩).isSome = true := by rw [row_cell hg hj]; rfl
theorem row_froz {w : World} {g e : Nat} {cur : List Value} (hg : w.heap[g]? = some (.cells cur.toArray e (0, 0))) (j : Nat) : w.frozen? ⟨g, j, none⟩ = false := frozen_of_row w g j cur.toArray e hg
end Go.Proofs.YtpamdlkagmlahaaGreatDoor
