/-
  ChU; ChV; ChW; GrX: texts of one kind in one file; each part says what it holds.
-/
import Derived.Test.YtfbijdoomkgodaaGreatDoorTK22
import Derived.Test.YtfbijdoomkgodaaGreatDoorTM30

/-! A graph that is edited: one slice of a node or of an edge replaced: what comes of the box and its rows. No program's function is walked here. -/
namespace Go.Proofs.YtfbijdoomkgodaaGreatDoor
open Go.RowKit

theorem rowC_own {w : World} {base g n cap j : Nat} {e : TypeId} {s : Nat} {xs : List Value} (h : w.ownsRow base e s (.slice (some ⟨g, 0, none⟩) n cap) n xs) (hj : j < n * s) {u : Value} (hu : xs[j]? = some u) : w.cell? ⟨g, j, none⟩ = some u ∧ w.frozen? ⟨g, j, none⟩ = false := by
  obtain ⟨cur, hg, hb, hnc, hcm, hcl, htk, hxl⟩ := own_row h
  have hns : n * s ≤ cur.length := by rw [hcl]; exact Nat.mul_le_mul_right _ hnc
  refine ⟨?_, row_froz hg _⟩
  rw [← htk, List.getElem?_take_of_lt hj, List.getElem?_eq_getElem (by omega)] at hu
  rw [row_cell hg (by omega)]
  exact hu
section
variable {w0 w w1 : World} {base B g cap p : Nat} {G : Gp}
theorem GBox.hb (h : GBox w0 w base B G) : base ≤ w.heap.size := Nat.le_trans h.hi (Nat.le_of_lt h.box.lt)
theorem GBox.fuB (h : GBox w0 w base B G) {r : Option Nat} (hg : w.grownBy w1 r) (hr : ∀ k, r = some k → base ≤ k) : Fuw w0 w1 := h.own.fu.trans_below (below_grown hg h.hb hr) h.own.lo
/-- A node's labels are replaced. -/
theorem GBox.setL (h : GBox w0 w base B G) (hp : p < G.ns.length) (hv : G.vn = .slice (some ⟨g, 0, none⟩) G.ns.length cap) {v : Value} {ls : List (List UInt8)}
    (ho : (rowL v ls).Own w1 base) (hg : w.grownBy w1 G.ns[p].vl.ownBlock) (hat : v.ownBlock = G.ns[p].vl.ownBlock ∨ ∀ k, v.ownBlock = some k → w.heap.size ≤ k) (hl : ∀ s ∈ ls, s.length ≤ maxLen) :
    w1.cell? ⟨g, p * 3 + 1, none⟩ = some G.ns[p].vl ∧ w1.frozen? ⟨g, p * 3 + 1, none⟩ = false ∧ Below base w1 (w1.setCell ⟨g, p * 3 + 1, none⟩ v) ∧ GBox w0 (w1.setCell ⟨g, p * 3 + 1, none⟩ v) base B { G with ns := G.ns.set p { G.ns[p] with ls := ls, vl := v } } := by
  have hm := List.getElem_mem hp
  have hrow := h.own.lrow hm
  have hbk : ∀ k, G.ns[p].vl.ownBlock = some k → base ≤ k := fun k e => (hrow.lt k e).1
  have hBl : ∀ k, G.ns[p].vl.ownBlock = some k → k ≠ B := fun k e e' => h.far (by rw [← e']; exact blks_mem.2 ⟨_, List.mem_cons_of_mem _ (List.mem_cons_of_mem _ (mem_rowsN hm (List.mem_cons_self ..))), e⟩)
  have hf := h.fuB hg hbk
  have hR := Rows.turn (h.own.rows.perm (canonN hp)) hg ho hat
  have hN : (rowN G.vn G.ns).Own w1 base := hR.own _ (List.mem_cons_of_mem _ (List.mem_cons_of_mem _ (List.mem_cons_self ..)))
  unfold rowN Rw.Own at hN
  simp only [hv] at hN
  have hj : p * 3 + 1 < G.ns.length * 3 := by omega
  obtain ⟨c1, c2⟩ := rowC_own hN hj (u := G.ns[p].vl) (by rw [csN_get G.ns p 1 hp (by omega)]; rfl)
  obtain ⟨k1, k2⟩ := GOwn.setL h.own hp hv ho hg hat hl hf
  have hgb : base ≤ g := by
    have := h.own.nrow.lt g (by show G.vn.ownBlock = some g; rw [hv]; rfl)
    exact this.1
  have hBg : B ≠ g := fun e => h.far (blks_mem.2 ⟨rowN G.vn G.ns, List.mem_cons_self .., by unfold rowN; rw [hv, e]; rfl⟩)
  refine ⟨c1, c2, Below.setCell (Below.refl _ _) hgb _, k1, ?_, ?_, h.hi⟩
  · exact (h.box.grow hg (fun e => hBl B e.symm rfl)).far hBg _
  · intro hB
    rcases k2 B hB with e | e
    · rcases hat with q | q
      · exact hBl B (q.symm.trans e) rfl
      · have := q B e
        have := h.box.lt
        omega
    · exact h.far e
/-- A node's properties are replaced. -/
theorem GBox.setP (h : GBox w0 w base B G) (hp : p < G.ns.length) (hv : G.vn = .slice (some ⟨g, 0, none⟩) G.ns.length cap) {v : Value} {pm : List (Pp × AC)}
    (ho : (rowP v pm).Own w1 base) (hg : w.grownBy w1 G.ns[p].vp.ownBlock) (hat : v.ownBlock = G.ns[p].vp.ownBlock ∨ ∀ k, v.ownBlock = some k → w.heap.size ≤ k) (hl : PmOk w0 pm) :
    w1.cell? ⟨g, p * 3 + 2, none⟩ = some G.ns[p].vp ∧ w1.frozen? ⟨g, p * 3 + 2, none⟩ = false ∧ Below base w1 (w1.setCell ⟨g, p * 3 + 2, none⟩ v) ∧ GBox w0 (w1.setCell ⟨g, p * 3 + 2, none⟩ v) base B { G with ns := G.ns.set p { G.ns[p] with pm := pm, vp := v } } := by
  have hm := List.getElem_mem hp
  have hrow := h.own.prow hm
  have hbk : ∀ k, G.ns[p].vp.ownBlock = some k → base ≤ k := fun k e => (hrow.lt k e).1
  have hBl : ∀ k, G.ns[p].vp.ownBlock = some k → k ≠ B := fun k e e' => h.far (by rw [← e']; exact blks_mem.2 ⟨_, List.mem_cons_of_mem _ (List.mem_cons_of_mem _ (mem_rowsN hm (List.mem_cons_of_mem _ (List.mem_cons_self ..)))), e⟩)
  have hf := h.fuB hg hbk
  have hR := Rows.turn ((h.own.rows.perm (canonN hp)).perm (List.Perm.swap _ _ _)) hg ho hat
  have hN : (rowN G.vn G.ns).Own w1 base := hR.own _ (List.mem_cons_of_mem _ (List.mem_cons_of_mem _ (List.mem_cons_self ..)))
  unfold rowN Rw.Own at hN
  simp only [hv] at hN
  have hj : p * 3 + 2 < G.ns.length * 3 := by omega
  obtain ⟨c1, c2⟩ := rowC_own hN hj (u := G.ns[p].vp) (by rw [csN_get G.ns p 2 hp (by omega)]; rfl)
  obtain ⟨k1, k2⟩ := GOwn.setP h.own hp hv ho hg hat hl hf
  have hgb : base ≤ g := by
    have := h.own.nrow.lt g (by show G.vn.ownBlock = some g; rw [hv]; rfl)
    exact this.1
  have hBg : B ≠ g := fun e => h.far (blks_mem.2 ⟨rowN G.vn G.ns, List.mem_cons_self .., by unfold rowN; rw [hv, e]; rfl⟩)
  refine ⟨c1, c2, Below.setCell (Below.refl _ _) hgb _, k1, ?_, ?_, h.hi⟩
  · exact (h.box.grow hg (fun e => hBl B e.symm rfl)).far hBg _
  · intro hB
    rcases k2 B hB with e | e
    · rcases hat with q | q
      · exact hBl B (q.symm.trans e) rfl
      · have := q B e
        have := h.box.lt
        omega
    · exact h.far e
/-- An edge's properties are replaced. -/
theorem GBox.setQ (h : GBox w0 w base B G) (hp : p < G.es.length) (hv : G.ve = .slice (some ⟨g, 0, none⟩) G.es.length cap) {v : Value} {pm : List (Pp × AC)}
    (ho : (rowP v pm).Own w1 base) (hg : w.grownBy w1 G.es[p].vp.ownBlock) (hat : v.ownBlock = G.es[p].vp.ownBlock ∨ ∀ k, v.ownBlock = some k → w.heap.size ≤ k) (hl : PmOk w0 pm) :
    w1.cell? ⟨g, p * 5 + 4, none⟩ = some G.es[p].vp ∧ w1.frozen? ⟨g, p * 5 + 4, none⟩ = false ∧ Below base w1 (w1.setCell ⟨g, p * 5 + 4, none⟩ v) ∧ GBox w0 (w1.setCell ⟨g, p * 5 + 4, none⟩ v) base B { G with es := G.es.set p { G.es[p] with pm := pm, vp := v } } := by
  have hm := List.getElem_mem hp
  have hrow := h.own.qrow hm
  have hbk : ∀ k, G.es[p].vp.ownBlock = some k → base ≤ k := fun k e => (hrow.lt k e).1
  have hBl : ∀ k, G.es[p].vp.ownBlock = some k → k ≠ B := fun k e e' => h.far (by rw [← e']; exact blks_mem.2 ⟨_, List.mem_cons_of_mem _ (List.mem_cons_of_mem _ (mem_rowsE hm (List.mem_cons_self ..))), e⟩)
  have hf := h.fuB hg hbk
  have hR := Rows.turn (h.own.rows.perm (canonE hp)) hg ho hat
  have hN : (rowE G.ve G.es).Own w1 base := hR.own _ (List.mem_cons_of_mem _ (List.mem_cons_of_mem _ (List.mem_cons_self ..)))
  unfold rowE Rw.Own at hN
  simp only [hv] at hN
  have hj : p * 5 + 4 < G.es.length * 5 := by omega
  obtain ⟨c1, c2⟩ := rowC_own hN hj (u := G.es[p].vp) (by rw [csE_get G.es p 4 hp (by omega)]; rfl)
  obtain ⟨k1, k2⟩ := GOwn.setQ h.own hp hv ho hg hat hl hf
  have hgb : base ≤ g := by
    have := h.own.erow.lt g (by show G.ve.ownBlock = some g; rw [hv]; rfl)
    exact this.1
  have hBg : B ≠ g := fun e => h.far (blks_mem.2 ⟨rowE G.ve G.es, List.mem_cons_of_mem _ (List.mem_cons_self ..), by unfold rowE; rw [hv, e]; rfl⟩)
  refine ⟨c1, c2, Below.setCell (Below.refl _ _) hgb _, k1, ?_, ?_, h.hi⟩
  · exact (h.box.grow hg (fun e => hBl B e.symm rfl)).far hBg _
  · intro hB
    rcases k2 B hB with e | e
    · rcases hat with q | q
      · exact hBl B (q.symm.trans e) rfl
      · have := q B e
        have := h.box.lt
        omega
    · exact h.far e
end
theorem sC_ins (l : List (List UInt8)) (p : Nat) (s : List UInt8) : sC (insA l p s) = (sC l).take (p * 1) ++ [.string (bs s)] ++ (sC l).drop (p * 1) := by
  unfold sC
  rw [insA_map]
  unfold insA
  rw [Nat.mul_one, List.append_assoc, List.singleton_append]
theorem sC_del (l : List (List UInt8)) (p : Nat) : sC (delA l p) = (sC l).take (p * 1) ++ (sC l).drop ((p + 1) * 1) := by
  unfold sC
  rw [delA_map]
  unfold delA
  rw [Nat.mul_one, Nat.mul_one]
theorem sC_one (l : List (List UInt8)) : ∀ u ∈ sC l, u.oneCell' = true := by
  intro u hu
  obtain ⟨s, -, rfl⟩ := List.mem_map.1 hu
  rfl
theorem atS_le : ∀ (l : List (List UInt8)) (s : List UInt8), atS l s ≤ l.length
  | [], _ => Nat.le_refl _
  | y :: r, s => by
    rw [at_cons]
    split
    · have := atS_le r s; simp; omega
    · simp
end Go.Proofs.YtfbijdoomkgodaaGreatDoor

/-! Package change: a label added to a node of the graph that is edited, a label taken from it. -/
namespace Go.Proofs.YtfbijdoomkgodaaGreatDoor
open Go.RowKit

def labN (g : Gr) (p : Nat) (f : Nd → Nd) : Gr := { g with ns := g.ns.modify p f }
theorem set_modify {α : Type} (f : α → α) : ∀ (l : List α) (p : Nat) (h : p < l.length), l.set p (f l[p]) = l.modify p f
  | x :: r, 0, _ => rfl
  | x :: r, p + 1, h => by
    have h' : p < r.length := by simpa using h
    show x :: r.set p (f r[p]) = x :: r.modify p f
    rw [set_modify f r p h']
theorem nd_get {G : Gp} {p : Nat} (hp : p < G.ns.length) : (G.ns.map Np.nd)[p]? = some G.ns[p].nd := by rw [List.getElem?_map, List.getElem?_eq_getElem hp]; rfl
theorem gr_setN {G : Gp} {p : Nat} (hp : p < G.ns.length) (x : Np) (f : Nd → Nd) (e : x.nd = f G.ns[p].nd) : ({ G with ns := G.ns.set p x } : Gp).gr = labN G.gr p f := by
  unfold labN Gp.gr
  simp only
  rw [List.map_set, e, ← set_modify f _ p (by rw [List.length_map]; exact hp), List.getElem_map]
set_option maxHeartbeats 3200000 in
set_option maxRecDepth 100000 in
theorem addlabel_any {w0 w : World} {base B g cap p : Nat} {G : Gp} (h : GBox w0 w base B G) (hp : p < G.ns.length) (hv : G.vn = .slice (some ⟨g, 0, none⟩) G.ns.length cap) (s : List UInt8) (hs : s.length ≤ maxLen) (hinc : incS G.ns[p].ls) (h8 : G.ns[p].ls.length ≤ 8) :
    Calls Tryz.prog 124 #[.pointer (some ⟨g, p * 3, none⟩), .string (bs s)] w (RetEd w0 w base B G.xs (if hasS G.ns[p].ls s = true then 7 else if 8 ≤ G.ns[p].ls.length then 20 else 0) (labN G.gr p fun n => { n with ls := insA n.ls (atS n.ls s) s })) := by
  obtain ⟨X, hX⟩ : ∃ X, G.ns[p] = X := ⟨_, rfl⟩
  have hm := List.getElem_mem hp
  have hmv := (h.own.no _ hm).l
  have hrow := h.own.lrow hm
  have hgr := fun (x : Np) (e : x.nd = { G.ns[p].nd with ls := insA G.ns[p].nd.ls (atS G.ns[p].nd.ls s) s }) => gr_setN hp x (fun n => { n with ls := insA n.ls (atS n.ls s) s }) e
  have hcx := csN_get G.ns p 1 hp (by omega)
  have hset := fun (w1 : World) (v : Value) (hf : Fuw w w1) (w2 : World) (ho : (rowL v (insA G.ns[p].ls (atS G.ns[p].ls s) s)).Own w2 base) (hg : w1.grownBy w2 G.ns[p].vl.ownBlock) (hat : v.ownBlock = G.ns[p].vl.ownBlock ∨ ∀ k, v.ownBlock = some k → w1.heap.size ≤ k) =>
    GBox.setL (h.later hf) hp hv ho hg hat (fun t ht => (insA_mem.1 ht).elim (fun e => e ▸ hs) (hmv t))
  rw [hX] at hinc h8 hmv hrow hgr hcx hset ⊢
  clear hm hX
  obtain ⟨al, cl, el, sl⟩ := ls_row hrow hmv
  have HBS := Lib.hid (bss_any X.ls al cl s w sl hinc (by omega))
  have hQ : atS X.ls s ≤ X.ls.length := atS_le _ _
  have c1 : w.cell? ⟨g, p * 3 + 1, none⟩ = some (.slice al X.ls.length cl) := by
    have hN := h.own.nrow
    unfold rowN Rw.Own at hN
    simp only [hv] at hN
    exact (rowC_own hN (j := p * 3 + 1) (by omega) (u := .slice al X.ls.length cl) (by rw [hcx, ← el]; rfl)).1
  have HGR := Lib.hid hgr
  have HSET := Lib.hid hset
  have HBV := Lib.hid (fun k (e : X.vl.ownBlock = some k) => (hrow.lt k e))
  have HB := Lib.hid h.hb
  unfold rowL Rw.Own at hrow
  simp only [el] at hrow
  have HROW := Lib.hid hrow
  obtain ⟨R, hR⟩ : ∃ R, R = (if hasS X.ls s = true then 7 else if 8 ≤ X.ls.length then 20 else 0 : Int) := ⟨_, rfl⟩
  rw [← hR]
  have HR := Lib.hid hR
  have HEL := Lib.hid el
  clear hR hcx hset hgr
  generalize hasS X.ls s = q at *
  obtain ⟨i, hi⟩ : ∃ i, atS X.ls s = i := ⟨_, rfl⟩
  rw [hi] at HBS hQ
  have HI := Lib.hid hi
  clear h hmv sl hinc hrow el hi
  go_enter Tryz.func124, Tryz.ntmps124
  go_wp2_with fail
  go_at_call 180; refine HBS.out.mono ?_; rintro e1 w1 ⟨rfl, f1⟩
  have HF1 := Lib.hid f1
  have d1 : w1.cell? ⟨g, p * 3 + 1, none⟩ = some (.slice al X.ls.length cl) := cellOnw f1 c1
  clear f1 c1 HBS
  cases q with
  | true =>
    have HE := Lib.hid (show R = 7 from HR.out.trans (if_pos rfl))
    go_wp2
    go_ret
    exact ⟨ret_int HE.out.symm, below_of HF1.out HB.out, HF1.out.size, fun e => by rw [HE.out] at e; cases e⟩
  | false =>
    by_cases hfull : 8 ≤ X.ls.length
    · have hq : ((X.ls.length : Int) == 8) = true := by rw [beq_iff_eq]; omega
      have HE := Lib.hid (show R = 20 from HR.out.trans ((if_neg (by decide)).trans (if_pos hfull)))
      go_wp2
      go_ret
      exact ⟨ret_int HE.out.symm, below_of HF1.out HB.out, HF1.out.size, fun e => by rw [HE.out] at e; cases e⟩
    · have hq : ((X.ls.length : Int) == 8) = false := by rw [beq_eq_false_iff_ne]; omega
      have HE := Lib.hid (show R = 0 from HR.out.trans ((if_neg (by decide)).trans (if_neg hfull)))
      obtain ⟨W, hW⟩ : ∃ W, W = w1.alloc (.cells #[.string (bs s)] 9) := ⟨_, rfl⟩
      have fW : Fuw w1 W := by rw [hW]; exact fuwA _ _
      have bW : Bk W w1.heap.size #[.string (bs s)] 9 := by rw [hW]; exact Bk.new _ _ _
      have HIN := Lib.hid (show Calls Tryz.prog 181 #[.slice al X.ls.length cl, .int .i64 (i : Int), .slice (some ⟨w1.heap.size, 0, none⟩) 1 1] W (RetIns W base 9 1 (.slice al X.ls.length cl) (X.ls.length + 1) ((sC X.ls).take (i * 1) ++ [.string (bs s)] ++ (sC X.ls).drop (i * 1))) from
        ins_s (own_on HROW.out (HF1.out.trans fW)) i hQ (by omega) (by have := HF1.out.size; have := fW.size; have := HB.out; omega) bW rfl (fun e => by have := (HBV.out _ (by rw [HEL.out]; exact e)).2; have := HF1.out.size; omega) (sC_one _) (by intro u hu; simp at hu; rw [hu]; rfl))
      have HSW := Lib.hid (HSET.out W)
      have HFW := Lib.hid (HF1.out.trans fW)
      have d2 : W.cell? ⟨g, p * 3 + 1, none⟩ = some (.slice al X.ls.length cl) := cellOnw fW d1
      clear fW bW hQ hfull HSET
      go_upto_region 6 with fail
      go_wp2_with fail
      rw [← hW]
      clear hW
      go_at_call 181; refine HIN.out.mono ?_; rintro e2 w2 ⟨v2, rfl, hown2, hgr2, hat2⟩
      rw [← HEL.out] at hgr2 hat2
      obtain ⟨m0, z0, hbl, hgb⟩ := HSW.out v2 HFW.out w2 (by unfold rowL Rw.Own; simp only; rw [HI.out, insA_len, sC_ins]; exact hown2) hgr2 hat2
      obtain ⟨g2, k2, rfl, -⟩ := hown2.form (by omega)
      have HFIN := Lib.hid (show RetEd w0 w base B G.xs R (labN G.gr p fun n => { n with ls := insA n.ls (atS n.ls s) s }) (.returned (.int .i64 0)) (w2.setCell ⟨g, p * 3 + 1, none⟩ (.slice (some ⟨g2, 0, none⟩) (X.ls.length + 1) k2)) from
        ⟨by rw [HE.out], ((below_of HFW.out HB.out).trans (below_grown hgr2 (by have := HFW.out.size; have := HB.out; omega) (fun k e => (HBV.out k e).1))).trans hbl, by have := HFW.out.size; have := hgr2.size; simp; omega, fun _ => ⟨_, hgb, HGR.out _ rfl, rfl⟩⟩)
      clear hbl hgb hgr2 hat2 hown2 HIN HSW HGR d1 d2
      go_wp2
      go_ret
      exact HFIN.out
end Go.Proofs.YtfbijdoomkgodaaGreatDoor

/-! Package change: a label taken from a node of the graph that is edited. -/
namespace Go.Proofs.YtfbijdoomkgodaaGreatDoor
open Go.RowKit

set_option maxHeartbeats 3200000 in
set_option maxRecDepth 100000 in
theorem dellabel_any {w0 w : World} {base B g cap p : Nat} {G : Gp} (h : GBox w0 w base B G) (hp : p < G.ns.length) (hv : G.vn = .slice (some ⟨g, 0, none⟩) G.ns.length cap) (s : List UInt8) (hinc : incS G.ns[p].ls) (h8 : G.ns[p].ls.length ≤ 8) :
    Calls Tryz.prog 125 #[.pointer (some ⟨g, p * 3, none⟩), .string (bs s)] w (RetEd w0 w base B G.xs (if hasS G.ns[p].ls s = true then 0 else 23) (labN G.gr p fun n => { n with ls := delA n.ls (atS n.ls s) })) := by
  obtain ⟨X, hX⟩ : ∃ X, G.ns[p] = X := ⟨_, rfl⟩
  have hm := List.getElem_mem hp
  have hmv := (h.own.no _ hm).l
  have hrow := h.own.lrow hm
  have hgr := fun (x : Np) (e : x.nd = { G.ns[p].nd with ls := delA G.ns[p].nd.ls (atS G.ns[p].nd.ls s) }) => gr_setN hp x (fun n => { n with ls := delA n.ls (atS n.ls s) }) e
  have hcx := csN_get G.ns p 1 hp (by omega)
  have hset := fun (w1 : World) (v : Value) (hf : Fuw w w1) (w2 : World) (ho : (rowL v (delA G.ns[p].ls (atS G.ns[p].ls s))).Own w2 base) (hg : w1.grownBy w2 G.ns[p].vl.ownBlock) (hat : v.ownBlock = G.ns[p].vl.ownBlock ∨ ∀ k, v.ownBlock = some k → w1.heap.size ≤ k) =>
    GBox.setL (h.later hf) hp hv ho hg hat (fun t ht => hmv t (delA_mem ht))
  rw [hX] at hinc h8 hmv hrow hgr hcx hset ⊢
  clear hm hX
  obtain ⟨al, cl, el, sl⟩ := ls_row hrow hmv
  have HBS := Lib.hid (bss_any X.ls al cl s w sl hinc (by omega))
  have hQ : hasS X.ls s = true → atS X.ls s < X.ls.length := fun e => by
    unfold hasS at e
    rw [List.any_eq_true] at e
    obtain ⟨n, hn, en⟩ := e
    have en' : n = s := by simpa using en
    subst en'
    exact (List.getElem?_eq_some_iff.1 (atS_spec hinc hn)).1
  have c1 : w.cell? ⟨g, p * 3 + 1, none⟩ = some (.slice al X.ls.length cl) := by
    have hN := h.own.nrow
    unfold rowN Rw.Own at hN
    simp only [hv] at hN
    exact (rowC_own hN (j := p * 3 + 1) (by omega) (u := .slice al X.ls.length cl) (by rw [hcx, ← el]; rfl)).1
  have HGR := Lib.hid hgr
  have HSET := Lib.hid hset
  have HBV := Lib.hid (fun k (e : X.vl.ownBlock = some k) => (hrow.lt k e))
  have HB := Lib.hid h.hb
  unfold rowL Rw.Own at hrow
  simp only [el] at hrow
  have HROW := Lib.hid hrow
  have hrowF := Lib.hid hrow
  obtain ⟨R, hR⟩ : ∃ R, R = (if hasS X.ls s = true then 0 else 23 : Int) := ⟨_, rfl⟩
  rw [← hR]
  have HR := Lib.hid hR
  have HEL := Lib.hid el
  clear hR hcx hset hgr
  generalize hasS X.ls s = q at *
  obtain ⟨i, hi⟩ : ∃ i, atS X.ls s = i := ⟨_, rfl⟩
  rw [hi] at HBS hQ
  have HI := Lib.hid hi
  clear h hmv sl hinc hrow el hi
  go_enter Tryz.func125, Tryz.ntmps125
  go_wp2_with fail
  go_at_call 180; refine HBS.out.mono ?_; rintro e1 w1 ⟨rfl, f1⟩
  have HF1 := Lib.hid f1
  have d1 : w1.cell? ⟨g, p * 3 + 1, none⟩ = some (.slice al X.ls.length cl) := cellOnw f1 c1
  clear f1 c1 HBS
  cases q with
  | false =>
    have HE := Lib.hid (show R = 23 from HR.out.trans (if_neg (by decide)))
    go_wp2
    go_ret
    exact ⟨ret_int HE.out.symm, below_of HF1.out HB.out, HF1.out.size, fun e => by rw [HE.out] at e; cases e⟩
  | true =>
    have hil := hQ rfl
    have HE := Lib.hid (show R = 0 from HR.out.trans (if_pos rfl))
    rcases (hrowF.out).form' with ⟨-, h0⟩ | ⟨gl, cl', e, hc1, hc2⟩
    · omega
    cases e
    have hi5 : (i : Int) + 1 ≤ 9223372036854775807 := by unfold maxLen at hc2; omega
    have HIN := Lib.hid (show Calls Tryz.prog 182 #[.slice (some ⟨gl, 0, none⟩) X.ls.length cl, .int .i64 (i : Int), .int .i64 ((i : Int) + 1)] w1 (RetDel w1 base 9 1 gl cl (X.ls.length - 1) ((sC X.ls).take (i * 1) ++ (sC X.ls).drop ((i + 1) * 1))) from
      del_s (own_on HROW.out HF1.out) i hil (sC_one _))
    have HSW := Lib.hid (HSET.out w1)
    have HIL := Lib.hid hil
    clear hQ HSET hc1 hc2
    go_upto_region 4 with fail
    go_wp2_with fail
    go_at_call 182; refine HIN.out.mono ?_; rintro e2 w2 ⟨rfl, hown2, hgr2⟩
    have hob : (Value.slice (some ⟨gl, 0, none⟩) X.ls.length cl).ownBlock = some gl := rfl
    rw [← hob, ← HEL.out] at hgr2
    obtain ⟨m0, z0, hbl, hgb⟩ := HSW.out (.slice (some ⟨gl, 0, none⟩) (X.ls.length - 1) cl) HF1.out w2 (by unfold rowL Rw.Own; simp only; rw [HI.out, sC_del, show (delA X.ls i).length = X.ls.length - 1 by have := delA_len X.ls i HIL.out; omega]; exact hown2) hgr2 (.inl (by rw [HEL.out]; rfl))
    have HFIN := Lib.hid (show RetEd w0 w base B G.xs R (labN G.gr p fun n => { n with ls := delA n.ls (atS n.ls s) }) (.returned (.int .i64 0)) (w2.setCell ⟨g, p * 3 + 1, none⟩ (.slice (some ⟨gl, 0, none⟩) (X.ls.length - 1) cl)) from
      ⟨by rw [HE.out], ((below_of HF1.out HB.out).trans (below_grown hgr2 (by have := HF1.out.size; have := HB.out; omega) (fun k e => (HBV.out k e).1))).trans hbl, by have := HF1.out.size; have := hgr2.size; simp; omega, fun _ => ⟨_, hgb, HGR.out _ rfl, rfl⟩⟩)
    clear hbl hgb hgr2 hown2 HIN HSW HGR d1 hob
    go_wp2
    go_ret
    exact HFIN.out
end Go.Proofs.YtfbijdoomkgodaaGreatDoor

/-! Package graph and its reference: Node and Edge, the first with an id. What was there does not turn. -/
namespace Go.Proofs.YtfbijdoomkgodaaGreatDoor
open Go.RowKit

/-- The node, the edge that stands for none. -/
def nilN : Nd := ⟨0, [], []⟩
def nilE : Ed := ⟨0, 0, 0, [], []⟩
def NdIn (w : World) (n : Nd) (al ap : Option Addr) (cl cp : Nat) : Prop := I64 n.id ∧ SlS w al n.ls cl ∧ SlP w ap n.ps cp
def EdIn (w : World) (e : Ed) (ap : Option Addr) (cp : Nat) : Prop := I64 e.id ∧ I64 e.fr ∧ I64 e.to ∧ e.ty.length ≤ maxLen ∧ SlP w ap e.ps cp
theorem NdIn.on {w w' : World} {n : Nd} {al ap : Option Addr} {cl cp : Nat} (h : NdIn w n al ap cl cp) (hf : Fuw w w') : NdIn w' n al ap cl cp := ⟨h.1, slS_on hf h.2.1, slP_on hf h.2.2⟩
theorem EdIn.on {w w' : World} {e : Ed} {ap : Option Addr} {cp : Nat} (h : EdIn w e ap cp) (hf : Fuw w w') : EdIn w' e ap cp := ⟨h.1, h.2.1, h.2.2.1, h.2.2.2.1, slP_on hf h.2.2.2.2⟩
theorem i0 : I64 0 := ⟨by decide, by decide⟩
theorem nilN_in (w : World) : NdIn w nilN none none 0 0 := ⟨i0, Sl.empty _, Sl.empty _⟩
theorem nilE_in (w : World) : EdIn w nilE none 0 := ⟨i0, i0, i0, Nat.zero_le _, Sl.empty _⟩
def RetN (w : World) (V : Option Nd) (x : Ending) (w' : World) : Prop := ∃ al ap cl cp, x = .returned (.tuple #[ndv (V.getD nilN) al ap cl cp, .bool V.isSome]) ∧ NdIn w' (V.getD nilN) al ap cl cp ∧ Fuw w w'
def RetE (w : World) (V : Option Ed) (x : Ending) (w' : World) : Prop := ∃ ap cp, x = .returned (.tuple #[edv (V.getD nilE) ap cp, .bool V.isSome]) ∧ EdIn w' (V.getD nilE) ap cp ∧ Fuw w w'
theorem load_nd (w : World) (b : Nat) (x : Int) (al ap : Option Addr) (nl np cl cp : Nat) (h0 : w.cell? ⟨b, 0, none⟩ = some (.int .i64 x)) (h1 : w.cell? ⟨b, 1, none⟩ = some (.slice al nl cl)) (h2 : w.cell? ⟨b, 2, none⟩ = some (.slice ap np cp)) :
    (loadVar 56 ⟨b, 0, none⟩).run Tryz.prog w = .ok (.agg #[.int .i64 x, .slice al nl cl, .slice ap np cp]) w := by
  go_simp
theorem load_ed (w : World) (b : Nat) (x y z : Int) (s : ByteArray) (ap : Option Addr) (np cp : Nat) (h0 : w.cell? ⟨b, 0, none⟩ = some (.int .i64 x)) (h1 : w.cell? ⟨b, 1, none⟩ = some (.int .i64 y)) (h2 : w.cell? ⟨b, 2, none⟩ = some (.int .i64 z)) (h3 : w.cell? ⟨b, 3, none⟩ = some (.string s)) (h4 : w.cell? ⟨b, 4, none⟩ = some (.slice ap np cp)) :
    (loadVar 58 ⟨b, 0, none⟩).run Tryz.prog w = .ok (.agg #[.int .i64 x, .int .i64 y, .int .i64 z, .string s, .slice ap np cp]) w := by
  go_simp
theorem n_ret {fn : Func} {p u : Tmp} (hres : fn.results = #[.cell p 56, .tmp u]) {tmps : Array Value} {B : Nat} {x : Int} {al ap : Option Addr} {nl np cl cp : Nat} {c : Bool} {w : World} {t : TypeId} {Q : Ending → World → Prop}
    (hp : tmps.getD p undef = .pointer (some ⟨B, 0, none⟩)) (hu : tmps.getD u undef = .bool c) (h : Bk w B #[.int .i64 x, .slice al nl cl, .slice ap np cp] t)
    (hQ : Q (.returned (.tuple #[.agg #[.int .i64 x, .slice al nl cl, .slice ap np cp], .bool c])) w) : bodyPost Tryz.prog fn Q Exit.ret { tmps := tmps, defers := [] } w := by
  refine bodyPost_ret (v := .tuple #[.agg #[.int .i64 x, .slice al nl cl, .slice ap np cp], .bool c]) ?_ rfl hQ
  rw [results_cell_tmp hres, hp, hu]
  have e : (asAddr (.pointer (some ⟨B, 0, none⟩))).run Tryz.prog w = .ok ⟨B, 0, none⟩ w := by go_simp
  rw [e]
  simp only [Result.andThen]
  rw [load_nd w B x al ap nl np cl cp (h.c 0) (h.c 1) (h.c 2)]
theorem e_ret {fn : Func} {p u : Tmp} (hres : fn.results = #[.cell p 58, .tmp u]) {tmps : Array Value} {B : Nat} {x y z : Int} {s : ByteArray} {ap : Option Addr} {np cp : Nat} {c : Bool} {w : World} {t : TypeId} {Q : Ending → World → Prop}
    (hp : tmps.getD p undef = .pointer (some ⟨B, 0, none⟩)) (hu : tmps.getD u undef = .bool c) (h : Bk w B #[.int .i64 x, .int .i64 y, .int .i64 z, .string s, .slice ap np cp] t)
    (hQ : Q (.returned (.tuple #[.agg #[.int .i64 x, .int .i64 y, .int .i64 z, .string s, .slice ap np cp], .bool c])) w) : bodyPost Tryz.prog fn Q Exit.ret { tmps := tmps, defers := [] } w := by
  refine bodyPost_ret (v := .tuple #[.agg #[.int .i64 x, .int .i64 y, .int .i64 z, .string s, .slice ap np cp], .bool c]) ?_ rfl hQ
  rw [results_cell_tmp hres, hp, hu]
  have e : (asAddr (.pointer (some ⟨B, 0, none⟩))).run Tryz.prog w = .ok ⟨B, 0, none⟩ w := by go_simp
  rw [e]
  simp only [Result.andThen]
  rw [load_ed w B x y z s ap np cp (h.c 0) (h.c 1) (h.c 2) (h.c 3) (h.c 4)]
theorem nod_drop (l : List Nd) (x : Int) (i : Nat) (h : i < l.length) : nodV (l.drop i) x = if l[i].id = x then some l[i] else nodV (l.drop (i + 1)) x := by
  unfold nodV
  rw [List.drop_eq_getElem_cons h, List.find?_cons]
  by_cases e : l[i].id = x
  · simp [e]
  · rw [if_neg e, beq_eq_false_iff_ne.2 e]
theorem edg_drop (l : List Ed) (x : Int) (i : Nat) (h : i < l.length) : edgV (l.drop i) x = if l[i].id = x then some l[i] else edgV (l.drop (i + 1)) x := by
  unfold edgV
  rw [List.drop_eq_getElem_cons h, List.find?_cons]
  by_cases e : l[i].id = x
  · simp [e]
  · rw [if_neg e, beq_eq_false_iff_ne.2 e]
theorem nod_end (l : List Nd) (x : Int) (i : Nat) (h : l.length ≤ i) : nodV (l.drop i) x = none := by rw [List.drop_of_length_le h]; rfl
theorem edg_end (l : List Ed) (x : Int) (i : Nat) (h : l.length ≤ i) : edgV (l.drop i) x = none := by rw [List.drop_of_length_le h]; rfl
/-- Three, five stores. -/
theorem bk_put3 {w : World} {B : Nat} {a0 a1 a2 : Value} {t : TypeId} (h : Bk w B #[a0, a1, a2] t) (b0 b1 b2 : Value) : Bk (((w.setCell ⟨B, 0, none⟩ b0).setCell ⟨B, 1, none⟩ b1).setCell ⟨B, 2, none⟩ b2) B #[b0, b1, b2] t :=
  ((h.set_ 0 b0).set_ 1 b1).set_ 2 b2
theorem bk_put5 {w : World} {B : Nat} {a0 a1 a2 a3 a4 : Value} {t : TypeId} (h : Bk w B #[a0, a1, a2, a3, a4] t) (b0 b1 b2 b3 b4 : Value) : Bk (((((w.setCell ⟨B, 0, none⟩ b0).setCell ⟨B, 1, none⟩ b1).setCell ⟨B, 2, none⟩ b2).setCell ⟨B, 3, none⟩ b3).setCell ⟨B, 4, none⟩ b4) B #[b0, b1, b2, b3, b4] t :=
  ((((h.set_ 0 b0).set_ 1 b1).set_ 2 b2).set_ 3 b3).set_ 4 b4
theorem fuw_put3 {w W : World} {B : Nat} (hf : Fuw w W) (hB : w.heap.size ≤ B) (b0 b1 b2 : Value) : Fuw w (((W.setCell ⟨B, 0, none⟩ b0).setCell ⟨B, 1, none⟩ b1).setCell ⟨B, 2, none⟩ b2) := fuwS (fuwS (fuwS hf hB) hB) hB
theorem fuw_put5 {w W : World} {B : Nat} (hf : Fuw w W) (hB : w.heap.size ≤ B) (b0 b1 b2 b3 b4 : Value) : Fuw w (((((W.setCell ⟨B, 0, none⟩ b0).setCell ⟨B, 1, none⟩ b1).setCell ⟨B, 2, none⟩ b2).setCell ⟨B, 3, none⟩ b3).setCell ⟨B, 4, none⟩ b4) := fuwS (fuwS (fuwS (fuwS (fuwS hf hB) hB) hB) hB) hB
set_option maxHeartbeats 3200000 in
set_option maxRecDepth 100000 in
theorem lnode_any (g : Gr) (an ae : Option Addr) (cn ce : Nat) (id : Int) (w : World) (hg : GIn w g an ae cn ce) :
    Calls Tryz.prog 88 #[grv g an ae cn ce, .int .i64 id] w (RetN w (nodV g.ns id)) := by
  have hb0 := (GB.new w g an ae cn ce).on (fuwA _ (.cells #[.int .i64 0, .slice none 0 0, .slice none 0 0] 56))
  have p0 := bk2 w (.cells #[.slice an g.ns.length cn, .slice ae g.es.length ce, .int .i64 g.nn, .int .i64 g.ne] 25) #[.int .i64 0, .slice none 0 0, .slice none 0 0] 56
  have f0 := (fuwA w (.cells #[.slice an g.ns.length cn, .slice ae g.es.length ce, .int .i64 g.nn, .int .i64 g.ne] 25)).trans (fuwA _ (.cells #[.int .i64 0, .slice none 0 0, .slice none 0 0] 56))
  have l1 := hg.n.len
  obtain ⟨R, hR⟩ : ∃ R, R = nodV g.ns id := ⟨_, rfl⟩
  rw [← hR]
  have HR := Lib.hid (show R = nodV (g.ns.drop 0) id from hR)
  clear hR
  unfold grv
  obtain ⟨w0, hw0⟩ : ∃ w0, w0 = (w.alloc (.cells #[.slice an g.ns.length cn, .slice ae g.es.length ce, .int .i64 g.nn, .int .i64 g.ne] 25)).alloc (.cells #[.int .i64 0, .slice none 0 0, .slice none 0 0] 56) := ⟨_, rfl⟩
  rw [← hw0] at f0 hb0 p0
  have HW0 := Lib.hid hw0
  have F0 := Lib.hid f0
  have HG := Lib.hid hb0
  have HB := Lib.hid p0
  have HN := Lib.hid hg.n
  clear hw0 f0 hb0 p0 hg
  go_enter Tryz.func88, Tryz.ntmps88
  go_upto_region 1 with fail
  rw [← HW0.out]
  have q0 := HG.out.c0; have q1 := HG.out.c1; have q2 := HG.out.c2; have q3 := HG.out.c3
  go_wp2
  clear q0 q1 q2 q3
  go_loopw [11] (fun iv wr => ∃ i : Nat, iv = .int .i64 i ∧ i ≤ g.ns.length ∧ Hid (R = nodV (g.ns.drop i) id) ∧ Hid (Fuw w0 wr)) (fun iv _ => g.ns.length - (RowKit.intOf iv).toNat)
  case atStart => exact ⟨0, rfl, Nat.zero_le _, HR, Fuw.refl _⟩
  case round =>
    obtain ⟨i, rfl, hi, HQ, hf⟩ := hrel
    clear HR
    have q0 := (HG.out.on hf.out).c0; have q1 := (HG.out.on hf.out).c1
    by_cases hlt : i < g.ns.length
    · obtain ⟨b, o, rfl, i1, c0, ⟨al, cl, c1, hsl⟩, ap, cp, c2, hsp⟩ := HN.out.get hlt
      replace c0 := cellOnw (F0.out.trans hf.out) c0
      replace c1 := cellOnw (F0.out.trans hf.out) c1
      replace c2 := cellOnw (F0.out.trans hf.out) c2
      have HI := Lib.hid (HQ.out.trans (nod_drop g.ns id i hlt))
      generalize g.ns[i] = x at *
      have HX := Lib.hid (show NdIn w x al ap cl cp from ⟨i1, hsl, hsp⟩)
      clear hsl hsp i1
      by_cases he : x.id = id
      · have HZ := Lib.hid (show R = some x by rw [HI.out, if_pos he])
        have he1 : (x.id == id) = true := by simp [he]
        have HE := Lib.hid he
        clear he
        go_upto_region 5 with fail
        obtain ⟨W, hW⟩ : ∃ W, W = wr.alloc (.cells #[.int .i64 x.id, .slice al x.ls.length cl, .slice ap x.ps.length cp] 56) := ⟨_, rfl⟩
        have hfW : Fuw wr W := by rw [hW]; exact fuwA _ _
        have hBn : Bk W wr.heap.size #[.int .i64 x.id, .slice al x.ls.length cl, .slice ap x.ps.length cp] 56 := by rw [hW]; exact Bk.new _ _ _
        rw [← hW]
        clear hW q0 q1 c0 c1 c2
        have c0 := hBn.c 0
        have c1 := hBn.c 1
        have c2 := hBn.c 2
        have z0 := (HB.out.on (hf.out.trans hfW)).c 0
        have y0 := (HB.out.on (hf.out.trans hfW)).f 0
        have z1 := (HB.out.on (hf.out.trans hfW)).c 1
        have y1 := (HB.out.on (hf.out.trans hfW)).f 1
        have z2 := (HB.out.on (hf.out.trans hfW)).c 2
        have y2 := (HB.out.on (hf.out.trans hfW)).f 2
        have HF := Lib.hid hfW
        clear hfW hBn
        go_wp2
        refine n_ret rfl rfl rfl (bk_put3 (HB.out.on (hf.out.trans HF.out)) _ _ _) ?_
        rw [HZ.out]
        exact ⟨al, ap, cl, cp, rfl, HX.out.on (fuw_put3 (F0.out.trans (hf.out.trans HF.out)) (show w.heap.size ≤ w.heap.size + 1 by omega) _ _ _), fuw_put3 (F0.out.trans (hf.out.trans HF.out)) (show w.heap.size ≤ w.heap.size + 1 by omega) _ _ _⟩
      · have HZ := Lib.hid (show R = nodV (g.ns.drop (i + 1)) id by rw [HI.out, if_neg he])
        have he1 : (x.id == id) = false := beq_eq_false_iff_ne.2 he
        go_wp2
        go_roundw
        case rel => exact ⟨i + 1, by go_num, by omega, HZ, hf.out.trans (fuwA _ _)⟩
        case measure => simp [RowKit.intOf]; omega
    · have HZ := Lib.hid (show R = none by rw [HQ.out, nod_end _ _ _ (by omega)])
      have z0 := (HB.out.on hf.out).c 0
      have y0 := (HB.out.on hf.out).f 0
      have z1 := (HB.out.on hf.out).c 1
      have y1 := (HB.out.on hf.out).f 1
      have z2 := (HB.out.on hf.out).c 2
      have y2 := (HB.out.on hf.out).f 2
      go_wp2
      refine n_ret rfl rfl rfl (bk_put3 (HB.out.on hf.out) _ _ _) ?_
      rw [HZ.out]
      exact ⟨none, none, 0, 0, rfl, nilN_in _, fuw_put3 (F0.out.trans hf.out) (show w.heap.size ≤ w.heap.size + 1 by omega) _ _ _⟩
end Go.Proofs.YtfbijdoomkgodaaGreatDoor
