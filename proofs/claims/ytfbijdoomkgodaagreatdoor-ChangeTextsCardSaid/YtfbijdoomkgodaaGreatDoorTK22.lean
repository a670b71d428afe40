/-
  ChO; ChP; ChT: texts of one kind in one file; each part says what it holds.
-/
import Derived.Test.YtfbijdoomkgodaaGreatDoorTK21

/-! A graph that is edited: a node or an edge taken out, a node's or an edge's slices replaced: what comes of the rows. No program's function is walked here. -/
namespace Go.Proofs.YtfbijdoomkgodaaGreatDoor
open Go.RowKit

theorem at_split {α : Type} {l : List α} {p : Nat} (hp : p < l.length) : l = l.take p ++ l[p] :: l.drop (p + 1) := by
  rw [← List.drop_eq_getElem_cons hp, List.take_append_drop]
theorem perm_at {α : Type} {l : List α} {p : Nat} (hp : p < l.length) : l.Perm (l[p] :: delA l p) := by
  have h := List.perm_middle (a := l[p]) (l₁ := l.take p) (l₂ := l.drop (p + 1))
  rw [← at_split hp] at h
  exact h
theorem delA_set {α : Type} {l : List α} {p : Nat} (x : α) : delA (l.set p x) p = delA l p := by
  unfold delA
  rw [List.take_set_of_le (Nat.le_refl _), List.drop_set_of_lt (Nat.lt_succ_self _)]
theorem inR_atN {ns : List Np} {es : List Ep} {xs : List Rw} {p : Nat} (hp : p < ns.length) : (inR ns es xs).Perm (ns[p].rows ++ inR (delA ns p) es xs) := by
  unfold inR
  rw [← List.append_assoc ns[p].rows]
  refine List.Perm.append_right _ ?_
  have := (perm_at hp).flatMap_right Np.rows
  rwa [List.flatMap_cons] at this
theorem inR_atE {ns : List Np} {es : List Ep} {xs : List Rw} {p : Nat} (hp : p < es.length) : (inR ns es xs).Perm (es[p].rows ++ inR ns (delA es p) xs) := by
  unfold inR
  have := ((perm_at hp).flatMap_right Ep.rows).append_right xs
  rw [List.flatMap_cons, List.append_assoc] at this
  refine (List.Perm.append_left _ this).trans ?_
  exact List.perm_append_comm_assoc _ _ _
theorem canonN {G : Gp} {p : Nat} (hp : p < G.ns.length) : G.rows.Perm (rowL G.ns[p].vl G.ns[p].ls :: rowP G.ns[p].vp G.ns[p].pm :: rowN G.vn G.ns :: rowE G.ve G.es :: inR (delA G.ns p) G.es G.xs) := by
  refine (((inR_atN hp).cons _).cons _).trans ?_
  show ([_, _] ++ ([_, _] ++ _)).Perm ([_, _] ++ ([_, _] ++ _))
  exact List.perm_append_comm_assoc _ _ _
theorem canonE {G : Gp} {p : Nat} (hp : p < G.es.length) : G.rows.Perm (rowP G.es[p].vp G.es[p].pm :: rowN G.vn G.ns :: rowE G.ve G.es :: inR G.ns (delA G.es p) G.xs) := by
  refine (((inR_atE hp).cons _).cons _).trans ?_
  show ([_, _] ++ ([_] ++ _)).Perm ([_] ++ ([_, _] ++ _))
  exact List.perm_append_comm_assoc _ _ _
theorem csN_set1 (v : Value) (ls : List (List UInt8)) : ∀ (ns : List Np) (p : Nat) (h : p < ns.length), csN (ns.set p { ns[p] with ls := ls, vl := v }) = (csN ns).set (p * 3 + 1) v
  | x :: r, 0, _ => rfl
  | x :: r, p + 1, h => by
    show x.C ++ csN (r.set p _) = (x.C ++ csN r).set ((p + 1) * 3 + 1) v
    have e3 : x.C.length = 3 := rfl
    rw [List.set_append_right _ _ (by rw [e3]; omega), e3, show (p + 1) * 3 + 1 - 3 = p * 3 + 1 by omega, ← csN_set1 v ls r p (by simpa using h)]
    rfl
theorem csN_set2 (v : Value) (pm : List (Pp × AC)) : ∀ (ns : List Np) (p : Nat) (h : p < ns.length), csN (ns.set p { ns[p] with pm := pm, vp := v }) = (csN ns).set (p * 3 + 2) v
  | x :: r, 0, _ => rfl
  | x :: r, p + 1, h => by
    show x.C ++ csN (r.set p _) = (x.C ++ csN r).set ((p + 1) * 3 + 2) v
    have e3 : x.C.length = 3 := rfl
    rw [List.set_append_right _ _ (by rw [e3]; omega), e3, show (p + 1) * 3 + 2 - 3 = p * 3 + 2 by omega, ← csN_set2 v pm r p (by simpa using h)]
    rfl
theorem csE_set4 (v : Value) (pm : List (Pp × AC)) : ∀ (es : List Ep) (p : Nat) (h : p < es.length), csE (es.set p { es[p] with pm := pm, vp := v }) = (csE es).set (p * 5 + 4) v
  | x :: r, 0, _ => rfl
  | x :: r, p + 1, h => by
    show x.C ++ csE (r.set p _) = (x.C ++ csE r).set ((p + 1) * 5 + 4) v
    have e3 : x.C.length = 5 := rfl
    rw [List.set_append_right _ _ (by rw [e3]; omega), e3, show (p + 1) * 5 + 4 - 5 = p * 5 + 4 by omega, ← csE_set4 v pm r p (by simpa using h)]
    rfl
/-- One row turns, then one cell of another row takes it in. -/
theorem Rows.two {w w1 : World} {base g n cap j : Nat} {r r' q q' : Rw} {L L' M : List Rw} {u : Value} (h : Rows w base L) (hL : L.Perm (r :: q :: M)) (hL' : L'.Perm (r' :: q' :: M))
    (hg : w.grownBy w1 r.v.ownBlock) (ho : r'.Own w1 base) (hat : r'.v.ownBlock = r.v.ownBlock ∨ ∀ k, r'.v.ownBlock = some k → w.heap.size ≤ k)
    (hq : q.v = .slice (some ⟨g, 0, none⟩) n cap) (hn : q.n = n) (hq' : q' = ⟨q.e, q.s, q.v, q.n, q.xs.set j u⟩) : Rows (w1.setCell ⟨g, j, none⟩ u) base L' ∧ ∀ k, k ∈ blks L' → r'.v.ownBlock = some k ∨ k ∈ blks L := by
  have h1 : Rows w1 base (r' :: q :: M) := Rows.turn (h.perm hL) hg ho hat
  have h2 : Rows w1 base (q :: r' :: M) := h1.perm (List.Perm.swap _ _ _)
  have hqo := h2.own q (List.mem_cons_self ..)
  unfold Rw.Own at hqo
  rw [hq, hn] at hqo
  have hst := hqo.stored j u
  have hb : q.v.ownBlock = some g := by rw [hq]; rfl
  have h3 : Rows (w1.setCell ⟨g, j, none⟩ u) base (q' :: r' :: M) := by
    refine Rows.turn h2 (by rw [hb]; exact hst.2) ?_ (.inl (by rw [hq']))
    rw [hq']
    unfold Rw.Own
    rw [hq, hn]
    exact hst.1
  refine ⟨h3.perm ((List.Perm.swap _ _ _).trans hL'.symm), fun k hk => ?_⟩
  have hk' := (blks_perm hL').mem_iff.1 hk
  obtain ⟨z, hz, hzk⟩ := blks_mem.1 hk'
  rcases List.mem_cons.1 hz with rfl | hz
  · exact .inl hzk
  · refine .inr ((blks_perm hL).mem_iff.2 ?_)
    rcases List.mem_cons.1 hz with rfl | hz
    · rw [hq'] at hzk
      exact blks_mem.2 ⟨q, List.mem_cons_of_mem _ (List.mem_cons_self ..), hzk⟩
    · exact blks_mem.2 ⟨z, List.mem_cons_of_mem _ (List.mem_cons_of_mem _ hz), hzk⟩
theorem set_mem {α : Type} {l : List α} {p : Nat} {x y : α} (h : y ∈ l.set p x) : y = x ∨ y ∈ l := by
  rcases List.mem_or_eq_of_mem_set h with h | h
  · exact .inr h
  · exact .inl h
/-- A node's labels are replaced. -/
theorem GOwn.setL {w0 w w1 : World} {base g cap p : Nat} {G : Gp} (h : GOwn w0 w base G) (hp : p < G.ns.length) (hv : G.vn = .slice (some ⟨g, 0, none⟩) G.ns.length cap) {v : Value} {ls : List (List UInt8)}
    (ho : (rowL v ls).Own w1 base) (hg : w.grownBy w1 G.ns[p].vl.ownBlock) (hat : v.ownBlock = G.ns[p].vl.ownBlock ∨ ∀ k, v.ownBlock = some k → w.heap.size ≤ k) (hl : ∀ s ∈ ls, s.length ≤ maxLen) (hf : Fuw w0 w1) :
    GOwn w0 (w1.setCell ⟨g, p * 3 + 1, none⟩ v) base { G with ns := G.ns.set p { G.ns[p] with ls := ls, vl := v } } ∧ ∀ k, k ∈ blks ({ G with ns := G.ns.set p { G.ns[p] with ls := ls, vl := v } } : Gp).rows → v.ownBlock = some k ∨ k ∈ blks G.rows := by
  have hgb : base ≤ g := by
    have := h.nrow.lt g (by show G.vn.ownBlock = some g; rw [hv]; rfl)
    exact this.1
  have hc : ({ G with ns := G.ns.set p { G.ns[p] with ls := ls, vl := v } } : Gp).rows.Perm (rowL v ls :: rowN G.vn (G.ns.set p { G.ns[p] with ls := ls, vl := v }) :: rowP G.ns[p].vp G.ns[p].pm :: rowE G.ve G.es :: inR (delA G.ns p) G.es G.xs) := by
    have k := canonN (G := { G with ns := G.ns.set p { G.ns[p] with ls := ls, vl := v } }) (p := p) (by simpa using hp)
    simp only [List.getElem_set_self, delA_set] at k
    exact k.trans ((List.Perm.swap _ _ _).cons _)
  obtain ⟨h1, h2⟩ := Rows.two (q := rowN G.vn G.ns) (q' := rowN G.vn (G.ns.set p { G.ns[p] with ls := ls, vl := v })) (j := p * 3 + 1) (u := v) h.rows ((canonN hp).trans ((List.Perm.swap _ _ _).cons _)) hc hg ho hat hv rfl (by
    unfold rowN
    rw [csN_set1 v ls G.ns p hp, List.length_set])
  refine ⟨⟨h1, fun y hy => ?_, h.eo, h.i1, h.i2, fuwS hf (Nat.le_trans h.lo hgb), h.lo⟩, h2⟩
  rcases set_mem hy with rfl | hy
  · have := h.no _ (List.getElem_mem hp)
    exact ⟨this.i, hl, this.p⟩
  · exact h.no y hy
/-- A node's properties are replaced. -/
theorem GOwn.setP {w0 w w1 : World} {base g cap p : Nat} {G : Gp} (h : GOwn w0 w base G) (hp : p < G.ns.length) (hv : G.vn = .slice (some ⟨g, 0, none⟩) G.ns.length cap) {v : Value} {pm : List (Pp × AC)}
    (ho : (rowP v pm).Own w1 base) (hg : w.grownBy w1 G.ns[p].vp.ownBlock) (hat : v.ownBlock = G.ns[p].vp.ownBlock ∨ ∀ k, v.ownBlock = some k → w.heap.size ≤ k) (hl : PmOk w0 pm) (hf : Fuw w0 w1) :
    GOwn w0 (w1.setCell ⟨g, p * 3 + 2, none⟩ v) base { G with ns := G.ns.set p { G.ns[p] with pm := pm, vp := v } } ∧ ∀ k, k ∈ blks ({ G with ns := G.ns.set p { G.ns[p] with pm := pm, vp := v } } : Gp).rows → v.ownBlock = some k ∨ k ∈ blks G.rows := by
  have hgb : base ≤ g := by
    have := h.nrow.lt g (by show G.vn.ownBlock = some g; rw [hv]; rfl)
    exact this.1
  have hc : ({ G with ns := G.ns.set p { G.ns[p] with pm := pm, vp := v } } : Gp).rows.Perm (rowP v pm :: rowN G.vn (G.ns.set p { G.ns[p] with pm := pm, vp := v }) :: rowL G.ns[p].vl G.ns[p].ls :: rowE G.ve G.es :: inR (delA G.ns p) G.es G.xs) := by
    have k := canonN (G := { G with ns := G.ns.set p { G.ns[p] with pm := pm, vp := v } }) (p := p) (by simpa using hp)
    simp only [List.getElem_set_self, delA_set] at k
    exact k.trans ((List.Perm.swap _ _ _).trans ((List.Perm.swap _ _ _).cons _))
  obtain ⟨h1, h2⟩ := Rows.two (q := rowN G.vn G.ns) (q' := rowN G.vn (G.ns.set p { G.ns[p] with pm := pm, vp := v })) (j := p * 3 + 2) (u := v) h.rows ((canonN hp).trans ((List.Perm.swap _ _ _).trans ((List.Perm.swap _ _ _).cons _))) hc hg ho hat hv rfl (by
    unfold rowN
    rw [csN_set2 v pm G.ns p hp, List.length_set])
  refine ⟨⟨h1, fun y hy => ?_, h.eo, h.i1, h.i2, fuwS hf (Nat.le_trans h.lo hgb), h.lo⟩, h2⟩
  rcases set_mem hy with rfl | hy
  · have := h.no _ (List.getElem_mem hp)
    exact ⟨this.i, this.l, hl⟩
  · exact h.no y hy
/-- An edge's properties are replaced. -/
theorem GOwn.setQ {w0 w w1 : World} {base g cap p : Nat} {G : Gp} (h : GOwn w0 w base G) (hp : p < G.es.length) (hv : G.ve = .slice (some ⟨g, 0, none⟩) G.es.length cap) {v : Value} {pm : List (Pp × AC)}
    (ho : (rowP v pm).Own w1 base) (hg : w.grownBy w1 G.es[p].vp.ownBlock) (hat : v.ownBlock = G.es[p].vp.ownBlock ∨ ∀ k, v.ownBlock = some k → w.heap.size ≤ k) (hl : PmOk w0 pm) (hf : Fuw w0 w1) :
    GOwn w0 (w1.setCell ⟨g, p * 5 + 4, none⟩ v) base { G with es := G.es.set p { G.es[p] with pm := pm, vp := v } } ∧ ∀ k, k ∈ blks ({ G with es := G.es.set p { G.es[p] with pm := pm, vp := v } } : Gp).rows → v.ownBlock = some k ∨ k ∈ blks G.rows := by
  have hgb : base ≤ g := by
    have := h.erow.lt g (by show G.ve.ownBlock = some g; rw [hv]; rfl)
    exact this.1
  have hc : ({ G with es := G.es.set p { G.es[p] with pm := pm, vp := v } } : Gp).rows.Perm (rowP v pm :: rowE G.ve (G.es.set p { G.es[p] with pm := pm, vp := v }) :: rowN G.vn G.ns :: inR G.ns (delA G.es p) G.xs) := by
    have k := canonE (G := { G with es := G.es.set p { G.es[p] with pm := pm, vp := v } }) (p := p) (by simpa using hp)
    simp only [List.getElem_set_self, delA_set] at k
    exact k.trans ((List.Perm.swap _ _ _).cons _)
  obtain ⟨h1, h2⟩ := Rows.two (q := rowE G.ve G.es) (q' := rowE G.ve (G.es.set p { G.es[p] with pm := pm, vp := v })) (j := p * 5 + 4) (u := v) h.rows ((canonE hp).trans ((List.Perm.swap _ _ _).cons _)) hc hg ho hat hv rfl (by
    unfold rowE
    rw [csE_set4 v pm G.es p hp, List.length_set])
  refine ⟨⟨h1, h.no, fun y hy => ?_, h.i1, h.i2, fuwS hf (Nat.le_trans h.lo hgb), h.lo⟩, h2⟩
  rcases set_mem hy with rfl | hy
  · have := h.eo _ (List.getElem_mem hp)
    exact ⟨this.i, this.f, this.t, this.y, hl⟩
  · exact h.eo y hy
/-- A node is taken out. -/
theorem GOwn.delN {w0 w w1 : World} {base p : Nat} {G : Gp} (h : GOwn w0 w base G) {v : Value} (ho : w1.ownsRow base 56 3 v (G.ns.length - 1) ((csN G.ns).take (p * 3) ++ (csN G.ns).drop ((p + 1) * 3))) (hp : p < G.ns.length)
    (hg : w.grownBy w1 G.vn.ownBlock) (hat : v.ownBlock = G.vn.ownBlock) (hf : Fuw w0 w1) :
    GOwn w0 w1 base { G with vn := v, ns := delA G.ns p } ∧ ∀ k, k ∈ blks ({ G with vn := v, ns := delA G.ns p } : Gp).rows → k ∈ blks G.rows := by
  have e : rowN v (delA G.ns p) = ⟨56, 3, v, G.ns.length - 1, (csN G.ns).take (p * 3) ++ (csN G.ns).drop ((p + 1) * 3)⟩ := by
    have := delA_len G.ns p hp
    unfold rowN
    rw [csN_del, show (delA G.ns p).length = G.ns.length - 1 by omega]
  have h1 : Rows w1 base (rowN v (delA G.ns p) :: rowE G.ve G.es :: inR G.ns G.es G.xs) := by
    rw [e]
    exact Rows.turn h.rows hg ho (.inl hat)
  have hs : (inR (delA G.ns p) G.es G.xs).Sublist (inR G.ns G.es G.xs) := by
    unfold inR
    refine List.Sublist.append_right ?_ _
    have hq := inR_atN (es := []) (xs := []) hp
    unfold delA
    have e1 : G.ns.flatMap Np.rows = (G.ns.take p).flatMap Np.rows ++ (G.ns[p].rows ++ (G.ns.drop (p + 1)).flatMap Np.rows) := by
      conv => lhs; rw [at_split hp]
      rw [List.flatMap_append, List.flatMap_cons]
    have _ := hq
    rw [e1, List.flatMap_append]
    exact List.Sublist.append_left (List.sublist_append_right _ _) _
  refine ⟨⟨h1.sub ((hs.cons_cons _).cons_cons _), fun y hy => h.no y (delA_mem hy), h.eo, h.i1, h.i2, hf, h.lo⟩, fun k hk => ?_⟩
  obtain ⟨r, hr, hrk⟩ := blks_mem.1 hk
  rcases List.mem_cons.1 hr with rfl | hr
  · exact blks_mem.2 ⟨_, List.mem_cons_self .., by rw [← hrk]; exact hat.symm⟩
  · rcases List.mem_cons.1 hr with rfl | hr
    · exact blks_mem.2 ⟨_, List.mem_cons_of_mem _ (List.mem_cons_self ..), hrk⟩
    · exact blks_mem.2 ⟨r, List.mem_cons_of_mem _ (List.mem_cons_of_mem _ (hs.subset hr)), hrk⟩
/-- An edge is taken out. -/
theorem GOwn.delE {w0 w w1 : World} {base p : Nat} {G : Gp} (h : GOwn w0 w base G) {v : Value} (ho : w1.ownsRow base 58 5 v (G.es.length - 1) ((csE G.es).take (p * 5) ++ (csE G.es).drop ((p + 1) * 5))) (hp : p < G.es.length)
    (hg : w.grownBy w1 G.ve.ownBlock) (hat : v.ownBlock = G.ve.ownBlock) (hf : Fuw w0 w1) :
    GOwn w0 w1 base { G with ve := v, es := delA G.es p } ∧ ∀ k, k ∈ blks ({ G with ve := v, es := delA G.es p } : Gp).rows → k ∈ blks G.rows := by
  have e : rowE v (delA G.es p) = ⟨58, 5, v, G.es.length - 1, (csE G.es).take (p * 5) ++ (csE G.es).drop ((p + 1) * 5)⟩ := by
    have := delA_len G.es p hp
    unfold rowE
    rw [csE_del, show (delA G.es p).length = G.es.length - 1 by omega]
  have h0 : Rows w base (rowE G.ve G.es :: rowN G.vn G.ns :: inR G.ns G.es G.xs) := h.rows.perm (List.Perm.swap _ _ _)
  have h1 : Rows w1 base (rowE v (delA G.es p) :: rowN G.vn G.ns :: inR G.ns G.es G.xs) := by
    rw [e]
    exact Rows.turn h0 hg ho (.inl hat)
  have hs : (inR G.ns (delA G.es p) G.xs).Sublist (inR G.ns G.es G.xs) := by
    unfold inR
    refine List.Sublist.append_left (List.Sublist.append_right ?_ _) _
    unfold delA
    have e1 : G.es.flatMap Ep.rows = (G.es.take p).flatMap Ep.rows ++ (G.es[p].rows ++ (G.es.drop (p + 1)).flatMap Ep.rows) := by
      conv => lhs; rw [at_split hp]
      rw [List.flatMap_append, List.flatMap_cons]
    rw [e1, List.flatMap_append]
    exact List.Sublist.append_left (List.sublist_append_right _ _) _
  refine ⟨⟨(h1.sub ((hs.cons_cons _).cons_cons _)).perm (List.Perm.swap _ _ _), h.no, fun y hy => h.eo y (delA_mem hy), h.i1, h.i2, hf, h.lo⟩, fun k hk => ?_⟩
  obtain ⟨r, hr, hrk⟩ := blks_mem.1 hk
  rcases List.mem_cons.1 hr with rfl | hr
  · exact blks_mem.2 ⟨_, List.mem_cons_self .., hrk⟩
  · rcases List.mem_cons.1 hr with rfl | hr
    · exact blks_mem.2 ⟨_, List.mem_cons_of_mem _ (List.mem_cons_self ..), by rw [← hrk]; exact hat.symm⟩
    · exact blks_mem.2 ⟨r, List.mem_cons_of_mem _ (List.mem_cons_of_mem _ (hs.subset hr)), hrk⟩
end Go.Proofs.YtfbijdoomkgodaaGreatDoor

/-! Package change: a node taken out of the graph that is edited, an edge set in. -/
namespace Go.Proofs.YtfbijdoomkgodaaGreatDoor
open Go.RowKit

theorem GOwn.formN {w0 w : World} {base : Nat} {G : Gp} (h : GOwn w0 w base G) (hp : 0 < G.ns.length) : ∃ g cap, G.vn = .slice (some ⟨g, 0, none⟩) G.ns.length cap ∧ base ≤ g ∧ g < w.heap.size := h.nrow.form hp
theorem GOwn.formE {w0 w : World} {base : Nat} {G : Gp} (h : GOwn w0 w base G) (hp : 0 < G.es.length) : ∃ g cap, G.ve = .slice (some ⟨g, 0, none⟩) G.es.length cap ∧ base ≤ g ∧ g < w.heap.size := h.erow.form hp
set_option maxHeartbeats 3200000 in
set_option maxRecDepth 100000 in
theorem delnode_any {w0 w : World} {base B : Nat} {G : Gp} (h : GBox w0 w base B G) (p : Nat) (hp : p < G.ns.length) :
    Calls Tryz.prog 126 #[.pointer (some ⟨B, 0, none⟩), .int .i64 (p : Int)] w (RetEd w0 w base B G.xs (if useV G.gr.es G.ns[p].id = true then 12 else 0) { G.gr with ns := delA G.gr.ns p }) := by
  have hlb : base ≤ w.heap.size := Nat.le_trans h.hi (Nat.le_of_lt h.box.lt)
  obtain ⟨X, hX⟩ : ∃ X, G.ns[p].id = X := ⟨_, rfl⟩
  rw [hX]
  have HU := Lib.hid (used_any h X)
  obtain ⟨g, cap, ev, hgb, hgl⟩ := h.own.formN (by omega)
  obtain ⟨R, hR⟩ : ∃ R, R = (if useV G.gr.es X = true then 12 else 0 : Int) := ⟨_, rfl⟩
  rw [← hR]
  have HR := Lib.hid hR
  clear hR
  have ci : w.cell? ⟨g, 0 + p * 3 + 0, none⟩ = some (.int .i64 X) := by
    have hr := h.own.nrow
    unfold rowN Rw.Own at hr
    simp only [ev] at hr
    have k := hr.cellAt (p * 3 + 0) (by omega)
    rw [csN_get G.ns p 0 hp (by omega)] at k
    rw [show 0 + p * 3 + 0 = p * 3 + 0 by omega]
    rw [← hX]
    exact k
  simp only [Nat.add_zero, Nat.zero_add] at ci
  have HH := Lib.hid h
  have HL := Lib.hid hlb
  have HEV := Lib.hid ev
  have HPP := Lib.hid hp
  have c0 := h.box.c 0
  simp only [ev] at c0
  have lB := h.box.lt
  generalize useV G.gr.es X = q at *
  clear h hlb ev hX
  go_enter Tryz.func126, Tryz.ntmps126
  go_wp2_with fail
  go_at_call 183; refine HU.out.mono ?_; rintro e1 w1 ⟨rfl, f1⟩
  have HF1 := Lib.hid f1
  have HG1 := Lib.hid (HH.out.later f1)
  cases q with
  | true =>
    have HE := Lib.hid (show R = 12 from HR.out.trans (if_pos rfl))
    clear HU f1
    go_wp2
    go_ret
    exact ⟨ret_int HE.out.symm, below_of HF1.out HL.out, HF1.out.size, fun e => by rw [HE.out] at e; cases e⟩
  | false =>
    have HE := Lib.hid (show R = 0 from HR.out.trans (if_neg (by decide)))
    have HD := Lib.hid (show Calls Tryz.prog 184 #[.slice (some ⟨g, 0, none⟩) G.ns.length cap, .int .i64 (p : Int), .int .i64 ((p : Int) + 1)] w1 (RetDel w1 base 56 3 g cap (G.ns.length - 1) ((csN G.ns).take (p * 3) ++ (csN G.ns).drop ((p + 1) * 3))) from by
      have hr := HG1.out.own.nrow
      unfold rowN Rw.Own at hr
      simp only [HEV.out] at hr
      exact del_n hr p hp HG1.out.own.oneN)
    have hne : B ≠ g := fun e => HG1.out.far (blks_mem.2 ⟨rowN G.vn G.ns, List.mem_cons_self .., by unfold rowN; rw [HEV.out, e]; rfl⟩)
    have HNE := Lib.hid hne
    have d0 : w1.cell? ⟨B, 0, none⟩ = some (.slice (some ⟨g, 0, none⟩) G.ns.length cap) := cellOnw HF1.out c0
    clear c0 ci HU f1
    have hn5 : (p : Int) + 1 ≤ 9223372036854775807 := by
      have hr := HG1.out.own.nrow
      unfold rowN Rw.Own at hr
      simp only [HEV.out] at hr
      rcases hr.form' with ⟨k, -⟩ | ⟨g', cap', k, h1, h2⟩
      · cases k
      · unfold maxLen at h2; omega
    go_upto_region 3 with fail
    go_wp2_with fail
    go_at_call 184; refine HD.out.mono ?_; rintro e2 w2 ⟨rfl, hown2, hgr2⟩
    have bx2 : Bk w2 B #[.slice (some ⟨g, 0, none⟩) G.ns.length cap, G.ve, .int .i64 G.nn, .int .i64 G.ne] 25 := by
      have := HG1.out.box.grow hgr2 (fun e => HNE.out (by injection e))
      rw [HEV.out] at this
      exact this
    have m0 := bx2.c 0
    have z0 := bx2.f 0
    have HFIN := Lib.hid (show RetEd w0 w base B G.xs R { G.gr with ns := delA G.gr.ns p } (.returned (.int .i64 0)) (w2.setCell ⟨B, 0, none⟩ (.slice (some ⟨g, 0, none⟩) (G.ns.length - 1) cap)) from by
      have hbB := HG1.out.hi
      have hbl : Below base w1 w2 := below_grown hgr2 (by have := HF1.out.size; have := HL.out; omega) (fun k e => by injection e with e; rw [← e]; exact hgb)
      have hfu : Fuw w0 w2 := HG1.out.own.fu.trans_below hbl HG1.out.own.lo
      obtain ⟨hn1, hn2⟩ := GOwn.delN HG1.out.own hown2 hp (by rw [HEV.out]; exact hgr2) (by rw [HEV.out]; rfl) hfu
      have hfar := fun e => HG1.out.far (hn2 B e)
      refine ⟨by rw [HE.out], Below.setCell ((below_of HF1.out HL.out).trans hbl) hbB _, ?_, fun _ => ⟨_, ⟨hn1.far hfar hbB, ?_, hfar, hbB⟩, ?_, rfl⟩⟩
      · have := HF1.out.size
        have := hgr2.size
        simp; omega
      · exact bx2.set_ 0 _
      · unfold Gp.gr
        simp only [delA_map])
    clear bx2 hgr2 hown2 HD
    go_wp2
    go_ret
    exact HFIN.out
end Go.Proofs.YtfbijdoomkgodaaGreatDoor

/-! Package change: where a label stands, or would stand (slices.BinarySearch at strings). Nothing that was there turns. -/
namespace Go.Proofs.YtfbijdoomkgodaaGreatDoor
open Go.RowKit

theorem nan1_any (s : ByteArray) (w : World) : Calls Tryz.prog 197 #[.string s] w (PureB w false) := by
  have es : (s.toList == s.toList) = true := beq_self_eq_true _
  have en : (s.toList != s.toList) = false := by simp
  go_enter Tryz.func197, Tryz.ntmps197
  go_wp2
  go_ret
  exact ⟨rfl, rfl⟩
theorem nan2_any (s : ByteArray) (w : World) : Calls Tryz.prog 210 #[.string s] w (PureB w false) := by
  have es : (s.toList == s.toList) = true := beq_self_eq_true _
  have en : (s.toList != s.toList) = false := by simp
  go_enter Tryz.func210, Tryz.ntmps210
  go_wp2
  go_ret
  exact ⟨rfl, rfl⟩
theorem less_any (a b : List UInt8) (w : World) : Calls Tryz.prog 209 #[.string (bs a), .string (bs b)] w (PureB w (Op.bytesLess a b)) := by
  have e1 : Op.bytesLess (bs a).toList (bs b).toList = Op.bytesLess a b := by rw [ByteArray.toList_eq, ByteArray.toList_eq, bs_data, bs_data]
  obtain ⟨q, hq⟩ : ∃ q, q = Op.bytesLess a b := ⟨_, rfl⟩
  rw [← hq] at e1 ⊢
  clear hq
  go_enter Tryz.func209, Tryz.ntmps209
  go_wp2_with (go_at_call 197; refine (nan1_any _ _).mono ?_; rintro e w' ⟨rfl, rfl⟩)
  go_ret
  exact ⟨rfl, rfl⟩
theorem strc_cases (a b : List UInt8) : (strc a b < 0 ↔ Op.bytesLess a b = true) ∧ (strc a b = 0 ↔ a = b) := by
  rcases str_less' a b with ⟨e, g1, g2, g3⟩ | ⟨e, g1, g2, g3⟩ | ⟨e, g1, g2, g3⟩
  · rw [e, g1]
    exact ⟨by simp, by simp at g3 ⊢; exact g3⟩
  · rw [e, g1]
    exact ⟨by simp, by simp at g3 ⊢; exact g3⟩
  · rw [e, g1]
    exact ⟨by simp, by simp at g3 ⊢; exact g3⟩
theorem posC_str : ∀ (l : List (List UInt8)) (s : List UInt8), posC (l.map fun n => strc n s) = atS l s
  | [], _ => rfl
  | n :: r, s => by
    show (if strc n s < 0 then posC (r.map fun n => strc n s) + 1 else 0) = if Op.bytesLess n s = true then atS r s + 1 else 0
    rw [posC_str r s]
    by_cases h : Op.bytesLess n s = true
    · rw [if_pos h, if_pos ((strc_cases n s).1.2 h)]
    · rw [if_neg h, if_neg (fun k => h ((strc_cases n s).1.1 k))]
theorem monC_str {l : List (List UInt8)} {s : List UInt8} (h : incS l) : MonC (l.map fun n => strc n s) := by
  intro i j hi hj hij hk
  rw [List.length_map] at hi hj
  rw [List.getElem_map] at *
  have h1 : Op.bytesLess l[i] l[j] = true := List.pairwise_iff_getElem.1 h i j hi hj hij
  rcases Int.lt_or_le 0 (strc l[j] s) with k | k
  · exact k
  · exfalso
    have hlt : Op.bytesLess l[i] s = true := by
      rcases Int.lt_or_eq_of_le k with g | g
      · exact bl_trans h1 ((strc_cases _ _).1.1 g)
      · rw [← (strc_cases _ _).2.1 g]; exact h1
    have := (strc_cases l[i] s).1.2 hlt
    omega
theorem atS_spec {l : List (List UInt8)} {s : List UInt8} (h : incS l) (hs : s ∈ l) : l[atS l s]? = some s := by
  induction l with
  | nil => cases hs
  | cons y r ih =>
    have h' := List.pairwise_cons.1 h
    rw [at_cons]
    by_cases g : Op.bytesLess y s = true
    · rw [if_pos g]
      rcases List.mem_cons.1 hs with e | e
      · rw [e, bl_irr] at g; cases g
      · exact ih h'.2 e
    · rw [if_neg g]
      rcases List.mem_cons.1 hs with e | e
      · rw [e]; rfl
      · exact absurd (h'.1 s e) g
theorem fnd_str {l : List (List UInt8)} {s : List UInt8} (h : incS l) : fndC (l.map fun n => strc n s) = hasS l s := by
  unfold fndC hasS
  rw [posC_str, List.getElem?_map, Bool.eq_iff_iff, decide_eq_true_iff, List.any_eq_true]
  constructor
  · intro e
    cases hg : l[atS l s]? with
    | none => rw [hg] at e; cases e
    | some n =>
      rw [hg] at e
      have e' : strc n s = 0 := by simpa using e
      exact ⟨n, List.mem_of_getElem? hg, by simpa using (strc_cases n s).2.1 e'⟩
  · rintro ⟨n, hn, e⟩
    have e' : n = s := by simpa using e
    subst e'
    rw [atS_spec h hn]
    exact congrArg some ((strc_cases n n).2.2 rfl)
theorem fnd_key {ps : List Pp} {s : List UInt8} (h : incS (keysV ps)) : fndC (ps.map fun n => strc n.k s) = hasK ps s ∧ posC (ps.map fun n => strc n.k s) = atS (keysV ps) s := by
  have e : (ps.map fun n => strc n.k s) = (keysV ps).map fun n => strc n s := by unfold keysV; rw [List.map_map]; rfl
  rw [e]
  exact ⟨fnd_str h, posC_str _ _⟩
theorem mon_key {ps : List Pp} {s : List UInt8} (h : incS (keysV ps)) : MonC (ps.map fun n => strc n.k s) := by
  have e : (ps.map fun n => strc n.k s) = (keysV ps).map fun n => strc n s := by unfold keysV; rw [List.map_map]; rfl
  rw [e]
  exact monC_str h
set_option maxHeartbeats 3200000 in
set_option maxRecDepth 100000 in
theorem bss_any (ls : List (List UInt8)) (ao : Option Addr) (cap : Nat) (s : List UInt8) (w : World) (hs : SlS w ao ls cap) (hp : incS ls) (hn : ls.length ≤ 5000) :
    Calls Tryz.prog 180 #[.slice ao ls.length cap, .string (bs s)] w (RetFi w (atS ls s) (hasS ls s)) := by
  have HS := Lib.hid hs
  obtain ⟨cs, hcs⟩ : ∃ cs, cs = ls.map fun n => strc n s := ⟨_, rfl⟩
  have HP := Lib.hid (show MonC cs by rw [hcs]; exact monC_str hp)
  have hcl : cs.length = ls.length := by rw [hcs, List.length_map]
  have HG := Lib.hid (show ∀ (k : Nat) (h : k < ls.length) (h' : k < cs.length), cs[k] = strc ls[k] s from fun k h h' => by simp only [hcs, List.getElem_map])
  have HPO := Lib.hid (show posC cs = atS ls s by rw [hcs]; exact posC_str _ _)
  have HFN := Lib.hid (show fndC cs = hasS ls s by rw [hcs]; exact fnd_str hp)
  clear hcs
  have HB := Lib.hid (show BsC cs 0 ls.length from ⟨Nat.zero_le _, by omega, fun k _ h => absurd h (by omega), fun k h h' => absurd h (by omega)⟩)
  have HL := Lib.hid hcl
  clear hs hp hcl
  generalize hasS ls s = R at *
  go_enter Tryz.func180, Tryz.ntmps180
  go_wp2
  go_loop [7, 8] (fun iv jv => ∃ i j : Nat, iv = .int .i64 i ∧ jv = .int .i64 j ∧ i ≤ j ∧ j ≤ ls.length ∧ Hid (BsC cs i j)) (fun iv jv => (RowKit.intOf jv).toNat - (RowKit.intOf iv).toNat)
  case atStart => exact ⟨0, ls.length, rfl, rfl, Nat.zero_le _, Nat.le_refl _, HB⟩
  case round =>
    obtain ⟨i, j, rfl, rfl, hij, hj, HI⟩ := hrel
    by_cases hlt : i < j
    · have hm : (i + j) / 2 < ls.length := by omega
      obtain ⟨b, o, rfl, -, c0⟩ := HS.out.get hm
      rw [Nat.mul_one] at c0
      have HM := Lib.hid (bsC_mid HP.out HI.out hlt (by rw [HL.out]; exact hm))
      have HGM := Lib.hid (HG.out _ hm (by rw [HL.out]; exact hm))
      have hh : ((i : Int) + (j : Int)) / 2 = ((i + j) / 2 : Nat) := by omega
      have h1 : i ≤ (i + j) / 2 := by omega
      have h2 : (i + j) / 2 < j := by omega
      rw [HGM.out] at HM
      clear HGM
      have HC := Lib.hid (less_any ls[(i + j) / 2] s w)
      have HQ := Lib.hid (strc_cases ls[(i + j) / 2] s).1
      generalize ls[(i + j) / 2] = n at *
      generalize (i + j) / 2 = m at *
      generalize strc n s = q at *
      generalize Op.bytesLess n s = t at *
      go_wp2_with fail
      go_at_call 209; refine HC.out.mono ?_; rintro e1 w1 ⟨rfl, rfl⟩
      clear hh
      cases t with
      | true =>
        have HZ := Lib.hid (HM.out.1 (HQ.out.2 (by first | rfl | trivial)))
        go_wp2
        go_round
        case rel => exact ⟨m + 1, j, by go_num, rfl, by omega, hj, HZ⟩
        case measure => simp [RowKit.intOf]; omega
      | false =>
        have HZ := Lib.hid (HM.out.2 (by
          rcases Int.lt_or_le q 0 with k | k
          · have := HQ.out.1 k; simp at this
          · exact k))
        go_wp2
        go_round
        case rel => exact ⟨i, m, rfl, rfl, h1, by omega, HZ⟩
        case measure => simp [RowKit.intOf]; omega
    · obtain rfl : i = j := by omega
      have HE := Lib.hid (bsC_end HI.out)
      by_cases hi : i < ls.length
      · have HE2 := Lib.hid (show (ls[i] = s → fndC cs = true) ∧ (¬ ls[i] = s → fndC cs = false) by
          rw [fnd_in HE.out (by rw [HL.out]; exact hi), HG.out i hi]
          exact ⟨fun h => decide_eq_true ((strc_cases _ _).2.2 h), fun h => decide_eq_false fun k => h ((strc_cases _ _).2.1 k)⟩)
        obtain ⟨b, o, rfl, -, c0⟩ := HS.out.get hi
        rw [Nat.mul_one] at c0
        have hbe := bs_eq ls[i] s
        have hbn : ((bs ls[i]).toList != (bs s).toList) = !(ls[i] == s) := by rw [bne, hbe]
        have HQ := Lib.hid (show (ls[i] == s) = true ↔ ls[i] = s from beq_iff_eq)
        generalize ls[i] = n at *
        generalize (n == s) = t at *
        cases t with
        | true =>
          have HT := Lib.hid (show R = true from HFN.out.symm.trans (HE2.out.1 (HQ.out.1 (by first | rfl | trivial))))
          go_wp2
          go_ret2
          exact ⟨(by rw [HT.out, ← HPO.out, HE.out]; rfl), Fuw.refl _⟩
        | false =>
          have HT := Lib.hid (show R = false from HFN.out.symm.trans (HE2.out.2 (fun k => by have := HQ.out.2 k; simp at this)))
          go_wp2_with (go_at_call 210; refine (nan2_any _ _).mono ?_; rintro e w' ⟨rfl, rfl⟩)
          go_ret2
          exact ⟨(by rw [HT.out, ← HPO.out, HE.out]; rfl), Fuw.refl _⟩
      · have HT := Lib.hid (show R = false from HFN.out.symm.trans (fnd_out HE.out (by rw [HL.out]; omega)))
        go_wp2
        go_ret2
        exact ⟨(by rw [HT.out, ← HPO.out, HE.out]; rfl), Fuw.refl _⟩
end Go.Proofs.YtfbijdoomkgodaaGreatDoor
