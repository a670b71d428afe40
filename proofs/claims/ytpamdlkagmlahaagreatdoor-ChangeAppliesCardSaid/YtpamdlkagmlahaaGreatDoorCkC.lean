import Derived.Test.YtpamdlkagmlahaaGreatDoorK20
import Derived.Test.YtpamdlkagmlahaaGreatDoorK28
namespace Go.Proofs.YtpamdlkagmlahaaGreatDoor
open Go.RowKit
section
variable {α β : Type} (Y : Lay α β)
theorem Lay.pms {w : World} {b : Nat} (inv : ∀ x o, Y.P w x b o → ∃ m, Y.I x ∧ Y.J x m w ∧ ∀ j, j < Y.size → w.cell? ⟨b, o + j, none⟩ = (Y.C x m)[j]?) : ∀ (L : List α) (o : Nat), (∀ (i : Nat) (h : i < L.length), Y.P w L[i] b (o + i * Y.size)) →
  ∃ ps : List (α × β), ps.map Prod.fst = L ∧ (∀ p ∈ ps, Y.I p.1 ∧ Y.J p.1 p.2 w) ∧ ∀ j u, (Y.cs ps)[j]? = some u → w.cell? ⟨b, o + j, none⟩ = some u
 | [], _, _ => ⟨[], rfl, (fun _ h => by cases h), fun j u h => by simp [Lay.cs] at h⟩
 | x :: L, o, h => by
  obtain ⟨m, h1, h2, h3⟩ := inv x o (by have := h 0 (by simp); simpa using this)
  obtain ⟨ps, e, hn, hc⟩ := Lay.pms inv L (o + Y.size) (fun i hi => by
   have k := h (i + 1) (by simpa using hi)
   rw [show o + (i + 1) * Y.size = o + Y.size + i * Y.size by rw [Nat.add_mul, Nat.one_mul]; omega] at k
   exact k)
  refine ⟨(x, m) :: ps, by rw [List.map_cons, e], ?_, ?_⟩
  ·intro p hp
   rcases List.mem_cons.1 hp with rfl | hp
   ·exact ⟨h1, h2⟩
   ·exact hn p hp
  ·intro j u hj
   have hcs : Y.cs ((x, m) :: ps) = Y.C x m ++ Y.cs ps := rfl
   rw [hcs] at hj
   by_cases g : j < Y.size
   ·rw [List.getElem?_append_left (by rw [Y.len]; exact g)] at hj
    rw [h3 j g]; exact hj
   ·rw [List.getElem?_append_right (by rw [Y.len]; omega), Y.len] at hj
    have := hc (j - Y.size) u hj
    rwa [show o + Y.size + (j - Y.size) = o + j by omega] at this
theorem Lay.of_sl {w : World} (inv : ∀ x b o, Y.P w x b o → ∃ m, Y.I x ∧ Y.J x m w ∧ ∀ j, j < Y.size → w.cell? ⟨b, o + j, none⟩ = (Y.C x m)[j]?) {ao : Option Addr} {l : List α} {cap : Nat} (h : Sl Y.size Y.P w ao l cap) :
  ∃ ps : List (α × β), ps.map Prod.fst = l ∧ (∀ p ∈ ps, Y.I p.1 ∧ Y.J p.1 p.2 w) ∧ ∀ p, ao = some p → ∀ j u, (Y.cs ps)[j]? = some u → w.cell? (p.add j) = some u := by
 rcases Nat.eq_zero_or_pos l.length with h0 | h0
 ·exact ⟨[], (List.eq_nil_of_length_eq_zero h0).symm, (fun _ h => by cases h), fun p _ j u h => by simp [Lay.cs] at h⟩
 ·obtain ⟨b, o, e, hc⟩ := h.at_ h0
  obtain ⟨ps, e1, e2, e3⟩ := Y.pms (b := b) (fun x o => inv x b o) l o hc
  refine ⟨ps, e1, e2, fun p hp j u hj => ?_⟩
  rw [e] at hp
  obtain rfl := Option.some.inj hp
  rw [Addr.add_lit]; exact e3 j u hj
end
theorem inv_P (w : World) (x : Pp) (b o : Nat) (h : LP.P w x b o) : ∃ m, LP.I x ∧ LP.J x m w ∧ ∀ j, j < LP.size → w.cell? ⟨b, o + j, none⟩ = (LP.C x m)[j]? := by
 have h' : PC w x b o := h
 obtain ⟨h1, c, hv⟩ := h'
 obtain ⟨hi, c0, c1, c2, c3, ao, cap, c4, hs⟩ := VC_of hv
 refine ⟨(ao, cap), ⟨h1, hi⟩, hs, fun j hj => ?_⟩
 have hj' : j < 6 := hj
 have e : j = 0 ∨ j = 1 ∨ j = 2 ∨ j = 3 ∨ j = 4 ∨ j = 5 := by omega
 rcases e with rfl | rfl | rfl | rfl | rfl | rfl
 ·exact c
 ·exact c0
 ·exact c1
 ·exact c2
 ·exact c3
 ·exact c4
theorem inv_N (w : World) (x : Nd) (b o : Nat) (h : LN.P w x b o) : ∃ m, LN.I x ∧ LN.J x m w ∧ ∀ j, j < LN.size → w.cell? ⟨b, o + j, none⟩ = (LN.C x m)[j]? := by
 have h' : NC w x b o := h
 obtain ⟨h1, c0, ⟨a, k, c1, hs⟩, a', k', c2, hp⟩ := h'
 refine ⟨((a, k), (a', k')), h1, ⟨hs, hp⟩, fun j hj => ?_⟩
 have hj' : j < 3 := hj
 have e : j = 0 ∨ j = 1 ∨ j = 2 := by omega
 rcases e with rfl | rfl | rfl
 ·exact c0
 ·exact c1
 ·exact c2
theorem inv_E (w : World) (x : Ed) (b o : Nat) (h : LE.P w x b o) : ∃ m, LE.I x ∧ LE.J x m w ∧ ∀ j, j < LE.size → w.cell? ⟨b, o + j, none⟩ = (LE.C x m)[j]? := by
 have h' : EC w x b o := h
 obtain ⟨h1, h2, h3, h4, c0, c1, c2, c3, a, k, c4, hp⟩ := h'
 refine ⟨(a, k), ⟨h1, h2, h3, h4⟩, hp, fun j hj => ?_⟩
 have hj' : j < 5 := hj
 have e : j = 0 ∨ j = 1 ∨ j = 2 ∨ j = 3 ∨ j = 4 := by omega
 rcases e with rfl | rfl | rfl | rfl | rfl
 ·exact c0
 ·exact c1
 ·exact c2
 ·exact c3
 ·exact c4
theorem strs_cells {w : World} {a : Option Addr} {ls : List (List UInt8)} {c : Nat} (h : SlS w a ls c) : ∀ p, a = some p → ∀ j u, (sC ls)[j]? = some u → w.cell? (p.add j) = some u := by
 intro p hp j u hj
 have hjl : j < ls.length := by have := (List.getElem?_eq_some_iff.1 hj).1; rwa [sC_len] at this
 obtain ⟨b, o, e, hc⟩ := h.at_ (by omega)
 rw [hp] at e
 obtain rfl := Option.some.inj e
 rw [sC_get hjl] at hj
 rw [Addr.add_lit, ← hj]
 have := (hc j hjl).2
 rwa [Nat.mul_one] at this
def Src (w : World) (v : Value) (n : Nat) (xs : List Value) : Prop := ∃ a c, v = .slice a n c ∧ (a = none → n = 0 ∧ c = 0) ∧ ∀ p, a = some p → ∀ j u, xs[j]? = some u → w.cell? (p.add j) = some u
theorem Src.on {w w' : World} {v : Value} {n : Nat} {xs : List Value} (h : Src w v n xs) (hf : Fuw w w') : Src w' v n xs := by
 obtain ⟨a, c, e, h0, hc⟩ := h
 exact ⟨a, c, e, h0, fun p hp j u hj => cellOnw hf (hc p hp j u hj)⟩
theorem Sl.nil_len {α : Type} {size : Nat} {P : World → α → Nat → Nat → Prop} {w : World} {a : Option Addr} {l : List α} {c : Nat} (h : Sl size P w a l c) (e : a = none) : l.length = 0 ∧ c = 0 := by
 have h1 := h.nil e
 have h2 := h.le
 exact ⟨by omega, h1⟩
structure SrcN (w : World) (x : Np) : Prop where
 l : Src w x.vl x.ls.length (sC x.ls)
 p : Src w x.vp x.pm.length (LP.cs x.pm)
structure SrcE (w : World) (x : Ep) : Prop where
 p : Src w x.vp x.pm.length (LP.cs x.pm)
theorem srcN_of {w : World} (n : Nd) (m : AC × AC) (h1 : LN.I n) (h2 : LN.J n m w) : ∃ x : Np, x.nd = n ∧ x.C = LN.C n m ∧ x.Ok w ∧ SrcN w x := by
 obtain ⟨hs, hp⟩ := h2
 obtain ⟨pm, e1, e2, e3⟩ := LP.of_sl (inv_P w) hp
 have hlen : n.ps.length = pm.length := by rw [← e1, List.length_map]
 refine ⟨⟨n.id, n.ls, .slice m.1.1 n.ls.length m.1.2, pm, .slice m.2.1 n.ps.length m.2.2⟩, ?_, rfl, ⟨h1, fun s hm => ?_, e2⟩, ⟨_, _, rfl, fun e => hs.nil_len e, strs_cells hs⟩, ⟨m.2.1, m.2.2, by rw [hlen], fun e => ?_, e3⟩⟩
 ·unfold Np.nd
  simp only [e1]
 ·obtain ⟨j, hj, rfl⟩ := List.getElem_of_mem hm
  have hj' : j < n.ls.length := hj
  obtain ⟨b, o, -, hc⟩ := hs.at_ (by omega)
  exact (hc j hj').1
 ·have := hp.nil_len e
  exact ⟨by show pm.length = 0; omega, this.2⟩
theorem srcE_of {w : World} (n : Ed) (m : AC) (h1 : LE.I n) (h2 : LE.J n m w) : ∃ x : Ep, x.ed = n ∧ x.C = LE.C n m ∧ x.Ok w ∧ SrcE w x := by
 have hp : SlP w m.1 n.ps m.2 := h2
 obtain ⟨pm, e1, e2, e3⟩ := LP.of_sl (inv_P w) hp
 have hlen : n.ps.length = pm.length := by rw [← e1, List.length_map]
 refine ⟨⟨n.id, n.fr, n.to, n.ty, pm, .slice m.1 n.ps.length m.2⟩, ?_, rfl, ⟨h1.1, h1.2.1, h1.2.2.1, h1.2.2.2, e2⟩, ⟨m.1, m.2, by rw [hlen], fun e => ?_, e3⟩⟩
 ·unfold Ep.ed
  simp only [e1]
 ·have := hp.nil_len e
  exact ⟨by show pm.length = 0; omega, this.2⟩
theorem srcNs {w : World} : ∀ ps : List (Nd × (AC × AC)), (∀ p ∈ ps, LN.I p.1 ∧ LN.J p.1 p.2 w) → ∃ ns : List Np, ns.map Np.nd = ps.map Prod.fst ∧ csN ns = LN.cs ps ∧ ∀ x ∈ ns, x.Ok w ∧ SrcN w x
 | [], _ => ⟨[], rfl, rfl, fun _ h => by cases h⟩
 | p :: ps, h => by
  obtain ⟨x, e1, e2, e3, e4⟩ := srcN_of p.1 p.2 (h p (List.mem_cons_self ..)).1 (h p (List.mem_cons_self ..)).2
  obtain ⟨ns, g1, g2, g3⟩ := srcNs ps (fun q hq => h q (List.mem_cons_of_mem _ hq))
  refine ⟨x :: ns, by rw [List.map_cons, List.map_cons, e1, g1], ?_, fun y hy => ?_⟩
  ·show x.C ++ csN ns = LN.C p.1 p.2 ++ LN.cs ps
   rw [e2, g2]
  ·rcases List.mem_cons.1 hy with rfl | hy
   ·exact ⟨e3, e4⟩
   ·exact g3 y hy
theorem srcEs {w : World} : ∀ ps : List (Ed × AC), (∀ p ∈ ps, LE.I p.1 ∧ LE.J p.1 p.2 w) → ∃ ns : List Ep, ns.map Ep.ed = ps.map Prod.fst ∧ csE ns = LE.cs ps ∧ ∀ x ∈ ns, x.Ok w ∧ SrcE w x
 | [], _ => ⟨[], rfl, rfl, fun _ h => by cases h⟩
 | p :: ps, h => by
  obtain ⟨x, e1, e2, e3, e4⟩ := srcE_of p.1 p.2 (h p (List.mem_cons_self ..)).1 (h p (List.mem_cons_self ..)).2
  obtain ⟨ns, g1, g2, g3⟩ := srcEs ps (fun q hq => h q (List.mem_cons_of_mem _ hq))
  refine ⟨x :: ns, by rw [List.map_cons, List.map_cons, e1, g1], ?_, fun y hy => ?_⟩
  ·show x.C ++ csE ns = LE.C p.1 p.2 ++ LE.cs ps
   rw [e2, g2]
  ·rcases List.mem_cons.1 hy with rfl | hy
   ·exact ⟨e3, e4⟩
   ·exact g3 y hy
theorem src_g {w : World} {g : Gr} {an ae : Option Addr} {cn ce : Nat} (h : GIn w g an ae cn ce) : ∃ (ns : List Np) (es : List Ep), ns.map Np.nd = g.ns ∧ es.map Ep.ed = g.es ∧ (∀ x ∈ ns, x.Ok w ∧ SrcN w x) ∧ (∀ x ∈ es, x.Ok w ∧ SrcE w x) ∧
  (∀ p, an = some p → ∀ j u, (csN ns)[j]? = some u → w.cell? (p.add j) = some u) ∧ (∀ p, ae = some p → ∀ j u, (csE es)[j]? = some u → w.cell? (p.add j) = some u) := by
 obtain ⟨hn, he, -, -⟩ := h
 obtain ⟨ps, a1, a2, a3⟩ := LN.of_sl (inv_N w) hn
 obtain ⟨qs, b1, b2, b3⟩ := LE.of_sl (inv_E w) he
 obtain ⟨ns, c1, c2, c3⟩ := srcNs ps a2
 obtain ⟨es, d1, d2, d3⟩ := srcEs qs b2
 exact ⟨ns, es, c1.trans a1, d1.trans b1, c3, d3, (by rw [c2]; exact a3), (by rw [d2]; exact b3)⟩
theorem own_low {w : World} {b b' : Nat} {r : Rw} (h : r.Own w b) (hb : b' ≤ b) : r.Own w b' :=
 ⟨h.1, h.2.imp id fun ⟨g, cap, cur, e, h1, k⟩ => ⟨g, cap, cur, e, Nat.le_trans hb h1, k⟩⟩
theorem Rows.put {w : World} {base g n cap j : Nat} {q : Rw} {L : List Rw} {u : Value} (h : Rows w base (q :: L)) (hq : q.v = .slice (some ⟨g, 0, none⟩) n cap) (hn : q.n = n) : Rows (w.setCell ⟨g, j, none⟩ u) base (⟨q.e, q.s, q.v, q.n, q.xs.set j u⟩ :: L) := by
 have hqo := h.own q (List.mem_cons_self ..)
 unfold Rw.Own at hqo
 rw [hq, hn] at hqo
 have hst := hqo.stored j u
 have hb : q.v.ownBlock = some g := by rw [hq]; rfl
 refine Rows.turn h (by rw [hb]; exact hst.2) ?_ (.inl rfl)
 unfold Rw.Own
 simp only
 rw [hq, hn]
 exact hst.1
theorem csN_set12 (v v' : Value) : ∀ (ns : List Np) (p : Nat) (h : p < ns.length), csN (ns.set p { ns[p] with vl := v, vp := v' }) = ((csN ns).set (p * 3 + 1) v).set (p * 3 + 2) v'
 | x :: r, 0, _ => rfl
 | x :: r, p + 1, h => by
  show x.C ++ csN (r.set p _) = ((x.C ++ csN r).set ((p + 1) * 3 + 1) v).set ((p + 1) * 3 + 2) v'
  have e3 : x.C.length = 3 := rfl
  rw [List.set_append_right _ _ (by rw [e3]; omega), List.set_append_right _ _ (by rw [e3]; omega), e3, show (p + 1) * 3 + 1 - 3 = p * 3 + 1 by omega, show (p + 1) * 3 + 2 - 3 = p * 3 + 2 by omega, ← csN_set12 v v' r p (by simpa using h)]
  rfl
structure Hf (w0 w : World) (base : Nat) (vn ve : Value) (ns : List Np) (es : List Ep) (i j : Nat) : Prop where
 rows : Rows w base (rowN vn ns :: rowE ve es :: inR (ns.take i) (es.take j) [])
 sn : ∀ k (h : k < ns.length), i ≤ k → SrcN w0 ns[k]
 se : ∀ k (h : k < es.length), j ≤ k → SrcE w0 es[k]
 no : ∀ x ∈ ns, x.Ok w0
 eo : ∀ x ∈ es, x.Ok w0
 fu : Fuw w0 w
 lo : w0.heap.size ≤ base
theorem Hf.later {w0 w w' : World} {base : Nat} {vn ve : Value} {ns : List Np} {es : List Ep} {i j : Nat} (h : Hf w0 w base vn ve ns es i j) (hf : Fuw w w') : Hf w0 w' base vn ve ns es i j := ⟨h.rows.later hf, h.sn, h.se, h.no, h.eo, h.fu.trans hf, h.lo⟩
theorem take_set1 {α : Type} {l : List α} {i : Nat} (h : i < l.length) (x : α) : (l.set i x).take (i + 1) = l.take i ++ [x] := by
 rw [List.take_succ_eq_append_getElem (by rw [List.length_set]; exact h), List.take_set_of_le (Nat.le_refl _), List.getElem_set_self]
theorem Hf.node {w0 w w1 w2 : World} {base b1 b2 : Nat} {vn ve : Value} {ns : List Np} {es : List Ep} {i j g cap : Nat} (h : Hf w0 w base vn ve ns es i j) (hi : i < ns.length) (hv : vn = .slice (some ⟨g, 0, none⟩) ns.length cap) {v v' : Value}
  (f1 : Fuw w w1) (o1 : (rowL v ns[i].ls).Own w1 b1) (hb1 : w.heap.size ≤ b1) (f2 : Fuw w1 w2) (o2 : (rowP v' ns[i].pm).Own w2 b2) (hb2 : w1.heap.size ≤ b2) (hb : base ≤ w.heap.size) :
  Hf w0 ((w2.setCell ⟨g, i * 3 + 1, none⟩ v).setCell ⟨g, i * 3 + 2, none⟩ v') base vn ve (ns.set i { ns[i] with vl := v, vp := v' }) es (i + 1) j := by
 have hz1 := f1.size
 have hgb : base ≤ g := by
  have := (h.rows.own (rowN vn ns) (List.mem_cons_self ..)).lt g (by show vn.ownBlock = some g; rw [hv]; rfl)
  exact this.1
 have r1 : Rows w1 base (rowL v ns[i].ls :: rowN vn ns :: rowE ve es :: inR (ns.take i) (es.take j) []) :=
  h.rows.more f1 (own_low o1 (by omega)) (fun k hk => by have := (World.ownsRow.lt o1 k hk).1; omega)
 have r2 : Rows w2 base (rowP v' ns[i].pm :: rowL v ns[i].ls :: rowN vn ns :: rowE ve es :: inR (ns.take i) (es.take j) []) :=
  r1.more f2 (own_low o2 (by omega)) (fun k hk => by have := (World.ownsRow.lt o2 k hk).1; omega)
 have r3 : Rows w2 base (rowN vn ns :: rowP v' ns[i].pm :: rowL v ns[i].ls :: rowE ve es :: inR (ns.take i) (es.take j) []) :=
  r2.perm (((List.Perm.swap _ _ _).cons _).trans (List.Perm.swap _ _ _))
 have r4 := Rows.put (j := i * 3 + 1) (u := v) r3 (g := g) (n := ns.length) (cap := cap) hv rfl
 have r5 := Rows.put (j := i * 3 + 2) (u := v') r4 (g := g) (n := ns.length) (cap := cap) hv rfl
 refine ⟨?_, fun k hk hik => ?_, h.se, fun x hx => ?_, h.eo, ?_, h.lo⟩
 ·have e : rowN vn (ns.set i { ns[i] with vl := v, vp := v' }) = ⟨51, 3, vn, ns.length, ((csN ns).set (i * 3 + 1) v).set (i * 3 + 2) v'⟩ := by
   unfold rowN
   rw [csN_set12 v v' ns i hi, List.length_set]
  rw [e]
  refine r5.perm ?_
  rw [take_set1 hi]
  have e2 : inR (ns.take i ++ [{ ns[i] with vl := v, vp := v' }]) (es.take j) [] = (ns.take i).flatMap Np.rows ++ ([rowL v ns[i].ls, rowP v' ns[i].pm] ++ ((es.take j).flatMap Ep.rows ++ [])) := by
   unfold inR
   rw [List.flatMap_append, List.append_assoc]
   rfl
  rw [e2]
  refine List.Perm.cons _ ?_
  have p1 : (rowP v' ns[i].pm :: rowL v ns[i].ls :: rowE ve es :: inR (ns.take i) (es.take j) []).Perm (rowE ve es :: rowL v ns[i].ls :: rowP v' ns[i].pm :: inR (ns.take i) (es.take j) []) :=
   ((List.Perm.swap _ _ _).cons _).trans ((List.Perm.swap _ _ _).trans (((List.Perm.swap _ _ _)).cons _))
  refine p1.trans (List.Perm.cons _ ?_)
  unfold inR
  exact List.perm_append_comm_assoc [rowL v ns[i].ls, rowP v' ns[i].pm] _ _
 ·rw [List.length_set] at hk
  rw [List.getElem_set_ne (by omega)]
  exact h.sn k hk (by omega)
 ·rcases set_mem hx with rfl | hx
  ·have := h.no _ (List.getElem_mem hi)
   exact ⟨this.i, this.l, this.p⟩
  ·exact h.no x hx
 ·exact fuwS (fuwS ((h.fu.trans f1).trans f2) (Nat.le_trans h.lo hgb)) (Nat.le_trans h.lo hgb)
theorem Hf.edge {w0 w w1 : World} {base b1 : Nat} {vn ve : Value} {ns : List Np} {es : List Ep} {i j g cap : Nat} (h : Hf w0 w base vn ve ns es i j) (hj : j < es.length) (hv : ve = .slice (some ⟨g, 0, none⟩) es.length cap) {v : Value}
  (f1 : Fuw w w1) (o1 : (rowP v es[j].pm).Own w1 b1) (hb1 : w.heap.size ≤ b1) (hb : base ≤ w.heap.size) :
  Hf w0 (w1.setCell ⟨g, j * 5 + 4, none⟩ v) base vn ve ns (es.set j { es[j] with vp := v }) i (j + 1) := by
 have hgb : base ≤ g := by
  have := (h.rows.own (rowE ve es) (List.mem_cons_of_mem _ (List.mem_cons_self ..))).lt g (by show ve.ownBlock = some g; rw [hv]; rfl)
  exact this.1
 have r1 : Rows w1 base (rowP v es[j].pm :: rowN vn ns :: rowE ve es :: inR (ns.take i) (es.take j) []) :=
  h.rows.more f1 (own_low o1 (by omega)) (fun k hk => by have := (World.ownsRow.lt o1 k hk).1; omega)
 have r3 : Rows w1 base (rowE ve es :: rowP v es[j].pm :: rowN vn ns :: inR (ns.take i) (es.take j) []) :=
  r1.perm (((List.Perm.swap _ _ _).cons _).trans (List.Perm.swap _ _ _))
 have r4 := Rows.put (j := j * 5 + 4) (u := v) r3 (g := g) (n := es.length) (cap := cap) hv rfl
 refine ⟨?_, h.sn, fun k hk hik => ?_, h.no, fun x hx => ?_, ?_, h.lo⟩
 ·have e : rowE ve (es.set j { es[j] with vp := v }) = ⟨53, 5, ve, es.length, (csE es).set (j * 5 + 4) v⟩ := by
   unfold rowE
   have k := csE_set4 v es[j].pm es j hj
   rw [List.length_set]
   exact congrArg (fun z => (⟨53, 5, ve, es.length, z⟩ : Rw)) k
  rw [e]
  refine r4.perm ?_
  rw [take_set1 hj]
  have e2 : inR (ns.take i) (es.take j ++ [{ es[j] with vp := v }]) [] = inR (ns.take i) (es.take j) [] ++ [rowP v es[j].pm] := by
   unfold inR
   simp only [List.flatMap_append, List.append_assoc, List.append_nil]
   rfl
  rw [e2]
  have p1 : ∀ (a b c : Rw) (L : List Rw), (a :: b :: c :: L).Perm (c :: a :: (L ++ [b])) := fun a b c L =>
   ((List.Perm.swap _ _ _).cons _).trans ((List.Perm.swap _ _ _).trans (((List.perm_append_comm (l₁ := [b]) (l₂ := L)).cons _).cons _))
  exact p1 _ _ _ _
 ·rw [List.length_set] at hk
  rw [List.getElem_set_ne (by omega)]
  exact h.se k hk (by omega)
 ·rcases set_mem hx with rfl | hx
  ·have := h.eo _ (List.getElem_mem hj)
   exact ⟨this.i, this.f, this.t, this.y, this.p⟩
  ·exact h.eo x hx
 ·exact fuwS (h.fu.trans f1) (Nat.le_trans h.lo hgb)
theorem Hf.done {w0 w : World} {base : Nat} {vn ve : Value} {ns : List Np} {es : List Ep} (h : Hf w0 w base vn ve ns es ns.length es.length) {nn ne : Int} (h1 : I64 nn) (h2 : I64 ne) : GOwn w0 w base ⟨vn, ve, ns, es, nn, ne, []⟩ := by
 have hr := h.rows
 rw [List.take_of_length_le (Nat.le_refl _), List.take_of_length_le (Nat.le_refl _)] at hr
 exact ⟨hr, h.no, h.eo, h1, h2, h.fu, h.lo⟩
theorem set_nd {ns : List Np} {i : Nat} (h : i < ns.length) (v v' : Value) : (ns.set i { ns[i] with vl := v, vp := v' }).map Np.nd = ns.map Np.nd := by
 rw [List.map_set]
 refine List.ext_getElem? fun k => ?_
 by_cases e : i = k
 ·subst e
  rw [List.getElem?_set_self (by rw [List.length_map]; exact h), List.getElem?_map, List.getElem?_eq_getElem h]; rfl
 ·rw [List.getElem?_set_ne e]
theorem set_ed {es : List Ep} {i : Nat} (h : i < es.length) (v : Value) : (es.set i { es[i] with vp := v }).map Ep.ed = es.map Ep.ed := by
 rw [List.map_set]
 refine List.ext_getElem? fun k => ?_
 by_cases e : i = k
 ·subst e
  rw [List.getElem?_set_self (by rw [List.length_map]; exact h), List.getElem?_map, List.getElem?_eq_getElem h]; rfl
 ·rw [List.getElem?_set_ne e]
end Go.Proofs.YtpamdlkagmlahaaGreatDoor
