import Derived.Test.YtpamdlkagmlahaaGreatDoorCkC
import Derived.Test.YtpamdlkagmlahaaGreatDoorK24
namespace Go.Proofs.YtpamdlkagmlahaaGreatDoor
open Go.RowKit
theorem own_form {w : World} {b : Nat} {r : Rw} (h : r.Own w b) : ∃ a c, r.v = .slice a r.n c ∧ ∀ p, a = some p → ∃ g, p = ⟨g, 0, none⟩ ∧ b ≤ g := by
 rcases h.2 with ⟨e, h0⟩ | ⟨g, cap, cur, e, hb, -⟩
 ·exact ⟨none, 0, by rw [e, h0], fun p q => by cases q⟩
 ·exact ⟨some ⟨g, 0, none⟩, cap, e, fun p q => by injection q with q; exact ⟨g, q.symm, hb⟩⟩
theorem Hf.start {w W w1 w2 : World} {b1 b2 : Nat} {v1 v2 : Value} {ns : List Np} {es : List Ep} (fW : Fuw w W) (f1 : Fuw W w1) (o1 : (rowN v1 ns).Own w1 b1) (hb1 : W.heap.size ≤ b1) (f2 : Fuw w1 w2) (o2 : (rowE v2 es).Own w2 b2) (hb2 : w1.heap.size ≤ b2)
  (sn : ∀ x ∈ ns, x.Ok w ∧ SrcN w x) (se : ∀ x ∈ es, x.Ok w ∧ SrcE w x) : Hf w w2 W.heap.size v1 v2 ns es 0 0 := by
 have hz := f1.size
 have r1 : Rows w1 W.heap.size [rowN v1 ns] := (Rows.nil W W.heap.size).more f1 (own_low o1 hb1) (fun k hk => by have := (World.ownsRow.lt o1 k hk).1; omega)
 have r2 : Rows w2 W.heap.size [rowE v2 es, rowN v1 ns] := r1.more f2 (own_low o2 (by omega)) (fun k hk => by have := (World.ownsRow.lt o2 k hk).1; omega)
 exact ⟨r2.perm (List.Perm.swap _ _ _), fun k hk _ => (sn _ (List.getElem_mem hk)).2, fun k hk _ => (se _ (List.getElem_mem hk)).2, fun x hx => (sn x hx).1, fun x hx => (se x hx).1, (fW.trans f1).trans f2, fW.size⟩
theorem Hf.far {w0 w : World} {base B j : Nat} {u : Value} {vn ve : Value} {ns : List Np} {es : List Ep} {i k : Nat} (h : Hf w0 w base vn ve ns es i k) (hB : B < base) (hw : w0.heap.size ≤ B) : Hf w0 (w.setCell ⟨B, j, none⟩ u) base vn ve ns es i k :=
 ⟨h.rows.far fun hm => by have := (h.rows.shut hm).1; omega, h.sn, h.se, h.no, h.eo, fuwS h.fu hw, h.lo⟩
def RetCo (w0 w : World) (g : Gr) (e : Ending) (w' : World) : Prop := ∃ (G : Gp) (base : Nat), e = .returned (.agg #[G.vn, G.ve, .int .i64 G.nn, .int .i64 G.ne]) ∧ G.gr = g ∧ G.xs = [] ∧ GOwn w0 w' base G ∧ w.heap.size ≤ base ∧ base ≤ w'.heap.size ∧ Fuw w w'
theorem RetCo.mk {w0 w w' : World} {base : Nat} {g : Gr} {v1 v2 : Value} {ns : List Np} {es : List Ep} (h : Hf w0 w' base v1 v2 ns es ns.length es.length) (hw : w.heap.size ≤ base) (en : ns.map Np.nd = g.ns) (ee : es.map Ep.ed = g.es) (i1 : I64 g.nn) (i2 : I64 g.ne) (hb : base ≤ w'.heap.size) (hf : Fuw w w') : RetCo w0 w g (.returned (.agg #[v1, v2, .int .i64 g.nn, .int .i64 g.ne])) w' :=
 ⟨⟨v1, v2, ns, es, g.nn, g.ne, []⟩, base, rfl, by unfold Gp.gr; simp only [en, ee], rfl, h.done i1 i2, hw, hb, hf⟩
set_option maxHeartbeats 12800000 in
set_option maxRecDepth 100000 in
theorem copyof_any (g : Gr) (an ae : Option Addr) (cn ce : Nat) (w0 w : World) (hg : GIn w0 g an ae cn ce) (hf0 : Fuw w0 w) (hv : Fine g) : Calls Tryz.prog 35 #[grv g an ae cn ce] w (RetCo w0 w g) := by
 obtain ⟨ns, es, en, ee, sn, se, kn, ke⟩ := src_g hg
 have hl1 : g.ns.length = ns.length := by rw [← en, List.length_map]
 have hl2 : g.es.length = es.length := by rw [← ee, List.length_map]
 have hn1 : ns.length ≤ 2000 := by have := hv.n; omega
 have hn2 : es.length ≤ 4000 := by have := hv.e; omega
 have n1 := hg.n.nil_len
 have n2 := hg.e.nil_len
 unfold grv
 rw [hl1] at n1 ⊢
 rw [hl2] at n2 ⊢
 have HI := Lib.hid (And.intro hg.i1 hg.i2)
 have HCN := Lib.hid (fun (w' : World) (hf : Fuw w0 w') => clone_n (csN ns) ns.length cn an w' n1 (fun p hp j u hj => cellOnw hf (kn p hp j u hj)) (csN_len ns) (by omega) (one_csN (w0 := w0) fun x hx => by
  obtain ⟨⟨a, c, e, -⟩, ⟨a', c', e', -⟩⟩ := (sn x hx).2
  exact ⟨a, c, a', c', e, e'⟩))
 have HCE := Lib.hid (fun (w' : World) (hf : Fuw w0 w') => clone_e (csE es) es.length ce ae w' n2 (fun p hp j u hj => cellOnw hf (ke p hp j u hj)) (csE_len es) (by omega) (by
  intro u hu
  obtain ⟨x, hx, hm⟩ := List.mem_flatMap.1 hu
  obtain ⟨⟨a', c', e', -⟩⟩ := (se x hx).2
  unfold Ep.C at hm
  rw [e'] at hm
  simp only [List.mem_cons, List.not_mem_nil, or_false] at hm
  rcases hm with rfl | rfl | rfl | rfl | rfl <;> rfl))
 have HSN := Lib.hid sn
 have HSE := Lib.hid se
 have HPN := Lib.hid (fun (ms : List Np) (hm : ms.map Np.nd = g.ns) (x : Np) (hx : x ∈ ms) => show x.ls.length ≤ 8 ∧ x.pm.length ≤ 16 from by
  have hq := hv.nf x.nd (by rw [← hm]; exact List.mem_map.2 ⟨x, hx, rfl⟩)
  have h1 := hq.p.l8
  have h2 := hq.p.p16
  unfold Np.nd at h1 h2
  simp only [List.length_map] at h1 h2
  exact ⟨h1, h2⟩)
 have HPE := Lib.hid (fun (ms : List Ep) (hm : ms.map Ep.ed = g.es) (x : Ep) (hx : x ∈ ms) => show x.pm.length ≤ 16 from by
  have hq := hv.ef x.ed (by rw [← hm]; exact List.mem_map.2 ⟨x, hx, rfl⟩)
  have h2 := hq.p.p16
  unfold Ep.ed at h2
  simp only [List.length_map] at h2
  exact h2)
 have HEN := Lib.hid en
 have HEE := Lib.hid ee
 obtain ⟨W, hW⟩ : ∃ W, W = (w.alloc (.cells #[.slice an ns.length cn, .slice ae es.length ce, .int .i64 g.nn, .int .i64 g.ne] 25)).alloc (.cells #[.slice none 0 0, .slice none 0 0, .int .i64 0, .int .i64 0] 25) := ⟨_, rfl⟩
 have HF0 := Lib.hid hf0
 have HFW := Lib.hid (show Fuw w0 W from hf0.trans (by rw [hW]; exact (fuwA _ _).trans (fuwA _ _)))
 have HGW := Lib.hid (show Fuw w W from by rw [hW]; exact (fuwA _ _).trans (fuwA _ _))
 have HBW := Lib.hid (show Bk W w.heap.size #[.slice an ns.length cn, .slice ae es.length ce, .int .i64 g.nn, .int .i64 g.ne] 25 from by rw [hW]; exact (Bk.new w _ _).on (fuwA _ _))
 have HZW := Lib.hid (show Bk W (w.heap.size + 1) #[.slice none 0 0, .slice none 0 0, .int .i64 0, .int .i64 0] 25 from by
  rw [hW]
  have := Bk.new (w.alloc (.cells #[.slice an ns.length cn, .slice ae es.length ce, .int .i64 g.nn, .int .i64 g.ne] 25)) #[.slice none 0 0, .slice none 0 0, .int .i64 0, .int .i64 0] 25
  simpa using this)
 have HWZ := Lib.hid (show w.heap.size + 1 < W.heap.size from by rw [hW]; simp)
 have c0 := HBW.out.c 0
 have c1 := HBW.out.c 1
 clear hf0 hg hv en ee sn se kn ke hl1 hl2 n1 n2
 go_enter Tryz.func35, Tryz.ntmps35
 go_upto_region 1 with fail
 rw [← hW]
 clear hW
 obtain ⟨S, hS⟩ : ∃ S : World → Prop, S = (fun w8 => w8.cell? ⟨w.heap.size, 0, none⟩ = some (.slice an ns.length cn) ∧ w8.cell? ⟨w.heap.size, 1, none⟩ = some (.slice ae es.length ce)) := ⟨_, rfl⟩
 have HS := Lib.hid hS
 clear hS
 refine lst_start [7, 9] S (by kernel_rfl) ?_
 have hS0 : S W.drew := by rw [HS.out]; exact ⟨c0, c1⟩
 refine takeP (i := 0) (d := some 7) (v := ?_) rfl rfl (by kernel_rfl) (by kernel_rfl) (by kernel_rfl) (by kernel_rfl) (by kernel_rfl) (fun _ _ _ h => h) (Or.inl ⟨by rfl, ?_⟩) (by first | exact Or.inr (by assumption) | exact Or.inl (by kernel_rfl)) ?_
 rotate_left
 ·((intro w8 _; go_simp); try with_reducible rfl)
 try simp only [Act.put, List.setIfInBounds_toArray, List.set_cons_succ, List.set_cons_zero]
 refine takeL (i := 1) (d := some 8) (v := ?_) rfl rfl (by kernel_rfl) (by kernel_rfl) (by kernel_rfl) (by kernel_rfl) (by kernel_rfl) (fun _ _ _ h => h) (Or.inl ⟨by rfl, ?_⟩) (by assumption) ?_
 rotate_left
 ·((intro w8 hSw; rw [HS.out] at hSw; obtain ⟨s0, s1⟩ := hSw; go_simp); try with_reducible rfl)
 try simp only [Act.put, List.setIfInBounds_toArray, List.set_cons_succ, List.set_cons_zero]
 refine takeP (i := 3) (d := some 10) (v := ?_) rfl rfl (by kernel_rfl) (by kernel_rfl) (by kernel_rfl) (by kernel_rfl) (by kernel_rfl) (fun _ _ _ h => h) (Or.inl ⟨by rfl, ?_⟩) (by first | exact Or.inr (by assumption) | exact Or.inl (by kernel_rfl)) ?_
 rotate_left
 ·((intro w8 _; go_simp); try with_reducible rfl)
 try simp only [Act.put, List.setIfInBounds_toArray, List.set_cons_succ, List.set_cons_zero]
 refine takeL (i := 4) (d := some 11) (v := ?_) rfl rfl (by kernel_rfl) (by kernel_rfl) (by kernel_rfl) (by kernel_rfl) (by kernel_rfl) (fun _ _ _ h => h) (Or.inl ⟨by rfl, ?_⟩) (by assumption) ?_
 rotate_left
 ·((intro w8 hSw; rw [HS.out] at hSw; obtain ⟨s0, s1⟩ := hSw; go_simp); try with_reducible rfl)
 try simp only [Act.put, List.setIfInBounds_toArray, List.set_cons_succ, List.set_cons_zero]
 refine oneL (i := 2) rfl (by kernel_rfl) (fun K8 hK8 => ?_)
 go_simp
 go_at_call 67; refine (HCN.out _ (HFW.out.trans (Fuw.drew (Fuw.refl _)))).mono ?_; rintro e1 w1 ⟨v1, rfl, o1, f1⟩
 obtain ⟨a1, k1, q1, hq1⟩ := own_form (r := rowN v1 ns) o1
 have q1' : v1 = .slice a1 ns.length k1 := q1
 subst q1'
 have HO1 := Lib.hid (show (rowN (.slice a1 ns.length k1) ns).Own w1 _ from o1)
 have HF1 := Lib.hid (show Fuw W w1 from (Fuw.drew (Fuw.refl W)).trans f1)
 have HQ1 := Lib.hid hq1
 have hS1 : S w1 := by rw [HS.out]; exact ⟨cellOnw HF1.out c0, cellOnw HF1.out c1⟩
 clear o1 f1 q1 hq1
 refine hK8 _ _ hS1 ?_
 try simp only [Act.put, List.setIfInBounds_toArray, List.set_cons_succ, List.set_cons_zero]
 refine takeP (i := 6) (d := some 13) (v := ?_) rfl rfl (by kernel_rfl) (by kernel_rfl) (by kernel_rfl) (by kernel_rfl) (by kernel_rfl) (fun _ _ _ h => h) (Or.inl ⟨by rfl, ?_⟩) (by first | exact Or.inr (by assumption) | exact Or.inl (by kernel_rfl)) ?_
 rotate_left
 ·((intro w8 _; go_simp); try with_reducible rfl)
 try simp only [Act.put, List.setIfInBounds_toArray, List.set_cons_succ, List.set_cons_zero]
 refine oneL (i := 5) rfl (by kernel_rfl) (fun K8 hK8 => ?_)
 go_simp
 go_at_call 68; refine (HCE.out _ (HFW.out.trans HF1.out)).mono ?_; rintro e2 w2 ⟨v2, rfl, o2, f2⟩
 obtain ⟨a2, k2, q2, hq2⟩ := own_form (r := rowE v2 es) o2
 have q2' : v2 = .slice a2 es.length k2 := q2
 subst q2'
 have HO2 := Lib.hid (show (rowE (.slice a2 es.length k2) es).Own w2 _ from o2)
 have HF2 := Lib.hid f2
 have HQ2 := Lib.hid hq2
 have HB2 := Lib.hid (HBW.out.on (HF1.out.trans HF2.out))
 have HZ2 := Lib.hid (HZW.out.on (HF1.out.trans HF2.out))
 have m0 := HB2.out.c 0
 have m1 := HB2.out.c 1
 have z0 := HB2.out.f 0
 have z1 := HB2.out.f 1
 have hS2 : S w2 := by rw [HS.out]; exact ⟨m0, m1⟩
 clear o2 f2 q2 hq2
 refine hK8 _ _ hS2 ?_
 try simp only [Act.put, List.setIfInBounds_toArray, List.set_cons_succ, List.set_cons_zero]
 refine outL (i := 7) rfl (by kernel_rfl) (by kernel_rfl) (fun K8 hK8 => ?_)
 go_simp
 refine hK8 _ _ ?_
 try simp only [Act.put, List.setIfInBounds_toArray, List.set_cons_succ, List.set_cons_zero]
 refine takeP (i := 8) (d := some 14) (v := ?_) rfl rfl (by kernel_rfl) (by kernel_rfl) (by kernel_rfl) (by kernel_rfl) (by kernel_rfl) (fun _ _ _ h => h) (Or.inl ⟨by rfl, ?_⟩) (by first | exact Or.inr (by assumption) | exact Or.inl (by kernel_rfl)) ?_
 rotate_left
 ·((intro w8 _; go_simp); try with_reducible rfl)
 try simp only [Act.put, List.setIfInBounds_toArray, List.set_cons_succ, List.set_cons_zero]
 refine outL (i := 9) rfl (by kernel_rfl) (by kernel_rfl) (fun K8 hK8 => ?_)
 go_simp
 refine hK8 _ _ ?_
 try simp only [Act.put, List.setIfInBounds_toArray, List.set_cons_succ, List.set_cons_zero]
 refine lst_done (by kernel_rfl) ?_ _
 obtain ⟨X, hX⟩ : ∃ X, X = (w2.setCell ⟨w.heap.size, 0, none⟩ (.slice a1 ns.length k1)).setCell ⟨w.heap.size, 1, none⟩ (.slice a2 es.length k2) := ⟨_, rfl⟩
 have HX1 := Lib.hid (show Bk X w.heap.size #[.slice a1 ns.length k1, .slice a2 es.length k2, .int .i64 g.nn, .int .i64 g.ne] 25 from by rw [hX]; exact (HB2.out.set_ 0 _).set_ 1 _)
 have HX2 := Lib.hid (show Bk X (w.heap.size + 1) #[.slice none 0 0, .slice none 0 0, .int .i64 0, .int .i64 0] 25 from by rw [hX]; exact (HZ2.out.far (by simp) _).far (by simp) _)
 have HXH := Lib.hid (show Hf w0 X W.heap.size (.slice a1 ns.length k1) (.slice a2 es.length k2) ns es 0 0 from by
  rw [hX]
  have hz := HWZ.out
  exact (((Hf.start HFW.out HF1.out HO1.out (by simp) HF2.out HO2.out (Nat.le_refl _) HSN.out HSE.out).far (by omega) HF0.out.size).far (by omega) HF0.out.size))
 have HQA := Lib.hid (show ∀ p, a1 = some p → ∃ h, p = ⟨h, 0, none⟩ ∧ W.heap.size ≤ h from fun p hp => by
  obtain ⟨h, e, hb⟩ := HQ1.out p hp
  exact ⟨h, e, by simpa using hb⟩)
 have HQB := Lib.hid (show ∀ p, a2 = some p → ∃ h, p = ⟨h, 0, none⟩ ∧ W.heap.size ≤ h from fun p hp => by
  obtain ⟨h, e, hb⟩ := HQ2.out p hp
  exact ⟨h, e, by have := HF1.out.size; omega⟩)
 have HXS := Lib.hid (show W.heap.size ≤ X.heap.size ∧ Fuw w X from ⟨by rw [hX]; have h1 := HF1.out.size; have h2 := HF2.out.size; simp; omega, by rw [hX]; exact fuwS (fuwS ((HGW.out.trans HF1.out).trans HF2.out) (Nat.le_refl _)) (Nat.le_refl _)⟩)
 rw [← hX]
 clear hS0 hS1 hS2 HS c0 c1 m0 m1 z0 z1 hX HO1 HO2 HF1 HF2 HB2 HZ2 HBW HZW HCN HCE HSN HSE HQ1 HQ2
 have x0 := HX1.out.c 0
 go_upto_region 3 with fail
 clear x0
 go_loopw [18] (fun iv wr => ∃ (i : Nat) (ms : List Np), iv = .int .i64 i ∧ i ≤ ns.length ∧ Hid (ms.length = ns.length) ∧ Hid (ms.map Np.nd = g.ns) ∧ Hid (Hf w0 wr W.heap.size (.slice a1 ns.length k1) (.slice a2 es.length k2) ms es i 0) ∧ Hid (Bk wr w.heap.size #[.slice a1 ns.length k1, .slice a2 es.length k2, .int .i64 g.nn, .int .i64 g.ne] 25) ∧ Hid (Bk wr (w.heap.size + 1) #[.slice none 0 0, .slice none 0 0, .int .i64 0, .int .i64 0] 25) ∧ Hid (W.heap.size ≤ wr.heap.size ∧ Fuw w wr)) (fun iv _ => ns.length - (RowKit.intOf iv).toNat)
 case atStart => exact ⟨0, ns, rfl, Nat.zero_le _, Lib.hid rfl, HEN, HXH, HX1, HX2, HXS⟩
 case round =>
  obtain ⟨i, ms, rfl, hi, HML, HMN, HH, HB, HZ, HWO⟩ := hrel
  clear HXH HX1 HX2 HXS
  generalize wr = wo at *
  by_cases hlt : i < ns.length
  ·have him : i < ms.length := by rw [HML.out]; exact hlt
   have HIM := Lib.hid him
   obtain ⟨g1, cap1, e1, hg1⟩ : ∃ g1 cap1, Value.slice a1 ns.length k1 = .slice (some ⟨g1, 0, none⟩) ns.length cap1 ∧ W.heap.size ≤ g1 := by
    rcases (HH.out.rows.own _ (List.mem_cons_self ..)).2 with ⟨q, h0⟩ | ⟨g1, cap1, cur, q, hb, -⟩
    ·have : ms.length = 0 := h0
     omega
    ·have q' : Value.slice a1 ns.length k1 = .slice (some ⟨g1, 0, none⟩) ms.length cap1 := q
     rw [HML.out] at q'
     exact ⟨g1, cap1, q', hb⟩
   injection e1 with e1 _ e2
   subst e1 e2
   have HG1 := Lib.hid hg1
   have hN : wo.ownsRow W.heap.size 51 3 (.slice (some ⟨g1, 0, none⟩) ns.length k1) ns.length (csN ms) := by
    have q := HH.out.rows.own _ (List.mem_cons_self ..)
    unfold rowN Rw.Own at q
    simp only [HML.out] at q
    exact q
   obtain ⟨⟨al, cl, el, l0, lc⟩, ⟨ap, cp, ep, p0, pc⟩⟩ := HH.out.sn i him (Nat.le_refl _)
   obtain ⟨h8, h16⟩ := HPN.out ms HMN.out ms[i] (List.getElem_mem him)
   have HCL := Lib.hid (fun (w' : World) (hf : Fuw w0 w') => clone_s (sC ms[i].ls) ms[i].ls.length cl al w' l0 (fun p hp j u hj => cellOnw hf (lc p hp j u hj)) (by rw [sC_len]; omega) (by omega) (by
    intro u hu
    unfold sC at hu
    obtain ⟨s, -, rfl⟩ := List.mem_map.1 hu
    rfl))
   have HCP := Lib.hid (fun (w' : World) (hf : Fuw w0 w') => clone_p (LP.cs ms[i].pm) ms[i].pm.length cp ap w' p0 (fun p hp j u hj => cellOnw hf (pc p hp j u hj)) (LP.cs_len _) (by omega) (by
    intro u hu
    obtain ⟨p, -, hm⟩ := List.mem_flatMap.1 hu
    have hm' : u ∈ pC p.1 p.2 := hm
    unfold pC vC at hm'
    simp only [List.mem_cons, List.not_mem_nil, or_false] at hm'
    rcases hm' with rfl | rfl | rfl | rfl | rfl | rfl <;> rfl))
   have b0 := HB.out.c 0
   have y1 : wo.cell? ⟨g1, i * 3 + 1, none⟩ = some (.slice al ms[i].ls.length cl) := by
    rw [hN.cellAt (i * 3 + 1) (by omega), csN_get ms i 1 him (by omega)]; exact congrArg some el
   have y2 : wo.cell? ⟨g1, i * 3 + 2, none⟩ = some (.slice ap ms[i].pm.length cp) := by
    rw [hN.cellAt (i * 3 + 2) (by omega), csN_get ms i 2 him (by omega)]; exact congrArg some ep
   have HNN := Lib.hid hN
   have hli : (i : Int) < (ns.length : Int) := by omega
   have HHI := Lib.hid (HH.out.later (Fuw.drew (Fuw.refl wo)))
   have HEI := Lib.hid (fun v v' => set_nd HIM.out v v')
   have HLN := Lib.hid (show ∀ x : Np, (ms.set i x).length = ns.length from fun x => by rw [List.length_set]; exact HML.out)
   obtain ⟨x, hx⟩ : ∃ x, x = ms[i] := ⟨_, rfl⟩
   rw [← hx] at HCL HCP y1 y2
   have HXX := Lib.hid hx
   clear hx el ep l0 lc p0 pc hN h8 h16 him hg1
   go_upto_region 6 with fail
   clear b0
   obtain ⟨S, hS⟩ : ∃ S : World → Prop, S = (fun w8 => w8.cell? ⟨g1, i * 3 + 1, none⟩ = some (.slice al x.ls.length cl) ∧ w8.cell? ⟨g1, i * 3 + 2, none⟩ = some (.slice ap x.pm.length cp)) := ⟨_, rfl⟩
   have HS := Lib.hid hS
   clear hS
   refine lst_start [14, 17] S (by kernel_rfl) ?_
   have hS0 : S wo.drew := by rw [HS.out]; exact ⟨y1, y2⟩
   refine takeP (i := 0) (d := some 25) (v := ?_) rfl rfl (by kernel_rfl) (by kernel_rfl) (by kernel_rfl) (by kernel_rfl) (by kernel_rfl) (fun _ _ _ h => h) (Or.inl ⟨by rfl, ?_⟩) (by first | exact Or.inr (by assumption) | exact Or.inl (by kernel_rfl)) ?_
   rotate_left
   ·((intro w8 _; go_simp); try with_reducible rfl)
   try simp only [Act.put, List.setIfInBounds_toArray, List.set_cons_succ, List.set_cons_zero]
   refine takeP (i := 1) (d := some 26) (v := ?_) rfl rfl (by kernel_rfl) (by kernel_rfl) (by kernel_rfl) (by kernel_rfl) (by kernel_rfl) (fun _ _ _ h => h) (Or.inl ⟨by rfl, ?_⟩) (by first | exact Or.inr (by assumption) | exact Or.inl (by kernel_rfl)) ?_
   rotate_left
   ·((intro w8 _; go_simp); try with_reducible rfl)
   try simp only [Act.put, List.setIfInBounds_toArray, List.set_cons_succ, List.set_cons_zero]
   refine takeP (i := 2) (d := some 27) (v := ?_) rfl rfl (by kernel_rfl) (by kernel_rfl) (by kernel_rfl) (by kernel_rfl) (by kernel_rfl) (fun _ _ _ h => h) (Or.inl ⟨by rfl, ?_⟩) (by first | exact Or.inr (by assumption) | exact Or.inl (by kernel_rfl)) ?_
   rotate_left
   ·((intro w8 _; go_simp); try with_reducible rfl)
   try simp only [Act.put, List.setIfInBounds_toArray, List.set_cons_succ, List.set_cons_zero]
   refine takeP (i := 3) (d := some 28) (v := ?_) rfl rfl (by kernel_rfl) (by kernel_rfl) (by kernel_rfl) (by kernel_rfl) (by kernel_rfl) (fun _ _ _ h => h) (Or.inl ⟨by rfl, ?_⟩) (by first | exact Or.inr (by assumption) | exact Or.inl (by kernel_rfl)) ?_
   rotate_left
   ·((intro w8 _; go_simp); try with_reducible rfl)
   try simp only [Act.put, List.setIfInBounds_toArray, List.set_cons_succ, List.set_cons_zero]
   refine takeP (i := 4) (d := some 29) (v := ?_) rfl rfl (by kernel_rfl) (by kernel_rfl) (by kernel_rfl) (by kernel_rfl) (by kernel_rfl) (fun _ _ _ h => h) (Or.inl ⟨by rfl, ?_⟩) (by first | exact Or.inr (by assumption) | exact Or.inl (by kernel_rfl)) ?_
   rotate_left
   ·((intro w8 _; go_simp); try with_reducible rfl)
   try simp only [Act.put, List.setIfInBounds_toArray, List.set_cons_succ, List.set_cons_zero]
   refine takeL (i := 5) (d := some 30) (v := ?_) rfl rfl (by kernel_rfl) (by kernel_rfl) (by kernel_rfl) (by kernel_rfl) (by kernel_rfl) (fun _ _ _ h => h) (Or.inl ⟨by rfl, ?_⟩) (by assumption) ?_
   rotate_left
   ·((intro w8 hSw; rw [HS.out] at hSw; obtain ⟨s0, s1⟩ := hSw; go_simp); try with_reducible rfl)
   try simp only [Act.put, List.setIfInBounds_toArray, List.set_cons_succ, List.set_cons_zero]
   refine takeP (i := 7) (d := some 32) (v := ?_) rfl rfl (by kernel_rfl) (by kernel_rfl) (by kernel_rfl) (by kernel_rfl) (by kernel_rfl) (fun _ _ _ h => h) (Or.inl ⟨by rfl, ?_⟩) (by first | exact Or.inr (by assumption) | exact Or.inl (by kernel_rfl)) ?_
   rotate_left
   ·((intro w8 _; go_simp); try with_reducible rfl)
   try simp only [Act.put, List.setIfInBounds_toArray, List.set_cons_succ, List.set_cons_zero]
   refine takeP (i := 8) (d := some 33) (v := ?_) rfl rfl (by kernel_rfl) (by kernel_rfl) (by kernel_rfl) (by kernel_rfl) (by kernel_rfl) (fun _ _ _ h => h) (Or.inl ⟨by rfl, ?_⟩) (by first | exact Or.inr (by assumption) | exact Or.inl (by kernel_rfl)) ?_
   rotate_left
   ·((intro w8 _; go_simp); try with_reducible rfl)
   try simp only [Act.put, List.setIfInBounds_toArray, List.set_cons_succ, List.set_cons_zero]
   refine takeP (i := 9) (d := some 34) (v := ?_) rfl rfl (by kernel_rfl) (by kernel_rfl) (by kernel_rfl) (by kernel_rfl) (by kernel_rfl) (fun _ _ _ h => h) (Or.inl ⟨by rfl, ?_⟩) (by first | exact Or.inr (by assumption) | exact Or.inl (by kernel_rfl)) ?_
   rotate_left
   ·((intro w8 _; go_simp); try with_reducible rfl)
   try simp only [Act.put, List.setIfInBounds_toArray, List.set_cons_succ, List.set_cons_zero]
   refine takeL (i := 10) (d := some 35) (v := ?_) rfl rfl (by kernel_rfl) (by kernel_rfl) (by kernel_rfl) (by kernel_rfl) (by kernel_rfl) (fun _ _ _ h => h) (Or.inl ⟨by rfl, ?_⟩) (by assumption) ?_
   rotate_left
   ·((intro w8 hSw; rw [HS.out] at hSw; obtain ⟨s0, s1⟩ := hSw; go_simp); try with_reducible rfl)
   try simp only [Act.put, List.setIfInBounds_toArray, List.set_cons_succ, List.set_cons_zero]
   refine oneL (i := 6) rfl (by kernel_rfl) (fun K8 hK8 => ?_)
   go_simp
   go_at_call 69; refine (HCL.out _ HHI.out.fu).mono ?_; rintro e1 w1 ⟨v1, rfl, o1, f1⟩
   obtain ⟨b1, k3, q1, -⟩ := own_form (r := rowL v1 x.ls) o1
   have q1' : v1 = .slice b1 x.ls.length k3 := q1
   subst q1'
   have HO1 := Lib.hid (show (rowL (.slice b1 x.ls.length k3) x.ls).Own w1 _ from o1)
   have HF1 := Lib.hid f1
   have hS1 : S w1 := by rw [HS.out]; exact ⟨cellOnw HF1.out y1, cellOnw HF1.out y2⟩
   clear o1 f1 q1
   refine hK8 _ _ hS1 ?_
   try simp only [Act.put, List.setIfInBounds_toArray, List.set_cons_succ, List.set_cons_zero]
   refine oneL (i := 11) rfl (by kernel_rfl) (fun K8 hK8 => ?_)
   go_simp
   go_at_call 70; refine (HCP.out _ (HHI.out.fu.trans HF1.out)).mono ?_; rintro e2 w2 ⟨v2, rfl, o2, f2⟩
   obtain ⟨b2, k4, q2, -⟩ := own_form (r := rowP v2 x.pm) o2
   have q2' : v2 = .slice b2 x.pm.length k4 := q2
   subst q2'
   have HO2 := Lib.hid (show (rowP (.slice b2 x.pm.length k4) x.pm).Own w2 _ from o2)
   have HF2 := Lib.hid f2
   have hF12 : Fuw wo w2 := ((Fuw.drew (Fuw.refl wo)).trans HF1.out).trans HF2.out
   have m1 := cellOnw hF12 y1
   have m2 := cellOnw hF12 y2
   have hN2 := own_on HNN.out hF12
   have z1 := hN2.frozenAt (i * 3 + 1)
   have z2 := hN2.frozenAt (i * 3 + 2)
   have hS2 : S w2 := by rw [HS.out]; exact ⟨m1, m2⟩
   clear o2 f2 q2 hN2
   refine hK8 _ _ hS2 ?_
   try simp only [Act.put, List.setIfInBounds_toArray, List.set_cons_succ, List.set_cons_zero]
   refine takeP (i := 12) (d := some 37) (v := ?_) rfl rfl (by kernel_rfl) (by kernel_rfl) (by kernel_rfl) (by kernel_rfl) (by kernel_rfl) (fun _ _ _ h => h) (Or.inl ⟨by rfl, ?_⟩) (by first | exact Or.inr (by assumption) | exact Or.inl (by kernel_rfl)) ?_
   rotate_left
   ·((intro w8 _; go_simp); try with_reducible rfl)
   try simp only [Act.put, List.setIfInBounds_toArray, List.set_cons_succ, List.set_cons_zero]
   refine takeP (i := 13) (d := some 38) (v := ?_) rfl rfl (by kernel_rfl) (by kernel_rfl) (by kernel_rfl) (by kernel_rfl) (by kernel_rfl) (fun _ _ _ h => h) (Or.inl ⟨by rfl, ?_⟩) (by first | exact Or.inr (by assumption) | exact Or.inl (by kernel_rfl)) ?_
   rotate_left
   ·((intro w8 _; go_simp); try with_reducible rfl)
   try simp only [Act.put, List.setIfInBounds_toArray, List.set_cons_succ, List.set_cons_zero]
   refine outL (i := 14) rfl (by kernel_rfl) (by kernel_rfl) (fun K8 hK8 => ?_)
   go_simp
   refine hK8 _ _ ?_
   try simp only [Act.put, List.setIfInBounds_toArray, List.set_cons_succ, List.set_cons_zero]
   refine takeP (i := 15) (d := some 39) (v := ?_) rfl rfl (by kernel_rfl) (by kernel_rfl) (by kernel_rfl) (by kernel_rfl) (by kernel_rfl) (fun _ _ _ h => h) (Or.inl ⟨by rfl, ?_⟩) (by first | exact Or.inr (by assumption) | exact Or.inl (by kernel_rfl)) ?_
   rotate_left
   ·((intro w8 _; go_simp); try with_reducible rfl)
   try simp only [Act.put, List.setIfInBounds_toArray, List.set_cons_succ, List.set_cons_zero]
   refine takeP (i := 16) (d := some 40) (v := ?_) rfl rfl (by kernel_rfl) (by kernel_rfl) (by kernel_rfl) (by kernel_rfl) (by kernel_rfl) (fun _ _ _ h => h) (Or.inl ⟨by rfl, ?_⟩) (by first | exact Or.inr (by assumption) | exact Or.inl (by kernel_rfl)) ?_
   rotate_left
   ·((intro w8 _; go_simp); try with_reducible rfl)
   try simp only [Act.put, List.setIfInBounds_toArray, List.set_cons_succ, List.set_cons_zero]
   refine outL (i := 17) rfl (by kernel_rfl) (by kernel_rfl) (fun K8 hK8 => ?_)
   go_simp
   refine hK8 _ _ ?_
   try simp only [Act.put, List.setIfInBounds_toArray, List.set_cons_succ, List.set_cons_zero]
   refine lst_done (by kernel_rfl) ?_ _
   have HNH := Lib.hid (show Hf w0 ((w2.setCell ⟨g1, i * 3 + 1, none⟩ (.slice b1 x.ls.length k3)).setCell ⟨g1, i * 3 + 2, none⟩ (.slice b2 x.pm.length k4)) W.heap.size (.slice (some ⟨g1, 0, none⟩) ns.length k1) (.slice a2 es.length k2) (ms.set i { ms[i]'HIM.out with vl := .slice b1 x.ls.length k3, vp := .slice b2 x.pm.length k4 }) es (i + 1) 0 from by
    have e := HXX.out
    subst e
    refine Hf.node HHI.out HIM.out (by rw [HML.out]) HF1.out HO1.out (Nat.le_refl _) HF2.out HO2.out (Nat.le_refl _) ?_
    have := HH.out.rows.own _ (List.mem_cons_self ..)
    have h2 := this.lt g1 rfl
    simp
    omega)
   have HNB := Lib.hid (show Bk ((w2.setCell ⟨g1, i * 3 + 1, none⟩ (.slice b1 x.ls.length k3)).setCell ⟨g1, i * 3 + 2, none⟩ (.slice b2 x.pm.length k4)) w.heap.size #[.slice (some ⟨g1, 0, none⟩) ns.length k1, .slice a2 es.length k2, .int .i64 g.nn, .int .i64 g.ne] 25 from
    ((HB.out.on hF12).far (show w.heap.size ≠ g1 from by have := HG1.out; have := HWZ.out; omega) _).far (show w.heap.size ≠ g1 from by have := HG1.out; have := HWZ.out; omega) _)
   have HNZ := Lib.hid (show Bk ((w2.setCell ⟨g1, i * 3 + 1, none⟩ (.slice b1 x.ls.length k3)).setCell ⟨g1, i * 3 + 2, none⟩ (.slice b2 x.pm.length k4)) (w.heap.size + 1) #[.slice none 0 0, .slice none 0 0, .int .i64 0, .int .i64 0] 25 from
    ((HZ.out.on hF12).far (show w.heap.size + 1 ≠ g1 from by have := HG1.out; have := HWZ.out; omega) _).far (show w.heap.size + 1 ≠ g1 from by have := HG1.out; have := HWZ.out; omega) _)
   have HNS := Lib.hid (show W.heap.size ≤ ((w2.setCell ⟨g1, i * 3 + 1, none⟩ (.slice b1 x.ls.length k3)).setCell ⟨g1, i * 3 + 2, none⟩ (.slice b2 x.pm.length k4)).heap.size ∧ Fuw w ((w2.setCell ⟨g1, i * 3 + 1, none⟩ (.slice b1 x.ls.length k3)).setCell ⟨g1, i * 3 + 2, none⟩ (.slice b2 x.pm.length k4)) from ⟨by have := HWO.out.1; have := hF12.size; simp; omega, fuwS (fuwS (HWO.out.2.trans hF12) (by have := HG1.out; have := HWZ.out; omega)) (by have := HG1.out; have := HWZ.out; omega)⟩)
   clear hS0 hS1 hS2 HS y1 y2 m1 m2 z1 z2 hF12
   generalize (w2.setCell ⟨g1, i * 3 + 1, none⟩ (.slice b1 x.ls.length k3)).setCell ⟨g1, i * 3 + 2, none⟩ (.slice b2 x.pm.length k4) = Y at *
   go_wp2
   go_roundw
   case rel => exact ⟨i + 1, _, by go_num, by omega, Lib.hid (HLN.out _), Lib.hid ((HEI.out _ _).trans HMN.out), HNH, HNB, HNZ, HNS⟩
   case measure => simp [RowKit.intOf]; omega
  ·have hie : i = ms.length := by have := HML.out; omega
   have HH2 := Lib.hid (show Hf w0 wo W.heap.size (.slice a1 ns.length k1) (.slice a2 es.length k2) ms es ms.length 0 from by rw [← hie]; exact HH.out)
   have b1 := HB.out.c 1
   clear hie HH
   go_upto_region 9 with fail
   clear b1
   go_loopw [45] (fun iv wr => ∃ (j : Nat) (fs : List Ep), iv = .int .i64 j ∧ j ≤ es.length ∧ Hid (fs.length = es.length) ∧ Hid (fs.map Ep.ed = g.es) ∧ Hid (Hf w0 wr W.heap.size (.slice a1 ns.length k1) (.slice a2 es.length k2) ms fs ms.length j) ∧ Hid (Bk wr w.heap.size #[.slice a1 ns.length k1, .slice a2 es.length k2, .int .i64 g.nn, .int .i64 g.ne] 25) ∧ Hid (Bk wr (w.heap.size + 1) #[.slice none 0 0, .slice none 0 0, .int .i64 0, .int .i64 0] 25) ∧ Hid (W.heap.size ≤ wr.heap.size ∧ Fuw w wr)) (fun iv _ => es.length - (RowKit.intOf iv).toNat)
   case atStart => exact ⟨0, es, rfl, Nat.zero_le _, Lib.hid rfl, HEE, HH2, HB, HZ, HWO⟩
   case round =>
    obtain ⟨j, fs, rfl, hj, HFL, HFN, HK, HB', HZ', HWP⟩ := hrel
    clear HH2 HB HZ HWO
    generalize wr = wp at *
    by_cases hjt : j < es.length
    ·have hjm : j < fs.length := by rw [HFL.out]; exact hjt
     have HIM := Lib.hid hjm
     have hE0 := HK.out.rows.own (rowE (.slice a2 es.length k2) fs) (List.mem_cons_of_mem _ (List.mem_cons_self ..))
     obtain ⟨g2, cap2, e1, hg2⟩ : ∃ g2 cap2, Value.slice a2 es.length k2 = .slice (some ⟨g2, 0, none⟩) es.length cap2 ∧ W.heap.size ≤ g2 := by
      rcases hE0.2 with ⟨q, h0⟩ | ⟨g1, cap1, cur, q, hb, -⟩
      ·have : fs.length = 0 := h0
       omega
      ·have q' : Value.slice a2 es.length k2 = .slice (some ⟨g1, 0, none⟩) fs.length cap1 := q
       rw [HFL.out] at q'
       exact ⟨g1, cap1, q', hb⟩
     injection e1 with e1 _ e2
     subst e1 e2
     have HG2 := Lib.hid hg2
     have hE : wp.ownsRow W.heap.size 53 5 (.slice (some ⟨g2, 0, none⟩) es.length k2) es.length (csE fs) := by
      have q := hE0
      unfold rowE Rw.Own at q
      simp only [HFL.out] at q
      exact q
     obtain ⟨⟨ap, cp, ep, p0, pc⟩⟩ := HK.out.se j hjm (Nat.le_refl _)
     have h16 := HPE.out fs HFN.out fs[j] (List.getElem_mem hjm)
     have HCP := Lib.hid (fun (w' : World) (hf : Fuw w0 w') => clone_p (LP.cs fs[j].pm) fs[j].pm.length cp ap w' p0 (fun p hp j u hj => cellOnw hf (pc p hp j u hj)) (LP.cs_len _) (by omega) (by
      intro u hu
      obtain ⟨p, -, hm⟩ := List.mem_flatMap.1 hu
      have hm' : u ∈ pC p.1 p.2 := hm
      unfold pC vC at hm'
      simp only [List.mem_cons, List.not_mem_nil, or_false] at hm'
      rcases hm' with rfl | rfl | rfl | rfl | rfl | rfl <;> rfl))
     have b1 := HB'.out.c 1
     have y4 : wp.cell? ⟨g2, j * 5 + 4, none⟩ = some (.slice ap fs[j].pm.length cp) := by
      rw [hE.cellAt (j * 5 + 4) (by omega), csE_get fs j 4 hjm (by omega)]; exact congrArg some ep
     have HNN := Lib.hid hE
     have HEI := Lib.hid (fun v => set_ed HIM.out v)
     have HLN := Lib.hid (show ∀ x : Ep, (fs.set j x).length = es.length from fun x => by rw [List.length_set]; exact HFL.out)
     have hli : (j : Int) < (es.length : Int) := by omega
     obtain ⟨x, hx⟩ : ∃ x, x = fs[j] := ⟨_, rfl⟩
     rw [← hx] at HCP y4
     have HXX := Lib.hid hx
     have HFP := Lib.hid HK.out.fu
     clear hx ep p0 pc hE hE0 h16 hg2
     go_upto_region 12 with fail
     clear b1
     go_wp2_with fail
     go_at_call 70; refine (HCP.out _ HFP.out).mono ?_; rintro e1 w1 ⟨v1, rfl, o1, f1⟩
     obtain ⟨b1, k3, q1, -⟩ := own_form (r := rowP v1 x.pm) o1
     have q1' : v1 = .slice b1 x.pm.length k3 := q1
     subst q1'
     have HO1 := Lib.hid (show (rowP (.slice b1 x.pm.length k3) x.pm).Own w1 _ from o1)
     have HF1 := Lib.hid f1
     have m4 := cellOnw HF1.out y4
     have hN2 := own_on HNN.out HF1.out
     have z4 := hN2.frozenAt (j * 5 + 4)
     have HNH := Lib.hid (show Hf w0 (w1.setCell ⟨g2, j * 5 + 4, none⟩ (.slice b1 x.pm.length k3)) W.heap.size (.slice a1 ns.length k1) (.slice (some ⟨g2, 0, none⟩) es.length k2) ms (fs.set j { fs[j]'HIM.out with vp := .slice b1 x.pm.length k3 }) ms.length (j + 1) from by
      have e := HXX.out
      subst e
      refine Hf.edge HK.out HIM.out (by rw [HFL.out]) HF1.out HO1.out (Nat.le_refl _) ?_
      have := HK.out.rows.own (rowE (.slice (some ⟨g2, 0, none⟩) es.length k2) fs) (List.mem_cons_of_mem _ (List.mem_cons_self ..))
      have h2 := this.lt g2 rfl
      omega)
     have HNB := Lib.hid (show Bk (w1.setCell ⟨g2, j * 5 + 4, none⟩ (.slice b1 x.pm.length k3)) w.heap.size #[.slice a1 ns.length k1, .slice (some ⟨g2, 0, none⟩) es.length k2, .int .i64 g.nn, .int .i64 g.ne] 25 from
      (HB'.out.on HF1.out).far (show w.heap.size ≠ g2 from by have := HG2.out; have := HWZ.out; omega) _)
     have HNZ := Lib.hid (show Bk (w1.setCell ⟨g2, j * 5 + 4, none⟩ (.slice b1 x.pm.length k3)) (w.heap.size + 1) #[.slice none 0 0, .slice none 0 0, .int .i64 0, .int .i64 0] 25 from
      (HZ'.out.on HF1.out).far (show w.heap.size + 1 ≠ g2 from by have := HG2.out; have := HWZ.out; omega) _)
     have HNS := Lib.hid (show W.heap.size ≤ (w1.setCell ⟨g2, j * 5 + 4, none⟩ (.slice b1 x.pm.length k3)).heap.size ∧ Fuw w (w1.setCell ⟨g2, j * 5 + 4, none⟩ (.slice b1 x.pm.length k3)) from ⟨by have := HWP.out.1; have := HF1.out.size; simp; omega, fuwS (HWP.out.2.trans HF1.out) (by have := HG2.out; have := HWZ.out; omega)⟩)
     clear o1 f1 q1 hN2 y4
     go_wp2
     go_roundw
     case rel => exact ⟨j + 1, _, by go_num, by omega, Lib.hid (HLN.out _), Lib.hid ((HEI.out _).trans HFN.out), HNH, HNB, HNZ, HNS⟩
     case measure => simp [RowKit.intOf]; omega
    ·have hje : j = fs.length := by have := HFL.out; omega
     have HK2 := Lib.hid (show Hf w0 wp W.heap.size (.slice a1 ns.length k1) (.slice a2 es.length k2) ms fs ms.length fs.length from by have q := HK.out; rw [hje] at q; exact q)
     have x0 := HB'.out.c 0; have x1 := HB'.out.c 1; have x2 := HB'.out.c 2; have x3 := HB'.out.c 3
     have z0 := HZ'.out.c 0; have z1 := HZ'.out.c 1; have z2 := HZ'.out.c 2; have z3 := HZ'.out.c 3
     have f0 := HZ'.out.f 0; have f1 := HZ'.out.f 1; have f2 := HZ'.out.f 2; have f3 := HZ'.out.f 3
     clear hje HK
     go_wp2
     refine g_ret rfl rfl ((((HZ'.out.set_ 0 _).set_ 1 _).set_ 2 _).set_ 3 _) ?_
     have HFU := Lib.hid HWP.out.1
     have hz := HWZ.out
     exact RetCo.mk ((((HK2.out.far (by omega) (Nat.le_succ_of_le HF0.out.size)).far (by omega) (Nat.le_succ_of_le HF0.out.size)).far (by omega) (Nat.le_succ_of_le HF0.out.size)).far (by omega) (Nat.le_succ_of_le HF0.out.size)) (by omega) HMN.out HFN.out HI.out.1 HI.out.2 (by
      have q := HFU.out
      simp
      omega) (fuwS (fuwS (fuwS (fuwS HWP.out.2 (Nat.le_succ _)) (Nat.le_succ _)) (Nat.le_succ _)) (Nat.le_succ _))
end Go.Proofs.YtpamdlkagmlahaaGreatDoor
