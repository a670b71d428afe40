/-
  ChN; ChO; ChP: texts of one kind in one file; each part says what it holds.
-/
import Derived.Test.YtpamdlkagmlahaaGreatDoorK19
import Derived.Deep.RegionWith

namespace Go.Proofs.YtpamdlkagmlahaaGreatDoor
open Go.RowKit
def chC (c : Ch) (a : Option Addr) (k : Nat) : Array Value := #[.int .i64 c.op, .int .i64 c.id, .int .i64 c.fr, .int .i64 c.tt, .string (bs c.nm), .int .i64 c.v.kd, .int .i64 c.v.nn, .int .i64 c.v.dd, .string (bs c.v.ss), .slice a c.v.ll.length k]
structure ChIn (w : World) (c : Ch) (a : Option Addr) (k : Nat) : Prop where
 o : I64 c.op
 i : I64 c.id
 f : I64 c.fr
 t : I64 c.tt
 n : c.nm.length ≤ maxLen
 v : Vin c.v
 s : SlV w a c.v.ll k
theorem ChIn.on {w w' : World} {c : Ch} {a : Option Addr} {k : Nat} (h : ChIn w c a k) (hf : Fuw w w') : ChIn w' c a k := ⟨h.o, h.i, h.f, h.t, h.n, h.v, h.s.onw hf⟩
def RetEd (w0 w : World) (base B : Nat) (xs : List Rw) (err : Int) (g : Gr) (e : Ending) (w' : World) : Prop :=
 e = .returned (.int .i64 err) ∧ Below base w w' ∧ w.heap.size ≤ w'.heap.size ∧ (err = 0 → ∃ G', GBox w0 w' base B G' ∧ G'.gr = g ∧ G'.xs = xs)
structure GVal (g : Gr) : Prop where
 n : g.ns.length ≤ 2000
 e : g.es.length ≤ 4000
 pn : g.ns.Pairwise (fun a b => a.id < b.id)
 pe : g.es.Pairwise (fun a b => a.id < b.id)
 nn : 1 ≤ g.nn ∧ g.nn ≤ 1000001
 ne : 1 ≤ g.ne ∧ g.ne ≤ 1000001
theorem _root_.Go.Proofs.YtpamdlkagmlahaaGreatDoor.Fuw.trans_below {a b c : World} {base : Nat} (h : Fuw a b) (k : Below base b c) (hb : a.heap.size ≤ base) : Fuw a c := Below.trans h (Below.mono k hb)
theorem below_of {w w' : World} {base : Nat} (h : Fuw w w') (hb : base ≤ w.heap.size) : Below base w w' := Below.mono h hb
theorem below_grown {w w' : World} {base : Nat} {r : Option Nat} (h : w.grownBy w' r) (hb : base ≤ w.heap.size) (hr : ∀ k, r = some k → base ≤ k) : Below base w w' :=
 ⟨h.os, h.tape, h.output, h.size, fun b hlt => h.block b (Nat.lt_of_lt_of_le hlt hb) (fun e => by have := hr b e.symm; omega)⟩
set_option maxHeartbeats 3200000 in
set_option maxRecDepth 100000 in
theorem addnode_any {w0 w : World} {base B : Nat} {G : Gp} (h : GBox w0 w base B G) (hv : GVal G.gr) (c : Ch) (a : Option Addr) (k : Nat) (hi : 1 ≤ c.id ∧ c.id ≤ 1000000) :
  Calls Tryz.prog 76 #[.pointer (some ⟨B, 0, none⟩), .agg (chC c a k)] w (RetEd w0 w base B G.xs (if hasN G.gr.ns c.id = true then 7 else if 2000 ≤ G.gr.ns.length then 20 else 0) (addN G.gr c.id)) := by
 have hlb : base ≤ w.heap.size := Nat.le_trans h.hi (Nat.le_of_lt h.box.lt)
 obtain ⟨W, hW⟩ : ∃ W, W = w.alloc (.cells (chC c a k) 30) := ⟨_, rfl⟩
 have fW : Fuw w W := by rw [hW]; exact fuwA _ _
 have bW : Bk W w.heap.size (chC c a k) 30 := by rw [hW]; exact Bk.new _ _ _
 have hGW := h.later fW
 have HFN := Lib.hid (fnode_any hGW c.id hv.pn (by have := hv.n; unfold Gp.gr at this; rw [List.length_map] at this; omega))
 obtain ⟨R, hR⟩ : ∃ R, R = (if hasN G.gr.ns c.id = true then 7 else if 2000 ≤ G.gr.ns.length then 20 else 0 : Int) := ⟨_, rfl⟩
 rw [← hR]
 generalize hasN G.gr.ns c.id = q at *
 have HR := Lib.hid hR
 clear hR
 obtain ⟨p, hp⟩ : ∃ p, p = atI (nidsV G.gr.ns) c.id := ⟨_, rfl⟩
 rw [← hp] at HFN
 have HBW := Lib.hid bW
 have HGW := Lib.hid hGW
 have HFW := Lib.hid fW
 have HP := Lib.hid hp
 have d1 := bW.c 1
 have HL := Lib.hid hlb
 have HV := Lib.hid hv
 have HI := Lib.hid hi
 have HLB := Lib.hid (show B < w.heap.size from h.box.lt)
 have HLT := Lib.hid (fun k (e : G.vn.ownBlock = some k) => (h.own.nrow.lt k e).2)
 unfold chC at hW d1 ⊢
 clear hp h hv hGW fW bW hlb hi
 go_enter Tryz.func76, Tryz.ntmps76
 go_upto_region 1 with fail
 rw [← hW]
 clear hW
 go_wp2_with fail
 go_at_call 107; refine HFN.out.mono ?_; rintro e1 w1 ⟨rfl, f1⟩
 have HF1 := Lib.hid (HFW.out.trans f1)
 have HG1 := Lib.hid (HGW.out.later f1)
 have HB1 := Lib.hid (HBW.out.on f1)
 clear d1 f1 HFN HGW HBW
 cases q with
 | true =>
  have HE := Lib.hid (show R = 7 from HR.out.trans (if_pos rfl))
  go_wp2
  go_ret
  exact ⟨ret_int HE.out.symm, below_of HF1.out HL.out, HF1.out.size, fun e => by rw [HE.out] at e; cases e⟩
 | false =>
  obtain ⟨an, cn, en, -⟩ := HG1.out.own.sln
  have c0 := HG1.out.box.c 0
  simp only [en] at c0
  have HEN := Lib.hid en
  clear en
  have hlen : G.gr.ns.length = G.ns.length := by unfold Gp.gr; rw [List.length_map]
  by_cases hfull : 2000 ≤ G.ns.length
  ·have hq : ((G.ns.length : Int) == 2000) = true := by
    have := HV.out.n
    rw [hlen] at this
    rw [beq_iff_eq]; omega
   have HE := Lib.hid (show R = 20 from HR.out.trans ((if_neg (by decide)).trans (if_pos (by rw [hlen]; exact hfull))))
   clear hlen
   go_wp2
   go_ret
   exact ⟨ret_int HE.out.symm, below_of HF1.out HL.out, HF1.out.size, fun e => by rw [HE.out] at e; cases e⟩
  ·have hq : ((G.ns.length : Int) == 2000) = false := by rw [beq_eq_false_iff_ne]; omega
   have HE := Lib.hid (show R = 0 from HR.out.trans ((if_neg (by decide)).trans (if_neg (by rw [hlen]; exact hfull))))
   clear hlen
   have hpl : p ≤ G.ns.length := by
    rw [HP.out]
    have := atI_le (nidsV G.gr.ns) c.id
    unfold nidsV Gp.gr at this
    rw [List.length_map, List.length_map] at this
    exact this
   have HIN := Lib.hid (show Calls Tryz.prog 108 #[.slice an G.ns.length cn, .int .i64 (p : Int), .slice (some ⟨w1.heap.size, 0, none⟩) 1 1] (w1.drew.alloc (.cells #[.int .i64 c.id, .slice none 0 0, .slice none 0 0] 51)) (RetIns (w1.drew.alloc (.cells #[.int .i64 c.id, .slice none 0 0, .slice none 0 0] 51)) base 51 3 (.slice an G.ns.length cn) (G.ns.length + 1) ((csN G.ns).take (p * 3) ++ [.int .i64 c.id, .slice none 0 0, .slice none 0 0] ++ (csN G.ns).drop (p * 3))) from by
    have hr := HG1.out.own.nrow
    unfold rowN Rw.Own at hr
    simp only [HEN.out] at hr
    have hr2 := own_on hr (show Fuw w1 (w1.drew.alloc (.cells #[.int .i64 c.id, .slice none 0 0, .slice none 0 0] 51)) from (Fuw.drew (Fuw.refl _)).alloc _)
    exact ins_n hr2 p hpl (by omega) (by have := HF1.out.size; have := HL.out; simp; omega) (Bk.new w1.drew _ _) rfl (fun e => by have := (hr.lt _ e).2; omega) HG1.out.own.oneN (by intro u hu; simp at hu; rcases hu with rfl | rfl | rfl <;> rfl))
   have HNE := Lib.hid (show some B ≠ (Value.slice an G.ns.length cn).ownBlock from fun e => HG1.out.far (blks_mem.2 ⟨rowN G.vn G.ns, List.mem_cons_self .., by unfold rowN; rw [HEN.out]; exact e.symm⟩))
   have HBX := Lib.hid (show Bk (w1.drew.alloc (.cells #[.int .i64 c.id, .slice none 0 0, .slice none 0 0] 51)) B #[.slice an G.ns.length cn, G.ve, .int .i64 G.nn, .int .i64 G.ne] 25 from by
    have := HG1.out.box.on (show Fuw w1 (w1.drew.alloc (.cells #[.int .i64 c.id, .slice none 0 0, .slice none 0 0] 51)) from (Fuw.drew (Fuw.refl _)).alloc _)
    rw [HEN.out] at this
    exact this)
   clear hfull
   have d1 := HB1.out.c 1
   unfold chC at d1
   have lB : B < w1.heap.size := HG1.out.box.lt
   have lC : w.heap.size < w1.heap.size := HB1.out.lt
   go_upto_region 6 with fail
   go_region_with (first
    | (go_at_call 108; refine (HIN.out).mono ?_; rintro e2 w2 ⟨v2, rfl, hown2, hgr2, hat2⟩; obtain ⟨g2, k2, rfl, hg2, hg2'⟩ := hown2.form (by omega); have hb2 := HBX.out.grow hgr2 HNE.out; have m0 := hb2.c 0; have z0 := hb2.f 0))
   all_goals
    have HFA := Lib.hid (show Fuw w1 (w1.drew.alloc (.cells #[.int .i64 c.id, .slice none 0 0, .slice none 0 0] 51)) from (Fuw.drew (Fuw.refl _)).alloc _)
    have HGA := Lib.hid (HG1.out.own.later HFA.out)
    obtain ⟨M, hM⟩ : ∃ M, M = max G.nn (c.id + 1) := ⟨_, rfl⟩
    have hMi : I64 M := by
     have h1 := HV.out.nn
     have h2 := HI.out
     have e1 : G.gr.nn = G.nn := rfl
     rw [e1] at h1
     unfold I64
     omega
    have HF2 := Lib.hid (show Below base w1 w2 from Below.trans (below_of HFA.out (by have := HF1.out.size; have := HL.out; omega)) (below_grown hgr2 (by have := HF1.out.size; have := HL.out; simp; omega) (fun k hk => (HG1.out.own.nrow.lt k (by show G.vn.ownBlock = some k; rw [HEN.out]; exact hk)).1)))
    have hfu : Fuw w0 w2 := HG1.out.own.fu.trans_below HF2.out HG1.out.own.lo
    have hng := GOwn.addN HGA.out (v' := .slice (some ⟨g2, 0, none⟩) (G.ns.length + 1) k2) (p := p) (x := c.id) (by have := HI.out; unfold I64; omega) hpl M hMi hown2 (by rw [HEN.out]; exact hgr2) (by rw [HEN.out]; exact hat2) hfu
    have hfar : B ∉ blks ({ G with vn := .slice (some ⟨g2, 0, none⟩) (G.ns.length + 1) k2, ns := insA G.ns p ⟨c.id, [], .slice none 0 0, [], .slice none 0 0⟩, nn := M } : Gp).rows := fun hB => by
     rcases blks_addN hB with e | e
     ·rcases hat2 with q | q
      ·exact HNE.out (by rw [← e, q])
      ·have := q B e
       have := HG1.out.box.lt
       simp at *
       omega
     ·exact HG1.out.far e
    obtain ⟨V, hV⟩ : ∃ V, V = w2.setCell ⟨B, 0, none⟩ (.slice (some ⟨g2, 0, none⟩) (G.ns.length + 1) k2) := ⟨_, rfl⟩
    have bV : Bk V B #[.slice (some ⟨g2, 0, none⟩) (G.ns.length + 1) k2, G.ve, .int .i64 G.nn, .int .i64 G.ne] 25 := by rw [hV]; exact hb2.set_ 0 _
    have bC : Bk V w.heap.size (chC c a k) 30 := by
     rw [hV]
     refine ((HB1.out.on HFA.out).grow hgr2 (fun e => ?_)).far (show w.heap.size ≠ B from fun e => by have := HLB.out; omega) _
     have := HLT.out w.heap.size (by rw [HEN.out]; exact e.symm)
     omega
    have HFIN := Lib.hid (show RetEd w0 w base B G.xs R (addN G.gr c.id) (.returned (.int .i64 R)) ((V.setCell ⟨B, 2, none⟩ (.int .i64 M)).drew) from by
     have hbB : base ≤ B := HG1.out.hi
     have hBV : V.heap.size = w2.heap.size := by rw [hV]; simp
     refine ⟨rfl, ?_, ?_, fun _ => ⟨_, ⟨?_, ?_, hfar, hbB⟩, ?_, rfl⟩⟩
     ·refine Below.drew (Below.setCell ?_ hbB _)
      rw [hV]
      exact Below.setCell ((below_of HF1.out HL.out).trans (HF2.out)) hbB _
     ·have := HF1.out.size
      have := HF2.out.size
      simp [hBV]; omega
     ·refine (GOwn.far ?_ hfar hbB).drew
      rw [hV]
      exact hng.far hfar hbB
     ·exact bV.set_ 2 (.int .i64 M)
     ·unfold Gp.gr addN
      simp only
      rw [insA_map, hM, HP.out]
      rfl)
    rw [← hV]
    have m2 := bV.c 2
    have z2 := bV.f 2
    have n1 := bC.c 1
    unfold chC at n1
    have hwr : IntKind.i64.wrap (c.id + 1) = c.id + 1 := by have := HI.out; rw [IntKind.wrap_i64]; omega
    have HMM := Lib.hid hM
    have HRZ := Lib.hid HE.out
    clear hV bV bC hng hfar hfu hMi hM hat2 hgr2 hown2 hb2 m0 z0 hg2 hg2' c0 d1 HIN hpl hq
    rw [HMM.out] at HFIN
    go_upto_region 7 with fail
    go_region
    all_goals
     go_wp2
     go_ret
     exact (by rw [HRZ.out] at HFIN ⊢; exact HFIN.out)
end Go.Proofs.YtpamdlkagmlahaaGreatDoor

namespace Go.Proofs.YtpamdlkagmlahaaGreatDoor
open Go.RowKit
theorem at_split {α : Type} {l : List α} {p : Nat} (hp : p < l.length) : l = l.take p ++ l[p] :: l.drop (p + 1) := by
 rw [← List.drop_eq_getElem_cons hp, List.take_append_drop]
theorem perm_at {α : Type} {l : List α} {p : Nat} (hp : p < l.length) : l.Perm (l[p] :: delA l p) := by
 have h := List.perm_middle (a := l[p]) (l₁ := l.take p) (l₂ := l.drop (p + 1))
 rw [← at_split hp] at h
 exact h
theorem delA_set {α : Type} {l : List α} {p : Nat} (x : α) : delA (l.set p x) p = delA l p := by
 unfold delA
 rw [List.take_set_of_le (Nat.le_refl _), List.drop_set_of_lt (Nat.lt_succ_self _)]
theorem inR_atN {ns : List Np} {es : List Ep} {xs : List Rw} {p : Nat} (hp : p < ns.length) : (inR ns es xs).Perm (ns[p].rows ++ inR (delA ns p) es xs) := by
 unfold inR
 rw [← List.append_assoc ns[p].rows]
 refine List.Perm.append_right _ ?_
 have := (perm_at hp).flatMap_right Np.rows
 rwa [List.flatMap_cons] at this
theorem inR_atE {ns : List Np} {es : List Ep} {xs : List Rw} {p : Nat} (hp : p < es.length) : (inR ns es xs).Perm (es[p].rows ++ inR ns (delA es p) xs) := by
 unfold inR
 have := ((perm_at hp).flatMap_right Ep.rows).append_right xs
 rw [List.flatMap_cons, List.append_assoc] at this
 refine (List.Perm.append_left _ this).trans ?_
 exact List.perm_append_comm_assoc _ _ _
theorem canonN {G : Gp} {p : Nat} (hp : p < G.ns.length) : G.rows.Perm (rowL G.ns[p].vl G.ns[p].ls :: rowP G.ns[p].vp G.ns[p].pm :: rowN G.vn G.ns :: rowE G.ve G.es :: inR (delA G.ns p) G.es G.xs) := by
 refine (((inR_atN hp).cons _).cons _).trans ?_
 show ([_, _] ++ ([_, _] ++ _)).Perm ([_, _] ++ ([_, _] ++ _))
 exact List.perm_append_comm_assoc _ _ _
theorem canonE {G : Gp} {p : Nat} (hp : p < G.es.length) : G.rows.Perm (rowP G.es[p].vp G.es[p].pm :: rowN G.vn G.ns :: rowE G.ve G.es :: inR G.ns (delA G.es p) G.xs) := by
 refine (((inR_atE hp).cons _).cons _).trans ?_
 show ([_, _] ++ ([_] ++ _)).Perm ([_] ++ ([_, _] ++ _))
 exact List.perm_append_comm_assoc _ _ _
theorem csN_set1 (v : Value) (ls : List (List UInt8)) : ∀ (ns : List Np) (p : Nat) (h : p < ns.length), csN (ns.set p { ns[p] with ls := ls, vl := v }) = (csN ns).set (p * 3 + 1) v
 | x :: r, 0, _ => rfl
 | x :: r, p + 1, h => by
  show x.C ++ csN (r.set p _) = (x.C ++ csN r).set ((p + 1) * 3 + 1) v
  have e3 : x.C.length = 3 := rfl
  rw [List.set_append_right _ _ (by rw [e3]; omega), e3, show (p + 1) * 3 + 1 - 3 = p * 3 + 1 by omega, ← csN_set1 v ls r p (by simpa using h)]
  rfl
theorem csN_set2 (v : Value) (pm : List (Pp × AC)) : ∀ (ns : List Np) (p : Nat) (h : p < ns.length), csN (ns.set p { ns[p] with pm := pm, vp := v }) = (csN ns).set (p * 3 + 2) v
 | x :: r, 0, _ => rfl
 | x :: r, p + 1, h => by
  show x.C ++ csN (r.set p _) = (x.C ++ csN r).set ((p + 1) * 3 + 2) v
  have e3 : x.C.length = 3 := rfl
  rw [List.set_append_right _ _ (by rw [e3]; omega), e3, show (p + 1) * 3 + 2 - 3 = p * 3 + 2 by omega, ← csN_set2 v pm r p (by simpa using h)]
  rfl
theorem csE_set4 (v : Value) (pm : List (Pp × AC)) : ∀ (es : List Ep) (p : Nat) (h : p < es.length), csE (es.set p { es[p] with pm := pm, vp := v }) = (csE es).set (p * 5 + 4) v
 | x :: r, 0, _ => rfl
 | x :: r, p + 1, h => by
  show x.C ++ csE (r.set p _) = (x.C ++ csE r).set ((p + 1) * 5 + 4) v
  have e3 : x.C.length = 5 := rfl
  rw [List.set_append_right _ _ (by rw [e3]; omega), e3, show (p + 1) * 5 + 4 - 5 = p * 5 + 4 by omega, ← csE_set4 v pm r p (by simpa using h)]
  rfl
theorem Rows.two {w w1 : World} {base g n cap j : Nat} {r r' q q' : Rw} {L L' M : List Rw} {u : Value} (h : Rows w base L) (hL : L.Perm (r :: q :: M)) (hL' : L'.Perm (r' :: q' :: M))
  (hg : w.grownBy w1 r.v.ownBlock) (ho : r'.Own w1 base) (hat : r'.v.ownBlock = r.v.ownBlock ∨ ∀ k, r'.v.ownBlock = some k → w.heap.size ≤ k)
  (hq : q.v = .slice (some ⟨g, 0, none⟩) n cap) (hn : q.n = n) (hq' : q' = ⟨q.e, q.s, q.v, q.n, q.xs.set j u⟩) : Rows (w1.setCell ⟨g, j, none⟩ u) base L' ∧ ∀ k, k ∈ blks L' → r'.v.ownBlock = some k ∨ k ∈ blks L := by
 have h1 : Rows w1 base (r' :: q :: M) := Rows.turn (h.perm hL) hg ho hat
 have h2 : Rows w1 base (q :: r' :: M) := h1.perm (List.Perm.swap _ _ _)
 have hqo := h2.own q (List.mem_cons_self ..)
 unfold Rw.Own at hqo
 rw [hq, hn] at hqo
 have hst := hqo.stored j u
 have hb : q.v.ownBlock = some g := by rw [hq]; rfl
 have h3 : Rows (w1.setCell ⟨g, j, none⟩ u) base (q' :: r' :: M) := by
  refine Rows.turn h2 (by rw [hb]; exact hst.2) ?_ (.inl (by rw [hq']))
  rw [hq']
  unfold Rw.Own
  rw [hq, hn]
  exact hst.1
 refine ⟨h3.perm ((List.Perm.swap _ _ _).trans hL'.symm), fun k hk => ?_⟩
 have hk' := (blks_perm hL').mem_iff.1 hk
 obtain ⟨z, hz, hzk⟩ := blks_mem.1 hk'
 rcases List.mem_cons.1 hz with rfl | hz
 ·exact .inl hzk
 ·refine .inr ((blks_perm hL).mem_iff.2 ?_)
  rcases List.mem_cons.1 hz with rfl | hz
  ·rw [hq'] at hzk
   exact blks_mem.2 ⟨q, List.mem_cons_of_mem _ (List.mem_cons_self ..), hzk⟩
  ·exact blks_mem.2 ⟨z, List.mem_cons_of_mem _ (List.mem_cons_of_mem _ hz), hzk⟩
theorem set_mem {α : Type} {l : List α} {p : Nat} {x y : α} (h : y ∈ l.set p x) : y = x ∨ y ∈ l := by
 rcases List.mem_or_eq_of_mem_set h with h | h
 ·exact .inr h
 ·exact .inl h
theorem GOwn.setL {w0 w w1 : World} {base g cap p : Nat} {G : Gp} (h : GOwn w0 w base G) (hp : p < G.ns.length) (hv : G.vn = .slice (some ⟨g, 0, none⟩) G.ns.length cap) {v : Value} {ls : List (List UInt8)}
  (ho : (rowL v ls).Own w1 base) (hg : w.grownBy w1 G.ns[p].vl.ownBlock) (hat : v.ownBlock = G.ns[p].vl.ownBlock ∨ ∀ k, v.ownBlock = some k → w.heap.size ≤ k) (hl : ∀ s ∈ ls, s.length ≤ maxLen) (hf : Fuw w0 w1) :
  GOwn w0 (w1.setCell ⟨g, p * 3 + 1, none⟩ v) base { G with ns := G.ns.set p { G.ns[p] with ls := ls, vl := v } } ∧ ∀ k, k ∈ blks ({ G with ns := G.ns.set p { G.ns[p] with ls := ls, vl := v } } : Gp).rows → v.ownBlock = some k ∨ k ∈ blks G.rows := by
 have hgb : base ≤ g := by
  have := h.nrow.lt g (by show G.vn.ownBlock = some g; rw [hv]; rfl)
  exact this.1
 have hc : ({ G with ns := G.ns.set p { G.ns[p] with ls := ls, vl := v } } : Gp).rows.Perm (rowL v ls :: rowN G.vn (G.ns.set p { G.ns[p] with ls := ls, vl := v }) :: rowP G.ns[p].vp G.ns[p].pm :: rowE G.ve G.es :: inR (delA G.ns p) G.es G.xs) := by
  have k := canonN (G := { G with ns := G.ns.set p { G.ns[p] with ls := ls, vl := v } }) (p := p) (by simpa using hp)
  simp only [List.getElem_set_self, delA_set] at k
  exact k.trans ((List.Perm.swap _ _ _).cons _)
 obtain ⟨h1, h2⟩ := Rows.two (q := rowN G.vn G.ns) (q' := rowN G.vn (G.ns.set p { G.ns[p] with ls := ls, vl := v })) (j := p * 3 + 1) (u := v) h.rows ((canonN hp).trans ((List.Perm.swap _ _ _).cons _)) hc hg ho hat hv rfl (by
  unfold rowN
  rw [csN_set1 v ls G.ns p hp, List.length_set])
 refine ⟨⟨h1, fun y hy => ?_, h.eo, h.i1, h.i2, fuwS hf (Nat.le_trans h.lo hgb), h.lo⟩, h2⟩
 rcases set_mem hy with rfl | hy
 ·have := h.no _ (List.getElem_mem hp)
  exact ⟨this.i, hl, this.p⟩
 ·exact h.no y hy
theorem GOwn.setP {w0 w w1 : World} {base g cap p : Nat} {G : Gp} (h : GOwn w0 w base G) (hp : p < G.ns.length) (hv : G.vn = .slice (some ⟨g, 0, none⟩) G.ns.length cap) {v : Value} {pm : List (Pp × AC)}
  (ho : (rowP v pm).Own w1 base) (hg : w.grownBy w1 G.ns[p].vp.ownBlock) (hat : v.ownBlock = G.ns[p].vp.ownBlock ∨ ∀ k, v.ownBlock = some k → w.heap.size ≤ k) (hl : PmOk w0 pm) (hf : Fuw w0 w1) :
  GOwn w0 (w1.setCell ⟨g, p * 3 + 2, none⟩ v) base { G with ns := G.ns.set p { G.ns[p] with pm := pm, vp := v } } ∧ ∀ k, k ∈ blks ({ G with ns := G.ns.set p { G.ns[p] with pm := pm, vp := v } } : Gp).rows → v.ownBlock = some k ∨ k ∈ blks G.rows := by
 have hgb : base ≤ g := by
  have := h.nrow.lt g (by show G.vn.ownBlock = some g; rw [hv]; rfl)
  exact this.1
 have hc : ({ G with ns := G.ns.set p { G.ns[p] with pm := pm, vp := v } } : Gp).rows.Perm (rowP v pm :: rowN G.vn (G.ns.set p { G.ns[p] with pm := pm, vp := v }) :: rowL G.ns[p].vl G.ns[p].ls :: rowE G.ve G.es :: inR (delA G.ns p) G.es G.xs) := by
  have k := canonN (G := { G with ns := G.ns.set p { G.ns[p] with pm := pm, vp := v } }) (p := p) (by simpa using hp)
  simp only [List.getElem_set_self, delA_set] at k
  exact k.trans ((List.Perm.swap _ _ _).trans ((List.Perm.swap _ _ _).cons _))
 obtain ⟨h1, h2⟩ := Rows.two (q := rowN G.vn G.ns) (q' := rowN G.vn (G.ns.set p { G.ns[p] with pm := pm, vp := v })) (j := p * 3 + 2) (u := v) h.rows ((canonN hp).trans ((List.Perm.swap _ _ _).trans ((List.Perm.swap _ _ _).cons _))) hc hg ho hat hv rfl (by
  unfold rowN
  rw [csN_set2 v pm G.ns p hp, List.length_set])
 refine ⟨⟨h1, fun y hy => ?_, h.eo, h.i1, h.i2, fuwS hf (Nat.le_trans h.lo hgb), h.lo⟩, h2⟩
 rcases set_mem hy with rfl | hy
 ·have := h.no _ (List.getElem_mem hp)
  exact ⟨this.i, this.l, hl⟩
 ·exact h.no y hy
theorem GOwn.setQ {w0 w w1 : World} {base g cap p : Nat} {G : Gp} (h : GOwn w0 w base G) (hp : p < G.es.length) (hv : G.ve = .slice (some ⟨g, 0, none⟩) G.es.length cap) {v : Value} {pm : List (Pp × AC)}
  (ho : (rowP v pm).Own w1 base) (hg : w.grownBy w1 G.es[p].vp.ownBlock) (hat : v.ownBlock = G.es[p].vp.ownBlock ∨ ∀ k, v.ownBlock = some k → w.heap.size ≤ k) (hl : PmOk w0 pm) (hf : Fuw w0 w1) :
  GOwn w0 (w1.setCell ⟨g, p * 5 + 4, none⟩ v) base { G with es := G.es.set p { G.es[p] with pm := pm, vp := v } } ∧ ∀ k, k ∈ blks ({ G with es := G.es.set p { G.es[p] with pm := pm, vp := v } } : Gp).rows → v.ownBlock = some k ∨ k ∈ blks G.rows := by
 have hgb : base ≤ g := by
  have := h.erow.lt g (by show G.ve.ownBlock = some g; rw [hv]; rfl)
  exact this.1
 have hc : ({ G with es := G.es.set p { G.es[p] with pm := pm, vp := v } } : Gp).rows.Perm (rowP v pm :: rowE G.ve (G.es.set p { G.es[p] with pm := pm, vp := v }) :: rowN G.vn G.ns :: inR G.ns (delA G.es p) G.xs) := by
  have k := canonE (G := { G with es := G.es.set p { G.es[p] with pm := pm, vp := v } }) (p := p) (by simpa using hp)
  simp only [List.getElem_set_self, delA_set] at k
  exact k.trans ((List.Perm.swap _ _ _).cons _)
 obtain ⟨h1, h2⟩ := Rows.two (q := rowE G.ve G.es) (q' := rowE G.ve (G.es.set p { G.es[p] with pm := pm, vp := v })) (j := p * 5 + 4) (u := v) h.rows ((canonE hp).trans ((List.Perm.swap _ _ _).cons _)) hc hg ho hat hv rfl (by
  unfold rowE
  rw [csE_set4 v pm G.es p hp, List.length_set])
 refine ⟨⟨h1, h.no, fun y hy => ?_, h.i1, h.i2, fuwS hf (Nat.le_trans h.lo hgb), h.lo⟩, h2⟩
 rcases set_mem hy with rfl | hy
 ·have := h.eo _ (List.getElem_mem hp)
  exact ⟨this.i, this.f, this.t, this.y, hl⟩
 ·exact h.eo y hy
theorem GOwn.delN {w0 w w1 : World} {base p : Nat} {G : Gp} (h : GOwn w0 w base G) {v : Value} (ho : w1.ownsRow base 51 3 v (G.ns.length - 1) ((csN G.ns).take (p * 3) ++ (csN G.ns).drop ((p + 1) * 3))) (hp : p < G.ns.length)
  (hg : w.grownBy w1 G.vn.ownBlock) (hat : v.ownBlock = G.vn.ownBlock) (hf : Fuw w0 w1) :
  GOwn w0 w1 base { G with vn := v, ns := delA G.ns p } ∧ ∀ k, k ∈ blks ({ G with vn := v, ns := delA G.ns p } : Gp).rows → k ∈ blks G.rows := by
 have e : rowN v (delA G.ns p) = ⟨51, 3, v, G.ns.length - 1, (csN G.ns).take (p * 3) ++ (csN G.ns).drop ((p + 1) * 3)⟩ := by
  have := delA_len G.ns p hp
  unfold rowN
  rw [csN_del, show (delA G.ns p).length = G.ns.length - 1 by omega]
 have h1 : Rows w1 base (rowN v (delA G.ns p) :: rowE G.ve G.es :: inR G.ns G.es G.xs) := by
  rw [e]
  exact Rows.turn h.rows hg ho (.inl hat)
 have hs : (inR (delA G.ns p) G.es G.xs).Sublist (inR G.ns G.es G.xs) := by
  unfold inR
  refine List.Sublist.append_right ?_ _
  have hq := inR_atN (es := []) (xs := []) hp
  unfold delA
  have e1 : G.ns.flatMap Np.rows = (G.ns.take p).flatMap Np.rows ++ (G.ns[p].rows ++ (G.ns.drop (p + 1)).flatMap Np.rows) := by
   conv => lhs; rw [at_split hp]
   rw [List.flatMap_append, List.flatMap_cons]
  have _ := hq
  rw [e1, List.flatMap_append]
  exact List.Sublist.append_left (List.sublist_append_right _ _) _
 refine ⟨⟨h1.sub ((hs.cons_cons _).cons_cons _), fun y hy => h.no y (delA_mem hy), h.eo, h.i1, h.i2, hf, h.lo⟩, fun k hk => ?_⟩
 obtain ⟨r, hr, hrk⟩ := blks_mem.1 hk
 rcases List.mem_cons.1 hr with rfl | hr
 ·exact blks_mem.2 ⟨_, List.mem_cons_self .., by rw [← hrk]; exact hat.symm⟩
 ·rcases List.mem_cons.1 hr with rfl | hr
  ·exact blks_mem.2 ⟨_, List.mem_cons_of_mem _ (List.mem_cons_self ..), hrk⟩
  ·exact blks_mem.2 ⟨r, List.mem_cons_of_mem _ (List.mem_cons_of_mem _ (hs.subset hr)), hrk⟩
theorem GOwn.delE {w0 w w1 : World} {base p : Nat} {G : Gp} (h : GOwn w0 w base G) {v : Value} (ho : w1.ownsRow base 53 5 v (G.es.length - 1) ((csE G.es).take (p * 5) ++ (csE G.es).drop ((p + 1) * 5))) (hp : p < G.es.length)
  (hg : w.grownBy w1 G.ve.ownBlock) (hat : v.ownBlock = G.ve.ownBlock) (hf : Fuw w0 w1) :
  GOwn w0 w1 base { G with ve := v, es := delA G.es p } ∧ ∀ k, k ∈ blks ({ G with ve := v, es := delA G.es p } : Gp).rows → k ∈ blks G.rows := by
 have e : rowE v (delA G.es p) = ⟨53, 5, v, G.es.length - 1, (csE G.es).take (p * 5) ++ (csE G.es).drop ((p + 1) * 5)⟩ := by
  have := delA_len G.es p hp
  unfold rowE
  rw [csE_del, show (delA G.es p).length = G.es.length - 1 by omega]
 have h0 : Rows w base (rowE G.ve G.es :: rowN G.vn G.ns :: inR G.ns G.es G.xs) := h.rows.perm (List.Perm.swap _ _ _)
 have h1 : Rows w1 base (rowE v (delA G.es p) :: rowN G.vn G.ns :: inR G.ns G.es G.xs) := by
  rw [e]
  exact Rows.turn h0 hg ho (.inl hat)
 have hs : (inR G.ns (delA G.es p) G.xs).Sublist (inR G.ns G.es G.xs) := by
  unfold inR
  refine List.Sublist.append_left (List.Sublist.append_right ?_ _) _
  unfold delA
  have e1 : G.es.flatMap Ep.rows = (G.es.take p).flatMap Ep.rows ++ (G.es[p].rows ++ (G.es.drop (p + 1)).flatMap Ep.rows) := by
   conv => lhs; rw [at_split hp]
   rw [List.flatMap_append, List.flatMap_cons]
  rw [e1, List.flatMap_append]
  exact List.Sublist.append_left (List.sublist_append_right _ _) _
 refine ⟨⟨(h1.sub ((hs.cons_cons _).cons_cons _)).perm (List.Perm.swap _ _ _), h.no, fun y hy => h.eo y (delA_mem hy), h.i1, h.i2, hf, h.lo⟩, fun k hk => ?_⟩
 obtain ⟨r, hr, hrk⟩ := blks_mem.1 hk
 rcases List.mem_cons.1 hr with rfl | hr
 ·exact blks_mem.2 ⟨_, List.mem_cons_self .., hrk⟩
 ·rcases List.mem_cons.1 hr with rfl | hr
  ·exact blks_mem.2 ⟨_, List.mem_cons_of_mem _ (List.mem_cons_self ..), by rw [← hrk]; exact hat.symm⟩
  ·exact blks_mem.2 ⟨r, List.mem_cons_of_mem _ (List.mem_cons_of_mem _ (hs.subset hr)), hrk⟩
end Go.Proofs.YtpamdlkagmlahaaGreatDoor

namespace Go.Proofs.YtpamdlkagmlahaaGreatDoor
open Go.RowKit
theorem GOwn.formN {w0 w : World} {base : Nat} {G : Gp} (h : GOwn w0 w base G) (hp : 0 < G.ns.length) : ∃ g cap, G.vn = .slice (some ⟨g, 0, none⟩) G.ns.length cap ∧ base ≤ g ∧ g < w.heap.size := h.nrow.form hp
theorem GOwn.formE {w0 w : World} {base : Nat} {G : Gp} (h : GOwn w0 w base G) (hp : 0 < G.es.length) : ∃ g cap, G.ve = .slice (some ⟨g, 0, none⟩) G.es.length cap ∧ base ≤ g ∧ g < w.heap.size := h.erow.form hp
set_option maxHeartbeats 3200000 in
set_option maxRecDepth 100000 in
theorem delnode_any {w0 w : World} {base B : Nat} {G : Gp} (h : GBox w0 w base B G) (p : Nat) (hp : p < G.ns.length) :
  Calls Tryz.prog 116 #[.pointer (some ⟨B, 0, none⟩), .int .i64 (p : Int)] w (RetEd w0 w base B G.xs (if useV G.gr.es G.ns[p].id = true then 12 else 0) { G.gr with ns := delA G.gr.ns p }) := by
 have hlb : base ≤ w.heap.size := Nat.le_trans h.hi (Nat.le_of_lt h.box.lt)
 obtain ⟨X, hX⟩ : ∃ X, G.ns[p].id = X := ⟨_, rfl⟩
 rw [hX]
 have HU := Lib.hid (used_any h X)
 obtain ⟨g, cap, ev, hgb, hgl⟩ := h.own.formN (by omega)
 obtain ⟨R, hR⟩ : ∃ R, R = (if useV G.gr.es X = true then 12 else 0 : Int) := ⟨_, rfl⟩
 rw [← hR]
 have HR := Lib.hid hR
 clear hR
 have ci : w.cell? ⟨g, 0 + p * 3 + 0, none⟩ = some (.int .i64 X) := by
  have hr := h.own.nrow
  unfold rowN Rw.Own at hr
  simp only [ev] at hr
  have k := hr.cellAt (p * 3 + 0) (by omega)
  rw [csN_get G.ns p 0 hp (by omega)] at k
  rw [show 0 + p * 3 + 0 = p * 3 + 0 by omega]
  rw [← hX]
  exact k
 simp only [Nat.add_zero, Nat.zero_add] at ci
 have HH := Lib.hid h
 have HL := Lib.hid hlb
 have HEV := Lib.hid ev
 have HPP := Lib.hid hp
 have c0 := h.box.c 0
 simp only [ev] at c0
 have lB := h.box.lt
 generalize useV G.gr.es X = q at *
 clear h hlb ev hX
 go_enter Tryz.func116, Tryz.ntmps116
 go_wp2_with fail
 go_at_call 170; refine HU.out.mono ?_; rintro e1 w1 ⟨rfl, f1⟩
 have HF1 := Lib.hid f1
 have HG1 := Lib.hid (HH.out.later f1)
 cases q with
 | true =>
  have HE := Lib.hid (show R = 12 from HR.out.trans (if_pos rfl))
  clear HU f1
  go_wp2
  go_ret
  exact ⟨ret_int HE.out.symm, below_of HF1.out HL.out, HF1.out.size, fun e => by rw [HE.out] at e; cases e⟩
 | false =>
  have HE := Lib.hid (show R = 0 from HR.out.trans (if_neg (by decide)))
  have HD := Lib.hid (show Calls Tryz.prog 171 #[.slice (some ⟨g, 0, none⟩) G.ns.length cap, .int .i64 (p : Int), .int .i64 ((p : Int) + 1)] w1 (RetDel w1 base 51 3 g cap (G.ns.length - 1) ((csN G.ns).take (p * 3) ++ (csN G.ns).drop ((p + 1) * 3))) from by
   have hr := HG1.out.own.nrow
   unfold rowN Rw.Own at hr
   simp only [HEV.out] at hr
   exact del_n hr p hp HG1.out.own.oneN)
  have hne : B ≠ g := fun e => HG1.out.far (blks_mem.2 ⟨rowN G.vn G.ns, List.mem_cons_self .., by unfold rowN; rw [HEV.out, e]; rfl⟩)
  have HNE := Lib.hid hne
  have d0 : w1.cell? ⟨B, 0, none⟩ = some (.slice (some ⟨g, 0, none⟩) G.ns.length cap) := cellOnw HF1.out c0
  clear c0 ci HU f1
  have hn5 : (p : Int) + 1 ≤ 9223372036854775807 := by
   have hr := HG1.out.own.nrow
   unfold rowN Rw.Own at hr
   simp only [HEV.out] at hr
   rcases hr.form' with ⟨k, -⟩ | ⟨g', cap', k, h1, h2⟩
   ·cases k
   ·unfold maxLen at h2; omega
  go_upto_region 3 with fail
  go_wp2_with fail
  go_at_call 171; refine HD.out.mono ?_; rintro e2 w2 ⟨rfl, hown2, hgr2⟩
  have bx2 : Bk w2 B #[.slice (some ⟨g, 0, none⟩) G.ns.length cap, G.ve, .int .i64 G.nn, .int .i64 G.ne] 25 := by
   have := HG1.out.box.grow hgr2 (fun e => HNE.out (by injection e))
   rw [HEV.out] at this
   exact this
  have m0 := bx2.c 0
  have z0 := bx2.f 0
  have HFIN := Lib.hid (show RetEd w0 w base B G.xs R { G.gr with ns := delA G.gr.ns p } (.returned (.int .i64 0)) (w2.setCell ⟨B, 0, none⟩ (.slice (some ⟨g, 0, none⟩) (G.ns.length - 1) cap)) from by
   have hbB := HG1.out.hi
   have hbl : Below base w1 w2 := below_grown hgr2 (by have := HF1.out.size; have := HL.out; omega) (fun k e => by injection e with e; rw [← e]; exact hgb)
   have hfu : Fuw w0 w2 := HG1.out.own.fu.trans_below hbl HG1.out.own.lo
   obtain ⟨hn1, hn2⟩ := GOwn.delN HG1.out.own hown2 hp (by rw [HEV.out]; exact hgr2) (by rw [HEV.out]; rfl) hfu
   have hfar := fun e => HG1.out.far (hn2 B e)
   refine ⟨by rw [HE.out], Below.setCell ((below_of HF1.out HL.out).trans hbl) hbB _, ?_, fun _ => ⟨_, ⟨hn1.far hfar hbB, ?_, hfar, hbB⟩, ?_, rfl⟩⟩
   ·have := HF1.out.size
    have := hgr2.size
    simp; omega
   ·exact bx2.set_ 0 _
   ·unfold Gp.gr
    simp only [delA_map])
  clear bx2 hgr2 hown2 HD
  go_wp2
  go_ret
  exact HFIN.out
end Go.Proofs.YtpamdlkagmlahaaGreatDoor
