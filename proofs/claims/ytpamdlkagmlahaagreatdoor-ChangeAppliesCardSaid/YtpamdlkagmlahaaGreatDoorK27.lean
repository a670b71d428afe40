/-
  CiB; CiC; CiH; M28; M34: texts of one kind in one file; each part says what it holds.
-/
import Derived.Test.YtpamdlkagmlahaaGreatDoorK26
import Derived.Test.YtpamdlkagmlahaaGreatDoorK23
import Derived.Deep.RegionWith
import Derived.Test.YtpamdlkagmlahaaGreatDoorK24
import Derived.Test.YtpamdlkagmlahaaGreatDoorK14

namespace Go.Proofs.YtpamdlkagmlahaaGreatDoor
open Go.RowKit
theorem RetEd.after {w0 w w1 w' : World} {base B : Nat} {xs : List Rw} {R : Int} {g : Gr} {e : Ending} (hf : Fuw w w1) (hb : base ≤ w.heap.size) (h : RetEd w0 w1 base B xs R g e w') : RetEd w0 w base B xs R g e w' :=
 ⟨h.1, (below_of hf hb).trans h.2.1, Nat.le_trans hf.size h.2.2.1, h.2.2.2⟩
theorem lab_congr {G : Gp} {p : Nat} (hp : p < G.ns.length) {f f' : Nd → Nd} (e : f G.ns[p].nd = f' G.ns[p].nd) : labN G.gr p f = labN G.gr p f' := by
 have hl : p < (G.ns.map Np.nd).length := by rw [List.length_map]; exact hp
 have k : (G.ns.map Np.nd)[p] = G.ns[p].nd := by rw [List.getElem_map]
 unfold labN Gp.gr
 simp only
 rw [← set_modify f _ p hl, ← set_modify f' _ p hl, k, e]
set_option maxHeartbeats 6400000 in
set_option maxRecDepth 100000 in
theorem editnode_any {w0 w : World} {base B : Nat} {G : Gp} (h : GBox w0 w base B G) (hv : Fine G.gr) (c : Ch) (a : Option Addr) (k : Nat) (hin : ChIn w0 c a k) :
  Calls Tryz.prog 79 #[.pointer (some ⟨B, 0, none⟩), .agg (chC c a k)] w (RetEd w0 w base B G.xs (match nodV G.gr.ns c.id with | none => 10 | some n => nerr G.gr c n) (nedi G.gr c)) := by
 obtain ⟨W, hW⟩ : ∃ W, W = w.alloc (.cells (chC c a k) 30) := ⟨_, rfl⟩
 have fW : Fuw w W := by rw [hW]; exact fuwA _ _
 have bW : Bk W w.heap.size (chC c a k) 30 := by rw [hW]; exact Bk.new _ _ _
 have HFN := Lib.hid (fnode_any (h.later fW) c.id hv.pn (by have := hv.n; unfold Gp.gr at this; rw [List.length_map] at this; omega))
 obtain ⟨R, hR⟩ : ∃ R, R = (match nodV G.gr.ns c.id with | none => 10 | some n => nerr G.gr c n : Int) := ⟨_, rfl⟩
 rw [← hR]
 have HB := Lib.hid h.hb
 have HIN := Lib.hid hin
 have HH := Lib.hid h
 have HV := Lib.hid hv
 have HFW := Lib.hid fW
 have HBW := Lib.hid bW
 have d1 := bW.c 1
 unfold chC at hW d1 ⊢
 rcases at_nod (x := c.id) hv.pn with ⟨q1, hl, q2, q3⟩ | ⟨q1, q2⟩
 ·rw [q1] at HFN
  rw [q2] at hR
  obtain ⟨p, hp⟩ : ∃ p, p = atI (nidsV G.gr.ns) c.id := ⟨_, rfl⟩
  rw [← hp] at HFN
  have hl' : p < G.ns.length := by rw [hp]; have := hl; unfold Gp.gr at this; rw [List.length_map] at this; exact this
  have HL := Lib.hid hl'
  have hnd : G.gr.ns[atI (nidsV G.gr.ns) c.id] = G.ns[p].nd := by
   have e1 : G.gr.ns[atI (nidsV G.gr.ns) c.id]? = some G.ns[p].nd := by rw [← hp]; exact nd_get hl'
   rw [List.getElem?_eq_getElem hl] at e1
   injection e1
  have hR' : R = nerr G.gr c G.ns[p].nd := by rw [hR]; simp only; rw [hnd]
  have HR := Lib.hid hR'
  have HPP := Lib.hid hp
  have HID := Lib.hid (show G.ns[p].id = c.id from (congrArg Nd.id hnd).symm.trans q3)
  have HND := Lib.hid (show NdF G.gr.nn G.ns[p].nd from hv.nf _ (List.mem_map.2 ⟨_, List.getElem_mem hl', rfl⟩))
  have HNX := Lib.hid (show nedi G.gr c = if c.op = 3 then labN G.gr p (fun n => { n with ls := insA n.ls (atS n.ls c.nm) c.nm }) else if c.op = 4 then labN G.gr p (fun n => { n with ls := delA n.ls (atS n.ls c.nm) }) else if c.op = 5 then labN G.gr p (fun n => { n with ps := setP n.ps c.nm c.v }) else { G.gr with ns := delA G.gr.ns p } from by rw [hp]; rfl)
  obtain ⟨T, hT⟩ : ∃ T, T = nedi G.gr c := ⟨_, rfl⟩
  rw [← hT] at HNX ⊢
  obtain ⟨g, cap, ev, hgb, hgl⟩ := h.own.formN (by omega)
  have HEV := Lib.hid ev
  have c0 : W.cell? ⟨B, 0, none⟩ = some (.slice (some ⟨g, 0, none⟩) G.ns.length cap) := by
   have := (h.later fW).box.c 0
   rw [this, ev]; rfl
  have hp5 : (p : Int) < (G.ns.length : Int) := by omega
  clear h hv hin fW bW hR hR' hnd q1 q2 q3 hl hp hT ev hgb hgl
  go_enter Tryz.func79, Tryz.ntmps79
  go_upto_region 1 with fail
  rw [← hW]
  clear hW
  go_wp2_with fail
  go_at_call 107; refine HFN.out.mono ?_; rintro e1 w1 ⟨rfl, f1⟩
  have HF1 := Lib.hid (HFW.out.trans f1)
  have HG1 := Lib.hid (HH.out.later HF1.out)
  have HB1 := Lib.hid (HBW.out.on f1)
  have m0 := HB1.out.c 0
  have m4 := HB1.out.c 4; have m5 := HB1.out.c 5; have m6 := HB1.out.c 6; have m7 := HB1.out.c 7; have m8 := HB1.out.c 8; have m9 := HB1.out.c 9
  unfold chC at m0 m4 m5 m6 m7 m8 m9
  have d0 : w1.cell? ⟨B, 0, none⟩ = some (.slice (some ⟨g, 0, none⟩) G.ns.length cap) := cellOnw f1 c0
  clear d1 c0 f1 HFN HFW HBW
  by_cases o3 : c.op = 3
  ·have HQ := Lib.hid (fun (e : Ending) (w' : World) (hr : RetEd w0 w1 base B G.xs R T e w') => RetEd.after HF1.out HB.out hr)
   have HT3 : T = labN G.gr p (fun n => { n with ls := insA n.ls (atS n.ls c.nm) c.nm }) := by rw [HNX.out, if_pos o3]
   have HR3 : R = if hasS G.ns[p].ls c.nm = true then 7 else if 8 ≤ G.ns[p].ls.length then 20 else 0 := by rw [HR.out]; unfold nerr; rw [if_pos o3]; rfl
   have HAL := Lib.hid (show Calls Tryz.prog 114 #[.pointer (some ⟨g, p * 3, none⟩), .string (bs c.nm)] w1 (RetEd w0 w1 base B G.xs R T) from by rw [HT3, HR3]; exact addlabel_any HG1.out HL.out HEV.out c.nm HIN.out.n HND.out.p.li HND.out.p.l8)
   rw [o3] at m0
   clear HT3 HR3
   go_wp2_with fail
   go_at_call 114; refine HAL.out.mono ?_; intro e2 w2 hr
   obtain ⟨rfl, hr2⟩ := hr
   have HZ := Lib.hid (HQ.out _ _ ⟨rfl, hr2⟩)
   clear hr2
   go_wp2
   go_ret
   exact HZ.out
  ·by_cases o4 : c.op = 4
   ·have HQ := Lib.hid (fun (e : Ending) (w' : World) (hr : RetEd w0 w1 base B G.xs R T e w') => RetEd.after HF1.out HB.out hr)
    have HT3 : T = labN G.gr p (fun n => { n with ls := delA n.ls (atS n.ls c.nm) }) := by rw [HNX.out, if_neg o3, if_pos o4]
    have HR3 : R = if hasS G.ns[p].ls c.nm = true then 0 else 23 := by rw [HR.out]; unfold nerr; rw [if_neg o3, if_pos o4]; rfl
    have HAL := Lib.hid (show Calls Tryz.prog 115 #[.pointer (some ⟨g, p * 3, none⟩), .string (bs c.nm)] w1 (RetEd w0 w1 base B G.xs R T) from by rw [HT3, HR3]; exact dellabel_any HG1.out HL.out HEV.out c.nm HND.out.p.li HND.out.p.l8)
    rw [o4] at m0
    clear HT3 HR3
    go_wp2_with fail
    go_at_call 115; refine HAL.out.mono ?_; intro e2 w2 hr
    obtain ⟨rfl, hr2⟩ := hr
    have HZ := Lib.hid (HQ.out _ _ ⟨rfl, hr2⟩)
    clear hr2
    go_wp2
    go_ret
    exact HZ.out
   ·by_cases o5 : c.op = 5
    ·have HT3 : T = labN G.gr p (fun n => { n with ps := setP (G.ns[p].pm.map Prod.fst) c.nm c.v }) := by
      rw [HNX.out, if_neg o3, if_neg o4, if_pos o5]
      exact lab_congr HL.out rfl
     have HR3 : R = setE (G.ns[p].pm.map Prod.fst) c.nm c.v := by rw [HR.out]; unfold nerr; rw [if_neg o3, if_neg o4, if_pos o5]; rfl
     have HAL := Lib.hid (fun (w2 : World) (hf : Fuw w1 w2) => setprop_any (w0 := w0) (w := w2) (base := base) (B := B) (g := g) (o := p * 3 + 2) (v := G.ns[p].vp) (pm := G.ns[p].pm) (fun ps => labN G.gr p (fun n => { n with ps := ps }))
      (fun v' pm' => { G with ns := G.ns.set p { G.ns[p] with pm := pm', vp := v' } }) ((HG1.out.later hf).own.prow (List.getElem_mem HL.out)) (HG1.out.own.no _ (List.getElem_mem HL.out)).p (HG1.out.later hf).own.fu (HG1.out.later hf).hb
      (by
       have hN := (HG1.out.later hf).own.nrow
       unfold rowN Rw.Own at hN
       simp only [HEV.out] at hN
       exact (rowC_own hN (j := p * 3 + 2) (by have := HL.out; omega) (u := G.ns[p].vp) (by rw [csN_get G.ns p 2 HL.out (by omega)]; rfl)).1)
      G.xs (fun v' pm' => gr_setN HL.out _ _ rfl) (fun _ _ => rfl)
      (fun w3 v' pm' w4 hf3 ho hg hat hpm => GBox.setP ((HG1.out.later hf).later hf3) HL.out HEV.out ho hg hat hpm)
      c.nm HIN.out.n c.v HIN.out.v a k HIN.out.s HND.out.p.ki (by have := HND.out.p.p16; unfold Np.nd at this; simp only [List.length_map] at this; exact this))
     rw [← HR3] at HAL
     have HAL2 := Lib.hid (fun (w2 : World) (hf : Fuw w1 w2) => show Calls Tryz.prog 112 #[.pointer (some ⟨g, p * 3 + 2, none⟩), .string (bs c.nm), .agg #[.int .i64 c.v.kd, .int .i64 c.v.nn, .int .i64 c.v.dd, .string (bs c.v.ss), .slice a c.v.ll.length k]] w2 (RetEd w0 w base B G.xs R T) from
      ((HAL.out w2 hf).mono fun e w' hr => by rw [HT3]; exact RetEd.after (HF1.out.trans hf) HB.out hr))
     rw [o5] at m0
     clear HT3 HR3 HAL
     go_upto_region 11 with fail
     go_region_with (first
      | (go_at_call 112; refine (HAL2.out _ (Fuw.drew (Fuw.refl _))).mono ?_; intro e2 w2 hr; obtain ⟨rfl, hr2⟩ := hr))
     all_goals
      have HZ := Lib.hid (show RetEd w0 w base B G.xs R T (.returned (.int .i64 R)) w2 from ⟨rfl, hr2⟩)
      clear hr2
      go_wp2
      go_ret
      exact HZ.out
    ·have HT3 : T = { G.gr with ns := delA G.gr.ns p } := by rw [HNX.out, if_neg o3, if_neg o4, if_neg o5]
     have hid : G.ns[p].id = c.id := HID.out
     have HR3 : R = if useV G.gr.es G.ns[p].id = true then 12 else 0 := by rw [HR.out, hid]; unfold nerr; rw [if_neg o3, if_neg o4, if_neg o5]
     have HAL := Lib.hid (show Calls Tryz.prog 116 #[.pointer (some ⟨B, 0, none⟩), .int .i64 (p : Int)] w1 (RetEd w0 w1 base B G.xs R T) from by rw [HT3, HR3]; exact delnode_any HG1.out p HL.out)
     have HQ := Lib.hid (fun (e : Ending) (w' : World) (hr : RetEd w0 w1 base B G.xs R T e w') => RetEd.after HF1.out HB.out hr)
     clear HT3 HR3 hid
     go_wp2_with fail
     go_at_call 116; refine HAL.out.mono ?_; intro e2 w2 hr
     obtain ⟨rfl, hr2⟩ := hr
     have HZ := Lib.hid (HQ.out _ _ ⟨rfl, hr2⟩)
     clear hr2
     go_wp2
     go_ret
     exact HZ.out
 ·rw [q1] at HFN
  rw [q2] at hR
  have HE := Lib.hid (show R = 10 from hR)
  clear h hv hin fW bW hR q1 q2
  go_enter Tryz.func79, Tryz.ntmps79
  go_upto_region 1 with fail
  rw [← hW]
  clear hW
  go_wp2_with fail
  go_at_call 107; refine HFN.out.mono ?_; rintro e1 w1 ⟨rfl, f1⟩
  have HF1 := Lib.hid (HFW.out.trans f1)
  clear f1
  go_wp2
  go_ret
  exact ⟨ret_int HE.out.symm, below_of HF1.out HB.out, HF1.out.size, fun e => by rw [HE.out] at e; cases e⟩
end Go.Proofs.YtpamdlkagmlahaaGreatDoor

namespace Go.Proofs.YtpamdlkagmlahaaGreatDoor
open Go.RowKit
def labE (g : Gr) (p : Nat) (f : Ed → Ed) : Gr := { g with es := g.es.modify p f }
theorem ed_get {G : Gp} {p : Nat} (hp : p < G.es.length) : (G.es.map Ep.ed)[p]? = some G.es[p].ed := by rw [List.getElem?_map, List.getElem?_eq_getElem hp]; rfl
theorem gr_setE {G : Gp} {p : Nat} (hp : p < G.es.length) (x : Ep) (f : Ed → Ed) (e : x.ed = f G.es[p].ed) : ({ G with es := G.es.set p x } : Gp).gr = labE G.gr p f := by
 unfold labE Gp.gr
 simp only
 rw [List.map_set, e, ← set_modify f _ p (by rw [List.length_map]; exact hp), List.getElem_map]
theorem labE_congr {G : Gp} {p : Nat} (hp : p < G.es.length) {f f' : Ed → Ed} (e : f G.es[p].ed = f' G.es[p].ed) : labE G.gr p f = labE G.gr p f' := by
 have hl : p < (G.es.map Ep.ed).length := by rw [List.length_map]; exact hp
 have k : (G.es.map Ep.ed)[p] = G.es[p].ed := by rw [List.getElem_map]
 unfold labE Gp.gr
 simp only
 rw [← set_modify f _ p hl, ← set_modify f' _ p hl, k, e]
set_option maxHeartbeats 6400000 in
set_option maxRecDepth 100000 in
theorem editedge_any {w0 w : World} {base B : Nat} {G : Gp} (h : GBox w0 w base B G) (hv : Fine G.gr) (c : Ch) (a : Option Addr) (k : Nat) (hin : ChIn w0 c a k) :
  Calls Tryz.prog 78 #[.pointer (some ⟨B, 0, none⟩), .agg (chC c a k)] w (RetEd w0 w base B G.xs (match edgV G.gr.es c.id with | none => 11 | some e => if c.op = 8 then setE e.ps c.nm c.v else 0) (if c.op = 8 then ediE G.gr c.id (fun e => { e with ps := setP e.ps c.nm c.v }) else delE G.gr c.id)) := by
 obtain ⟨W, hW⟩ : ∃ W, W = w.alloc (.cells (chC c a k) 30) := ⟨_, rfl⟩
 have fW : Fuw w W := by rw [hW]; exact fuwA _ _
 have bW : Bk W w.heap.size (chC c a k) 30 := by rw [hW]; exact Bk.new _ _ _
 have HFN := Lib.hid (fedge_any (h.later fW) c.id hv.pe (by have := hv.e; unfold Gp.gr at this; rw [List.length_map] at this; omega))
 obtain ⟨R, hR⟩ : ∃ R, R = (match edgV G.gr.es c.id with | none => 11 | some e => if c.op = 8 then setE e.ps c.nm c.v else 0 : Int) := ⟨_, rfl⟩
 rw [← hR]
 have HB := Lib.hid h.hb
 have HIN := Lib.hid hin
 have HH := Lib.hid h
 have HV := Lib.hid hv
 have HFW := Lib.hid fW
 have HBW := Lib.hid bW
 have d1 := bW.c 1
 unfold chC at hW d1 ⊢
 rcases at_edg (x := c.id) hv.pe with ⟨q1, hl, q2, q3⟩ | ⟨q1, q2⟩
 ·rw [q1] at HFN
  rw [q2] at hR
  obtain ⟨p, hp⟩ : ∃ p, p = atI (eidsV G.gr.es) c.id := ⟨_, rfl⟩
  rw [← hp] at HFN
  have hl' : p < G.es.length := by rw [hp]; have := hl; unfold Gp.gr at this; rw [List.length_map] at this; exact this
  have HL := Lib.hid hl'
  have hnd : G.gr.es[atI (eidsV G.gr.es) c.id] = G.es[p].ed := by
   have e1 : G.gr.es[atI (eidsV G.gr.es) c.id]? = some G.es[p].ed := by rw [← hp]; exact ed_get hl'
   rw [List.getElem?_eq_getElem hl] at e1
   injection e1
  have hR' : R = if c.op = 8 then setE G.es[p].ed.ps c.nm c.v else 0 := by rw [hR]; simp only; rw [hnd]
  have HR := Lib.hid hR'
  have HND := Lib.hid (show EdF G.gr.ns G.gr.ne G.es[p].ed from hv.ef _ (List.mem_map.2 ⟨_, List.getElem_mem hl', rfl⟩))
  have HNX := Lib.hid (show (if c.op = 8 then ediE G.gr c.id (fun e => { e with ps := setP e.ps c.nm c.v }) else delE G.gr c.id) = if c.op = 8 then labE G.gr p (fun n => { n with ps := setP n.ps c.nm c.v }) else { G.gr with es := delA G.gr.es p } from by rw [hp]; rfl)
  obtain ⟨T, hT⟩ : ∃ T, T = (if c.op = 8 then ediE G.gr c.id (fun e => { e with ps := setP e.ps c.nm c.v }) else delE G.gr c.id) := ⟨_, rfl⟩
  rw [← hT] at HNX ⊢
  obtain ⟨g, cap, ev, hgb, hgl⟩ := h.own.formE (by omega)
  have HEV := Lib.hid ev
  have HGB := Lib.hid hgb
  have c0 : W.cell? ⟨B, 1, none⟩ = some (.slice (some ⟨g, 0, none⟩) G.es.length cap) := by
   have := (h.later fW).box.c 1
   rw [this, ← ev]; rfl
  have hp5 : (p : Int) < (G.es.length : Int) := by omega
  have hn5 : (p : Int) + 1 ≤ 9223372036854775807 := by
   have := hv.e
   unfold Gp.gr at this
   rw [List.length_map] at this
   omega
  clear h hv hin fW bW hR hR' hnd q1 q2 q3 hl hp hT ev hgb hgl
  go_enter Tryz.func78, Tryz.ntmps78
  go_upto_region 1 with fail
  rw [← hW]
  clear hW
  go_wp2_with fail
  go_at_call 109; refine HFN.out.mono ?_; rintro e1 w1 ⟨rfl, f1⟩
  have HF1 := Lib.hid (HFW.out.trans f1)
  have HG1 := Lib.hid (HH.out.later HF1.out)
  have HB1 := Lib.hid (HBW.out.on f1)
  have m0 := HB1.out.c 0
  have m4 := HB1.out.c 4; have m5 := HB1.out.c 5; have m6 := HB1.out.c 6; have m7 := HB1.out.c 7; have m8 := HB1.out.c 8; have m9 := HB1.out.c 9
  unfold chC at m0 m4 m5 m6 m7 m8 m9
  have d0 : w1.cell? ⟨B, 1, none⟩ = some (.slice (some ⟨g, 0, none⟩) G.es.length cap) := cellOnw f1 c0
  clear d1 c0 f1 HFN HFW HBW
  by_cases o8 : c.op = 8
  ·have HT3 : T = labE G.gr p (fun n => { n with ps := setP (G.es[p].pm.map Prod.fst) c.nm c.v }) := by
    rw [HNX.out, if_pos o8]
    exact labE_congr HL.out rfl
   have HR3 : R = setE (G.es[p].pm.map Prod.fst) c.nm c.v := by rw [HR.out, if_pos o8]; rfl
   have HAL := Lib.hid (fun (w2 : World) (hf : Fuw w1 w2) => setprop_any (w0 := w0) (w := w2) (base := base) (B := B) (g := g) (o := p * 5 + 4) (v := G.es[p].vp) (pm := G.es[p].pm) (fun ps => labE G.gr p (fun n => { n with ps := ps }))
    (fun v' pm' => { G with es := G.es.set p { G.es[p] with pm := pm', vp := v' } }) ((HG1.out.later hf).own.qrow (List.getElem_mem HL.out)) (HG1.out.own.eo _ (List.getElem_mem HL.out)).p (HG1.out.later hf).own.fu (HG1.out.later hf).hb
    (by
     have hN := (HG1.out.later hf).own.erow
     unfold rowE Rw.Own at hN
     simp only [HEV.out] at hN
     exact (rowC_own hN (j := p * 5 + 4) (by have := HL.out; omega) (u := G.es[p].vp) (by rw [csE_get G.es p 4 HL.out (by omega)]; rfl)).1)
    G.xs (fun v' pm' => gr_setE HL.out _ _ rfl) (fun _ _ => rfl)
    (fun w3 v' pm' w4 hf3 ho hg hat hpm => GBox.setQ ((HG1.out.later hf).later hf3) HL.out HEV.out ho hg hat hpm)
    c.nm HIN.out.n c.v HIN.out.v a k HIN.out.s HND.out.p.ki (by have := HND.out.p.p16; unfold Ep.ed at this; simp only [List.length_map] at this; exact this))
   rw [← HR3] at HAL
   have HAL2 := Lib.hid (fun (w2 : World) (hf : Fuw w1 w2) => show Calls Tryz.prog 112 #[.pointer (some ⟨g, p * 5 + 4, none⟩), .string (bs c.nm), .agg #[.int .i64 c.v.kd, .int .i64 c.v.nn, .int .i64 c.v.dd, .string (bs c.v.ss), .slice a c.v.ll.length k]] w2 (RetEd w0 w base B G.xs R T) from
    ((HAL.out w2 hf).mono fun e w' hr => by rw [HT3]; exact RetEd.after (HF1.out.trans hf) HB.out hr))
   rw [o8] at m0
   clear HT3 HR3 HAL
   go_upto_region 5 with fail
   go_region_with (first
    | (go_at_call 112; refine (HAL2.out _ (Fuw.drew (Fuw.refl _))).mono ?_; intro e2 w2 hr; obtain ⟨rfl, hr2⟩ := hr))
   all_goals
    have HZ := Lib.hid (show RetEd w0 w base B G.xs R T (.returned (.int .i64 R)) w2 from ⟨rfl, hr2⟩)
    clear hr2
    go_wp2
    go_ret
    exact HZ.out
  ·have HT3 := Lib.hid (show T = { G.gr with es := delA G.gr.es p } by rw [HNX.out, if_neg o8])
   have HE := Lib.hid (show R = 0 by rw [HR.out, if_neg o8])
   have HD := Lib.hid (show Calls Tryz.prog 113 #[.slice (some ⟨g, 0, none⟩) G.es.length cap, .int .i64 (p : Int), .int .i64 ((p : Int) + 1)] w1 (RetDel w1 base 53 5 g cap (G.es.length - 1) ((csE G.es).take (p * 5) ++ (csE G.es).drop ((p + 1) * 5))) from by
    have hr := HG1.out.own.erow
    unfold rowE Rw.Own at hr
    simp only [HEV.out] at hr
    exact del_e hr p HL.out HG1.out.own.oneE)
   have hne : B ≠ g := fun e => HG1.out.far (blks_mem.2 ⟨rowE G.ve G.es, List.mem_cons_of_mem _ (List.mem_cons_self ..), by unfold rowE; rw [HEV.out, e]; rfl⟩)
   have HNE := Lib.hid hne
   have hb8 : (c.op == 8) = false := by simpa using o8
   go_upto_region 6 with fail
   go_wp2_with fail
   go_at_call 113; refine HD.out.mono ?_; rintro e2 w2 ⟨rfl, hown2, hgr2⟩
   have bx2 : Bk w2 B #[G.vn, .slice (some ⟨g, 0, none⟩) G.es.length cap, .int .i64 G.nn, .int .i64 G.ne] 25 := by
    have := HG1.out.box.grow hgr2 (fun e => HNE.out (by injection e))
    rw [HEV.out] at this
    exact this
   have n0 := bx2.c 1
   have z0 := bx2.f 1
   have HFIN := Lib.hid (show RetEd w0 w base B G.xs R T (.returned (.int .i64 0)) (w2.setCell ⟨B, 1, none⟩ (.slice (some ⟨g, 0, none⟩) (G.es.length - 1) cap)) from by
    have hbB := HG1.out.hi
    have hbl : Below base w1 w2 := below_grown hgr2 (by have := HF1.out.size; have := HB.out; omega) (fun k e => by injection e with e; rw [← e]; exact HGB.out)
    have hfu : Fuw w0 w2 := HG1.out.own.fu.trans_below hbl HG1.out.own.lo
    obtain ⟨hn1, hn2⟩ := GOwn.delE HG1.out.own hown2 HL.out (by rw [HEV.out]; exact hgr2) (by rw [HEV.out]; rfl) hfu
    have hfar := fun e => HG1.out.far (hn2 B e)
    refine ⟨by rw [HE.out], Below.setCell ((below_of HF1.out HB.out).trans hbl) hbB _, ?_, fun _ => ⟨_, ⟨hn1.far hfar hbB, ?_, hfar, hbB⟩, ?_, rfl⟩⟩
    ·have := HF1.out.size
     have := hgr2.size
     simp; omega
    ·exact bx2.set_ 1 _
    ·rw [HT3.out]
     unfold Gp.gr
     simp only [delA_map])
   clear bx2 hgr2 hown2 HD d0 m0 m4 m5 m6 m7 m8 m9
   go_wp2
   go_ret
   exact HFIN.out
 ·rw [q1] at HFN
  rw [q2] at hR
  have HE := Lib.hid (show R = 11 from hR)
  generalize (if c.op = 8 then ediE G.gr c.id (fun e => { e with ps := setP e.ps c.nm c.v }) else delE G.gr c.id) = T
  clear h hv hin fW bW hR q1 q2
  go_enter Tryz.func78, Tryz.ntmps78
  go_upto_region 1 with fail
  rw [← hW]
  clear hW
  go_wp2_with fail
  go_at_call 109; refine HFN.out.mono ?_; rintro e1 w1 ⟨rfl, f1⟩
  have HF1 := Lib.hid (HFW.out.trans f1)
  clear f1
  go_wp2
  go_ret
  exact ⟨ret_int HE.out.symm, below_of HF1.out HB.out, HF1.out.size, fun e => by rw [HE.out] at e; cases e⟩
end Go.Proofs.YtpamdlkagmlahaaGreatDoor

namespace Go.Proofs.YtpamdlkagmlahaaGreatDoor
open Go.RowKit
theorem Fine.val {g : Gr} (h : Fine g) : GVal g := ⟨h.n, h.e, h.pn, h.pe, h.nn, h.ne⟩
theorem RetEd.at {w0 w1 w' : World} {base B : Nat} {xs : List Rw} {R : Int} {g : Gr} {e : Ending} (h : RetEd w0 w1 base B xs R g e w') : e = .returned (.int .i64 R) := h.1
set_option maxHeartbeats 6400000 in
set_option maxRecDepth 100000 in
theorem edit_any {w0 w : World} {base B : Nat} {G : Gp} (h : GBox w0 w base B G) (hv : Fine G.gr) (c : Ch) (a : Option Addr) (k : Nat) (hin : ChIn w0 c a k) :
  Calls Tryz.prog 37 #[.pointer (some ⟨B, 0, none⟩), .agg (chC c a k)] w (RetEd w0 w base B G.xs (stpE G.gr c) (stpG G.gr c)) := by
 have hb := h.hb
 obtain ⟨W, hW⟩ : ∃ W, W = w.alloc (.cells (chC c a k) 30) := ⟨_, rfl⟩
 have fW : Fuw w W := by rw [hW]; exact fuwA _ _
 have bW : Bk W w.heap.size (chC c a k) 30 := by rw [hW]; exact Bk.new _ _ _
 have HCK := Lib.hid (lchk_any c a k W (hin.on (h.own.fu.trans fW)))
 obtain ⟨R, hR⟩ : ∃ R, R = stpE G.gr c := ⟨_, rfl⟩
 obtain ⟨T, hT⟩ : ∃ T, T = stpG G.gr c := ⟨_, rfl⟩
 rw [← hR, ← hT]
 have HFW := Lib.hid fW
 have HBW := Lib.hid bW
 have HB := Lib.hid hb
 have HC1 := Lib.hid (fun (w' : World) (hf : Fuw w w') (hi : 1 ≤ c.id ∧ c.id ≤ 1000000) => addnode_any (h.later hf) hv.val c a k hi)
 have HC6 := Lib.hid (fun (w' : World) (hf : Fuw w w') (hi : 1 ≤ c.id ∧ c.id ≤ 1000000) => addedge_any (h.later hf) hv.val c a k hi hin.f hin.t hin.n)
 have HCE := Lib.hid (fun (w' : World) (hf : Fuw w w') => editedge_any (h.later hf) hv c a k hin)
 have HCN := Lib.hid (fun (w' : World) (hf : Fuw w w') => editnode_any (h.later hf) hv c a k hin)
 have hRN : chkC c ≠ 0 → R = chkC c := fun q => by rw [hR]; unfold stpE; rw [if_pos q]
 have hOK : chkC c = 0 → (1 ≤ c.id ∧ c.id ≤ 1000000) ∧ 1 ≤ c.op ∧ c.op ≤ 8 := fun q => by
  obtain ⟨h1, h2, -⟩ := chkC_ok q
  unfold idsC idV at h2
  unfold opV at h1
  simp only [Bool.and_eq_true, decide_eq_true_eq] at h1 h2
  exact ⟨h2.1, h1⟩
 have hR1 : chkC c = 0 → c.op = 1 → R = (if hasN G.gr.ns c.id = true then 7 else if 2000 ≤ G.gr.ns.length then 20 else 0) ∧ T = addN G.gr c.id := fun q o => by
  rw [hR, hT]; unfold stpE stpG; rw [if_neg (fun g => g q), if_pos o, if_pos o]; exact ⟨rfl, rfl⟩
 have hR6 : chkC c = 0 → c.op = 6 → R = (if hasE G.gr.es c.id = true then 7 else if (hasN G.gr.ns c.fr && hasN G.gr.ns c.tt) = false then 10 else if 4000 ≤ G.gr.es.length then 20 else 0) ∧ T = addE G.gr c := fun q o => by
  have n1 : ¬ c.op = 1 := by omega
  rw [hR, hT]; unfold stpE stpG; rw [if_neg (fun g => g q), if_neg n1, if_pos o, if_neg n1, if_pos o]; exact ⟨rfl, rfl⟩
 have hR7 : chkC c = 0 → (c.op = 7 ∨ c.op = 8) → R = (match edgV G.gr.es c.id with | none => 11 | some e => if c.op = 8 then setE e.ps c.nm c.v else 0) ∧ T = (if c.op = 8 then ediE G.gr c.id (fun e => { e with ps := setP e.ps c.nm c.v }) else delE G.gr c.id) := fun q o => by
  have n1 : ¬ c.op = 1 := by omega
  have n6 : ¬ c.op = 6 := by omega
  rw [hR, hT]; unfold stpE stpG; rw [if_neg (fun g => g q), if_neg n1, if_neg n6, if_pos o, if_neg n1, if_neg n6]
  refine ⟨rfl, ?_⟩
  by_cases o8 : c.op = 8
  ·rw [if_pos o8, if_pos o8]
  ·rw [if_neg o8, if_neg o8, if_pos (by omega)]
 have H7 := Lib.hid hR7
 have hRNo : chkC c = 0 → ¬ c.op = 1 → ¬ c.op = 6 → ¬ c.op = 7 → ¬ c.op = 8 → R = (match nodV G.gr.ns c.id with | none => 10 | some n => nerr G.gr c n) ∧ T = nedi G.gr c := fun q o1 o6 o7 o8 => by
  have n78 : ¬ (c.op = 7 ∨ c.op = 8) := by omega
  rw [hR, hT]; unfold stpE stpG; rw [if_neg (fun g => g q), if_neg o1, if_neg o6, if_neg n78, if_neg o1, if_neg o6, if_neg o8, if_neg o7]
  exact ⟨rfl, rfl⟩
 have HN := Lib.hid hRNo
 have H1 := Lib.hid hR1
 have H6 := Lib.hid hR6
 have HN0 := Lib.hid hRN
 have HOK := Lib.hid hOK
 have d0 := bW.c 0
 obtain ⟨q, hq⟩ : ∃ q, q = chkC c := ⟨_, rfl⟩
 rw [← hq] at HCK HN0 HOK H1 H6 H7 HN
 clear h hv hin hR hT fW bW hb hR1 hR6 hRN hOK hq hR7 hRNo
 unfold chC at *
 go_enter Tryz.func37, Tryz.ntmps37
 go_upto_region 1 with fail
 rw [← hW]
 clear hW
 have c1 := HBW.out.c 1; have c2 := HBW.out.c 2; have c3 := HBW.out.c 3; have c4 := HBW.out.c 4; have c5 := HBW.out.c 5; have c6 := HBW.out.c 6; have c7 := HBW.out.c 7; have c8 := HBW.out.c 8; have c9 := HBW.out.c 9
 go_wp2_with fail
 go_at_call 9; refine HCK.out.mono ?_; rintro e1 w1 ⟨rfl, f1⟩
 have HF1 := Lib.hid (HFW.out.trans f1)
 have HB1 := Lib.hid (HBW.out.on f1)
 clear d0 c1 c2 c3 c4 c5 c6 c7 c8 c9 f1 HFW HBW HCK
 by_cases g : q = 0
 ·subst g
  have HI := Lib.hid (HOK.out rfl)
  have HQ := Lib.hid (fun (e : Ending) (w' : World) (hr : RetEd w0 w1 base B G.xs R T e w') => RetEd.after HF1.out HB.out hr)
  have d0 := HB1.out.c 0; have d1 := HB1.out.c 1; have d2 := HB1.out.c 2; have d3 := HB1.out.c 3; have d4 := HB1.out.c 4; have d5 := HB1.out.c 5; have d6 := HB1.out.c 6; have d7 := HB1.out.c 7; have d8 := HB1.out.c 8; have d9 := HB1.out.c 9
  by_cases o1 : c.op = 1
  ·have HAL := Lib.hid (show Calls Tryz.prog 76 _ w1 (RetEd w0 w1 base B G.xs R T) from by rw [(H1.out rfl o1).1, (H1.out rfl o1).2]; exact HC1.out w1 HF1.out HI.out.1)
   rw [o1] at d0 HAL
   clear HC1 HC6 HCE HCN H1 H6 H7 HN HOK HN0
   go_wp2_with fail
   go_at_call 76; refine HAL.out.mono ?_; intro e2 w2 hr
   obtain ⟨rfl, hr2⟩ := hr
   have HZ := Lib.hid (HQ.out _ _ ⟨rfl, hr2⟩)
   clear hr2
   go_wp2
   go_ret
   exact HZ.out
  ·by_cases o6 : c.op = 6
   ·have HAL := Lib.hid (show Calls Tryz.prog 77 _ w1 (RetEd w0 w1 base B G.xs R T) from by rw [(H6.out rfl o6).1, (H6.out rfl o6).2]; exact HC6.out w1 HF1.out HI.out.1)
    rw [o6] at d0 HAL
    clear HC1 HC6 HCE HCN H1 H6 H7 HN HOK HN0
    go_wp2_with fail
    go_at_call 77; refine HAL.out.mono ?_; intro e2 w2 hr
    obtain ⟨rfl, hr2⟩ := hr
    have HZ := Lib.hid (HQ.out _ _ ⟨rfl, hr2⟩)
    clear hr2
    go_wp2
    go_ret
    exact HZ.out
   ·by_cases o7 : c.op = 7
    ·have HAL := Lib.hid (show Calls Tryz.prog 78 _ w1 (RetEd w0 w1 base B G.xs R T) from by rw [(H7.out rfl (.inl o7)).1, (H7.out rfl (.inl o7)).2]; exact HCE.out w1 HF1.out)
     rw [o7] at d0 HAL
     clear HC1 HC6 HCE HCN H1 H6 H7 HN HOK HN0
     go_wp2_with fail
     go_at_call 78; refine HAL.out.mono ?_; intro e2 w2 hr
     obtain ⟨rfl, hr2⟩ := hr
     have HZ := Lib.hid (HQ.out _ _ ⟨rfl, hr2⟩)
     clear hr2
     go_wp2
     go_ret
     exact HZ.out
    ·by_cases o8 : c.op = 8
     ·have HAL := Lib.hid (show Calls Tryz.prog 78 _ w1 (RetEd w0 w1 base B G.xs R T) from by rw [(H7.out rfl (.inr o8)).1, (H7.out rfl (.inr o8)).2]; exact HCE.out w1 HF1.out)
      rw [o8] at d0 HAL
      clear HC1 HC6 HCE HCN H1 H6 H7 HN HOK HN0
      go_wp2_with fail
      go_at_call 78; refine HAL.out.mono ?_; intro e2 w2 hr
      obtain ⟨rfl, hr2⟩ := hr
      have HZ := Lib.hid (HQ.out _ _ ⟨rfl, hr2⟩)
      clear hr2
      go_wp2
      go_ret
      exact HZ.out
     ·have HAL := Lib.hid (show Calls Tryz.prog 79 _ w1 (RetEd w0 w1 base B G.xs R T) from by rw [(HN.out rfl o1 o6 o7 o8).1, (HN.out rfl o1 o6 o7 o8).2]; exact HCN.out w1 HF1.out)
      have p1 : (c.op == 1) = false := by rw [beq_eq_false_iff_ne]; exact o1
      have p6 : (c.op == 6) = false := by rw [beq_eq_false_iff_ne]; exact o6
      have p7 : (c.op == 7) = false := by rw [beq_eq_false_iff_ne]; exact o7
      have p8 : (c.op == 8) = false := by rw [beq_eq_false_iff_ne]; exact o8
      clear HC1 HC6 HCE HCN H1 H6 H7 HN HOK HN0
      go_wp2_with fail
      go_at_call 79; refine HAL.out.mono ?_; intro e2 w2 hr
      obtain ⟨rfl, hr2⟩ := hr
      have HZ := Lib.hid (HQ.out _ _ ⟨rfl, hr2⟩)
      clear hr2
      go_wp2
      go_ret
      exact HZ.out
 ·have HE := Lib.hid (HN0.out g)
  have HNZ := Lib.hid g
  have hq0 : (q != 0) = true := by rw [bne_iff_ne]; exact g
  go_wp2
  go_ret
  exact ⟨ret_int HE.out.symm, below_of HF1.out HB.out, HF1.out.size, fun e => absurd (HE.out.symm.trans e) HNZ.out⟩
end Go.Proofs.YtpamdlkagmlahaaGreatDoor

namespace Go.Proofs.YtpamdlkagmlahaaGreatDoor
open Go.RowKit
end Go.Proofs.YtpamdlkagmlahaaGreatDoor
namespace Go.Proofs.YtpamdlkagmlahaaGreatDoor
open Go.RowKit
theorem bkw2 (w : World) (o : Obj) (cs : Array Value) (t : TypeId) : Bk ((w.alloc o).alloc (.cells cs t)) (w.heap.size + 1) cs t := by
 have k := Bk.new (w.alloc o) cs t
 rwa [show (w.alloc o).heap.size = w.heap.size + 1 by simp] at k
end Go.Proofs.YtpamdlkagmlahaaGreatDoor

namespace Go.Proofs.YtpamdlkagmlahaaGreatDoor
open Go.RowKit
end Go.Proofs.YtpamdlkagmlahaaGreatDoor
namespace Go.Proofs.YtpamdlkagmlahaaGreatDoor
open Go.RowKit
theorem samP_self (p : Pp) : samP p p = true := by unfold samP; rw [ord_self]; simp
theorem samN_self (n : Nd) : samN n n = true := by
 unfold samN
 rw [al2_self _ _ (fun x _ => by simp), al2_self _ _ (fun x _ => samP_self x)]; simp
theorem samE_self (e : Ed) : samE e e = true := by
 unfold samE
 rw [al2_self _ _ (fun x _ => samP_self x)]; simp
theorem samG_self (g : Gr) : samG g g = true := by
 unfold samG
 rw [al2_self _ _ (fun x _ => samN_self x), al2_self _ _ (fun x _ => samE_self x)]; simp
end Go.Proofs.YtpamdlkagmlahaaGreatDoor
