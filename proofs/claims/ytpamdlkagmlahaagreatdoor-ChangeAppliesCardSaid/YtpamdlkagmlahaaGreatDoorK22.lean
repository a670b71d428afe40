/-
  GrX; GrXB; GrY; ChX; CiD; CiE: texts of one kind in one file; each part says what it holds.
-/
import Derived.Test.YtpamdlkagmlahaaGreatDoorK18
import Derived.Test.YtpamdlkagmlahaaGreatDoorK21
import Derived.Deep.RegionWith

namespace Go.Proofs.YtpamdlkagmlahaaGreatDoor
open Go.RowKit
def nilN : Nd := ⟨0, [], []⟩
def nilE : Ed := ⟨0, 0, 0, [], []⟩
def NdIn (w : World) (n : Nd) (al ap : Option Addr) (cl cp : Nat) : Prop := I64 n.id ∧ SlS w al n.ls cl ∧ SlP w ap n.ps cp
def EdIn (w : World) (e : Ed) (ap : Option Addr) (cp : Nat) : Prop := I64 e.id ∧ I64 e.fr ∧ I64 e.to ∧ e.ty.length ≤ maxLen ∧ SlP w ap e.ps cp
theorem NdIn.on {w w' : World} {n : Nd} {al ap : Option Addr} {cl cp : Nat} (h : NdIn w n al ap cl cp) (hf : Fuw w w') : NdIn w' n al ap cl cp := ⟨h.1, slS_on hf h.2.1, slP_on hf h.2.2⟩
theorem EdIn.on {w w' : World} {e : Ed} {ap : Option Addr} {cp : Nat} (h : EdIn w e ap cp) (hf : Fuw w w') : EdIn w' e ap cp := ⟨h.1, h.2.1, h.2.2.1, h.2.2.2.1, slP_on hf h.2.2.2.2⟩
theorem i0 : I64 0 := ⟨by decide, by decide⟩
theorem nilN_in (w : World) : NdIn w nilN none none 0 0 := ⟨i0, Sl.empty _, Sl.empty _⟩
theorem nilE_in (w : World) : EdIn w nilE none 0 := ⟨i0, i0, i0, Nat.zero_le _, Sl.empty _⟩
def RetN (w : World) (V : Option Nd) (x : Ending) (w' : World) : Prop := ∃ al ap cl cp, x = .returned (.tuple #[ndv (V.getD nilN) al ap cl cp, .bool V.isSome]) ∧ NdIn w' (V.getD nilN) al ap cl cp ∧ Fuw w w'
def RetE (w : World) (V : Option Ed) (x : Ending) (w' : World) : Prop := ∃ ap cp, x = .returned (.tuple #[edv (V.getD nilE) ap cp, .bool V.isSome]) ∧ EdIn w' (V.getD nilE) ap cp ∧ Fuw w w'
theorem load_nd (w : World) (b : Nat) (x : Int) (al ap : Option Addr) (nl np cl cp : Nat) (h0 : w.cell? ⟨b, 0, none⟩ = some (.int .i64 x)) (h1 : w.cell? ⟨b, 1, none⟩ = some (.slice al nl cl)) (h2 : w.cell? ⟨b, 2, none⟩ = some (.slice ap np cp)) :
  (loadVar 51 ⟨b, 0, none⟩).run Tryz.prog w = .ok (.agg #[.int .i64 x, .slice al nl cl, .slice ap np cp]) w := by
 go_simp
theorem load_ed (w : World) (b : Nat) (x y z : Int) (s : ByteArray) (ap : Option Addr) (np cp : Nat) (h0 : w.cell? ⟨b, 0, none⟩ = some (.int .i64 x)) (h1 : w.cell? ⟨b, 1, none⟩ = some (.int .i64 y)) (h2 : w.cell? ⟨b, 2, none⟩ = some (.int .i64 z)) (h3 : w.cell? ⟨b, 3, none⟩ = some (.string s)) (h4 : w.cell? ⟨b, 4, none⟩ = some (.slice ap np cp)) :
  (loadVar 53 ⟨b, 0, none⟩).run Tryz.prog w = .ok (.agg #[.int .i64 x, .int .i64 y, .int .i64 z, .string s, .slice ap np cp]) w := by
 go_simp
theorem n_ret {fn : Func} {p u : Tmp} (hres : fn.results = #[.cell p 51, .tmp u]) {tmps : Array Value} {B : Nat} {x : Int} {al ap : Option Addr} {nl np cl cp : Nat} {c : Bool} {w : World} {t : TypeId} {Q : Ending → World → Prop}
  (hp : tmps.getD p undef = .pointer (some ⟨B, 0, none⟩)) (hu : tmps.getD u undef = .bool c) (h : Bk w B #[.int .i64 x, .slice al nl cl, .slice ap np cp] t)
  (hQ : Q (.returned (.tuple #[.agg #[.int .i64 x, .slice al nl cl, .slice ap np cp], .bool c])) w) : bodyPost Tryz.prog fn Q Exit.ret { tmps := tmps, defers := [] } w := by
 refine bodyPost_ret (v := .tuple #[.agg #[.int .i64 x, .slice al nl cl, .slice ap np cp], .bool c]) ?_ rfl hQ
 rw [results_cell_tmp hres, hp, hu]
 have e : (asAddr (.pointer (some ⟨B, 0, none⟩))).run Tryz.prog w = .ok ⟨B, 0, none⟩ w := by go_simp
 rw [e]
 simp only [Result.andThen]
 rw [load_nd w B x al ap nl np cl cp (h.c 0) (h.c 1) (h.c 2)]
theorem e_ret {fn : Func} {p u : Tmp} (hres : fn.results = #[.cell p 53, .tmp u]) {tmps : Array Value} {B : Nat} {x y z : Int} {s : ByteArray} {ap : Option Addr} {np cp : Nat} {c : Bool} {w : World} {t : TypeId} {Q : Ending → World → Prop}
  (hp : tmps.getD p undef = .pointer (some ⟨B, 0, none⟩)) (hu : tmps.getD u undef = .bool c) (h : Bk w B #[.int .i64 x, .int .i64 y, .int .i64 z, .string s, .slice ap np cp] t)
  (hQ : Q (.returned (.tuple #[.agg #[.int .i64 x, .int .i64 y, .int .i64 z, .string s, .slice ap np cp], .bool c])) w) : bodyPost Tryz.prog fn Q Exit.ret { tmps := tmps, defers := [] } w := by
 refine bodyPost_ret (v := .tuple #[.agg #[.int .i64 x, .int .i64 y, .int .i64 z, .string s, .slice ap np cp], .bool c]) ?_ rfl hQ
 rw [results_cell_tmp hres, hp, hu]
 have e : (asAddr (.pointer (some ⟨B, 0, none⟩))).run Tryz.prog w = .ok ⟨B, 0, none⟩ w := by go_simp
 rw [e]
 simp only [Result.andThen]
 rw [load_ed w B x y z s ap np cp (h.c 0) (h.c 1) (h.c 2) (h.c 3) (h.c 4)]
theorem nod_drop (l : List Nd) (x : Int) (i : Nat) (h : i < l.length) : nodV (l.drop i) x = if l[i].id = x then some l[i] else nodV (l.drop (i + 1)) x := by
 unfold nodV
 rw [List.drop_eq_getElem_cons h, List.find?_cons]
 by_cases e : l[i].id = x
 ·simp [e]
 ·rw [if_neg e, beq_eq_false_iff_ne.2 e]
theorem edg_drop (l : List Ed) (x : Int) (i : Nat) (h : i < l.length) : edgV (l.drop i) x = if l[i].id = x then some l[i] else edgV (l.drop (i + 1)) x := by
 unfold edgV
 rw [List.drop_eq_getElem_cons h, List.find?_cons]
 by_cases e : l[i].id = x
 ·simp [e]
 ·rw [if_neg e, beq_eq_false_iff_ne.2 e]
theorem nod_end (l : List Nd) (x : Int) (i : Nat) (h : l.length ≤ i) : nodV (l.drop i) x = none := by rw [List.drop_of_length_le h]; rfl
theorem edg_end (l : List Ed) (x : Int) (i : Nat) (h : l.length ≤ i) : edgV (l.drop i) x = none := by rw [List.drop_of_length_le h]; rfl
theorem bk_put3 {w : World} {B : Nat} {a0 a1 a2 : Value} {t : TypeId} (h : Bk w B #[a0, a1, a2] t) (b0 b1 b2 : Value) : Bk (((w.setCell ⟨B, 0, none⟩ b0).setCell ⟨B, 1, none⟩ b1).setCell ⟨B, 2, none⟩ b2) B #[b0, b1, b2] t :=
 ((h.set_ 0 b0).set_ 1 b1).set_ 2 b2
theorem bk_put5 {w : World} {B : Nat} {a0 a1 a2 a3 a4 : Value} {t : TypeId} (h : Bk w B #[a0, a1, a2, a3, a4] t) (b0 b1 b2 b3 b4 : Value) : Bk (((((w.setCell ⟨B, 0, none⟩ b0).setCell ⟨B, 1, none⟩ b1).setCell ⟨B, 2, none⟩ b2).setCell ⟨B, 3, none⟩ b3).setCell ⟨B, 4, none⟩ b4) B #[b0, b1, b2, b3, b4] t :=
 ((((h.set_ 0 b0).set_ 1 b1).set_ 2 b2).set_ 3 b3).set_ 4 b4
theorem fuw_put3 {w W : World} {B : Nat} (hf : Fuw w W) (hB : w.heap.size ≤ B) (b0 b1 b2 : Value) : Fuw w (((W.setCell ⟨B, 0, none⟩ b0).setCell ⟨B, 1, none⟩ b1).setCell ⟨B, 2, none⟩ b2) := fuwS (fuwS (fuwS hf hB) hB) hB
theorem fuw_put5 {w W : World} {B : Nat} (hf : Fuw w W) (hB : w.heap.size ≤ B) (b0 b1 b2 b3 b4 : Value) : Fuw w (((((W.setCell ⟨B, 0, none⟩ b0).setCell ⟨B, 1, none⟩ b1).setCell ⟨B, 2, none⟩ b2).setCell ⟨B, 3, none⟩ b3).setCell ⟨B, 4, none⟩ b4) := fuwS (fuwS (fuwS (fuwS (fuwS hf hB) hB) hB) hB) hB
set_option maxHeartbeats 3200000 in
set_option maxRecDepth 100000 in
theorem lnode_any (g : Gr) (an ae : Option Addr) (cn ce : Nat) (id : Int) (w : World) (hg : GIn w g an ae cn ce) :
  Calls Tryz.prog 72 #[grv g an ae cn ce, .int .i64 id] w (RetN w (nodV g.ns id)) := by
 have hb0 := (GB.new w g an ae cn ce).on (fuwA _ (.cells #[.int .i64 0, .slice none 0 0, .slice none 0 0] 51))
 have p0 := bk2 w (.cells #[.slice an g.ns.length cn, .slice ae g.es.length ce, .int .i64 g.nn, .int .i64 g.ne] 25) #[.int .i64 0, .slice none 0 0, .slice none 0 0] 51
 have f0 := (fuwA w (.cells #[.slice an g.ns.length cn, .slice ae g.es.length ce, .int .i64 g.nn, .int .i64 g.ne] 25)).trans (fuwA _ (.cells #[.int .i64 0, .slice none 0 0, .slice none 0 0] 51))
 have l1 := hg.n.len
 obtain ⟨R, hR⟩ : ∃ R, R = nodV g.ns id := ⟨_, rfl⟩
 rw [← hR]
 have HR := Lib.hid (show R = nodV (g.ns.drop 0) id from hR)
 clear hR
 unfold grv
 obtain ⟨w0, hw0⟩ : ∃ w0, w0 = (w.alloc (.cells #[.slice an g.ns.length cn, .slice ae g.es.length ce, .int .i64 g.nn, .int .i64 g.ne] 25)).alloc (.cells #[.int .i64 0, .slice none 0 0, .slice none 0 0] 51) := ⟨_, rfl⟩
 rw [← hw0] at f0 hb0 p0
 have HW0 := Lib.hid hw0
 have F0 := Lib.hid f0
 have HG := Lib.hid hb0
 have HB := Lib.hid p0
 have HN := Lib.hid hg.n
 clear hw0 f0 hb0 p0 hg
 go_enter Tryz.func72, Tryz.ntmps72
 go_upto_region 1 with fail
 rw [← HW0.out]
 have q0 := HG.out.c0; have q1 := HG.out.c1; have q2 := HG.out.c2; have q3 := HG.out.c3
 go_wp2
 clear q0 q1 q2 q3
 go_loopw [11] (fun iv wr => ∃ i : Nat, iv = .int .i64 i ∧ i ≤ g.ns.length ∧ Hid (R = nodV (g.ns.drop i) id) ∧ Hid (Fuw w0 wr)) (fun iv _ => g.ns.length - (RowKit.intOf iv).toNat)
 case atStart => exact ⟨0, rfl, Nat.zero_le _, HR, Fuw.refl _⟩
 case round =>
  obtain ⟨i, rfl, hi, HQ, hf⟩ := hrel
  clear HR
  have q0 := (HG.out.on hf.out).c0; have q1 := (HG.out.on hf.out).c1
  by_cases hlt : i < g.ns.length
  ·obtain ⟨b, o, rfl, i1, c0, ⟨al, cl, c1, hsl⟩, ap, cp, c2, hsp⟩ := HN.out.get hlt
   replace c0 := cellOnw (F0.out.trans hf.out) c0
   replace c1 := cellOnw (F0.out.trans hf.out) c1
   replace c2 := cellOnw (F0.out.trans hf.out) c2
   have HI := Lib.hid (HQ.out.trans (nod_drop g.ns id i hlt))
   generalize g.ns[i] = x at *
   have HX := Lib.hid (show NdIn w x al ap cl cp from ⟨i1, hsl, hsp⟩)
   clear hsl hsp i1
   by_cases he : x.id = id
   ·have HZ := Lib.hid (show R = some x by rw [HI.out, if_pos he])
    have he1 : (x.id == id) = true := by simp [he]
    have HE := Lib.hid he
    clear he
    go_upto_region 5 with fail
    obtain ⟨W, hW⟩ : ∃ W, W = wr.alloc (.cells #[.int .i64 x.id, .slice al x.ls.length cl, .slice ap x.ps.length cp] 51) := ⟨_, rfl⟩
    have hfW : Fuw wr W := by rw [hW]; exact fuwA _ _
    have hBn : Bk W wr.heap.size #[.int .i64 x.id, .slice al x.ls.length cl, .slice ap x.ps.length cp] 51 := by rw [hW]; exact Bk.new _ _ _
    rw [← hW]
    clear hW q0 q1 c0 c1 c2
    have c0 := hBn.c 0
    have c1 := hBn.c 1
    have c2 := hBn.c 2
    have z0 := (HB.out.on (hf.out.trans hfW)).c 0
    have y0 := (HB.out.on (hf.out.trans hfW)).f 0
    have z1 := (HB.out.on (hf.out.trans hfW)).c 1
    have y1 := (HB.out.on (hf.out.trans hfW)).f 1
    have z2 := (HB.out.on (hf.out.trans hfW)).c 2
    have y2 := (HB.out.on (hf.out.trans hfW)).f 2
    have HF := Lib.hid hfW
    clear hfW hBn
    go_wp2
    refine n_ret rfl rfl rfl (bk_put3 (HB.out.on (hf.out.trans HF.out)) _ _ _) ?_
    rw [HZ.out]
    exact ⟨al, ap, cl, cp, rfl, HX.out.on (fuw_put3 (F0.out.trans (hf.out.trans HF.out)) (show w.heap.size ≤ w.heap.size + 1 by omega) _ _ _), fuw_put3 (F0.out.trans (hf.out.trans HF.out)) (show w.heap.size ≤ w.heap.size + 1 by omega) _ _ _⟩
   ·have HZ := Lib.hid (show R = nodV (g.ns.drop (i + 1)) id by rw [HI.out, if_neg he])
    have he1 : (x.id == id) = false := beq_eq_false_iff_ne.2 he
    go_wp2
    go_roundw
    case rel => exact ⟨i + 1, by go_num, by omega, HZ, hf.out.trans (fuwA _ _)⟩
    case measure => simp [RowKit.intOf]; omega
  ·have HZ := Lib.hid (show R = none by rw [HQ.out, nod_end _ _ _ (by omega)])
   have z0 := (HB.out.on hf.out).c 0
   have y0 := (HB.out.on hf.out).f 0
   have z1 := (HB.out.on hf.out).c 1
   have y1 := (HB.out.on hf.out).f 1
   have z2 := (HB.out.on hf.out).c 2
   have y2 := (HB.out.on hf.out).f 2
   go_wp2
   refine n_ret rfl rfl rfl (bk_put3 (HB.out.on hf.out) _ _ _) ?_
   rw [HZ.out]
   exact ⟨none, none, 0, 0, rfl, nilN_in _, fuw_put3 (F0.out.trans hf.out) (show w.heap.size ≤ w.heap.size + 1 by omega) _ _ _⟩
set_option maxHeartbeats 3200000 in
set_option maxRecDepth 100000 in
theorem rnode_any (g : Gr) (an ae : Option Addr) (cn ce : Nat) (id : Int) (w : World) (hg : GIn w g an ae cn ce) :
  Calls Tryz.prog 50 #[grv g an ae cn ce, .int .i64 id] w (RetN w (nodV g.ns id)) := by
 have hb0 := (GB.new w g an ae cn ce).on (fuwA _ (.cells #[.int .i64 0, .slice none 0 0, .slice none 0 0] 51))
 have p0 := bk2 w (.cells #[.slice an g.ns.length cn, .slice ae g.es.length ce, .int .i64 g.nn, .int .i64 g.ne] 25) #[.int .i64 0, .slice none 0 0, .slice none 0 0] 51
 have f0 := (fuwA w (.cells #[.slice an g.ns.length cn, .slice ae g.es.length ce, .int .i64 g.nn, .int .i64 g.ne] 25)).trans (fuwA _ (.cells #[.int .i64 0, .slice none 0 0, .slice none 0 0] 51))
 have l1 := hg.n.len
 obtain ⟨R, hR⟩ : ∃ R, R = nodV g.ns id := ⟨_, rfl⟩
 rw [← hR]
 have HR := Lib.hid (show R = nodV (g.ns.drop 0) id from hR)
 clear hR
 unfold grv
 obtain ⟨w0, hw0⟩ : ∃ w0, w0 = (w.alloc (.cells #[.slice an g.ns.length cn, .slice ae g.es.length ce, .int .i64 g.nn, .int .i64 g.ne] 25)).alloc (.cells #[.int .i64 0, .slice none 0 0, .slice none 0 0] 51) := ⟨_, rfl⟩
 rw [← hw0] at f0 hb0 p0
 have HW0 := Lib.hid hw0
 have F0 := Lib.hid f0
 have HG := Lib.hid hb0
 have HB := Lib.hid p0
 have HN := Lib.hid hg.n
 clear hw0 f0 hb0 p0 hg
 go_enter Tryz.func50, Tryz.ntmps50
 go_upto_region 1 with fail
 rw [← HW0.out]
 have q0 := HG.out.c0; have q1 := HG.out.c1; have q2 := HG.out.c2; have q3 := HG.out.c3
 go_wp2
 clear q0 q1 q2 q3
 go_loopw [6] (fun iv wr => ∃ i : Nat, iv = .int .i64 i ∧ i ≤ g.ns.length ∧ Hid (R = nodV (g.ns.drop i) id) ∧ Hid (Fuw w0 wr)) (fun iv _ => g.ns.length - (RowKit.intOf iv).toNat)
 case atStart => exact ⟨0, rfl, Nat.zero_le _, HR, Fuw.refl _⟩
 case round =>
  obtain ⟨i, rfl, hi, HQ, hf⟩ := hrel
  clear HR
  have q0 := (HG.out.on hf.out).c0; have q1 := (HG.out.on hf.out).c1
  by_cases hlt : i < g.ns.length
  ·obtain ⟨b, o, rfl, i1, c0, ⟨al, cl, c1, hsl⟩, ap, cp, c2, hsp⟩ := HN.out.get hlt
   replace c0 := cellOnw (F0.out.trans hf.out) c0
   replace c1 := cellOnw (F0.out.trans hf.out) c1
   replace c2 := cellOnw (F0.out.trans hf.out) c2
   have HI := Lib.hid (HQ.out.trans (nod_drop g.ns id i hlt))
   generalize g.ns[i] = x at *
   have HX := Lib.hid (show NdIn w x al ap cl cp from ⟨i1, hsl, hsp⟩)
   clear hsl hsp i1
   by_cases he : x.id = id
   ·have HZ := Lib.hid (show R = some x by rw [HI.out, if_pos he])
    have he1 : (x.id == id) = true := by simp [he]
    have HE := Lib.hid he
    clear he
    have hfW : Fuw wr wr := Fuw.refl _
    have z0 := (HB.out.on (hf.out.trans hfW)).c 0
    have y0 := (HB.out.on (hf.out.trans hfW)).f 0
    have z1 := (HB.out.on (hf.out.trans hfW)).c 1
    have y1 := (HB.out.on (hf.out.trans hfW)).f 1
    have z2 := (HB.out.on (hf.out.trans hfW)).c 2
    have y2 := (HB.out.on (hf.out.trans hfW)).f 2
    have HF := Lib.hid hfW
    clear hfW
    go_wp2
    refine n_ret rfl rfl rfl (bk_put3 (HB.out.on (hf.out.trans HF.out)) _ _ _) ?_
    rw [HZ.out]
    exact ⟨al, ap, cl, cp, rfl, HX.out.on (fuw_put3 (F0.out.trans (hf.out.trans HF.out)) (show w.heap.size ≤ w.heap.size + 1 by omega) _ _ _), fuw_put3 (F0.out.trans (hf.out.trans HF.out)) (show w.heap.size ≤ w.heap.size + 1 by omega) _ _ _⟩
   ·have HZ := Lib.hid (show R = nodV (g.ns.drop (i + 1)) id by rw [HI.out, if_neg he])
    have he1 : (x.id == id) = false := beq_eq_false_iff_ne.2 he
    go_wp2
    go_roundw
    case rel => exact ⟨i + 1, by go_num, by omega, HZ, hf⟩
    case measure => simp [RowKit.intOf]; omega
  ·have HZ := Lib.hid (show R = none by rw [HQ.out, nod_end _ _ _ (by omega)])
   have z0 := (HB.out.on hf.out).c 0
   have y0 := (HB.out.on hf.out).f 0
   have z1 := (HB.out.on hf.out).c 1
   have y1 := (HB.out.on hf.out).f 1
   have z2 := (HB.out.on hf.out).c 2
   have y2 := (HB.out.on hf.out).f 2
   go_wp2
   refine n_ret rfl rfl rfl (bk_put3 (HB.out.on hf.out) _ _ _) ?_
   rw [HZ.out]
   exact ⟨none, none, 0, 0, rfl, nilN_in _, fuw_put3 (F0.out.trans hf.out) (show w.heap.size ≤ w.heap.size + 1 by omega) _ _ _⟩
end Go.Proofs.YtpamdlkagmlahaaGreatDoor

namespace Go.Proofs.YtpamdlkagmlahaaGreatDoor
open Go.RowKit
set_option maxHeartbeats 3200000 in
set_option maxRecDepth 100000 in
theorem redge_any (g : Gr) (an ae : Option Addr) (cn ce : Nat) (id : Int) (w : World) (hg : GIn w g an ae cn ce) :
  Calls Tryz.prog 51 #[grv g an ae cn ce, .int .i64 id] w (RetE w (edgV g.es id)) := by
 have hb0 := (GB.new w g an ae cn ce).on (fuwA _ (.cells #[.int .i64 0, .int .i64 0, .int .i64 0, .string ⟨#[]⟩, .slice none 0 0] 53))
 have p0 := bk2 w (.cells #[.slice an g.ns.length cn, .slice ae g.es.length ce, .int .i64 g.nn, .int .i64 g.ne] 25) #[.int .i64 0, .int .i64 0, .int .i64 0, .string ⟨#[]⟩, .slice none 0 0] 53
 have f0 := (fuwA w (.cells #[.slice an g.ns.length cn, .slice ae g.es.length ce, .int .i64 g.nn, .int .i64 g.ne] 25)).trans (fuwA _ (.cells #[.int .i64 0, .int .i64 0, .int .i64 0, .string ⟨#[]⟩, .slice none 0 0] 53))
 have l1 := hg.e.len
 obtain ⟨R, hR⟩ : ∃ R, R = edgV g.es id := ⟨_, rfl⟩
 rw [← hR]
 have HR := Lib.hid (show R = edgV (g.es.drop 0) id from hR)
 clear hR
 unfold grv
 obtain ⟨w0, hw0⟩ : ∃ w0, w0 = (w.alloc (.cells #[.slice an g.ns.length cn, .slice ae g.es.length ce, .int .i64 g.nn, .int .i64 g.ne] 25)).alloc (.cells #[.int .i64 0, .int .i64 0, .int .i64 0, .string ⟨#[]⟩, .slice none 0 0] 53) := ⟨_, rfl⟩
 rw [← hw0] at f0 hb0 p0
 have HW0 := Lib.hid hw0
 have F0 := Lib.hid f0
 have HG := Lib.hid hb0
 have HB := Lib.hid p0
 have HN := Lib.hid hg.e
 clear hw0 f0 hb0 p0 hg
 go_enter Tryz.func51, Tryz.ntmps51
 go_upto_region 1 with fail
 rw [← HW0.out]
 have q0 := HG.out.c0; have q1 := HG.out.c1; have q2 := HG.out.c2; have q3 := HG.out.c3
 go_wp2
 clear q0 q1 q2 q3
 go_loopw [6] (fun iv wr => ∃ i : Nat, iv = .int .i64 i ∧ i ≤ g.es.length ∧ Hid (R = edgV (g.es.drop i) id) ∧ Hid (Fuw w0 wr)) (fun iv _ => g.es.length - (RowKit.intOf iv).toNat)
 case atStart => exact ⟨0, rfl, Nat.zero_le _, HR, Fuw.refl _⟩
 case round =>
  obtain ⟨i, rfl, hi, HQ, hf⟩ := hrel
  clear HR
  have q0 := (HG.out.on hf.out).c0; have q1 := (HG.out.on hf.out).c1
  by_cases hlt : i < g.es.length
  ·obtain ⟨b, o, rfl, i1, i2, i3, hz, c0, c1, c2, c3, ap, cp, c4, hsp⟩ := HN.out.get hlt
   replace c0 := cellOnw (F0.out.trans hf.out) c0
   replace c1 := cellOnw (F0.out.trans hf.out) c1
   replace c2 := cellOnw (F0.out.trans hf.out) c2
   replace c3 := cellOnw (F0.out.trans hf.out) c3
   replace c4 := cellOnw (F0.out.trans hf.out) c4
   have HI := Lib.hid (HQ.out.trans (edg_drop g.es id i hlt))
   generalize g.es[i] = x at *
   have HX := Lib.hid (show EdIn w x ap cp from ⟨i1, i2, i3, hz, hsp⟩)
   clear hsp i1 i2 i3 hz
   by_cases he : x.id = id
   ·have HZ := Lib.hid (show R = some x by rw [HI.out, if_pos he])
    have he1 : (x.id == id) = true := by simp [he]
    have HE := Lib.hid he
    clear he
    have hfW : Fuw wr wr := Fuw.refl _
    have z0 := (HB.out.on (hf.out.trans hfW)).c 0
    have y0 := (HB.out.on (hf.out.trans hfW)).f 0
    have z1 := (HB.out.on (hf.out.trans hfW)).c 1
    have y1 := (HB.out.on (hf.out.trans hfW)).f 1
    have z2 := (HB.out.on (hf.out.trans hfW)).c 2
    have y2 := (HB.out.on (hf.out.trans hfW)).f 2
    have z3 := (HB.out.on (hf.out.trans hfW)).c 3
    have y3 := (HB.out.on (hf.out.trans hfW)).f 3
    have z4 := (HB.out.on (hf.out.trans hfW)).c 4
    have y4 := (HB.out.on (hf.out.trans hfW)).f 4
    have HF := Lib.hid hfW
    clear hfW
    go_wp2
    refine e_ret rfl rfl rfl (bk_put5 (HB.out.on (hf.out.trans HF.out)) _ _ _ _ _) ?_
    rw [HZ.out]
    exact ⟨ap, cp, rfl, HX.out.on (fuw_put5 (F0.out.trans (hf.out.trans HF.out)) (show w.heap.size ≤ w.heap.size + 1 by omega) _ _ _ _ _), fuw_put5 (F0.out.trans (hf.out.trans HF.out)) (show w.heap.size ≤ w.heap.size + 1 by omega) _ _ _ _ _⟩
   ·have HZ := Lib.hid (show R = edgV (g.es.drop (i + 1)) id by rw [HI.out, if_neg he])
    have he1 : (x.id == id) = false := beq_eq_false_iff_ne.2 he
    go_wp2
    go_roundw
    case rel => exact ⟨i + 1, by go_num, by omega, HZ, hf⟩
    case measure => simp [RowKit.intOf]; omega
  ·have HZ := Lib.hid (show R = none by rw [HQ.out, edg_end _ _ _ (by omega)])
   have z0 := (HB.out.on hf.out).c 0
   have y0 := (HB.out.on hf.out).f 0
   have z1 := (HB.out.on hf.out).c 1
   have y1 := (HB.out.on hf.out).f 1
   have z2 := (HB.out.on hf.out).c 2
   have y2 := (HB.out.on hf.out).f 2
   have z3 := (HB.out.on hf.out).c 3
   have y3 := (HB.out.on hf.out).f 3
   have z4 := (HB.out.on hf.out).c 4
   have y4 := (HB.out.on hf.out).f 4
   go_wp2
   refine e_ret rfl rfl rfl (bk_put5 (HB.out.on hf.out) _ _ _ _ _) ?_
   rw [HZ.out]
   exact ⟨none, 0, rfl, nilE_in _, fuw_put5 (F0.out.trans hf.out) (show w.heap.size ≤ w.heap.size + 1 by omega) _ _ _ _ _⟩
end Go.Proofs.YtpamdlkagmlahaaGreatDoor

namespace Go.Proofs.YtpamdlkagmlahaaGreatDoor
open Go.RowKit
theorem gload_vl (w : World) (b : Nat) (k n d : Int) (s : ByteArray) (ao : Option Addr) (len cap : Nat) (h0 : w.cell? ⟨b, 0, none⟩ = some (.int .i64 k)) (h1 : w.cell? ⟨b, 1, none⟩ = some (.int .i64 n)) (h2 : w.cell? ⟨b, 2, none⟩ = some (.int .i64 d)) (h3 : w.cell? ⟨b, 3, none⟩ = some (.string s)) (h4 : w.cell? ⟨b, 4, none⟩ = some (.slice ao len cap)) :
  (loadVar 28 ⟨b, 0, none⟩).run Tryz.prog w = .ok (.agg #[.int .i64 k, .int .i64 n, .int .i64 d, .string s, .slice ao len cap]) w := by
 go_simp
theorem gv_ret {fn : Func} {p : Tmp} (hres : fn.results = #[.cell p 28]) {tmps : Array Value} {B : Nat} {k n d : Int} {s : ByteArray} {ao : Option Addr} {len cap : Nat} {w : World} {t : TypeId} {Q : Ending → World → Prop}
  (hp : tmps.getD p undef = .pointer (some ⟨B, 0, none⟩)) (h : Bk w B #[.int .i64 k, .int .i64 n, .int .i64 d, .string s, .slice ao len cap] t)
  (hQ : Q (.returned (.agg #[.int .i64 k, .int .i64 n, .int .i64 d, .string s, .slice ao len cap])) w) : bodyPost Tryz.prog fn Q Exit.ret { tmps := tmps, defers := [] } w := by
 refine bodyPost_ret (v := .agg #[.int .i64 k, .int .i64 n, .int .i64 d, .string s, .slice ao len cap]) ?_ rfl hQ
 have e : (asAddr (.pointer (some ⟨B, 0, none⟩))).run Tryz.prog w = .ok ⟨B, 0, none⟩ w := by go_simp
 rw [results_cell hres, hp, e]
 simp only [Result.andThen]
 exact gload_vl w B k n d s ao len cap (h.c 0) (h.c 1) (h.c 2) (h.c 3) (h.c 4)
theorem gnull_any (w : World) : Calls Tryz.prog 60 #[] w (fun e w' => e = .returned (.agg #[.int .i64 0, .int .i64 0, .int .i64 0, .string ⟨#[]⟩, .slice none 0 0]) ∧ Fuw w w') := by
 go_enter Tryz.func60, Tryz.ntmps60
 go_wp2
 exact gv_ret rfl rfl (Bk.new _ _ _) ⟨rfl, fuwA _ _⟩
theorem rhasl_any (n : Nd) (al ap : Option Addr) (cl cp : Nat) (s : List UInt8) (w : World) (hs : SlS w al n.ls cl) :
  Calls Tryz.prog 92 #[ndv n al ap cl cp, .string (bs s)] w (FwB w (hasS n.ls s)) := by
 have hl := hs.len
 have HC := Lib.hid (fun w' (hf : Fuw w w') => rhass_any n.ls al cl s w' (slS_on hf hs))
 clear hs
 unfold ndv
 generalize hasS n.ls s = r at *
 go_enter Tryz.func92, Tryz.ntmps92
 go_wp2_with (go_at_call 130; refine (HC.out _ (fuwA _ _)).mono ?_; rintro e1 w1 ⟨rfl, rfl⟩)
 go_ret
 exact ⟨rfl, fuwA _ _⟩
end Go.Proofs.YtpamdlkagmlahaaGreatDoor

namespace Go.Proofs.YtpamdlkagmlahaaGreatDoor
open Go.RowKit
theorem nulV_in : Vin nulV := ⟨by unfold I64 nulV; decide, by unfold I64 nulV; decide, by unfold I64 nulV; decide, Nat.zero_le _⟩
theorem nulV_sl (w : World) : SlV w none nulV.ll 0 := ⟨Nat.le_refl _, Nat.zero_le _, fun _ => rfl, fun h => absurd h (Nat.lt_irrefl 0)⟩
set_option maxHeartbeats 1600000 in
set_option maxRecDepth 100000 in
theorem isnull_any (x : Vl) (ao : Option Addr) (ca : Nat) (w : World) (hi : Vin x) (hs : SlV w ao x.ll ca) :
  Calls Tryz.prog 26 #[vlv x ao ca] w (FwB w (isN x)) := by
 obtain ⟨W, hW⟩ : ∃ W, W = w.alloc (.cells #[.int .i64 x.kd, .int .i64 x.nn, .int .i64 x.dd, .string (bs x.ss), .slice ao x.ll.length ca] 28) := ⟨_, rfl⟩
 have fW : Fuw w W := by rw [hW]; exact fuwA _ _
 have bW : Bk W w.heap.size #[.int .i64 x.kd, .int .i64 x.nn, .int .i64 x.dd, .string (bs x.ss), .slice ao x.ll.length ca] 28 := by rw [hW]; exact Bk.new _ _ _
 have HO := Lib.hid (fun (w' : World) (hf : Fuw W w') => show Calls Tryz.prog 59 #[.agg #[.int .i64 x.kd, .int .i64 x.nn, .int .i64 x.dd, .string (bs x.ss), .slice ao x.ll.length ca], .agg #[.int .i64 0, .int .i64 0, .int .i64 0, .string ⟨#[]⟩, .slice none 0 0]] w' (RetI w' (ordV x nulV)) from
  lo_all x nulV ao none ca 0 w' hi nulV_in (hs.onw (fW.trans hf)) (nulV_sl _))
 have HN := Lib.hid gnull_any
 have HBW := Lib.hid bW
 have HFW := Lib.hid fW
 have c0 := bW.c 0; have c1 := bW.c 1; have c2 := bW.c 2; have c3 := bW.c 3; have c4 := bW.c 4
 unfold isN
 generalize ordV x nulV = R at *
 unfold vlv
 clear bW fW hi hs
 go_enter Tryz.func26, Tryz.ntmps26
 go_upto_region 1 with fail
 rw [← hW]
 clear hW
 go_region_with (first
  | (go_at_call 60; refine (HN.out _).mono ?_; rintro e1 w1 ⟨rfl, f1⟩; have HF1 := Lib.hid ((Fuw.drew (Fuw.refl W)).trans f1); clear f1; have b1 := HBW.out.on HF1.out; have d0 := b1.c 0; have d1 := b1.c 1; have d2 := b1.c 2; have d3 := b1.c 3; have d4 := b1.c 4; clear b1)
  | (go_at_call 59; refine (HO.out _ HF1.out).mono ?_; rintro e2 w2 ⟨rfl, f2⟩; have HF2 := Lib.hid f2.b; clear f2))
 all_goals
  go_wp2
  go_ret
  exact ⟨ret_bool rfl, HFW.out.trans (HF1.out.trans HF2.out)⟩
end Go.Proofs.YtpamdlkagmlahaaGreatDoor

namespace Go.Proofs.YtpamdlkagmlahaaGreatDoor
open Go.RowKit
def wrdC (op : Int) : List UInt8 :=
 if op = 1 then [43, 110, 111, 100, 101] else if op = 2 then [45, 110, 111, 100, 101] else if op = 3 then [43, 108, 97, 98, 101, 108] else if op = 4 then [45, 108, 97, 98, 101, 108]
 else if op = 5 then [115, 101, 116] else if op = 6 then [43, 101, 100, 103, 101] else if op = 7 then [45, 101, 100, 103, 101] else if op = 8 then [101, 115, 101, 116] else []
def shpC (op : Int) : Array Value := #[.string (bs (wrdC op)), .bool (decide (op = 6)), .bool (nmd op), .bool (vld op)]
theorem load_sh (w : World) (b : Nat) (s : ByteArray) (x y z : Bool) (h0 : w.cell? ⟨b, 0, none⟩ = some (.string s)) (h1 : w.cell? ⟨b, 1, none⟩ = some (.bool x)) (h2 : w.cell? ⟨b, 2, none⟩ = some (.bool y)) (h3 : w.cell? ⟨b, 3, none⟩ = some (.bool z)) :
  (loadVar 59 ⟨b, 0, none⟩).run Tryz.prog w = .ok (.agg #[.string s, .bool x, .bool y, .bool z]) w := by
 go_simp
theorem s_ret {fn : Func} {p u : Tmp} (hres : fn.results = #[.cell p 59, .tmp u]) {tmps : Array Value} {B : Nat} {s : ByteArray} {x y z c : Bool} {w : World} {t : TypeId} {Q : Ending → World → Prop}
  (hp : tmps.getD p undef = .pointer (some ⟨B, 0, none⟩)) (hu : tmps.getD u undef = .bool c) (h : Bk w B #[.string s, .bool x, .bool y, .bool z] t)
  (hQ : Q (.returned (.tuple #[.agg #[.string s, .bool x, .bool y, .bool z], .bool c])) w) : bodyPost Tryz.prog fn Q Exit.ret { tmps := tmps, defers := [] } w := by
 refine bodyPost_ret (v := .tuple #[.agg #[.string s, .bool x, .bool y, .bool z], .bool c]) ?_ rfl hQ
 rw [results_cell_tmp hres, hp, hu]
 have e : (asAddr (.pointer (some ⟨B, 0, none⟩))).run Tryz.prog w = .ok ⟨B, 0, none⟩ w := by go_simp
 rw [e]
 simp only [Result.andThen]
 rw [load_sh w B s x y z (h.c 0) (h.c 1) (h.c 2) (h.c 3)]
def RetSh (w : World) (op : Int) (e : Ending) (w' : World) : Prop := e = .returned (.tuple #[.agg (shpC op), .bool (opV op)]) ∧ Fuw w w'
theorem shp_1 : shpC 1 = #[.string ⟨#[43, 110, 111, 100, 101]⟩, .bool false, .bool false, .bool false] := by kernel_rfl
theorem opv_1 : opV 1 = true := by kernel_rfl
set_option maxHeartbeats 800000 in
theorem shape_1 (w : World) : Calls Tryz.prog 22 #[.int .i64 1] w (RetSh w 1) := by
 unfold RetSh
 rw [shp_1, opv_1]
 go_enter Tryz.func22, Tryz.ntmps22
 go_wp2
 exact s_ret rfl rfl rfl (Bk.new _ _ _) ⟨rfl, fuwA _ _⟩
theorem shp_2 : shpC 2 = #[.string ⟨#[45, 110, 111, 100, 101]⟩, .bool false, .bool false, .bool false] := by kernel_rfl
theorem opv_2 : opV 2 = true := by kernel_rfl
set_option maxHeartbeats 800000 in
theorem shape_2 (w : World) : Calls Tryz.prog 22 #[.int .i64 2] w (RetSh w 2) := by
 unfold RetSh
 rw [shp_2, opv_2]
 go_enter Tryz.func22, Tryz.ntmps22
 go_wp2
 exact s_ret rfl rfl rfl (Bk.new _ _ _) ⟨rfl, fuwA _ _⟩
theorem shp_3 : shpC 3 = #[.string ⟨#[43, 108, 97, 98, 101, 108]⟩, .bool false, .bool true, .bool false] := by kernel_rfl
theorem opv_3 : opV 3 = true := by kernel_rfl
set_option maxHeartbeats 800000 in
theorem shape_3 (w : World) : Calls Tryz.prog 22 #[.int .i64 3] w (RetSh w 3) := by
 unfold RetSh
 rw [shp_3, opv_3]
 go_enter Tryz.func22, Tryz.ntmps22
 go_wp2
 exact s_ret rfl rfl rfl (Bk.new _ _ _) ⟨rfl, fuwA _ _⟩
theorem shp_4 : shpC 4 = #[.string ⟨#[45, 108, 97, 98, 101, 108]⟩, .bool false, .bool true, .bool false] := by kernel_rfl
theorem opv_4 : opV 4 = true := by kernel_rfl
set_option maxHeartbeats 800000 in
theorem shape_4 (w : World) : Calls Tryz.prog 22 #[.int .i64 4] w (RetSh w 4) := by
 unfold RetSh
 rw [shp_4, opv_4]
 go_enter Tryz.func22, Tryz.ntmps22
 go_wp2
 exact s_ret rfl rfl rfl (Bk.new _ _ _) ⟨rfl, fuwA _ _⟩
theorem shp_5 : shpC 5 = #[.string ⟨#[115, 101, 116]⟩, .bool false, .bool true, .bool true] := by kernel_rfl
theorem opv_5 : opV 5 = true := by kernel_rfl
set_option maxHeartbeats 800000 in
theorem shape_5 (w : World) : Calls Tryz.prog 22 #[.int .i64 5] w (RetSh w 5) := by
 unfold RetSh
 rw [shp_5, opv_5]
 go_enter Tryz.func22, Tryz.ntmps22
 go_wp2
 exact s_ret rfl rfl rfl (Bk.new _ _ _) ⟨rfl, fuwA _ _⟩
theorem shp_6 : shpC 6 = #[.string ⟨#[43, 101, 100, 103, 101]⟩, .bool true, .bool true, .bool false] := by kernel_rfl
theorem opv_6 : opV 6 = true := by kernel_rfl
set_option maxHeartbeats 800000 in
theorem shape_6 (w : World) : Calls Tryz.prog 22 #[.int .i64 6] w (RetSh w 6) := by
 unfold RetSh
 rw [shp_6, opv_6]
 go_enter Tryz.func22, Tryz.ntmps22
 go_wp2
 exact s_ret rfl rfl rfl (Bk.new _ _ _) ⟨rfl, fuwA _ _⟩
theorem shp_7 : shpC 7 = #[.string ⟨#[45, 101, 100, 103, 101]⟩, .bool false, .bool false, .bool false] := by kernel_rfl
theorem opv_7 : opV 7 = true := by kernel_rfl
set_option maxHeartbeats 800000 in
theorem shape_7 (w : World) : Calls Tryz.prog 22 #[.int .i64 7] w (RetSh w 7) := by
 unfold RetSh
 rw [shp_7, opv_7]
 go_enter Tryz.func22, Tryz.ntmps22
 go_wp2
 exact s_ret rfl rfl rfl (Bk.new _ _ _) ⟨rfl, fuwA _ _⟩
theorem shp_8 : shpC 8 = #[.string ⟨#[101, 115, 101, 116]⟩, .bool false, .bool true, .bool true] := by kernel_rfl
theorem opv_8 : opV 8 = true := by kernel_rfl
set_option maxHeartbeats 800000 in
theorem shape_8 (w : World) : Calls Tryz.prog 22 #[.int .i64 8] w (RetSh w 8) := by
 unfold RetSh
 rw [shp_8, opv_8]
 go_enter Tryz.func22, Tryz.ntmps22
 go_wp2
 exact s_ret rfl rfl rfl (Bk.new _ _ _) ⟨rfl, fuwA _ _⟩
theorem shp_none {op : Int} (h : opV op = false) : shpC op = #[.string ⟨#[]⟩, .bool false, .bool false, .bool false] := by
 unfold opV at h
 have h' : ¬ (1 ≤ op ∧ op ≤ 8) := by simpa using h
 have e : ∀ k : Int, 1 ≤ k → k ≤ 8 → ¬ op = k := fun k h1 h2 e => h' (by omega)
 unfold shpC wrdC nmd vld
 rw [if_neg (e 1 (by decide) (by decide)), if_neg (e 2 (by decide) (by decide)), if_neg (e 3 (by decide) (by decide)), if_neg (e 4 (by decide) (by decide)), if_neg (e 5 (by decide) (by decide)), if_neg (e 6 (by decide) (by decide)), if_neg (e 7 (by decide) (by decide)), if_neg (e 8 (by decide) (by decide)),
  decide_eq_false (e 3 (by decide) (by decide)), decide_eq_false (e 4 (by decide) (by decide)), decide_eq_false (e 5 (by decide) (by decide)), decide_eq_false (e 6 (by decide) (by decide)), decide_eq_false (e 8 (by decide) (by decide))]
 rfl
set_option maxHeartbeats 800000 in
theorem shape_0 (op : Int) (w : World) (h : opV op = false) : Calls Tryz.prog 22 #[.int .i64 op] w (RetSh w op) := by
 unfold RetSh
 rw [shp_none h, h]
 unfold opV at h
 have h' : ¬ (1 ≤ op ∧ op ≤ 8) := by simpa using h
 have e : ∀ k : Int, 1 ≤ k → k ≤ 8 → (op == k) = false := fun k h1 h2 => by rw [beq_eq_false_iff_ne]; omega
 have e1 := e 1 (by decide) (by decide); have e2 := e 2 (by decide) (by decide); have e3 := e 3 (by decide) (by decide); have e4 := e 4 (by decide) (by decide)
 have e5 := e 5 (by decide) (by decide); have e6 := e 6 (by decide) (by decide); have e7 := e 7 (by decide) (by decide); have e8 := e 8 (by decide) (by decide)
 clear e h h'
 go_enter Tryz.func22, Tryz.ntmps22
 go_wp2
 exact s_ret rfl rfl rfl (Bk.new _ _ _) ⟨rfl, fuwA _ _⟩
theorem shape_any (op : Int) (w : World) : Calls Tryz.prog 22 #[.int .i64 op] w (RetSh w op) := by
 cases h : opV op with
 | false => exact shape_0 op w h
 | true =>
  unfold opV at h
  have h' : 1 ≤ op ∧ op ≤ 8 := by simpa using h
  have e : op = 1 ∨ op = 2 ∨ op = 3 ∨ op = 4 ∨ op = 5 ∨ op = 6 ∨ op = 7 ∨ op = 8 := by omega
  rcases e with rfl | rfl | rfl | rfl | rfl | rfl | rfl | rfl
  ·exact shape_1 w
  ·exact shape_2 w
  ·exact shape_3 w
  ·exact shape_4 w
  ·exact shape_5 w
  ·exact shape_6 w
  ·exact shape_7 w
  ·exact shape_8 w
theorem isid_any (x : Int) (w : World) : Calls Tryz.prog 56 #[.int .i64 x] w (PureB w (idV x)) := by
 unfold idV
 by_cases h1 : 1 ≤ x
 ·by_cases h2 : x ≤ 1000000
  ·rw [decide_eq_true h1, decide_eq_true h2]
   go_enter Tryz.func56, Tryz.ntmps56
   go_wp2
   go_ret
   exact ⟨rfl, rfl⟩
  ·rw [decide_eq_true h1, decide_eq_false h2]
   have h2' : 1000000 < x := by omega
   go_enter Tryz.func56, Tryz.ntmps56
   go_wp2
   go_ret
   exact ⟨rfl, rfl⟩
 ·rw [decide_eq_false h1]
  have h1' : x < 1 := by omega
  go_enter Tryz.func56, Tryz.ntmps56
  go_wp2
  go_ret
  exact ⟨rfl, rfl⟩
end Go.Proofs.YtpamdlkagmlahaaGreatDoor

namespace Go.Proofs.YtpamdlkagmlahaaGreatDoor
open Go.RowKit
set_option maxHeartbeats 3200000 in
set_option maxRecDepth 100000 in
theorem hasids_any (c : Ch) (a : Option Addr) (k : Nat) (w : World) : Calls Tryz.prog 23 #[.agg (chC c a k), .agg (shpC c.op)] w (FwB w (idsC c)) := by
 have HF := Lib.hid ((fuwA w (.cells (chC c a k) 30)).trans (fuwA _ (.cells (shpC c.op) 59)))
 unfold idsC
 have H1 := Lib.hid (isid_any c.id)
 have H2 := Lib.hid (isid_any c.fr)
 have H3 := Lib.hid (isid_any c.tt)
 unfold chC shpC at *
 generalize idV c.id = q1 at *
 generalize idV c.fr = q2 at *
 generalize idV c.tt = q3 at *
 generalize decide (c.op = 6) = e at *
 generalize nmd c.op = n at *
 generalize vld c.op = v at *
 generalize wrdC c.op = s at *
 cases q1 with
 | false =>
  go_enter Tryz.func23, Tryz.ntmps23
  go_wp2_with fail
  go_at_call 56; refine (H1.out _).mono ?_; rintro e1 w1 ⟨rfl, rfl⟩
  go_wp2
  go_ret
  exact ⟨rfl, HF.out⟩
 | true =>
  cases e with
  | false =>
   go_enter Tryz.func23, Tryz.ntmps23
   go_wp2_with fail
   go_at_call 56; refine (H1.out _).mono ?_; rintro e1 w1 ⟨rfl, rfl⟩
   go_wp2
   go_ret
   exact ⟨rfl, HF.out⟩
  | true =>
   cases q2 with
   | false =>
    go_enter Tryz.func23, Tryz.ntmps23
    go_wp2_with fail
    go_at_call 56; refine (H1.out _).mono ?_; rintro e1 w1 ⟨rfl, rfl⟩
    go_wp2_with fail
    go_at_call 56; refine (H2.out _).mono ?_; rintro e1 w1 ⟨rfl, rfl⟩
    go_wp2
    go_ret
    exact ⟨rfl, HF.out⟩
   | true =>
    go_enter Tryz.func23, Tryz.ntmps23
    go_wp2_with fail
    go_at_call 56; refine (H1.out _).mono ?_; rintro e1 w1 ⟨rfl, rfl⟩
    go_wp2_with fail
    go_at_call 56; refine (H2.out _).mono ?_; rintro e1 w1 ⟨rfl, rfl⟩
    go_wp2_with fail
    go_at_call 56; refine (H3.out _).mono ?_; rintro e1 w1 ⟨rfl, rfl⟩
    go_wp2
    go_ret
    exact ⟨by cases q3 <;> rfl, HF.out⟩
end Go.Proofs.YtpamdlkagmlahaaGreatDoor
