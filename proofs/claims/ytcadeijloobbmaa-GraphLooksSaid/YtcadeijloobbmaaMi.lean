/-
  GrX; GrXB; GrY: texts of one kind in one file; each part says what it holds.
-/
import Derived.Test.YtcadeijloobbmaaGrR

/-! Package graph and its reference: Node and Edge, the first with an id. What was there does not turn. -/
namespace Go.Proofs.Ytcadeijloobbmaa
open Go.RowKit

/-- The node, the edge that stands for none. -/
def nilN : Nd := ⟨0, [], []⟩
def nilE : Ed := ⟨0, 0, 0, [], []⟩
def NdIn (w : World) (n : Nd) (al ap : Option Addr) (cl cp : Nat) : Prop := I64 n.id ∧ SlS w al n.ls cl ∧ SlP w ap n.ps cp
def EdIn (w : World) (e : Ed) (ap : Option Addr) (cp : Nat) : Prop := I64 e.id ∧ I64 e.fr ∧ I64 e.to ∧ e.ty.length ≤ maxLen ∧ SlP w ap e.ps cp
theorem NdIn.on {w w' : World} {n : Nd} {al ap : Option Addr} {cl cp : Nat} (h : NdIn w n al ap cl cp) (hf : Fuw w w') : NdIn w' n al ap cl cp := ⟨h.1, slS_on hf h.2.1, slP_on hf h.2.2⟩
theorem EdIn.on {w w' : World} {e : Ed} {ap : Option Addr} {cp : Nat} (h : EdIn w e ap cp) (hf : Fuw w w') : EdIn w' e ap cp := ⟨h.1, h.2.1, h.2.2.1, h.2.2.2.1, slP_on hf h.2.2.2.2⟩
theorem i0 : I64 0 := ⟨by decide, by decide⟩
theorem nilN_in (w : World) : NdIn w nilN none none 0 0 := ⟨i0, Sl.empty _, Sl.empty _⟩
theorem nilE_in (w : World) : EdIn w nilE none 0 := ⟨i0, i0, i0, Nat.zero_le _, Sl.empty _⟩
def RetN (w : World) (V : Option Nd) (x : Ending) (w' : World) : Prop := ∃ al ap cl cp, x = .returned (.tuple #[ndv (V.getD nilN) al ap cl cp, .bool V.isSome]) ∧ NdIn w' (V.getD nilN) al ap cl cp ∧ Fuw w w'
def RetE (w : World) (V : Option Ed) (x : Ending) (w' : World) : Prop := ∃ ap cp, x = .returned (.tuple #[edv (V.getD nilE) ap cp, .bool V.isSome]) ∧ EdIn w' (V.getD nilE) ap cp ∧ Fuw w w'
theorem load_nd (w : World) (b : Nat) (x : Int) (al ap : Option Addr) (nl np cl cp : Nat) (h0 : w.cell? ⟨b, 0, none⟩ = some (.int .i64 x)) (h1 : w.cell? ⟨b, 1, none⟩ = some (.slice al nl cl)) (h2 : w.cell? ⟨b, 2, none⟩ = some (.slice ap np cp)) :
    (loadVar 31 ⟨b, 0, none⟩).run Try.prog w = .ok (.agg #[.int .i64 x, .slice al nl cl, .slice ap np cp]) w := by
  go_simp
theorem load_ed (w : World) (b : Nat) (x y z : Int) (s : ByteArray) (ap : Option Addr) (np cp : Nat) (h0 : w.cell? ⟨b, 0, none⟩ = some (.int .i64 x)) (h1 : w.cell? ⟨b, 1, none⟩ = some (.int .i64 y)) (h2 : w.cell? ⟨b, 2, none⟩ = some (.int .i64 z)) (h3 : w.cell? ⟨b, 3, none⟩ = some (.string s)) (h4 : w.cell? ⟨b, 4, none⟩ = some (.slice ap np cp)) :
    (loadVar 35 ⟨b, 0, none⟩).run Try.prog w = .ok (.agg #[.int .i64 x, .int .i64 y, .int .i64 z, .string s, .slice ap np cp]) w := by
  go_simp
theorem n_ret {fn : Func} {p u : Tmp} (hres : fn.results = #[.cell p 31, .tmp u]) {tmps : Array Value} {B : Nat} {x : Int} {al ap : Option Addr} {nl np cl cp : Nat} {c : Bool} {w : World} {t : TypeId} {Q : Ending → World → Prop}
    (hp : tmps.getD p undef = .pointer (some ⟨B, 0, none⟩)) (hu : tmps.getD u undef = .bool c) (h : Bk w B #[.int .i64 x, .slice al nl cl, .slice ap np cp] t)
    (hQ : Q (.returned (.tuple #[.agg #[.int .i64 x, .slice al nl cl, .slice ap np cp], .bool c])) w) : bodyPost Try.prog fn Q Exit.ret { tmps := tmps, defers := [] } w := by
  refine bodyPost_ret (v := .tuple #[.agg #[.int .i64 x, .slice al nl cl, .slice ap np cp], .bool c]) ?_ rfl hQ
  rw [results_cell_tmp hres, hp, hu]
  have e : (asAddr (.pointer (some ⟨B, 0, none⟩))).run Try.prog w = .ok ⟨B, 0, none⟩ w := by go_simp
  rw [e]
  simp only [Result.andThen]
  rw [load_nd w B x al ap nl np cl cp (h.c 0) (h.c 1) (h.c 2)]
theorem e_ret {fn : Func} {p u : Tmp} (hres : fn.results = #[.cell p 35, .tmp u]) {tmps : Array Value} {B : Nat} {x y z : Int} {s : ByteArray} {ap : Option Addr} {np cp : Nat} {c : Bool} {w : World} {t : TypeId} {Q : Ending → World → Prop}
    (hp : tmps.getD p undef = .pointer (some ⟨B, 0, none⟩)) (hu : tmps.getD u undef = .bool c) (h : Bk w B #[.int .i64 x, .int .i64 y, .int .i64 z, .string s, .slice ap np cp] t)
    (hQ : Q (.returned (.tuple #[.agg #[.int .i64 x, .int .i64 y, .int .i64 z, .string s, .slice ap np cp], .bool c])) w) : bodyPost Try.prog fn Q Exit.ret { tmps := tmps, defers := [] } w := by
  refine bodyPost_ret (v := .tuple #[.agg #[.int .i64 x, .int .i64 y, .int .i64 z, .string s, .slice ap np cp], .bool c]) ?_ rfl hQ
  rw [results_cell_tmp hres, hp, hu]
  have e : (asAddr (.pointer (some ⟨B, 0, none⟩))).run Try.prog w = .ok ⟨B, 0, none⟩ w := by go_simp
  rw [e]
  simp only [Result.andThen]
  rw [load_ed w B x y z s ap np cp (h.c 0) (h.c 1) (h.c 2) (h.c 3) (h.c 4)]
theorem nod_drop (l : List Nd) (x : Int) (i : Nat) (h : i < l.length) : nodV (l.drop i) x = if l[i].id = x then some l[i] else nodV (l.drop (i + 1)) x := by
  unfold nodV
  rw [List.drop_eq_getElem_cons h, List.find?_cons]
  by_cases e : l[i].id = x
  · simp [e]
  · rw [if_neg e, beq_eq_false_iff_ne.2 e]
theorem edg_drop (l : List Ed) (x : Int) (i : Nat) (h : i < l.length) : edgV (l.drop i) x = if l[i].id = x then some l[i] else edgV (l.drop (i + 1)) x := by
  unfold edgV
  rw [List.drop_eq_getElem_cons h, List.find?_cons]
  by_cases e : l[i].id = x
  · simp [e]
  · rw [if_neg e, beq_eq_false_iff_ne.2 e]
theorem nod_end (l : List Nd) (x : Int) (i : Nat) (h : l.length ≤ i) : nodV (l.drop i) x = none := by rw [List.drop_of_length_le h]; rfl
theorem edg_end (l : List Ed) (x : Int) (i : Nat) (h : l.length ≤ i) : edgV (l.drop i) x = none := by rw [List.drop_of_length_le h]; rfl
/-- Three, five stores. -/
theorem bk_put3 {w : World} {B : Nat} {a0 a1 a2 : Value} {t : TypeId} (h : Bk w B #[a0, a1, a2] t) (b0 b1 b2 : Value) : Bk (((w.setCell ⟨B, 0, none⟩ b0).setCell ⟨B, 1, none⟩ b1).setCell ⟨B, 2, none⟩ b2) B #[b0, b1, b2] t :=
  ((h.set_ 0 b0).set_ 1 b1).set_ 2 b2
theorem bk_put5 {w : World} {B : Nat} {a0 a1 a2 a3 a4 : Value} {t : TypeId} (h : Bk w B #[a0, a1, a2, a3, a4] t) (b0 b1 b2 b3 b4 : Value) : Bk (((((w.setCell ⟨B, 0, none⟩ b0).setCell ⟨B, 1, none⟩ b1).setCell ⟨B, 2, none⟩ b2).setCell ⟨B, 3, none⟩ b3).setCell ⟨B, 4, none⟩ b4) B #[b0, b1, b2, b3, b4] t :=
  ((((h.set_ 0 b0).set_ 1 b1).set_ 2 b2).set_ 3 b3).set_ 4 b4
theorem fuw_put3 {w W : World} {B : Nat} (hf : Fuw w W) (hB : w.heap.size ≤ B) (b0 b1 b2 : Value) : Fuw w (((W.setCell ⟨B, 0, none⟩ b0).setCell ⟨B, 1, none⟩ b1).setCell ⟨B, 2, none⟩ b2) := fuwS (fuwS (fuwS hf hB) hB) hB
theorem fuw_put5 {w W : World} {B : Nat} (hf : Fuw w W) (hB : w.heap.size ≤ B) (b0 b1 b2 b3 b4 : Value) : Fuw w (((((W.setCell ⟨B, 0, none⟩ b0).setCell ⟨B, 1, none⟩ b1).setCell ⟨B, 2, none⟩ b2).setCell ⟨B, 3, none⟩ b3).setCell ⟨B, 4, none⟩ b4) := fuwS (fuwS (fuwS (fuwS (fuwS hf hB) hB) hB) hB) hB
set_option maxHeartbeats 3200000 in
set_option maxRecDepth 100000 in
theorem lnode_any (g : Gr) (an ae : Option Addr) (cn ce : Nat) (id : Int) (w : World) (hg : GIn w g an ae cn ce) :
    Calls Try.prog 9 #[grv g an ae cn ce, .int .i64 id] w (RetN w (nodV g.ns id)) := by
  have hb0 := (GB.new w g an ae cn ce).on (fuwA _ (.cells #[.int .i64 0, .slice none 0 0, .slice none 0 0] 31))
  have p0 := bk2 w (.cells #[.slice an g.ns.length cn, .slice ae g.es.length ce, .int .i64 g.nn, .int .i64 g.ne] 25) #[.int .i64 0, .slice none 0 0, .slice none 0 0] 31
  have f0 := (fuwA w (.cells #[.slice an g.ns.length cn, .slice ae g.es.length ce, .int .i64 g.nn, .int .i64 g.ne] 25)).trans (fuwA _ (.cells #[.int .i64 0, .slice none 0 0, .slice none 0 0] 31))
  have l1 := hg.n.len
  obtain ⟨R, hR⟩ : ∃ R, R = nodV g.ns id := ⟨_, rfl⟩
  rw [← hR]
  have HR := Lib.hid (show R = nodV (g.ns.drop 0) id from hR)
  clear hR
  unfold grv
  obtain ⟨w0, hw0⟩ : ∃ w0, w0 = (w.alloc (.cells #[.slice an g.ns.length cn, .slice ae g.es.length ce, .int .i64 g.nn, .int .i64 g.ne] 25)).alloc (.cells #[.int .i64 0, .slice none 0 0, .slice none 0 0] 31) := ⟨_, rfl⟩
  rw [← hw0] at f0 hb0 p0
  have HW0 := Lib.hid hw0
  have F0 := Lib.hid f0
  have HG := Lib.hid hb0
  have HB := Lib.hid p0
  have HN := Lib.hid hg.n
  clear hw0 f0 hb0 p0 hg
  go_enter Try.func9, Try.ntmps9
  go_upto_region 1 with fail
  rw [← HW0.out]
  have q0 := HG.out.c0; have q1 := HG.out.c1; have q2 := HG.out.c2; have q3 := HG.out.c3
  go_wp2
  clear q0 q1 q2 q3
  go_loopw [11] (fun iv wr => ∃ i : Nat, iv = .int .i64 i ∧ i ≤ g.ns.length ∧ Hid (R = nodV (g.ns.drop i) id) ∧ Hid (Fuw w0 wr)) (fun iv _ => g.ns.length - (RowKit.intOf iv).toNat)
  case atStart => exact ⟨0, rfl, Nat.zero_le _, HR, Fuw.refl _⟩
  case round =>
    obtain ⟨i, rfl, hi, HQ, hf⟩ := hrel
    clear HR
    have q0 := (HG.out.on hf.out).c0; have q1 := (HG.out.on hf.out).c1
    by_cases hlt : i < g.ns.length
    · obtain ⟨b, o, rfl, i1, c0, ⟨al, cl, c1, hsl⟩, ap, cp, c2, hsp⟩ := HN.out.get hlt
      replace c0 := cellOnw (F0.out.trans hf.out) c0
      replace c1 := cellOnw (F0.out.trans hf.out) c1
      replace c2 := cellOnw (F0.out.trans hf.out) c2
      have HI := Lib.hid (HQ.out.trans (nod_drop g.ns id i hlt))
      generalize g.ns[i] = x at *
      have HX := Lib.hid (show NdIn w x al ap cl cp from ⟨i1, hsl, hsp⟩)
      clear hsl hsp i1
      by_cases he : x.id = id
      · have HZ := Lib.hid (show R = some x by rw [HI.out, if_pos he])
        have he1 : (x.id == id) = true := by simp [he]
        have HE := Lib.hid he
        clear he
        go_upto_region 5 with fail
        obtain ⟨W, hW⟩ : ∃ W, W = wr.alloc (.cells #[.int .i64 x.id, .slice al x.ls.length cl, .slice ap x.ps.length cp] 31) := ⟨_, rfl⟩
        have hfW : Fuw wr W := by rw [hW]; exact fuwA _ _
        have hBn : Bk W wr.heap.size #[.int .i64 x.id, .slice al x.ls.length cl, .slice ap x.ps.length cp] 31 := by rw [hW]; exact Bk.new _ _ _
        rw [← hW]
        clear hW q0 q1 c0 c1 c2
        have c0 := hBn.c 0
        have c1 := hBn.c 1
        have c2 := hBn.c 2
        have z0 := (HB.out.on (hf.out.trans hfW)).c 0
        have y0 := (HB.out.on (hf.out.trans hfW)).f 0
        have z1 := (HB.out.on (hf.out.trans hfW)).c 1
        have y1 := (HB.out.on (hf.out.trans hfW)).f 1
        have z2 := (HB.out.on (hf.out.trans hfW)).c 2
        have y2 := (HB.out.on (hf.out.trans hfW)).f 2
        have HF := Lib.hid hfW
        clear hfW hBn
        go_wp2
        refine n_ret rfl rfl rfl (bk_put3 (HB.out.on (hf.out.trans HF.out)) _ _ _) ?_
        rw [HZ.out]
        exact ⟨al, ap, cl, cp, rfl, HX.out.on (fuw_put3 (F0.out.trans (hf.out.trans HF.out)) (show w.heap.size ≤ w.heap.size + 1 by omega) _ _ _), fuw_put3 (F0.out.trans (hf.out.trans HF.out)) (show w.heap.size ≤ w.heap.size + 1 by omega) _ _ _⟩
      · have HZ := Lib.hid (show R = nodV (g.ns.drop (i + 1)) id by rw [HI.out, if_neg he])
        have he1 : (x.id == id) = false := beq_eq_false_iff_ne.2 he
        go_wp2
        go_roundw
        case rel => exact ⟨i + 1, by go_num, by omega, HZ, hf.out.trans (fuwA _ _)⟩
        case measure => simp [RowKit.intOf]; omega
    · have HZ := Lib.hid (show R = none by rw [HQ.out, nod_end _ _ _ (by omega)])
      have z0 := (HB.out.on hf.out).c 0
      have y0 := (HB.out.on hf.out).f 0
      have z1 := (HB.out.on hf.out).c 1
      have y1 := (HB.out.on hf.out).f 1
      have z2 := (HB.out.on hf.out).c 2
      have y2 := (HB.out.on hf.out).f 2
      go_wp2
      refine n_ret rfl rfl rfl (bk_put3 (HB.out.on hf.out) _ _ _) ?_
      rw [HZ.out]
      exact ⟨none, none, 0, 0, rfl, nilN_in _, fuw_put3 (F0.out.trans hf.out) (show w.heap.size ≤ w.heap.size + 1 by omega) _ _ _⟩
set_option maxHeartbeats 3200000 in
set_option maxRecDepth 100000 in
theorem rnode_any (g : Gr) (an ae : Option Addr) (cn ce : Nat) (id : Int) (w : World) (hg : GIn w g an ae cn ce) :
    Calls Try.prog 10 #[grv g an ae cn ce, .int .i64 id] w (RetN w (nodV g.ns id)) := by
  have hb0 := (GB.new w g an ae cn ce).on (fuwA _ (.cells #[.int .i64 0, .slice none 0 0, .slice none 0 0] 31))
  have p0 := bk2 w (.cells #[.slice an g.ns.length cn, .slice ae g.es.length ce, .int .i64 g.nn, .int .i64 g.ne] 25) #[.int .i64 0, .slice none 0 0, .slice none 0 0] 31
  have f0 := (fuwA w (.cells #[.slice an g.ns.length cn, .slice ae g.es.length ce, .int .i64 g.nn, .int .i64 g.ne] 25)).trans (fuwA _ (.cells #[.int .i64 0, .slice none 0 0, .slice none 0 0] 31))
  have l1 := hg.n.len
  obtain ⟨R, hR⟩ : ∃ R, R = nodV g.ns id := ⟨_, rfl⟩
  rw [← hR]
  have HR := Lib.hid (show R = nodV (g.ns.drop 0) id from hR)
  clear hR
  unfold grv
  obtain ⟨w0, hw0⟩ : ∃ w0, w0 = (w.alloc (.cells #[.slice an g.ns.length cn, .slice ae g.es.length ce, .int .i64 g.nn, .int .i64 g.ne] 25)).alloc (.cells #[.int .i64 0, .slice none 0 0, .slice none 0 0] 31) := ⟨_, rfl⟩
  rw [← hw0] at f0 hb0 p0
  have HW0 := Lib.hid hw0
  have F0 := Lib.hid f0
  have HG := Lib.hid hb0
  have HB := Lib.hid p0
  have HN := Lib.hid hg.n
  clear hw0 f0 hb0 p0 hg
  go_enter Try.func10, Try.ntmps10
  go_upto_region 1 with fail
  rw [← HW0.out]
  have q0 := HG.out.c0; have q1 := HG.out.c1; have q2 := HG.out.c2; have q3 := HG.out.c3
  go_wp2
  clear q0 q1 q2 q3
  go_loopw [6] (fun iv wr => ∃ i : Nat, iv = .int .i64 i ∧ i ≤ g.ns.length ∧ Hid (R = nodV (g.ns.drop i) id) ∧ Hid (Fuw w0 wr)) (fun iv _ => g.ns.length - (RowKit.intOf iv).toNat)
  case atStart => exact ⟨0, rfl, Nat.zero_le _, HR, Fuw.refl _⟩
  case round =>
    obtain ⟨i, rfl, hi, HQ, hf⟩ := hrel
    clear HR
    have q0 := (HG.out.on hf.out).c0; have q1 := (HG.out.on hf.out).c1
    by_cases hlt : i < g.ns.length
    · obtain ⟨b, o, rfl, i1, c0, ⟨al, cl, c1, hsl⟩, ap, cp, c2, hsp⟩ := HN.out.get hlt
      replace c0 := cellOnw (F0.out.trans hf.out) c0
      replace c1 := cellOnw (F0.out.trans hf.out) c1
      replace c2 := cellOnw (F0.out.trans hf.out) c2
      have HI := Lib.hid (HQ.out.trans (nod_drop g.ns id i hlt))
      generalize g.ns[i] = x at *
      have HX := Lib.hid (show NdIn w x al ap cl cp from ⟨i1, hsl, hsp⟩)
      clear hsl hsp i1
      by_cases he : x.id = id
      · have HZ := Lib.hid (show R = some x by rw [HI.out, if_pos he])
        have he1 : (x.id == id) = true := by simp [he]
        have HE := Lib.hid he
        clear he
        have hfW : Fuw wr wr := Fuw.refl _
        have z0 := (HB.out.on (hf.out.trans hfW)).c 0
        have y0 := (HB.out.on (hf.out.trans hfW)).f 0
        have z1 := (HB.out.on (hf.out.trans hfW)).c 1
        have y1 := (HB.out.on (hf.out.trans hfW)).f 1
        have z2 := (HB.out.on (hf.out.trans hfW)).c 2
        have y2 := (HB.out.on (hf.out.trans hfW)).f 2
        have HF := Lib.hid hfW
        clear hfW
        go_wp2
        refine n_ret rfl rfl rfl (bk_put3 (HB.out.on (hf.out.trans HF.out)) _ _ _) ?_
        rw [HZ.out]
        exact ⟨al, ap, cl, cp, rfl, HX.out.on (fuw_put3 (F0.out.trans (hf.out.trans HF.out)) (show w.heap.size ≤ w.heap.size + 1 by omega) _ _ _), fuw_put3 (F0.out.trans (hf.out.trans HF.out)) (show w.heap.size ≤ w.heap.size + 1 by omega) _ _ _⟩
      · have HZ := Lib.hid (show R = nodV (g.ns.drop (i + 1)) id by rw [HI.out, if_neg he])
        have he1 : (x.id == id) = false := beq_eq_false_iff_ne.2 he
        go_wp2
        go_roundw
        case rel => exact ⟨i + 1, by go_num, by omega, HZ, hf⟩
        case measure => simp [RowKit.intOf]; omega
    · have HZ := Lib.hid (show R = none by rw [HQ.out, nod_end _ _ _ (by omega)])
      have z0 := (HB.out.on hf.out).c 0
      have y0 := (HB.out.on hf.out).f 0
      have z1 := (HB.out.on hf.out).c 1
      have y1 := (HB.out.on hf.out).f 1
      have z2 := (HB.out.on hf.out).c 2
      have y2 := (HB.out.on hf.out).f 2
      go_wp2
      refine n_ret rfl rfl rfl (bk_put3 (HB.out.on hf.out) _ _ _) ?_
      rw [HZ.out]
      exact ⟨none, none, 0, 0, rfl, nilN_in _, fuw_put3 (F0.out.trans hf.out) (show w.heap.size ≤ w.heap.size + 1 by omega) _ _ _⟩
end Go.Proofs.Ytcadeijloobbmaa

/-! Package graph and its reference: Edge, the first with an id. What was there does not turn. -/
namespace Go.Proofs.Ytcadeijloobbmaa
open Go.RowKit

set_option maxHeartbeats 3200000 in
set_option maxRecDepth 100000 in
theorem ledge_any (g : Gr) (an ae : Option Addr) (cn ce : Nat) (id : Int) (w : World) (hg : GIn w g an ae cn ce) :
    Calls Try.prog 11 #[grv g an ae cn ce, .int .i64 id] w (RetE w (edgV g.es id)) := by
  have hb0 := (GB.new w g an ae cn ce).on (fuwA _ (.cells #[.int .i64 0, .int .i64 0, .int .i64 0, .string ⟨#[]⟩, .slice none 0 0] 35))
  have p0 := bk2 w (.cells #[.slice an g.ns.length cn, .slice ae g.es.length ce, .int .i64 g.nn, .int .i64 g.ne] 25) #[.int .i64 0, .int .i64 0, .int .i64 0, .string ⟨#[]⟩, .slice none 0 0] 35
  have f0 := (fuwA w (.cells #[.slice an g.ns.length cn, .slice ae g.es.length ce, .int .i64 g.nn, .int .i64 g.ne] 25)).trans (fuwA _ (.cells #[.int .i64 0, .int .i64 0, .int .i64 0, .string ⟨#[]⟩, .slice none 0 0] 35))
  have l1 := hg.e.len
  obtain ⟨R, hR⟩ : ∃ R, R = edgV g.es id := ⟨_, rfl⟩
  rw [← hR]
  have HR := Lib.hid (show R = edgV (g.es.drop 0) id from hR)
  clear hR
  unfold grv
  obtain ⟨w0, hw0⟩ : ∃ w0, w0 = (w.alloc (.cells #[.slice an g.ns.length cn, .slice ae g.es.length ce, .int .i64 g.nn, .int .i64 g.ne] 25)).alloc (.cells #[.int .i64 0, .int .i64 0, .int .i64 0, .string ⟨#[]⟩, .slice none 0 0] 35) := ⟨_, rfl⟩
  rw [← hw0] at f0 hb0 p0
  have HW0 := Lib.hid hw0
  have F0 := Lib.hid f0
  have HG := Lib.hid hb0
  have HB := Lib.hid p0
  have HN := Lib.hid hg.e
  clear hw0 f0 hb0 p0 hg
  go_enter Try.func11, Try.ntmps11
  go_upto_region 1 with fail
  rw [← HW0.out]
  have q0 := HG.out.c0; have q1 := HG.out.c1; have q2 := HG.out.c2; have q3 := HG.out.c3
  go_wp2
  clear q0 q1 q2 q3
  go_loopw [11] (fun iv wr => ∃ i : Nat, iv = .int .i64 i ∧ i ≤ g.es.length ∧ Hid (R = edgV (g.es.drop i) id) ∧ Hid (Fuw w0 wr)) (fun iv _ => g.es.length - (RowKit.intOf iv).toNat)
  case atStart => exact ⟨0, rfl, Nat.zero_le _, HR, Fuw.refl _⟩
  case round =>
    obtain ⟨i, rfl, hi, HQ, hf⟩ := hrel
    clear HR
    have q0 := (HG.out.on hf.out).c0; have q1 := (HG.out.on hf.out).c1
    by_cases hlt : i < g.es.length
    · obtain ⟨b, o, rfl, i1, i2, i3, hz, c0, c1, c2, c3, ap, cp, c4, hsp⟩ := HN.out.get hlt
      replace c0 := cellOnw (F0.out.trans hf.out) c0
      replace c1 := cellOnw (F0.out.trans hf.out) c1
      replace c2 := cellOnw (F0.out.trans hf.out) c2
      replace c3 := cellOnw (F0.out.trans hf.out) c3
      replace c4 := cellOnw (F0.out.trans hf.out) c4
      have HI := Lib.hid (HQ.out.trans (edg_drop g.es id i hlt))
      generalize g.es[i] = x at *
      have HX := Lib.hid (show EdIn w x ap cp from ⟨i1, i2, i3, hz, hsp⟩)
      clear hsp i1 i2 i3 hz
      by_cases he : x.id = id
      · have HZ := Lib.hid (show R = some x by rw [HI.out, if_pos he])
        have he1 : (x.id == id) = true := by simp [he]
        have HE := Lib.hid he
        clear he
        go_upto_region 5 with fail
        obtain ⟨W, hW⟩ : ∃ W, W = wr.alloc (.cells #[.int .i64 x.id, .int .i64 x.fr, .int .i64 x.to, .string (bs x.ty), .slice ap x.ps.length cp] 35) := ⟨_, rfl⟩
        have hfW : Fuw wr W := by rw [hW]; exact fuwA _ _
        have hBn : Bk W wr.heap.size #[.int .i64 x.id, .int .i64 x.fr, .int .i64 x.to, .string (bs x.ty), .slice ap x.ps.length cp] 35 := by rw [hW]; exact Bk.new _ _ _
        rw [← hW]
        clear hW q0 q1 c0 c1 c2 c3 c4
        have c0 := hBn.c 0
        have c1 := hBn.c 1
        have c2 := hBn.c 2
        have c3 := hBn.c 3
        have c4 := hBn.c 4
        have z0 := (HB.out.on (hf.out.trans hfW)).c 0
        have y0 := (HB.out.on (hf.out.trans hfW)).f 0
        have z1 := (HB.out.on (hf.out.trans hfW)).c 1
        have y1 := (HB.out.on (hf.out.trans hfW)).f 1
        have z2 := (HB.out.on (hf.out.trans hfW)).c 2
        have y2 := (HB.out.on (hf.out.trans hfW)).f 2
        have z3 := (HB.out.on (hf.out.trans hfW)).c 3
        have y3 := (HB.out.on (hf.out.trans hfW)).f 3
        have z4 := (HB.out.on (hf.out.trans hfW)).c 4
        have y4 := (HB.out.on (hf.out.trans hfW)).f 4
        have HF := Lib.hid hfW
        clear hfW hBn
        go_wp2
        refine e_ret rfl rfl rfl (bk_put5 (HB.out.on (hf.out.trans HF.out)) _ _ _ _ _) ?_
        rw [HZ.out]
        exact ⟨ap, cp, rfl, HX.out.on (fuw_put5 (F0.out.trans (hf.out.trans HF.out)) (show w.heap.size ≤ w.heap.size + 1 by omega) _ _ _ _ _), fuw_put5 (F0.out.trans (hf.out.trans HF.out)) (show w.heap.size ≤ w.heap.size + 1 by omega) _ _ _ _ _⟩
      · have HZ := Lib.hid (show R = edgV (g.es.drop (i + 1)) id by rw [HI.out, if_neg he])
        have he1 : (x.id == id) = false := beq_eq_false_iff_ne.2 he
        go_wp2
        go_roundw
        case rel => exact ⟨i + 1, by go_num, by omega, HZ, hf.out.trans (fuwA _ _)⟩
        case measure => simp [RowKit.intOf]; omega
    · have HZ := Lib.hid (show R = none by rw [HQ.out, edg_end _ _ _ (by omega)])
      have z0 := (HB.out.on hf.out).c 0
      have y0 := (HB.out.on hf.out).f 0
      have z1 := (HB.out.on hf.out).c 1
      have y1 := (HB.out.on hf.out).f 1
      have z2 := (HB.out.on hf.out).c 2
      have y2 := (HB.out.on hf.out).f 2
      have z3 := (HB.out.on hf.out).c 3
      have y3 := (HB.out.on hf.out).f 3
      have z4 := (HB.out.on hf.out).c 4
      have y4 := (HB.out.on hf.out).f 4
      go_wp2
      refine e_ret rfl rfl rfl (bk_put5 (HB.out.on hf.out) _ _ _ _ _) ?_
      rw [HZ.out]
      exact ⟨none, 0, rfl, nilE_in _, fuw_put5 (F0.out.trans hf.out) (show w.heap.size ≤ w.heap.size + 1 by omega) _ _ _ _ _⟩
set_option maxHeartbeats 3200000 in
set_option maxRecDepth 100000 in
theorem redge_any (g : Gr) (an ae : Option Addr) (cn ce : Nat) (id : Int) (w : World) (hg : GIn w g an ae cn ce) :
    Calls Try.prog 12 #[grv g an ae cn ce, .int .i64 id] w (RetE w (edgV g.es id)) := by
  have hb0 := (GB.new w g an ae cn ce).on (fuwA _ (.cells #[.int .i64 0, .int .i64 0, .int .i64 0, .string ⟨#[]⟩, .slice none 0 0] 35))
  have p0 := bk2 w (.cells #[.slice an g.ns.length cn, .slice ae g.es.length ce, .int .i64 g.nn, .int .i64 g.ne] 25) #[.int .i64 0, .int .i64 0, .int .i64 0, .string ⟨#[]⟩, .slice none 0 0] 35
  have f0 := (fuwA w (.cells #[.slice an g.ns.length cn, .slice ae g.es.length ce, .int .i64 g.nn, .int .i64 g.ne] 25)).trans (fuwA _ (.cells #[.int .i64 0, .int .i64 0, .int .i64 0, .string ⟨#[]⟩, .slice none 0 0] 35))
  have l1 := hg.e.len
  obtain ⟨R, hR⟩ : ∃ R, R = edgV g.es id := ⟨_, rfl⟩
  rw [← hR]
  have HR := Lib.hid (show R = edgV (g.es.drop 0) id from hR)
  clear hR
  unfold grv
  obtain ⟨w0, hw0⟩ : ∃ w0, w0 = (w.alloc (.cells #[.slice an g.ns.length cn, .slice ae g.es.length ce, .int .i64 g.nn, .int .i64 g.ne] 25)).alloc (.cells #[.int .i64 0, .int .i64 0, .int .i64 0, .string ⟨#[]⟩, .slice none 0 0] 35) := ⟨_, rfl⟩
  rw [← hw0] at f0 hb0 p0
  have HW0 := Lib.hid hw0
  have F0 := Lib.hid f0
  have HG := Lib.hid hb0
  have HB := Lib.hid p0
  have HN := Lib.hid hg.e
  clear hw0 f0 hb0 p0 hg
  go_enter Try.func12, Try.ntmps12
  go_upto_region 1 with fail
  rw [← HW0.out]
  have q0 := HG.out.c0; have q1 := HG.out.c1; have q2 := HG.out.c2; have q3 := HG.out.c3
  go_wp2
  clear q0 q1 q2 q3
  go_loopw [6] (fun iv wr => ∃ i : Nat, iv = .int .i64 i ∧ i ≤ g.es.length ∧ Hid (R = edgV (g.es.drop i) id) ∧ Hid (Fuw w0 wr)) (fun iv _ => g.es.length - (RowKit.intOf iv).toNat)
  case atStart => exact ⟨0, rfl, Nat.zero_le _, HR, Fuw.refl _⟩
  case round =>
    obtain ⟨i, rfl, hi, HQ, hf⟩ := hrel
    clear HR
    have q0 := (HG.out.on hf.out).c0; have q1 := (HG.out.on hf.out).c1
    by_cases hlt : i < g.es.length
    · obtain ⟨b, o, rfl, i1, i2, i3, hz, c0, c1, c2, c3, ap, cp, c4, hsp⟩ := HN.out.get hlt
      replace c0 := cellOnw (F0.out.trans hf.out) c0
      replace c1 := cellOnw (F0.out.trans hf.out) c1
      replace c2 := cellOnw (F0.out.trans hf.out) c2
      replace c3 := cellOnw (F0.out.trans hf.out) c3
      replace c4 := cellOnw (F0.out.trans hf.out) c4
      have HI := Lib.hid (HQ.out.trans (edg_drop g.es id i hlt))
      generalize g.es[i] = x at *
      have HX := Lib.hid (show EdIn w x ap cp from ⟨i1, i2, i3, hz, hsp⟩)
      clear hsp i1 i2 i3 hz
      by_cases he : x.id = id
      · have HZ := Lib.hid (show R = some x by rw [HI.out, if_pos he])
        have he1 : (x.id == id) = true := by simp [he]
        have HE := Lib.hid he
        clear he
        have hfW : Fuw wr wr := Fuw.refl _
        have z0 := (HB.out.on (hf.out.trans hfW)).c 0
        have y0 := (HB.out.on (hf.out.trans hfW)).f 0
        have z1 := (HB.out.on (hf.out.trans hfW)).c 1
        have y1 := (HB.out.on (hf.out.trans hfW)).f 1
        have z2 := (HB.out.on (hf.out.trans hfW)).c 2
        have y2 := (HB.out.on (hf.out.trans hfW)).f 2
        have z3 := (HB.out.on (hf.out.trans hfW)).c 3
        have y3 := (HB.out.on (hf.out.trans hfW)).f 3
        have z4 := (HB.out.on (hf.out.trans hfW)).c 4
        have y4 := (HB.out.on (hf.out.trans hfW)).f 4
        have HF := Lib.hid hfW
        clear hfW
        go_wp2
        refine e_ret rfl rfl rfl (bk_put5 (HB.out.on (hf.out.trans HF.out)) _ _ _ _ _) ?_
        rw [HZ.out]
        exact ⟨ap, cp, rfl, HX.out.on (fuw_put5 (F0.out.trans (hf.out.trans HF.out)) (show w.heap.size ≤ w.heap.size + 1 by omega) _ _ _ _ _), fuw_put5 (F0.out.trans (hf.out.trans HF.out)) (show w.heap.size ≤ w.heap.size + 1 by omega) _ _ _ _ _⟩
      · have HZ := Lib.hid (show R = edgV (g.es.drop (i + 1)) id by rw [HI.out, if_neg he])
        have he1 : (x.id == id) = false := beq_eq_false_iff_ne.2 he
        go_wp2
        go_roundw
        case rel => exact ⟨i + 1, by go_num, by omega, HZ, hf⟩
        case measure => simp [RowKit.intOf]; omega
    · have HZ := Lib.hid (show R = none by rw [HQ.out, edg_end _ _ _ (by omega)])
      have z0 := (HB.out.on hf.out).c 0
      have y0 := (HB.out.on hf.out).f 0
      have z1 := (HB.out.on hf.out).c 1
      have y1 := (HB.out.on hf.out).f 1
      have z2 := (HB.out.on hf.out).c 2
      have y2 := (HB.out.on hf.out).f 2
      have z3 := (HB.out.on hf.out).c 3
      have y3 := (HB.out.on hf.out).f 3
      have z4 := (HB.out.on hf.out).c 4
      have y4 := (HB.out.on hf.out).f 4
      go_wp2
      refine e_ret rfl rfl rfl (bk_put5 (HB.out.on hf.out) _ _ _ _ _) ?_
      rw [HZ.out]
      exact ⟨none, 0, rfl, nilE_in _, fuw_put5 (F0.out.trans hf.out) (show w.heap.size ≤ w.heap.size + 1 by omega) _ _ _ _ _⟩
end Go.Proofs.Ytcadeijloobbmaa

/-! Package graph and its reference: Prop, HasLabel. What was there does not turn. -/
namespace Go.Proofs.Ytcadeijloobbmaa
open Go.RowKit

/-- The value that stands for none. -/
def nilV : Vl := .mk 0 0 0 [] []
theorem nilV_in : Vin nilV := ⟨⟨by decide, by decide⟩, ⟨by decide, by decide⟩, ⟨by decide, by decide⟩, Nat.zero_le _⟩
theorem nilV_sl (w : World) : SlV w none nilV.ll 0 := ⟨Nat.le_refl _, Nat.zero_le _, fun _ => rfl, fun h => absurd h (Nat.lt_irrefl 0)⟩
def RetP (w : World) (x : Vl) (e : Ending) (w' : World) : Prop := ∃ ao cap, e = .returned (vlv x ao cap) ∧ Vin x ∧ SlV w' ao x.ll cap ∧ Fuw w w'
theorem gload_vl (w : World) (b : Nat) (k n d : Int) (s : ByteArray) (ao : Option Addr) (len cap : Nat) (h0 : w.cell? ⟨b, 0, none⟩ = some (.int .i64 k)) (h1 : w.cell? ⟨b, 1, none⟩ = some (.int .i64 n)) (h2 : w.cell? ⟨b, 2, none⟩ = some (.int .i64 d)) (h3 : w.cell? ⟨b, 3, none⟩ = some (.string s)) (h4 : w.cell? ⟨b, 4, none⟩ = some (.slice ao len cap)) :
    (loadVar 44 ⟨b, 0, none⟩).run Try.prog w = .ok (.agg #[.int .i64 k, .int .i64 n, .int .i64 d, .string s, .slice ao len cap]) w := by
  go_simp
theorem gv_ret {fn : Func} {p : Tmp} (hres : fn.results = #[.cell p 44]) {tmps : Array Value} {B : Nat} {k n d : Int} {s : ByteArray} {ao : Option Addr} {len cap : Nat} {w : World} {t : TypeId} {Q : Ending → World → Prop}
    (hp : tmps.getD p undef = .pointer (some ⟨B, 0, none⟩)) (h : Bk w B #[.int .i64 k, .int .i64 n, .int .i64 d, .string s, .slice ao len cap] t)
    (hQ : Q (.returned (.agg #[.int .i64 k, .int .i64 n, .int .i64 d, .string s, .slice ao len cap])) w) : bodyPost Try.prog fn Q Exit.ret { tmps := tmps, defers := [] } w := by
  refine bodyPost_ret (v := .agg #[.int .i64 k, .int .i64 n, .int .i64 d, .string s, .slice ao len cap]) ?_ rfl hQ
  have e : (asAddr (.pointer (some ⟨B, 0, none⟩))).run Try.prog w = .ok ⟨B, 0, none⟩ w := by go_simp
  rw [results_cell hres, hp, e]
  simp only [Result.andThen]
  exact gload_vl w B k n d s ao len cap (h.c 0) (h.c 1) (h.c 2) (h.c 3) (h.c 4)
theorem gnull_any (w : World) : Calls Try.prog 44 #[] w (fun e w' => e = .returned (.agg #[.int .i64 0, .int .i64 0, .int .i64 0, .string ⟨#[]⟩, .slice none 0 0]) ∧ Fuw w w') := by
  go_enter Try.func44, Try.ntmps44
  go_wp2
  exact gv_ret rfl rfl (Bk.new _ _ _) ⟨rfl, fuwA _ _⟩
theorem prp_drop (l : List Pp) (k : List UInt8) (i : Nat) (h : i < l.length) : prpV (l.drop i) k = if l[i].k = k then l[i].v else prpV (l.drop (i + 1)) k := by
  unfold prpV
  rw [List.drop_eq_getElem_cons h, List.find?_cons]
  by_cases e : l[i].k = k
  · simp [e]
  · rw [if_neg e, beq_eq_false_iff_ne.2 e]
theorem prp_end (l : List Pp) (k : List UInt8) (i : Nat) (h : l.length ≤ i) : prpV (l.drop i) k = nilV := by rw [List.drop_of_length_le h]; rfl
set_option maxHeartbeats 3200000 in
set_option maxRecDepth 100000 in
theorem lprop_any (l : List Pp) (ap : Option Addr) (cp : Nat) (k : List UInt8) (w : World) (hs : SlP w ap l cp) :
    Calls Try.prog 18 #[.slice ap l.length cp, .string (bs k)] w (RetP w (prpV l k)) := by
  have p0 := Bk.new w #[.int .i64 0, .int .i64 0, .int .i64 0, .string ⟨#[]⟩, .slice none 0 0] 44
  have f0 := fuwA w (.cells #[.int .i64 0, .int .i64 0, .int .i64 0, .string ⟨#[]⟩, .slice none 0 0] 44)
  have l1 := hs.len
  obtain ⟨R, hR⟩ : ∃ R, R = prpV l k := ⟨_, rfl⟩
  rw [← hR]
  have HR := Lib.hid (show R = prpV (l.drop 0) k from hR)
  clear hR
  obtain ⟨w0, hw0⟩ : ∃ w0, w0 = w.alloc (.cells #[.int .i64 0, .int .i64 0, .int .i64 0, .string ⟨#[]⟩, .slice none 0 0] 44) := ⟨_, rfl⟩
  rw [← hw0] at f0 p0
  have HW0 := Lib.hid hw0
  have F0 := Lib.hid f0
  have HB := Lib.hid p0
  have HS := Lib.hid hs
  clear hw0 f0 p0 hs
  go_enter Try.func18, Try.ntmps18
  go_upto_region 1 with fail
  rw [← HW0.out]
  go_wp2
  go_loopw [9] (fun iv wr => ∃ i : Nat, iv = .int .i64 i ∧ i ≤ l.length ∧ Hid (R = prpV (l.drop i) k) ∧ Hid (Fuw w0 wr)) (fun iv _ => l.length - (RowKit.intOf iv).toNat)
  case atStart => exact ⟨0, rfl, Nat.zero_le _, HR, Fuw.refl _⟩
  case round =>
    obtain ⟨i, rfl, hi, HQ, hf⟩ := hrel
    clear HR
    by_cases hlt : i < l.length
    · obtain ⟨b, o, rfl, -, k0, hv⟩ := HS.out.get hlt
      obtain ⟨hy, d0, d1, d2, d3, a5, k5, d4, hs5⟩ := VC_of hv
      have HI := Lib.hid (HQ.out.trans (prp_drop l k i hlt))
      have HX := Lib.hid (show Vin l[i].v ∧ SlV w a5 l[i].v.ll k5 from ⟨hy, hs5⟩)
      clear hv hy hs5
      generalize l[i].v = x at *
      generalize l[i].k = key at *
      have ff := F0.out.trans hf.out
      replace k0 := cellOnw ff k0
      replace d0 := cellOnw ff d0
      replace d1 := cellOnw ff d1
      replace d2 := cellOnw ff d2
      replace d3 := cellOnw ff d3
      replace d4 := cellOnw ff d4
      clear ff
      cases he : ((bs key).toList == (bs k).toList) with
      | true =>
        have HZ := Lib.hid (show R = x by
          rw [bs_eq] at he
          rw [HI.out, if_pos (by simpa using he)])
        go_upto_region 5 with fail
        obtain ⟨W, hW⟩ : ∃ W, W = wr.alloc (.cells #[.string (bs key), .int .i64 x.kd, .int .i64 x.nn, .int .i64 x.dd, .string (bs x.ss), .slice a5 x.ll.length k5] 75) := ⟨_, rfl⟩
        have hfW : Fuw wr W := by rw [hW]; exact fuwA _ _
        have hBn : Bk W wr.heap.size #[.string (bs key), .int .i64 x.kd, .int .i64 x.nn, .int .i64 x.dd, .string (bs x.ss), .slice a5 x.ll.length k5] 75 := by rw [hW]; exact Bk.new _ _ _
        rw [← hW]
        clear hW k0 d0 d1 d2 d3 d4 he
        have c1 : W.cell? ⟨wr.heap.size, 1, none⟩ = some (.int .i64 x.kd) := hBn.c 1
        have c2 : W.cell? ⟨wr.heap.size, 2, none⟩ = some (.int .i64 x.nn) := hBn.c 2
        have c3 : W.cell? ⟨wr.heap.size, 3, none⟩ = some (.int .i64 x.dd) := hBn.c 3
        have c4 : W.cell? ⟨wr.heap.size, 4, none⟩ = some (.string (bs x.ss)) := hBn.c 4
        have c5 : W.cell? ⟨wr.heap.size, 5, none⟩ = some (.slice a5 x.ll.length k5) := hBn.c 5
        have z0 := (HB.out.on (hf.out.trans hfW)).c 0; have y0 := (HB.out.on (hf.out.trans hfW)).f 0
        have z1 := (HB.out.on (hf.out.trans hfW)).c 1; have y1 := (HB.out.on (hf.out.trans hfW)).f 1
        have z2 := (HB.out.on (hf.out.trans hfW)).c 2; have y2 := (HB.out.on (hf.out.trans hfW)).f 2
        have z3 := (HB.out.on (hf.out.trans hfW)).c 3; have y3 := (HB.out.on (hf.out.trans hfW)).f 3
        have z4 := (HB.out.on (hf.out.trans hfW)).c 4; have y4 := (HB.out.on (hf.out.trans hfW)).f 4
        have HF := Lib.hid hfW
        clear hfW hBn
        go_wp2
        refine gv_ret rfl rfl (bk_put5 (HB.out.on (hf.out.trans HF.out)) _ _ _ _ _) ?_
        rw [HZ.out]
        exact ⟨a5, k5, rfl, HX.out.1, HX.out.2.onw (fuw_put5 (F0.out.trans (hf.out.trans HF.out)) (Nat.le_refl _) _ _ _ _ _), fuw_put5 (F0.out.trans (hf.out.trans HF.out)) (Nat.le_refl _) _ _ _ _ _⟩
      | false =>
        have HZ := Lib.hid (show R = prpV (l.drop (i + 1)) k by
          rw [bs_eq] at he
          rw [HI.out, if_neg (by simpa using he)])
        go_wp2
        go_roundw
        case rel => exact ⟨i + 1, by go_num, by omega, HZ, hf.out.trans (fuwA _ _)⟩
        case measure => simp [RowKit.intOf]; omega
    · have HZ := Lib.hid (show R = nilV by rw [HQ.out, prp_end _ _ _ (by omega)])
      have HC := Lib.hid gnull_any
      go_wp2_with fail
      go_at_call 44; refine (HC.out _).mono ?_; rintro e1 w1 ⟨rfl, f1⟩
      have z0 := (HB.out.on (hf.out.trans f1)).c 0; have y0 := (HB.out.on (hf.out.trans f1)).f 0
      have z1 := (HB.out.on (hf.out.trans f1)).c 1; have y1 := (HB.out.on (hf.out.trans f1)).f 1
      have z2 := (HB.out.on (hf.out.trans f1)).c 2; have y2 := (HB.out.on (hf.out.trans f1)).f 2
      have z3 := (HB.out.on (hf.out.trans f1)).c 3; have y3 := (HB.out.on (hf.out.trans f1)).f 3
      have z4 := (HB.out.on (hf.out.trans f1)).c 4; have y4 := (HB.out.on (hf.out.trans f1)).f 4
      have F1 := Lib.hid f1
      clear f1
      go_wp2
      refine gv_ret rfl rfl (bk_put5 (HB.out.on (hf.out.trans F1.out)) _ _ _ _ _) ?_
      rw [HZ.out]
      exact ⟨none, 0, rfl, nilV_in, nilV_sl _, fuw_put5 (F0.out.trans (hf.out.trans F1.out)) (Nat.le_refl _) _ _ _ _ _⟩
set_option maxHeartbeats 3200000 in
set_option maxRecDepth 100000 in
theorem rprop_any (l : List Pp) (ap : Option Addr) (cp : Nat) (k : List UInt8) (w : World) (hs : SlP w ap l cp) :
    Calls Try.prog 19 #[.slice ap l.length cp, .string (bs k)] w (RetP w (prpV l k)) := by
  have p0 := Bk.new w #[.int .i64 0, .int .i64 0, .int .i64 0, .string ⟨#[]⟩, .slice none 0 0] 44
  have f0 := fuwA w (.cells #[.int .i64 0, .int .i64 0, .int .i64 0, .string ⟨#[]⟩, .slice none 0 0] 44)
  have l1 := hs.len
  obtain ⟨R, hR⟩ : ∃ R, R = prpV l k := ⟨_, rfl⟩
  rw [← hR]
  have HR := Lib.hid (show R = prpV (l.drop 0) k from hR)
  clear hR
  obtain ⟨w0, hw0⟩ : ∃ w0, w0 = w.alloc (.cells #[.int .i64 0, .int .i64 0, .int .i64 0, .string ⟨#[]⟩, .slice none 0 0] 44) := ⟨_, rfl⟩
  rw [← hw0] at f0 p0
  have HW0 := Lib.hid hw0
  have F0 := Lib.hid f0
  have HB := Lib.hid p0
  have HS := Lib.hid hs
  clear hw0 f0 p0 hs
  go_enter Try.func19, Try.ntmps19
  go_upto_region 1 with fail
  rw [← HW0.out]
  go_wp2
  go_loopw [5] (fun iv wr => ∃ i : Nat, iv = .int .i64 i ∧ i ≤ l.length ∧ Hid (R = prpV (l.drop i) k) ∧ Hid (Fuw w0 wr)) (fun iv _ => l.length - (RowKit.intOf iv).toNat)
  case atStart => exact ⟨0, rfl, Nat.zero_le _, HR, Fuw.refl _⟩
  case round =>
    obtain ⟨i, rfl, hi, HQ, hf⟩ := hrel
    clear HR
    have z0 := (HB.out.on hf.out).c 0; have y0 := (HB.out.on hf.out).f 0
    have z1 := (HB.out.on hf.out).c 1; have y1 := (HB.out.on hf.out).f 1
    have z2 := (HB.out.on hf.out).c 2; have y2 := (HB.out.on hf.out).f 2
    have z3 := (HB.out.on hf.out).c 3; have y3 := (HB.out.on hf.out).f 3
    have z4 := (HB.out.on hf.out).c 4; have y4 := (HB.out.on hf.out).f 4
    by_cases hlt : i < l.length
    · obtain ⟨b, o, rfl, -, k0, hv⟩ := HS.out.get hlt
      obtain ⟨hy, d0, d1, d2, d3, a5, k5, d4, hs5⟩ := VC_of hv
      have HI := Lib.hid (HQ.out.trans (prp_drop l k i hlt))
      have HX := Lib.hid (show Vin l[i].v ∧ SlV w a5 l[i].v.ll k5 from ⟨hy, hs5⟩)
      clear hv hy hs5
      generalize l[i].v = x at *
      generalize l[i].k = key at *
      have ff := F0.out.trans hf.out
      replace k0 := cellOnw ff k0
      replace d0 := cellOnw ff d0
      replace d1 := cellOnw ff d1
      replace d2 := cellOnw ff d2
      replace d3 := cellOnw ff d3
      replace d4 := cellOnw ff d4
      clear ff
      cases he : ((bs key).toList == (bs k).toList) with
      | true =>
        have HZ := Lib.hid (show R = x by
          rw [bs_eq] at he
          rw [HI.out, if_pos (by simpa using he)])
        go_wp2
        refine gv_ret rfl rfl (bk_put5 (HB.out.on hf.out) _ _ _ _ _) ?_
        rw [HZ.out]
        exact ⟨a5, k5, rfl, HX.out.1, HX.out.2.onw (fuw_put5 (F0.out.trans hf.out) (Nat.le_refl _) _ _ _ _ _), fuw_put5 (F0.out.trans hf.out) (Nat.le_refl _) _ _ _ _ _⟩
      | false =>
        have HZ := Lib.hid (show R = prpV (l.drop (i + 1)) k by
          rw [bs_eq] at he
          rw [HI.out, if_neg (by simpa using he)])
        go_wp2
        go_roundw
        case rel => exact ⟨i + 1, by go_num, by omega, HZ, hf⟩
        case measure => simp [RowKit.intOf]; omega
    · have HZ := Lib.hid (show R = nilV by rw [HQ.out, prp_end _ _ _ (by omega)])
      go_wp2
      refine gv_ret rfl rfl (bk_put5 (HB.out.on hf.out) _ _ _ _ _) ?_
      rw [HZ.out]
      exact ⟨none, 0, rfl, nilV_in, nilV_sl _, fuw_put5 (F0.out.trans hf.out) (Nat.le_refl _) _ _ _ _ _⟩
theorem lhasl_any (n : Nd) (al ap : Option Addr) (cl cp : Nat) (s : List UInt8) (w : World) (hs : SlS w al n.ls cl) :
    Calls Try.prog 14 #[ndv n al ap cl cp, .string (bs s)] w (FwB w (hasS n.ls s)) := by
  have hl := hs.len
  have HC := Lib.hid (fun w' (hf : Fuw w w') => conts_any n.ls al cl s w' (slS_on hf hs))
  clear hs
  unfold ndv
  generalize hasS n.ls s = r at *
  go_enter Try.func14, Try.ntmps14
  go_wp2_with (go_at_call 35; refine (HC.out _ (fuwA _ _)).mono ?_; rintro e1 w1 ⟨rfl, rfl⟩)
  go_ret
  exact ⟨rfl, fuwA _ _⟩
theorem rhasl_any (n : Nd) (al ap : Option Addr) (cl cp : Nat) (s : List UInt8) (w : World) (hs : SlS w al n.ls cl) :
    Calls Try.prog 15 #[ndv n al ap cl cp, .string (bs s)] w (FwB w (hasS n.ls s)) := by
  have hl := hs.len
  have HC := Lib.hid (fun w' (hf : Fuw w w') => rhass_any n.ls al cl s w' (slS_on hf hs))
  clear hs
  unfold ndv
  generalize hasS n.ls s = r at *
  go_enter Try.func15, Try.ntmps15
  go_wp2_with (go_at_call 36; refine (HC.out _ (fuwA _ _)).mono ?_; rintro e1 w1 ⟨rfl, rfl⟩)
  go_ret
  exact ⟨rfl, fuwA _ _⟩
end Go.Proofs.Ytcadeijloobbmaa
