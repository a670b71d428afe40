/-
  Package graph and its reference: Node and Edge, the first with an id. What was there does not turn.
-/
import Derived.Test.YtcadeijloobbmaaGreatGrR
namespace Go.Proofs.YtcadeijloobbmaaGreat
open Go.RowKit

/-- The node, the edge that stands for none. -/
def nilN : Nd := ⟨0, [], []⟩
def nilE : Ed := ⟨0, 0, 0, [], []⟩
def NdIn (w : World) (n : Nd) (al ap : Option Addr) (cl cp : Nat) : Prop := I64 n.id ∧ SlS w al n.ls cl ∧ SlP w ap n.ps cp
def EdIn (w : World) (e : Ed) (ap : Option Addr) (cp : Nat) : Prop := I64 e.id ∧ I64 e.fr ∧ I64 e.to ∧ e.ty.length ≤ maxLen ∧ SlP w ap e.ps cp
theorem NdIn.on {w w' : World} {n : Nd} {al ap : Option Addr} {cl cp : Nat} (h : NdIn w n al ap cl cp) (hf : Fuw w w') : NdIn w' n al ap cl cp := ⟨h.1, slS_on hf h.2.1, slP_on hf h.2.2⟩
theorem EdIn.on {w w' : World} {e : Ed} {ap : Option Addr} {cp : Nat} (h : EdIn w e ap cp) (hf : Fuw w w') : EdIn w' e ap cp := ⟨h.1, h.2.1, h.2.2.1, h.2.2.2.1, slP_on hf h.2.2.2.2⟩
theorem i0 : I64 0 := ⟨by decide, by decide⟩
theorem nilN_in (w : World) : NdIn w nilN none none 0 0 := ⟨i0, Sl.empty _, Sl.empty _⟩
theorem nilE_in (w : World) : EdIn w nilE none 0 := ⟨i0, i0, i0, Nat.zero_le _, Sl.empty _⟩
def RetN (w : World) (V : Option Nd) (x : Ending) (w' : World) : Prop := ∃ al ap cl cp, x = .returned (.tuple #[ndv (V.getD nilN) al ap cl cp, .bool V.isSome]) ∧ NdIn w' (V.getD nilN) al ap cl cp ∧ Fuw w w'
def RetE (w : World) (V : Option Ed) (x : Ending) (w' : World) : Prop := ∃ ap cp, x = .returned (.tuple #[edv (V.getD nilE) ap cp, .bool V.isSome]) ∧ EdIn w' (V.getD nilE) ap cp ∧ Fuw w w'
theorem load_nd (w : World) (b : Nat) (x : Int) (al ap : Option Addr) (nl np cl cp : Nat) (h0 : w.cell? ⟨b, 0, none⟩ = some (.int .i64 x)) (h1 : w.cell? ⟨b, 1, none⟩ = some (.slice al nl cl)) (h2 : w.cell? ⟨b, 2, none⟩ = some (.slice ap np cp)) :
    (loadVar 38 ⟨b, 0, none⟩).run Tryz.prog w = .ok (.agg #[.int .i64 x, .slice al nl cl, .slice ap np cp]) w := by
  go_simp
theorem load_ed (w : World) (b : Nat) (x y z : Int) (s : ByteArray) (ap : Option Addr) (np cp : Nat) (h0 : w.cell? ⟨b, 0, none⟩ = some (.int .i64 x)) (h1 : w.cell? ⟨b, 1, none⟩ = some (.int .i64 y)) (h2 : w.cell? ⟨b, 2, none⟩ = some (.int .i64 z)) (h3 : w.cell? ⟨b, 3, none⟩ = some (.string s)) (h4 : w.cell? ⟨b, 4, none⟩ = some (.slice ap np cp)) :
    (loadVar 40 ⟨b, 0, none⟩).run Tryz.prog w = .ok (.agg #[.int .i64 x, .int .i64 y, .int .i64 z, .string s, .slice ap np cp]) w := by
  go_simp
theorem n_ret {fn : Func} {p u : Tmp} (hres : fn.results = #[.cell p 38, .tmp u]) {tmps : Array Value} {B : Nat} {x : Int} {al ap : Option Addr} {nl np cl cp : Nat} {c : Bool} {w : World} {t : TypeId} {Q : Ending → World → Prop}
    (hp : tmps.getD p undef = .pointer (some ⟨B, 0, none⟩)) (hu : tmps.getD u undef = .bool c) (h : Bk w B #[.int .i64 x, .slice al nl cl, .slice ap np cp] t)
    (hQ : Q (.returned (.tuple #[.agg #[.int .i64 x, .slice al nl cl, .slice ap np cp], .bool c])) w) : bodyPost Tryz.prog fn Q Exit.ret { tmps := tmps, defers := [] } w := by
  refine bodyPost_ret (v := .tuple #[.agg #[.int .i64 x, .slice al nl cl, .slice ap np cp], .bool c]) ?_ rfl hQ
  rw [results_cell_tmp hres, hp, hu]
  have e : (asAddr (.pointer (some ⟨B, 0, none⟩))).run Tryz.prog w = .ok ⟨B, 0, none⟩ w := by go_simp
  rw [e]
  simp only [Result.andThen]
  rw [load_nd w B x al ap nl np cl cp (h.c 0) (h.c 1) (h.c 2)]
theorem e_ret {fn : Func} {p u : Tmp} (hres : fn.results = #[.cell p 40, .tmp u]) {tmps : Array Value} {B : Nat} {x y z : Int} {s : ByteArray} {ap : Option Addr} {np cp : Nat} {c : Bool} {w : World} {t : TypeId} {Q : Ending → World → Prop}
    (hp : tmps.getD p undef = .pointer (some ⟨B, 0, none⟩)) (hu : tmps.getD u undef = .bool c) (h : Bk w B #[.int .i64 x, .int .i64 y, .int .i64 z, .string s, .slice ap np cp] t)
    (hQ : Q (.returned (.tuple #[.agg #[.int .i64 x, .int .i64 y, .int .i64 z, .string s, .slice ap np cp], .bool c])) w) : bodyPost Tryz.prog fn Q Exit.ret { tmps := tmps, defers := [] } w := by
  refine bodyPost_ret (v := .tuple #[.agg #[.int .i64 x, .int .i64 y, .int .i64 z, .string s, .slice ap np cp], .bool c]) ?_ rfl hQ
  rw [results_cell_tmp hres, hp, hu]
  have e : (asAddr (.pointer (some ⟨B, 0, none⟩))).run Tryz.prog w = .ok ⟨B, 0, none⟩ w := by go_simp
  rw [e]
  simp only [Result.andThen]
  rw [load_ed w B x y z s ap np cp (h.c 0) (h.c 1) (h.c 2) (h.c 3) (h.c 4)]
theorem nod_drop (l : List Nd) (x : Int) (i : Nat) (h : i < l.length) : nodV (l.drop i) x = if l[i].id = x then some l[i] else nodV (l.drop (i + 1)) x := by
  unfold nodV
  rw [List.drop_eq_getElem_cons h, List.find?_cons]
  by_cases e : l[i].id = x
  · simp [e]
  · rw [if_neg e, beq_eq_false_iff_ne.2 e]
theorem edg_drop (l : List Ed) (x : Int) (i : Nat) (h : i < l.length) : edgV (l.drop i) x = if l[i].id = x then some l[i] else edgV (l.drop (i + 1)) x := by
  unfold edgV
  rw [List.drop_eq_getElem_cons h, List.find?_cons]
  by_cases e : l[i].id = x
  · simp [e]
  · rw [if_neg e, beq_eq_false_iff_ne.2 e]
theorem nod_end (l : List Nd) (x : Int) (i : Nat) (h : l.length ≤ i) : nodV (l.drop i) x = none := by rw [List.drop_of_length_le h]; rfl
theorem edg_end (l : List Ed) (x : Int) (i : Nat) (h : l.length ≤ i) : edgV (l.drop i) x = none := by rw [List.drop_of_length_le h]; rfl
/-- Three, five stores. -/
theorem bk_put3 {w : World} {B : Nat} {a0 a1 a2 : Value} {t : TypeId} (h : Bk w B #[a0, a1, a2] t) (b0 b1 b2 : Value) : Bk (((w.setCell ⟨B, 0, none⟩ b0).setCell ⟨B, 1, none⟩ b1).setCell ⟨B, 2, none⟩ b2) B #[b0, b1, b2] t :=
  ((h.set_ 0 b0).set_ 1 b1).set_ 2 b2
theorem bk_put5 {w : World} {B : Nat} {a0 a1 a2 a3 a4 : Value} {t : TypeId} (h : Bk w B #[a0, a1, a2, a3, a4] t) (b0 b1 b2 b3 b4 : Value) : Bk (((((w.setCell ⟨B, 0, none⟩ b0).setCell ⟨B, 1, none⟩ b1).setCell ⟨B, 2, none⟩ b2).setCell ⟨B, 3, none⟩ b3).setCell ⟨B, 4, none⟩ b4) B #[b0, b1, b2, b3, b4] t :=
  ((((h.set_ 0 b0).set_ 1 b1).set_ 2 b2).set_ 3 b3).set_ 4 b4
theorem fuw_put3 {w W : World} {B : Nat} (hf : Fuw w W) (hB : w.heap.size ≤ B) (b0 b1 b2 : Value) : Fuw w (((W.setCell ⟨B, 0, none⟩ b0).setCell ⟨B, 1, none⟩ b1).setCell ⟨B, 2, none⟩ b2) := fuwS (fuwS (fuwS hf hB) hB) hB
theorem fuw_put5 {w W : World} {B : Nat} (hf : Fuw w W) (hB : w.heap.size ≤ B) (b0 b1 b2 b3 b4 : Value) : Fuw w (((((W.setCell ⟨B, 0, none⟩ b0).setCell ⟨B, 1, none⟩ b1).setCell ⟨B, 2, none⟩ b2).setCell ⟨B, 3, none⟩ b3).setCell ⟨B, 4, none⟩ b4) := fuwS (fuwS (fuwS (fuwS (fuwS hf hB) hB) hB) hB) hB
set_option maxHeartbeats 3200000 in
set_option maxRecDepth 100000 in
theorem rnode_any (g : Gr) (an ae : Option Addr) (cn ce : Nat) (id : Int) (w : World) (hg : GIn w g an ae cn ce) :
    Calls Tryz.prog 46 #[grv g an ae cn ce, .int .i64 id] w (RetN w (nodV g.ns id)) := by
  have hb0 := (GB.new w g an ae cn ce).on (fuwA _ (.cells #[.int .i64 0, .slice none 0 0, .slice none 0 0] 38))
  have p0 := bk2 w (.cells #[.slice an g.ns.length cn, .slice ae g.es.length ce, .int .i64 g.nn, .int .i64 g.ne] 25) #[.int .i64 0, .slice none 0 0, .slice none 0 0] 38
  have f0 := (fuwA w (.cells #[.slice an g.ns.length cn, .slice ae g.es.length ce, .int .i64 g.nn, .int .i64 g.ne] 25)).trans (fuwA _ (.cells #[.int .i64 0, .slice none 0 0, .slice none 0 0] 38))
  have l1 := hg.n.len
  obtain ⟨R, hR⟩ : ∃ R, R = nodV g.ns id := ⟨_, rfl⟩
  rw [← hR]
  have HR := Lib.hid (show R = nodV (g.ns.drop 0) id from hR)
  clear hR
  unfold grv
  obtain ⟨w0, hw0⟩ : ∃ w0, w0 = (w.alloc (.cells #[.slice an g.ns.length cn, .slice ae g.es.length ce, .int .i64 g.nn, .int .i64 g.ne] 25)).alloc (.cells #[.int .i64 0, .slice none 0 0, .slice none 0 0] 38) := ⟨_, rfl⟩
  rw [← hw0] at f0 hb0 p0
  have HW0 := Lib.hid hw0
  have F0 := Lib.hid f0
  have HG := Lib.hid hb0
  have HB := Lib.hid p0
  have HN := Lib.hid hg.n
  clear hw0 f0 hb0 p0 hg
  go_enter Tryz.func46, Tryz.ntmps46
  go_upto_region 1 with fail
  rw [← HW0.out]
  have q0 := HG.out.c0; have q1 := HG.out.c1; have q2 := HG.out.c2; have q3 := HG.out.c3
  go_wp2
  clear q0 q1 q2 q3
  go_loopw [6] (fun iv wr => ∃ i : Nat, iv = .int .i64 i ∧ i ≤ g.ns.length ∧ Hid (R = nodV (g.ns.drop i) id) ∧ Hid (Fuw w0 wr)) (fun iv _ => g.ns.length - (RowKit.intOf iv).toNat)
  case atStart => exact ⟨0, rfl, Nat.zero_le _, HR, Fuw.refl _⟩
  case round =>
    obtain ⟨i, rfl, hi, HQ, hf⟩ := hrel
    clear HR
    have q0 := (HG.out.on hf.out).c0; have q1 := (HG.out.on hf.out).c1
    by_cases hlt : i < g.ns.length
    · obtain ⟨b, o, rfl, i1, c0, ⟨al, cl, c1, hsl⟩, ap, cp, c2, hsp⟩ := HN.out.get hlt
      replace c0 := cellOnw (F0.out.trans hf.out) c0
      replace c1 := cellOnw (F0.out.trans hf.out) c1
      replace c2 := cellOnw (F0.out.trans hf.out) c2
      have HI := Lib.hid (HQ.out.trans (nod_drop g.ns id i hlt))
      generalize g.ns[i] = x at *
      have HX := Lib.hid (show NdIn w x al ap cl cp from ⟨i1, hsl, hsp⟩)
      clear hsl hsp i1
      by_cases he : x.id = id
      · have HZ := Lib.hid (show R = some x by rw [HI.out, if_pos he])
        have he1 : (x.id == id) = true := by simp [he]
        have HE := Lib.hid he
        clear he
        have hfW : Fuw wr wr := Fuw.refl _
        have z0 := (HB.out.on (hf.out.trans hfW)).c 0
        have y0 := (HB.out.on (hf.out.trans hfW)).f 0
        have z1 := (HB.out.on (hf.out.trans hfW)).c 1
        have y1 := (HB.out.on (hf.out.trans hfW)).f 1
        have z2 := (HB.out.on (hf.out.trans hfW)).c 2
        have y2 := (HB.out.on (hf.out.trans hfW)).f 2
        have HF := Lib.hid hfW
        clear hfW
        go_wp2
        refine n_ret rfl rfl rfl (bk_put3 (HB.out.on (hf.out.trans HF.out)) _ _ _) ?_
        rw [HZ.out]
        exact ⟨al, ap, cl, cp, rfl, HX.out.on (fuw_put3 (F0.out.trans (hf.out.trans HF.out)) (show w.heap.size ≤ w.heap.size + 1 by omega) _ _ _), fuw_put3 (F0.out.trans (hf.out.trans HF.out)) (show w.heap.size ≤ w.heap.size + 1 by omega) _ _ _⟩
      · have HZ := Lib.hid (show R = nodV (g.ns.drop (i + 1)) id by rw [HI.out, if_neg he])
        have he1 : (x.id == id) = false := beq_eq_false_iff_ne.2 he
        go_wp2
        go_roundw
        case rel => exact ⟨i + 1, by go_num, by omega, HZ, hf⟩
        case measure => simp [RowKit.intOf]; omega
    · have HZ := Lib.hid (show R = none by rw [HQ.out, nod_end _ _ _ (by omega)])
      have z0 := (HB.out.on hf.out).c 0
      have y0 := (HB.out.on hf.out).f 0
      have z1 := (HB.out.on hf.out).c 1
      have y1 := (HB.out.on hf.out).f 1
      have z2 := (HB.out.on hf.out).c 2
      have y2 := (HB.out.on hf.out).f 2
      go_wp2
      refine n_ret rfl rfl rfl (bk_put3 (HB.out.on hf.out) _ _ _) ?_
      rw [HZ.out]
      exact ⟨none, none, 0, 0, rfl, nilN_in _, fuw_put3 (F0.out.trans hf.out) (show w.heap.size ≤ w.heap.size + 1 by omega) _ _ _⟩
end Go.Proofs.YtcadeijloobbmaaGreat
