/-
  ChG; ChF; ChH: texts of one kind in one file; each part says what it holds.
-/
import Derived.Test.YtpamdlkagmlahaaGreatDoorChI
import Derived.Test.YtpamdlkagmlahaaGreatDoorK18

namespace Go.Proofs.YtpamdlkagmlahaaGreatDoor
open Go.RowKit
structure Np where
 id : Int
 ls : List (List UInt8)
 vl : Value
 pm : List (Pp × AC)
 vp : Value
structure Ep where
 id : Int
 fr : Int
 tt : Int
 ty : List UInt8
 pm : List (Pp × AC)
 vp : Value
def Np.nd (x : Np) : Nd := ⟨x.id, x.ls, x.pm.map Prod.fst⟩
def Ep.ed (x : Ep) : Ed := ⟨x.id, x.fr, x.tt, x.ty, x.pm.map Prod.fst⟩
def Np.C (x : Np) : List Value := [.int .i64 x.id, x.vl, x.vp]
def Ep.C (x : Ep) : List Value := [.int .i64 x.id, .int .i64 x.fr, .int .i64 x.tt, .string (bs x.ty), x.vp]
def rowL (v : Value) (ls : List (List UInt8)) : Rw := ⟨9, 1, v, ls.length, sC ls⟩
def rowP (v : Value) (pm : List (Pp × AC)) : Rw := ⟨48, 6, v, pm.length, LP.cs pm⟩
def Np.rows (x : Np) : List Rw := [rowL x.vl x.ls, rowP x.vp x.pm]
def Ep.rows (x : Ep) : List Rw := [rowP x.vp x.pm]
def csN (ns : List Np) : List Value := ns.flatMap Np.C
def csE (es : List Ep) : List Value := es.flatMap Ep.C
def rowN (v : Value) (ns : List Np) : Rw := ⟨51, 3, v, ns.length, csN ns⟩
def rowE (v : Value) (es : List Ep) : Rw := ⟨53, 5, v, es.length, csE es⟩
def inR (ns : List Np) (es : List Ep) (xs : List Rw) : List Rw := ns.flatMap Np.rows ++ (es.flatMap Ep.rows ++ xs)
theorem csN_len (ns : List Np) : (csN ns).length = ns.length * 3 := by
 unfold csN
 rw [List.length_flatMap]
 induction ns with
 | nil => rfl
 | cons x r ih => simp only [List.map_cons, List.sum_cons, List.length_cons] at *; rw [ih]; show 3 + _ = _; omega
theorem csE_len (es : List Ep) : (csE es).length = es.length * 5 := by
 unfold csE
 rw [List.length_flatMap]
 induction es with
 | nil => rfl
 | cons x r ih => simp only [List.map_cons, List.sum_cons, List.length_cons] at *; rw [ih]; show 5 + _ = _; omega
theorem csN_get : ∀ (ns : List Np) (i j : Nat) (h : i < ns.length), j < 3 → (csN ns)[i * 3 + j]? = (ns[i].C)[j]?
 | x :: r, 0, j, _, hj => by
  show (x.C ++ csN r)[0 * 3 + j]? = _
  rw [Nat.zero_mul, Nat.zero_add, List.getElem?_append_left (show j < x.C.length from hj)]; rfl
 | x :: r, i + 1, j, h, hj => by
  show (x.C ++ csN r)[(i + 1) * 3 + j]? = _
  have e : (i + 1) * 3 + j = 3 + (i * 3 + j) := by omega
  have e3 : x.C.length = 3 := rfl
  rw [e, List.getElem?_append_right (by rw [e3]; omega), e3, Nat.add_sub_cancel_left, csN_get r i j (by simpa using h) hj]; rfl
theorem csE_get : ∀ (es : List Ep) (i j : Nat) (h : i < es.length), j < 5 → (csE es)[i * 5 + j]? = (es[i].C)[j]?
 | x :: r, 0, j, _, hj => by
  show (x.C ++ csE r)[0 * 5 + j]? = _
  rw [Nat.zero_mul, Nat.zero_add, List.getElem?_append_left (show j < x.C.length from hj)]; rfl
 | x :: r, i + 1, j, h, hj => by
  show (x.C ++ csE r)[(i + 1) * 5 + j]? = _
  have e : (i + 1) * 5 + j = 5 + (i * 5 + j) := by omega
  have e3 : x.C.length = 5 := rfl
  rw [e, List.getElem?_append_right (by rw [e3]; omega), e3, Nat.add_sub_cancel_left, csE_get r i j (by simpa using h) hj]; rfl
def PmOk (w0 : World) (pm : List (Pp × AC)) : Prop := ∀ p ∈ pm, LP.I p.1 ∧ SlV w0 p.2.1 p.1.v.ll p.2.2
structure Np.Ok (w0 : World) (x : Np) : Prop where
 i : I64 x.id
 l : ∀ s ∈ x.ls, s.length ≤ maxLen
 p : PmOk w0 x.pm
structure Ep.Ok (w0 : World) (x : Ep) : Prop where
 i : I64 x.id
 f : I64 x.fr
 t : I64 x.tt
 y : x.ty.length ≤ maxLen
 p : PmOk w0 x.pm
structure Gp where
 vn : Value
 ve : Value
 ns : List Np
 es : List Ep
 nn : Int
 ne : Int
 xs : List Rw
def Gp.gr (G : Gp) : Gr := ⟨G.ns.map Np.nd, G.es.map Ep.ed, G.nn, G.ne⟩
def Gp.rows (G : Gp) : List Rw := rowN G.vn G.ns :: rowE G.ve G.es :: inR G.ns G.es G.xs
structure GOwn (w0 w : World) (base : Nat) (G : Gp) : Prop where
 rows : Rows w base G.rows
 no : ∀ x ∈ G.ns, x.Ok w0
 eo : ∀ x ∈ G.es, x.Ok w0
 i1 : I64 G.nn
 i2 : I64 G.ne
 fu : Fuw w0 w
 lo : w0.heap.size ≤ base
theorem GOwn.later {w0 w w' : World} {base : Nat} {G : Gp} (h : GOwn w0 w base G) (hf : Fuw w w') : GOwn w0 w' base G := ⟨h.rows.later hf, h.no, h.eo, h.i1, h.i2, h.fu.trans hf, h.lo⟩
theorem pm_row {w0 w : World} {base : Nat} {v : Value} {pm : List (Pp × AC)} (h : (rowP v pm).Own w base) (ho : PmOk w0 pm) (hf : Fuw w0 w) : ∃ a c, v = .slice a pm.length c ∧ SlP w a (pm.map Prod.fst) c := by
 obtain ⟨a, c, e, -, hs⟩ := Lay.sl_own (Y := LP) h (fun p hp => (ho p hp).1) (fun p hp => (ho p hp).2.onw hf)
 exact ⟨a, c, e, hs⟩
theorem ls_row {w : World} {base : Nat} {v : Value} {ls : List (List UInt8)} (h : (rowL v ls).Own w base) (hl : ∀ s ∈ ls, s.length ≤ maxLen) : ∃ a c, v = .slice a ls.length c ∧ SlS w a ls c := by
 obtain ⟨a, c, e, -, hs⟩ := slS_of_own h hl
 exact ⟨a, c, e, hs⟩
theorem mem_rowsN {ns : List Np} {es : List Ep} {xs : List Rw} {x : Np} (hx : x ∈ ns) {r : Rw} (hr : r ∈ x.rows) : r ∈ inR ns es xs := List.mem_append.2 (.inl (List.mem_flatMap.2 ⟨x, hx, hr⟩))
theorem mem_rowsE {ns : List Np} {es : List Ep} {xs : List Rw} {x : Ep} (hx : x ∈ es) {r : Rw} (hr : r ∈ x.rows) : r ∈ inR ns es xs := List.mem_append.2 (.inr (List.mem_append.2 (.inl (List.mem_flatMap.2 ⟨x, hx, hr⟩))))
theorem mem_rowsX {ns : List Np} {es : List Ep} {xs : List Rw} {r : Rw} (hr : r ∈ xs) : r ∈ inR ns es xs := List.mem_append.2 (.inr (List.mem_append.2 (.inr hr)))
theorem GOwn.nrow {w0 w : World} {base : Nat} {G : Gp} (h : GOwn w0 w base G) : (rowN G.vn G.ns).Own w base := h.rows.own _ (List.mem_cons_self ..)
theorem GOwn.erow {w0 w : World} {base : Nat} {G : Gp} (h : GOwn w0 w base G) : (rowE G.ve G.es).Own w base := h.rows.own _ (List.mem_cons_of_mem _ (List.mem_cons_self ..))
theorem GOwn.lrow {w0 w : World} {base : Nat} {G : Gp} (h : GOwn w0 w base G) {x : Np} (hx : x ∈ G.ns) : (rowL x.vl x.ls).Own w base := h.rows.own _ (List.mem_cons_of_mem _ (List.mem_cons_of_mem _ (mem_rowsN hx (List.mem_cons_self ..))))
theorem GOwn.prow {w0 w : World} {base : Nat} {G : Gp} (h : GOwn w0 w base G) {x : Np} (hx : x ∈ G.ns) : (rowP x.vp x.pm).Own w base := h.rows.own _ (List.mem_cons_of_mem _ (List.mem_cons_of_mem _ (mem_rowsN hx (List.mem_cons_of_mem _ (List.mem_cons_self ..)))))
theorem GOwn.qrow {w0 w : World} {base : Nat} {G : Gp} (h : GOwn w0 w base G) {x : Ep} (hx : x ∈ G.es) : (rowP x.vp x.pm).Own w base := h.rows.own _ (List.mem_cons_of_mem _ (List.mem_cons_of_mem _ (mem_rowsE hx (List.mem_cons_self ..))))
theorem GOwn.sln {w0 w : World} {base : Nat} {G : Gp} (h : GOwn w0 w base G) : ∃ a c, G.vn = .slice a G.ns.length c ∧ SlN w a (G.ns.map Np.nd) c := by
 have ho := h.nrow
 rcases ho.2 with ⟨e, h0⟩ | ⟨g, cap, cur, e, hb, hh, h1, h2, h3, h4⟩
 ·have e0 : G.ns = [] := List.eq_nil_of_length_eq_zero h0
  have e' : G.vn = .slice none 0 0 := e
  rw [e0]
  exact ⟨none, 0, e', Sl.empty _⟩
 ·have e' : G.vn = .slice (some ⟨g, 0, none⟩) G.ns.length cap := e
  refine ⟨_, cap, e', by rw [List.length_map]; exact h1, h2, (fun k => by cases k), fun _ => ⟨g, 0, rfl, fun i hi => ?_⟩⟩
  rw [List.length_map] at hi
  rw [List.getElem_map]
  have hm : G.ns[i] ∈ G.ns := List.getElem_mem hi
  have ho' : w.ownsRow base 51 3 (.slice (some ⟨g, 0, none⟩) G.ns.length cap) G.ns.length (csN G.ns) := by rw [← e']; exact ho
  have hc : ∀ j, j < 3 → w.cell? ⟨g, 0 + i * 3 + j, none⟩ = (G.ns[i].C)[j]? := fun j hj => by
   have k := ho'.cellAt (i * 3 + j) (by omega)
   rw [csN_get G.ns i j hi hj] at k
   rwa [Nat.zero_add]
  obtain ⟨al, cl, el, sl⟩ := ls_row (h.lrow hm) (h.no _ hm).l
  obtain ⟨ap, cp, ep, sp⟩ := pm_row (h.prow hm) (h.no _ hm).p h.fu
  have k1 := hc 1 (by decide)
  have k2 := hc 2 (by decide)
  have l1 : (G.ns[i].C)[1]? = some (.slice al G.ns[i].ls.length cl) := by rw [← el]; rfl
  have l2 : (G.ns[i].C)[2]? = some (.slice ap (G.ns[i].pm.map Prod.fst).length cp) := by rw [List.length_map, ← ep]; rfl
  exact ⟨(h.no _ hm).i, hc 0 (by decide), ⟨al, cl, k1.trans l1, sl⟩, ap, cp, k2.trans l2, sp⟩
theorem GOwn.sle {w0 w : World} {base : Nat} {G : Gp} (h : GOwn w0 w base G) : ∃ a c, G.ve = .slice a G.es.length c ∧ SlE w a (G.es.map Ep.ed) c := by
 have ho := h.erow
 rcases ho.2 with ⟨e, h0⟩ | ⟨g, cap, cur, e, hb, hh, h1, h2, h3, h4⟩
 ·have e0 : G.es = [] := List.eq_nil_of_length_eq_zero h0
  have e' : G.ve = .slice none 0 0 := e
  rw [e0]
  exact ⟨none, 0, e', Sl.empty _⟩
 ·have e' : G.ve = .slice (some ⟨g, 0, none⟩) G.es.length cap := e
  refine ⟨_, cap, e', by rw [List.length_map]; exact h1, h2, (fun k => by cases k), fun _ => ⟨g, 0, rfl, fun i hi => ?_⟩⟩
  rw [List.length_map] at hi
  rw [List.getElem_map]
  have hm : G.es[i] ∈ G.es := List.getElem_mem hi
  have ho' : w.ownsRow base 53 5 (.slice (some ⟨g, 0, none⟩) G.es.length cap) G.es.length (csE G.es) := by rw [← e']; exact ho
  have hc : ∀ j, j < 5 → w.cell? ⟨g, 0 + i * 5 + j, none⟩ = (G.es[i].C)[j]? := fun j hj => by
   have k := ho'.cellAt (i * 5 + j) (by omega)
   rw [csE_get G.es i j hi hj] at k
   rwa [Nat.zero_add]
  obtain ⟨ap, cp, ep, sp⟩ := pm_row (h.qrow hm) (h.eo _ hm).p h.fu
  have k4 := hc 4 (by decide)
  have l4 : (G.es[i].C)[4]? = some (.slice ap (G.es[i].pm.map Prod.fst).length cp) := by rw [List.length_map, ← ep]; rfl
  exact ⟨(h.eo _ hm).i, (h.eo _ hm).f, (h.eo _ hm).t, (h.eo _ hm).y, hc 0 (by decide), hc 1 (by decide), hc 2 (by decide), hc 3 (by decide), ap, cp, k4.trans l4, sp⟩
theorem GOwn.gin {w0 w : World} {base : Nat} {G : Gp} (h : GOwn w0 w base G) : ∃ an ae cn ce, G.vn = .slice an G.ns.length cn ∧ G.ve = .slice ae G.es.length ce ∧ GIn w G.gr an ae cn ce := by
 obtain ⟨an, cn, e1, s1⟩ := h.sln
 obtain ⟨ae, ce, e2, s2⟩ := h.sle
 exact ⟨an, ae, cn, ce, e1, e2, s1, s2, h.i1, h.i2⟩
theorem posC_map {α : Type} (f : α → Int) (x : Int) : ∀ l : List α, posC (l.map fun n => intc (f n) x) = atI (l.map f) x
 | [] => rfl
 | n :: r => by
  show (if intc (f n) x < 0 then posC (r.map fun n => intc (f n) x) + 1 else 0) = if f n < x then atI (r.map f) x + 1 else 0
  rw [posC_map f x r]
  by_cases h : f n < x
  ·rw [if_pos h, if_pos (by unfold intc; rw [if_pos h]; decide)]
  ·rw [if_neg h, if_neg (by unfold intc; rw [if_neg h]; split <;> decide)]
theorem intc_zero {a b : Int} : intc a b = 0 ↔ a = b := by
 unfold intc
 split
 ·constructor
  ·intro h; cases h
  ·intro h; omega
 ·split
  ·constructor
   ·intro h; cases h
   ·intro h; omega
  ·constructor
   ·intro _; omega
   ·intro _; rfl
theorem intc_nn {a b : Int} : 0 ≤ intc a b ↔ b ≤ a := by
 unfold intc
 split
 ·constructor
  ·intro h; exact absurd h (by decide)
  ·intro h; omega
 ·split
  ·constructor
   ·intro _; omega
   ·intro _; decide
  ·constructor
   ·intro _; omega
   ·intro _; decide
theorem intc_pos {a b : Int} : 0 < intc a b ↔ b < a := by
 unfold intc
 split
 ·constructor
  ·intro h; exact absurd h (by decide)
  ·intro h; omega
 ·split
  ·constructor
   ·intro _; omega
   ·intro _; decide
  ·constructor
   ·intro h; exact absurd h (by decide)
   ·intro _; omega
theorem monC_map {α : Type} (f : α → Int) (x : Int) {l : List α} (h : l.Pairwise fun a b => f a < f b) : MonC (l.map fun n => intc (f n) x) := by
 intro i j hi hj hij hk
 rw [List.length_map] at hi hj
 rw [List.getElem_map] at *
 have := List.pairwise_iff_getElem.1 h i j hi hj hij
 rw [intc_nn] at hk
 rw [intc_pos]
 omega
theorem atI_spec {l : List Int} {x : Int} (h : l.Pairwise (· < ·)) (hx : x ∈ l) : l[atI l x]? = some x := by
 induction l with
 | nil => cases hx
 | cons y r ih =>
  have h' := List.pairwise_cons.1 h
  unfold atI
  by_cases g : y < x
  ·rw [if_pos g]
   rcases List.mem_cons.1 hx with e | e
   ·omega
   ·exact ih h'.2 e
  ·rw [if_neg g]
   rcases List.mem_cons.1 hx with e | e
   ·rw [e]; rfl
   ·have := h'.1 x e; omega
theorem fnd_map {α : Type} (f : α → Int) (x : Int) {l : List α} (h : l.Pairwise fun a b => f a < f b) : fndC (l.map fun n => intc (f n) x) = l.any fun n => f n == x := by
 have hp : (l.map f).Pairwise (· < ·) := List.pairwise_map.2 h
 unfold fndC
 rw [posC_map, List.getElem?_map, Bool.eq_iff_iff, decide_eq_true_iff, List.any_eq_true]
 constructor
 ·intro e
  cases hg : l[atI (l.map f) x]? with
  | none => rw [hg] at e; cases e
  | some n =>
   rw [hg] at e
   have e' : intc (f n) x = 0 := by simpa using e
   exact ⟨n, List.mem_of_getElem? hg, by simpa using intc_zero.1 e'⟩
 ·rintro ⟨n, hn, e⟩
  have e' : f n = x := by simpa using e
  have := atI_spec hp (List.mem_map.2 ⟨n, hn, e'⟩)
  rw [List.getElem?_map] at this
  cases hg : l[atI (l.map f) x]? with
  | none => rw [hg] at this; cases this
  | some m =>
   rw [hg] at this
   have e2 : f m = x := by simpa using this
   simp [e2, intc_self]
end Go.Proofs.YtpamdlkagmlahaaGreatDoor

namespace Go.Proofs.YtpamdlkagmlahaaGreatDoor
open Go.RowKit
structure GBox (w0 w : World) (base B : Nat) (G : Gp) : Prop where
 own : GOwn w0 w base G
 box : Bk w B #[G.vn, G.ve, .int .i64 G.nn, .int .i64 G.ne] 25
 far : B ∉ blks G.rows
 hi : base ≤ B
theorem GBox.later {w0 w w' : World} {base B : Nat} {G : Gp} (h : GBox w0 w base B G) (hf : Fuw w w') : GBox w0 w' base B G := ⟨h.own.later hf, h.box.on hf, h.far, h.hi⟩
def RetFi (w : World) (k : Nat) (b : Bool) (e : Ending) (w' : World) : Prop := e = .returned (.tuple #[.int .i64 (k : Int), .bool b]) ∧ Fuw w w'
set_option maxHeartbeats 1600000 in
set_option maxRecDepth 100000 in
theorem fnode_any {w0 w : World} {base B : Nat} {G : Gp} (h : GBox w0 w base B G) (x : Int) (hp : G.gr.ns.Pairwise fun a b => a.id < b.id) (hn : G.ns.length ≤ 5000) :
  Calls Tryz.prog 107 #[.pointer (some ⟨B, 0, none⟩), .int .i64 x] w (RetFi w (atI (nidsV G.gr.ns) x) (hasN G.gr.ns x)) := by
 obtain ⟨a, c, e, hs⟩ := h.own.sln
 have HC := Lib.hid (show Calls Tryz.prog 155 #[.slice a G.ns.length c, .int .i64 x, .func (.func 156) #[] #[]] w (RetFi w (atI (nidsV G.gr.ns) x) (hasN G.gr.ns x)) from by
  have k := fnn_any (G.ns.map Np.nd) a c x w hs (monC_map _ x hp) (by rw [List.length_map]; exact hn)
  rw [List.length_map] at k
  refine k.mono fun e' w' ⟨h1, h2⟩ => ⟨?_, h2⟩
  rw [h1, posC_map, fnd_map _ x (show (G.ns.map Np.nd).Pairwise (fun a b => a.id < b.id) from hp)]
  rfl)
 have c0 := h.box.c 0
 have c1 := h.box.c 1
 simp only [e] at c0 c1
 generalize atI (nidsV G.gr.ns) x = k at *
 generalize hasN G.gr.ns x = b at *
 clear h hp hs hn e
 go_enter Tryz.func107, Tryz.ntmps107
 go_wp2_with fail
 go_at_call 155; refine HC.out.mono ?_; rintro e1 w1 ⟨rfl, f1⟩
 go_wp2
 go_ret2
 exact ⟨rfl, f1⟩
set_option maxHeartbeats 1600000 in
set_option maxRecDepth 100000 in
theorem fedge_any {w0 w : World} {base B : Nat} {G : Gp} (h : GBox w0 w base B G) (x : Int) (hp : G.gr.es.Pairwise fun a b => a.id < b.id) (hn : G.es.length ≤ 5000) :
  Calls Tryz.prog 109 #[.pointer (some ⟨B, 0, none⟩), .int .i64 x] w (RetFi w (atI (eidsV G.gr.es) x) (hasE G.gr.es x)) := by
 obtain ⟨a, c, e, hs⟩ := h.own.sle
 have HC := Lib.hid (show Calls Tryz.prog 159 #[.slice a G.es.length c, .int .i64 x, .func (.func 160) #[] #[]] w (RetFi w (atI (eidsV G.gr.es) x) (hasE G.gr.es x)) from by
  have k := fne_any (G.es.map Ep.ed) a c x w hs (monC_map _ x hp) (by rw [List.length_map]; exact hn)
  rw [List.length_map] at k
  refine k.mono fun e' w' ⟨h1, h2⟩ => ⟨?_, h2⟩
  rw [h1, posC_map, fnd_map _ x (show (G.es.map Ep.ed).Pairwise (fun a b => a.id < b.id) from hp)]
  rfl)
 have c0 := h.box.c 0
 have c1 := h.box.c 1
 simp only [e] at c0 c1
 generalize atI (eidsV G.gr.es) x = k at *
 generalize hasE G.gr.es x = b at *
 clear h hp hs hn e
 go_enter Tryz.func109, Tryz.ntmps109
 go_wp2_with fail
 go_at_call 159; refine HC.out.mono ?_; rintro e1 w1 ⟨rfl, f1⟩
 go_wp2
 go_ret2
 exact ⟨rfl, f1⟩
set_option maxHeartbeats 1600000 in
theorem hasnode_any {w0 w : World} {base B : Nat} {G : Gp} (h : GBox w0 w base B G) (x : Int) (hp : G.gr.ns.Pairwise fun a b => a.id < b.id) (hn : G.ns.length ≤ 5000) :
  Calls Tryz.prog 110 #[.pointer (some ⟨B, 0, none⟩), .int .i64 x] w (FwB w (hasN G.gr.ns x)) := by
 have HC := Lib.hid (fnode_any h x hp hn)
 clear h hp hn
 generalize hasN G.gr.ns x = b at *
 go_enter Tryz.func110, Tryz.ntmps110
 go_wp2_with fail
 go_at_call 107; refine HC.out.mono ?_; rintro e1 w1 ⟨rfl, f1⟩
 go_wp2
 go_ret
 exact ⟨rfl, f1⟩
set_option maxHeartbeats 1600000 in
theorem used1_any (e : Ed) (ap : Option Addr) (cp : Nat) (x : Int) (B : Nat) (w : World) (c : w.cell? ⟨B, 0, none⟩ = some (.int .i64 x)) :
  Calls Tryz.prog 205 #[edv e ap cp, .pointer (some ⟨B, 0, none⟩)] w (FwB w (e.fr == x || e.to == x)) := by
 unfold edv
 have hB : B < w.heap.size := cell_lt' c
 have fA := Lib.hid (fuwA w (.cells #[.int .i64 e.id, .int .i64 e.fr, .int .i64 e.to, .string (bs e.ty), .slice ap e.ps.length cp] 53))
 by_cases h1 : e.fr = x
 ·have h2 : (e.fr == x) = true := by simpa using h1
  rw [h2]
  clear h1
  go_enter Tryz.func205, Tryz.ntmps205
  go_wp2
  go_ret
  exact ⟨rfl, fA.out⟩
 ·have h2 : (e.fr == x) = false := by simpa using h1
  rw [h2, Bool.false_or]
  clear h1
  go_enter Tryz.func205, Tryz.ntmps205
  go_wp2
  go_ret
  exact ⟨rfl, fA.out⟩
theorem use_take (es : List Ed) (x : Int) (i : Nat) (h : i < es.length) : useV (es.take (i + 1)) x = (useV (es.take i) x || (es[i].fr == x || es[i].to == x)) := by
 unfold useV
 rw [List.take_succ_eq_append_getElem h, List.any_append]
 simp
theorem use_in {es : List Ed} {x : Int} {i : Nat} (h : i < es.length) (k : (es[i].fr == x || es[i].to == x) = true) : useV es x = true := by
 unfold useV
 rw [List.any_eq_true]
 exact ⟨_, List.getElem_mem h, k⟩
set_option maxHeartbeats 3200000 in
set_option maxRecDepth 100000 in
theorem usei_any (es : List Ed) (ao : Option Addr) (cap : Nat) (x : Int) (B : Nat) (w : World) (hs : SlE w ao es cap) (c : w.cell? ⟨B, 0, none⟩ = some (.int .i64 x)) :
  Calls Tryz.prog 221 #[.slice ao es.length cap, .func (.func 205) #[] #[.pointer (some ⟨B, 0, none⟩)]] w (fun e w' => ∃ k : Int, e = .returned (.int .i64 k) ∧ decide (0 ≤ k) = useV es x ∧ Fuw w w') := by
 have hl := hs.len
 have HS := Lib.hid hs
 have HC := Lib.hid c
 clear hs c
 go_enter Tryz.func221, Tryz.ntmps221
 go_wp2
 go_loopw [8] (fun iv wr => ∃ i : Nat, iv = .int .i64 i ∧ i ≤ es.length ∧ Hid (useV (es.take i) x = false) ∧ Hid (Fuw w wr)) (fun iv _ => es.length - (RowKit.intOf iv).toNat)
 case atStart => exact ⟨0, rfl, Nat.zero_le _, rfl, Fuw.refl _⟩
 case round =>
  obtain ⟨i, rfl, hi, HN, hf⟩ := hrel
  by_cases hlt : i < es.length
  ·obtain ⟨b, o, rfl, -, -, -, -, c0, c1, c2, c3, a2, k2, c4, -⟩ := (slE_on hf.out HS.out).get hlt
   have HU := Lib.hid (used1_any es[i] a2 k2 x B wr (cellOnw hf.out HC.out))
   have HT := Lib.hid (use_take es x i hlt)
   have HI := Lib.hid (show (es[i].fr == x || es[i].to == x) = true → useV es x = true from use_in hlt)
   rw [HN.out, Bool.false_or] at HT
   unfold edv at HU
   clear HN
   generalize es[i] = n at *
   generalize (n.fr == x || n.to == x) = q at *
   go_wp2_with fail
   go_at_call 205; refine HU.out.mono ?_; rintro e1 w1 ⟨rfl, f1⟩
   have HF := Lib.hid (hf.out.trans f1)
   clear f1 hf
   cases q with
   | true =>
    have HY := Lib.hid (show decide ((0 : Int) ≤ (i : Int)) = useV es x by rw [HI.out (by first | rfl | trivial)]; exact decide_eq_true (by omega))
    go_wp2
    go_ret
    exact ⟨_, rfl, HY.out, HF.out⟩
   | false =>
    go_wp2
    go_roundw
    case rel => exact ⟨i + 1, by go_num, by omega, HT.out, HF.out⟩
    case measure => simp [RowKit.intOf]; omega
  ·have HY := Lib.hid (show decide ((0 : Int) ≤ -1) = useV es x by
    have := HN.out
    rw [List.take_of_length_le (by omega)] at this
    rw [this]; rfl)
   go_wp2
   go_ret
   exact ⟨-1, rfl, HY.out, hf.out⟩
set_option maxHeartbeats 1600000 in
set_option maxRecDepth 100000 in
theorem used_any {w0 w : World} {base B : Nat} {G : Gp} (h : GBox w0 w base B G) (x : Int) :
  Calls Tryz.prog 170 #[.pointer (some ⟨B, 0, none⟩), .int .i64 x] w (FwB w (useV G.gr.es x)) := by
 obtain ⟨a, c, e, hs⟩ := h.own.sle
 obtain ⟨W, hW⟩ : ∃ W, W = w.alloc (.cells #[.int .i64 x] 3) := ⟨_, rfl⟩
 have fW : Fuw w W := by rw [hW]; exact fuwA _ _
 have bW : Bk W w.heap.size #[.int .i64 x] 3 := by rw [hW]; exact Bk.new _ _ _
 have HI := Lib.hid (show Calls Tryz.prog 221 #[.slice a G.es.length c, .func (.func 205) #[] #[.pointer (some ⟨w.heap.size, 0, none⟩)]] W (fun e w' => ∃ k : Int, e = .returned (.int .i64 k) ∧ decide (0 ≤ k) = useV G.gr.es x ∧ Fuw W w') from by
  have k := usei_any (G.es.map Ep.ed) a c x w.heap.size W (slE_on fW hs) (bW.c 0)
  rw [List.length_map] at k
  exact k)
 have c0 := (h.box.on fW).c 0
 have c1 := (h.box.on fW).c 1
 simp only [e] at c0 c1
 generalize useV G.gr.es x = b at *
 have HWW := Lib.hid hW
 clear hW
 have HCF := Lib.hid (show Calls Tryz.prog 204 #[.slice a G.es.length c, .func (.func 205) #[] #[.pointer (some ⟨w.heap.size, 0, none⟩)]] W (FwB W b) from by
  clear c0 c1 h hs e
  go_enter Tryz.func204, Tryz.ntmps204
  go_wp2_with fail
  go_at_call 221; refine HI.out.mono ?_; rintro e1 w1 ⟨k, rfl, hk, f1⟩
  have HK := Lib.hid hk
  clear hk
  go_wp2
  go_ret
  exact ⟨ret_bool HK.out, f1⟩)
 have FW := Lib.hid fW
 clear h hs e HI bW fW
 go_enter Tryz.func170, Tryz.ntmps170
 go_upto_region 1 with fail
 rw [← HWW.out]
 go_wp2_with fail
 go_at_call 204; refine HCF.out.mono ?_; rintro e1 w1 ⟨rfl, f1⟩
 go_wp2
 go_ret
 exact ⟨rfl, FW.out.trans f1⟩
end Go.Proofs.YtpamdlkagmlahaaGreatDoor

namespace Go.Proofs.YtpamdlkagmlahaaGreatDoor
open Go.RowKit
theorem Rows.far {w : World} {base B j : Nat} {L : List Rw} {u : Value} (h : Rows w base L) (hB : B ∉ blks L) : Rows (w.setCell ⟨B, j, none⟩ u) base L := by
 refine ⟨fun r hr => ?_, h.apart⟩
 refine own_heap (h.own r hr) fun g hg => ?_
 have : B ≠ g := fun e => hB (blks_mem.2 ⟨r, hr, by rw [e]; exact hg⟩)
 exact heap_far this
theorem Rows.drew {w : World} {base : Nat} {L : List Rw} (h : Rows w base L) : Rows w.drew base L := ⟨fun r hr => own_heap (h.own r hr) fun _ _ => rfl, h.apart⟩
theorem Rows.none_ {w : World} {base : Nat} {L : List Rw} (h : Rows w base L) (e : TypeId) (s : Nat) : Rows w base (⟨e, s, .slice none 0 0, 0, []⟩ :: L) :=
 h.more (Fuw.refl w) (World.ownsRow_nil _ _ _ _) (fun k hk => by cases hk)
theorem Rows.sub {w : World} {base : Nat} {L M : List Rw} (h : Rows w base L) (hs : M.Sublist L) : Rows w base M :=
 ⟨fun r hr => h.own r (hs.subset hr), (hs.filterMap _).nodup h.apart⟩
theorem take_mul_app {α : Type} (f : α → List Value) (s : Nat) (hf : ∀ x, (f x).length = s) : ∀ (l : List α) (p : Nat), (l.take p).flatMap f = (l.flatMap f).take (p * s) ∧ (l.drop p).flatMap f = (l.flatMap f).drop (p * s)
 | [], p => by simp
 | x :: r, 0 => by simp
 | x :: r, p + 1 => by
  obtain ⟨h1, h2⟩ := take_mul_app f s hf r p
  have e : (p + 1) * s = (f x).length + p * s := by rw [hf, Nat.add_mul, Nat.one_mul, Nat.add_comm]
  constructor
  ·rw [List.take_succ_cons, List.flatMap_cons, List.flatMap_cons, h1, e, List.take_length_add_append]
  ·rw [List.drop_succ_cons, List.flatMap_cons, h2, e, List.drop_length_add_append]
theorem csN_ins (ns : List Np) (p : Nat) (x : Np) : csN (insA ns p x) = (csN ns).take (p * 3) ++ x.C ++ (csN ns).drop (p * 3) := by
 obtain ⟨h1, h2⟩ := take_mul_app Np.C 3 (fun _ => rfl) ns p
 unfold insA csN
 rw [List.flatMap_append, List.flatMap_cons, h1, h2, List.append_assoc]
theorem csN_del (ns : List Np) (p : Nat) : csN (delA ns p) = (csN ns).take (p * 3) ++ (csN ns).drop ((p + 1) * 3) := by
 unfold delA csN
 rw [List.flatMap_append, (take_mul_app Np.C 3 (fun _ => rfl) ns p).1, (take_mul_app Np.C 3 (fun _ => rfl) ns (p + 1)).2]
theorem csE_ins (es : List Ep) (p : Nat) (x : Ep) : csE (insA es p x) = (csE es).take (p * 5) ++ x.C ++ (csE es).drop (p * 5) := by
 obtain ⟨h1, h2⟩ := take_mul_app Ep.C 5 (fun _ => rfl) es p
 unfold insA csE
 rw [List.flatMap_append, List.flatMap_cons, h1, h2, List.append_assoc]
theorem csE_del (es : List Ep) (p : Nat) : csE (delA es p) = (csE es).take (p * 5) ++ (csE es).drop ((p + 1) * 5) := by
 unfold delA csE
 rw [List.flatMap_append, (take_mul_app Ep.C 5 (fun _ => rfl) es p).1, (take_mul_app Ep.C 5 (fun _ => rfl) es (p + 1)).2]
theorem perm_ins {α : Type} (l : List α) (p : Nat) (x : α) : (insA l p x).Perm (x :: l) := by
 unfold insA
 have h := List.perm_middle (a := x) (l₁ := l.take p) (l₂ := l.drop p)
 rw [List.take_append_drop] at h
 exact h
theorem sub_del {α : Type} (l : List α) (p : Nat) : (delA l p).Sublist l := by
 unfold delA
 have h : (l.take p ++ l.drop (p + 1)).Sublist (l.take p ++ l.drop p) := (List.drop_sublist_drop_left l (Nat.le_succ p)).append_left _
 rwa [List.take_append_drop] at h
theorem inR_insN (ns : List Np) (es : List Ep) (xs : List Rw) (p : Nat) (x : Np) : (x.rows ++ inR ns es xs).Perm (inR (insA ns p x) es xs) := by
 unfold inR
 rw [← List.append_assoc]
 refine List.Perm.append_right _ ?_
 have := ((perm_ins ns p x).flatMap_right Np.rows).symm
 rwa [List.flatMap_cons] at this
theorem inR_insE (ns : List Np) (es : List Ep) (xs : List Rw) (p : Nat) (x : Ep) : (x.rows ++ inR ns es xs).Perm (inR ns (insA es p x) xs) := by
 unfold inR
 refine (List.perm_append_comm_assoc _ _ _).trans ?_
 refine List.Perm.append_left _ ?_
 have := (((perm_ins es p x).flatMap_right Ep.rows).symm).append_right xs
 rwa [List.flatMap_cons, List.append_assoc] at this
theorem one_csN {w0 : World} {ns : List Np} (hl : ∀ x ∈ ns, ∃ a c a' c', x.vl = .slice a x.ls.length c ∧ x.vp = .slice a' x.pm.length c') : ∀ u ∈ csN ns, u.oneCell' = true := by
 have _ := w0
 intro u hu
 obtain ⟨x, hx, hm⟩ := List.mem_flatMap.1 hu
 obtain ⟨a, c, a', c', e1, e2⟩ := hl x hx
 unfold Np.C at hm
 rw [e1, e2] at hm
 simp only [List.mem_cons, List.not_mem_nil, or_false] at hm
 rcases hm with rfl | rfl | rfl <;> rfl
theorem GOwn.oneN {w0 w : World} {base : Nat} {G : Gp} (h : GOwn w0 w base G) : ∀ u ∈ csN G.ns, u.oneCell' = true := one_csN (w0 := w0) fun x hx => by
 obtain ⟨a, c, e, -⟩ := ls_row (h.lrow hx) (h.no _ hx).l
 obtain ⟨a', c', e', -⟩ := pm_row (h.prow hx) (h.no _ hx).p h.fu
 exact ⟨a, c, a', c', e, e'⟩
theorem GOwn.oneE {w0 w : World} {base : Nat} {G : Gp} (h : GOwn w0 w base G) : ∀ u ∈ csE G.es, u.oneCell' = true := by
 intro u hu
 obtain ⟨x, hx, hm⟩ := List.mem_flatMap.1 hu
 obtain ⟨a', c', e', -⟩ := pm_row (h.qrow hx) (h.eo _ hx).p h.fu
 unfold Ep.C at hm
 rw [e'] at hm
 simp only [List.mem_cons, List.not_mem_nil, or_false] at hm
 rcases hm with rfl | rfl | rfl | rfl | rfl <;> rfl
theorem GOwn.far {w0 w : World} {base B j : Nat} {G : Gp} {u : Value} (h : GOwn w0 w base G) (hB : B ∉ blks G.rows) (hb : base ≤ B) : GOwn w0 (w.setCell ⟨B, j, none⟩ u) base G :=
 ⟨h.rows.far hB, h.no, h.eo, h.i1, h.i2, fuwS h.fu (Nat.le_trans h.lo hb), h.lo⟩
theorem GOwn.drew {w0 w : World} {base : Nat} {G : Gp} (h : GOwn w0 w base G) : GOwn w0 w.drew base G := ⟨h.rows.drew, h.no, h.eo, h.i1, h.i2, Fuw.drew h.fu, h.lo⟩
theorem blks_addN {G : Gp} {v' : Value} {p : Nat} {x nn : Int} {k : Nat} (h : k ∈ blks ({ G with vn := v', ns := insA G.ns p ⟨x, [], .slice none 0 0, [], .slice none 0 0⟩, nn := nn } : Gp).rows) : v'.ownBlock = some k ∨ k ∈ blks G.rows := by
 obtain ⟨r, hr, hk⟩ := blks_mem.1 h
 rcases List.mem_cons.1 hr with rfl | hr
 ·exact .inl hk
 ·refine .inr (blks_mem.2 ⟨r, ?_, hk⟩)
  rcases List.mem_cons.1 hr with rfl | hr
  ·exact List.mem_cons_of_mem _ (List.mem_cons_self ..)
  ·have hr' := (inR_insN G.ns G.es G.xs p ⟨x, [], .slice none 0 0, [], .slice none 0 0⟩).mem_iff.2 hr
   rcases List.mem_append.1 hr' with e | e
   ·exfalso
    simp only [Np.rows, List.mem_cons, List.not_mem_nil, or_false] at e
    rcases e with rfl | rfl <;> cases hk
   ·exact List.mem_cons_of_mem _ (List.mem_cons_of_mem _ e)
theorem GOwn.addN {w0 w w' : World} {base : Nat} {G : Gp} (h : GOwn w0 w base G) {v' : Value} {p : Nat} {x : Int} (hx : I64 x) (hp : p ≤ G.ns.length) (nn : Int) (hnn : I64 nn)
  (ho : w'.ownsRow base 51 3 v' (G.ns.length + 1) ((csN G.ns).take (p * 3) ++ [.int .i64 x, .slice none 0 0, .slice none 0 0] ++ (csN G.ns).drop (p * 3)))
  (hg : w.grownBy w' G.vn.ownBlock) (hat : v'.ownBlock = G.vn.ownBlock ∨ ∀ k, v'.ownBlock = some k → w.heap.size ≤ k) (hf : Fuw w0 w') :
  GOwn w0 w' base { G with vn := v', ns := insA G.ns p ⟨x, [], .slice none 0 0, [], .slice none 0 0⟩, nn := nn } := by
 have _ := hp
 refine ⟨?_, fun y hy => ?_, h.eo, hnn, h.i2, hf, h.lo⟩
 ·have e : rowN v' (insA G.ns p ⟨x, [], .slice none 0 0, [], .slice none 0 0⟩) = ⟨51, 3, v', G.ns.length + 1, (csN G.ns).take (p * 3) ++ [.int .i64 x, .slice none 0 0, .slice none 0 0] ++ (csN G.ns).drop (p * 3)⟩ := by
   unfold rowN
   rw [csN_ins, insA_len]
   rfl
  have h1 : Rows w' base (rowN v' (insA G.ns p ⟨x, [], .slice none 0 0, [], .slice none 0 0⟩) :: rowE G.ve G.es :: inR G.ns G.es G.xs) := by
   rw [e]
   exact Rows.turn h.rows hg ho hat
  have h2 := (h1.none_ 48 6).none_ 9 1
  refine h2.perm ?_
  show (_ :: _ :: rowN v' _ :: rowE G.ve G.es :: inR G.ns G.es G.xs).Perm (rowN v' _ :: rowE G.ve G.es :: inR (insA G.ns p ⟨x, [], .slice none 0 0, [], .slice none 0 0⟩) G.es G.xs)
  have k := inR_insN G.ns G.es G.xs p ⟨x, [], .slice none 0 0, [], .slice none 0 0⟩
  refine List.Perm.trans ?_ ((k.cons _).cons _)
  show ([_, _] ++ ([_, _] ++ inR G.ns G.es G.xs)).Perm ([_, _] ++ ([_, _] ++ inR G.ns G.es G.xs))
  exact List.perm_append_comm_assoc _ _ _
 ·rcases insA_mem.1 hy with rfl | hy
  ·exact ⟨hx, (fun s hs => by cases hs), (fun q hq => by cases hq)⟩
  ·exact h.no y hy
end Go.Proofs.YtpamdlkagmlahaaGreatDoor
