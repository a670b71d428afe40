/-
  GtC; GtM: texts of one kind in one file; each part says what it holds.
-/
import Derived.Test.YtkcmakfmeioakaaGreatM28
import Derived.Test.YtkcmakfmeioakaaGreatM33

/-! Package graph: whether two nodes, two edges, two graphs are equal. Nothing that was there turns. -/
namespace Go.Proofs.YtkcmakfmeioakaaGreat
open Go.RowKit

set_option maxHeartbeats 3200000 in
set_option maxRecDepth 100000 in
theorem lsn_any (n m : Nd) (a1 a2 b1 b2 : Option Addr) (k1 k2 j1 j2 : Nat) (w : World) (hs : SlS w a1 n.ls k1) (hp : SlP w a2 n.ps k2) (ht : SlS w b1 m.ls j1) (hq : SlP w b2 m.ps j2) :
    Calls Tryz.prog 18 #[.agg #[.int .i64 n.id, .slice a1 n.ls.length k1, .slice a2 n.ps.length k2], .agg #[.int .i64 m.id, .slice b1 m.ls.length j1, .slice b2 m.ps.length j2]] w (FwB w (samN n m)) := by
  have p0 : Bk ((w.alloc (.cells #[.int .i64 n.id, .slice a1 n.ls.length k1, .slice a2 n.ps.length k2] 33)).alloc (.cells #[.int .i64 m.id, .slice b1 m.ls.length j1, .slice b2 m.ps.length j2] 33)) w.heap.size #[.int .i64 n.id, .slice a1 n.ls.length k1, .slice a2 n.ps.length k2] 33 := (Bk.new w _ _).on (fuwA _ _)
  have p1 : Bk ((w.alloc (.cells #[.int .i64 n.id, .slice a1 n.ls.length k1, .slice a2 n.ps.length k2] 33)).alloc (.cells #[.int .i64 m.id, .slice b1 m.ls.length j1, .slice b2 m.ps.length j2] 33)) (w.heap.size + 1) #[.int .i64 m.id, .slice b1 m.ls.length j1, .slice b2 m.ps.length j2] 33 := bkw2 _ _ _ _
  have f0 : Fuw w ((w.alloc (.cells #[.int .i64 n.id, .slice a1 n.ls.length k1, .slice a2 n.ps.length k2] 33)).alloc (.cells #[.int .i64 m.id, .slice b1 m.ls.length j1, .slice b2 m.ps.length j2] 33)) := (fuwA w _).trans (fuwA _ _)
  have HR := Lib.hid (show samN n m = ((n.id == m.id) && (al2 (fun x y => x == y) n.ls m.ls && al2 samP n.ps m.ps)) from rfl)
  have HC := Lib.hid (fun w' (hf : Fuw w w') => lseq_any n.ls m.ls a1 b1 k1 j1 w' (slS_on hf hs) (slS_on hf ht))
  have HD := Lib.hid (fun w' (hf : Fuw w w') => lsps_any n.ps m.ps a2 b2 k2 j2 w' (slP_on hf hp) (slP_on hf hq))
  clear hs hp ht hq
  obtain ⟨R, hR⟩ : ∃ R, R = samN n m := ⟨_, rfl⟩
  rw [← hR] at HR ⊢
  clear hR
  obtain ⟨W, hW⟩ : ∃ W, ((w.alloc (.cells #[.int .i64 n.id, .slice a1 n.ls.length k1, .slice a2 n.ps.length k2] 33)).alloc (.cells #[.int .i64 m.id, .slice b1 m.ls.length j1, .slice b2 m.ps.length j2] 33)) = W := ⟨_, rfl⟩
  rw [hW] at p0 p1 f0
  generalize al2 (fun x y => x == y) n.ls m.ls = r0 at *
  generalize al2 samP n.ps m.ps = r1 at *
  go_enter Tryz.func18, Tryz.ntmps18
  go_upto_region 1 with fail
  clear hW
  have c0 : W.cell? ⟨w.heap.size, 0, none⟩ = some (.int .i64 n.id) := p0.c 0
  have d0 : W.cell? ⟨w.heap.size + 1, 0, none⟩ = some (.int .i64 m.id) := p1.c 0
  have c1 : W.cell? ⟨w.heap.size, 1, none⟩ = some (.slice a1 n.ls.length k1) := p0.c 1
  have d1 : W.cell? ⟨w.heap.size + 1, 1, none⟩ = some (.slice b1 m.ls.length j1) := p1.c 1
  have c2 : W.cell? ⟨w.heap.size, 2, none⟩ = some (.slice a2 n.ps.length k2) := p0.c 2
  have d2 : W.cell? ⟨w.heap.size + 1, 2, none⟩ = some (.slice b2 m.ps.length j2) := p1.c 2
  have F0 := Lib.hid f0
  clear p0 p1 f0
  cases h0 : (n.id == m.id) with
  | false =>
    have HZ := Lib.hid (show R = false by
      try rw [bs_eq] at h0
      rw [HR.out, h0]; rfl)
    go_wp2
    go_ret
    exact ⟨ret_bool HZ.out.symm, F0.out⟩
  | true =>
    have HE := Lib.hid (show R = (r0 && r1) by
      try rw [bs_eq] at h0
      rw [HR.out, h0]; rfl)
    go_wp2_with fail
    go_at_call 33; refine (HC.out _ F0.out).mono ?_; rintro e0 w0 ⟨rfl, f0⟩
    have G0 := Lib.hid (F0.out.trans f0)
    replace c0 := cellOnw f0 c0
    replace d0 := cellOnw f0 d0
    replace c1 := cellOnw f0 c1
    replace d1 := cellOnw f0 d1
    replace c2 := cellOnw f0 c2
    replace d2 := cellOnw f0 d2
    clear f0
    cases r0 with
    | false =>
      have HZ := Lib.hid (show R = false from HE.out)
      go_wp2
      go_ret
      exact ⟨ret_bool HZ.out.symm, G0.out⟩
    | true =>
      replace HE := Lib.hid (show R = r1 from HE.out)
      go_wp2_with fail
      go_at_call 34; refine (HD.out _ G0.out).mono ?_; rintro e1 w1 ⟨rfl, f1⟩
      have G1 := Lib.hid (G0.out.trans f1)
      clear f1
      go_wp2
      go_ret
      exact ⟨ret_bool HE.out.symm, G1.out⟩
set_option maxHeartbeats 3200000 in
set_option maxRecDepth 100000 in
theorem lsed_any (n m : Ed) (a2 b2 : Option Addr) (k2 j2 : Nat) (w : World) (hp : SlP w a2 n.ps k2) (hq : SlP w b2 m.ps j2) :
    Calls Tryz.prog 20 #[.agg #[.int .i64 n.id, .int .i64 n.fr, .int .i64 n.to, .string (bs n.ty), .slice a2 n.ps.length k2], .agg #[.int .i64 m.id, .int .i64 m.fr, .int .i64 m.to, .string (bs m.ty), .slice b2 m.ps.length j2]] w (FwB w (samE n m)) := by
  have p0 : Bk ((w.alloc (.cells #[.int .i64 n.id, .int .i64 n.fr, .int .i64 n.to, .string (bs n.ty), .slice a2 n.ps.length k2] 35)).alloc (.cells #[.int .i64 m.id, .int .i64 m.fr, .int .i64 m.to, .string (bs m.ty), .slice b2 m.ps.length j2] 35)) w.heap.size #[.int .i64 n.id, .int .i64 n.fr, .int .i64 n.to, .string (bs n.ty), .slice a2 n.ps.length k2] 35 := (Bk.new w _ _).on (fuwA _ _)
  have p1 : Bk ((w.alloc (.cells #[.int .i64 n.id, .int .i64 n.fr, .int .i64 n.to, .string (bs n.ty), .slice a2 n.ps.length k2] 35)).alloc (.cells #[.int .i64 m.id, .int .i64 m.fr, .int .i64 m.to, .string (bs m.ty), .slice b2 m.ps.length j2] 35)) (w.heap.size + 1) #[.int .i64 m.id, .int .i64 m.fr, .int .i64 m.to, .string (bs m.ty), .slice b2 m.ps.length j2] 35 := bkw2 _ _ _ _
  have f0 : Fuw w ((w.alloc (.cells #[.int .i64 n.id, .int .i64 n.fr, .int .i64 n.to, .string (bs n.ty), .slice a2 n.ps.length k2] 35)).alloc (.cells #[.int .i64 m.id, .int .i64 m.fr, .int .i64 m.to, .string (bs m.ty), .slice b2 m.ps.length j2] 35)) := (fuwA w _).trans (fuwA _ _)
  have HR := Lib.hid (show samE n m = ((n.id == m.id) && ((n.fr == m.fr) && ((n.to == m.to) && ((n.ty == m.ty) && al2 samP n.ps m.ps)))) from rfl)
  have HD := Lib.hid (fun w' (hf : Fuw w w') => lsps_any n.ps m.ps a2 b2 k2 j2 w' (slP_on hf hp) (slP_on hf hq))
  clear hp hq
  obtain ⟨R, hR⟩ : ∃ R, R = samE n m := ⟨_, rfl⟩
  rw [← hR] at HR ⊢
  clear hR
  obtain ⟨W, hW⟩ : ∃ W, ((w.alloc (.cells #[.int .i64 n.id, .int .i64 n.fr, .int .i64 n.to, .string (bs n.ty), .slice a2 n.ps.length k2] 35)).alloc (.cells #[.int .i64 m.id, .int .i64 m.fr, .int .i64 m.to, .string (bs m.ty), .slice b2 m.ps.length j2] 35)) = W := ⟨_, rfl⟩
  rw [hW] at p0 p1 f0
  generalize al2 samP n.ps m.ps = r0 at *
  go_enter Tryz.func20, Tryz.ntmps20
  go_upto_region 1 with fail
  clear hW
  have c0 : W.cell? ⟨w.heap.size, 0, none⟩ = some (.int .i64 n.id) := p0.c 0
  have d0 : W.cell? ⟨w.heap.size + 1, 0, none⟩ = some (.int .i64 m.id) := p1.c 0
  have c1 : W.cell? ⟨w.heap.size, 1, none⟩ = some (.int .i64 n.fr) := p0.c 1
  have d1 : W.cell? ⟨w.heap.size + 1, 1, none⟩ = some (.int .i64 m.fr) := p1.c 1
  have c2 : W.cell? ⟨w.heap.size, 2, none⟩ = some (.int .i64 n.to) := p0.c 2
  have d2 : W.cell? ⟨w.heap.size + 1, 2, none⟩ = some (.int .i64 m.to) := p1.c 2
  have c3 : W.cell? ⟨w.heap.size, 3, none⟩ = some (.string (bs n.ty)) := p0.c 3
  have d3 : W.cell? ⟨w.heap.size + 1, 3, none⟩ = some (.string (bs m.ty)) := p1.c 3
  have c4 : W.cell? ⟨w.heap.size, 4, none⟩ = some (.slice a2 n.ps.length k2) := p0.c 4
  have d4 : W.cell? ⟨w.heap.size + 1, 4, none⟩ = some (.slice b2 m.ps.length j2) := p1.c 4
  have F0 := Lib.hid f0
  clear p0 p1 f0
  cases h0 : (n.id == m.id) with
  | false =>
    have HZ := Lib.hid (show R = false by
      try rw [bs_eq] at h0
      rw [HR.out, h0]; rfl)
    go_wp2
    go_ret
    exact ⟨ret_bool HZ.out.symm, F0.out⟩
  | true =>
    cases h1 : (n.fr == m.fr) with
    | false =>
      have HZ := Lib.hid (show R = false by
        try rw [bs_eq] at h0
        try rw [bs_eq] at h1
        rw [HR.out, h0, h1]; rfl)
      go_wp2
      go_ret
      exact ⟨ret_bool HZ.out.symm, F0.out⟩
    | true =>
      cases h2 : (n.to == m.to) with
      | false =>
        have HZ := Lib.hid (show R = false by
          try rw [bs_eq] at h0
          try rw [bs_eq] at h1
          try rw [bs_eq] at h2
          rw [HR.out, h0, h1, h2]; rfl)
        go_wp2
        go_ret
        exact ⟨ret_bool HZ.out.symm, F0.out⟩
      | true =>
        cases h3 : ((bs n.ty).toList == (bs m.ty).toList) with
        | false =>
          have HZ := Lib.hid (show R = false by
            try rw [bs_eq] at h0
            try rw [bs_eq] at h1
            try rw [bs_eq] at h2
            try rw [bs_eq] at h3
            rw [HR.out, h0, h1, h2, h3]; rfl)
          go_wp2
          go_ret
          exact ⟨ret_bool HZ.out.symm, F0.out⟩
        | true =>
          have HE := Lib.hid (show R = r0 by
            try rw [bs_eq] at h0
            try rw [bs_eq] at h1
            try rw [bs_eq] at h2
            try rw [bs_eq] at h3
            rw [HR.out, h0, h1, h2, h3]; rfl)
          go_wp2_with fail
          go_at_call 34; refine (HD.out _ F0.out).mono ?_; rintro e0 w0 ⟨rfl, f0⟩
          have G0 := Lib.hid (F0.out.trans f0)
          clear f0
          go_wp2
          go_ret
          exact ⟨ret_bool HE.out.symm, G0.out⟩
/-- A node's cells. -/
def QN (w : World) (n : Nd) (u : List Value) : Prop := ∃ a1 a2 k1 k2, u = [.int .i64 n.id, .slice a1 n.ls.length k1, .slice a2 n.ps.length k2] ∧ SlS w a1 n.ls k1 ∧ SlP w a2 n.ps k2
theorem qn_of {w : World} (x : Nd) (b o : Nat) (h : NC w x b o) : ∃ u : List Value, u.length = 3 ∧ (∀ j, j < 3 → w.cell? ⟨b, o + j, none⟩ = u[j]?) ∧ QN w x u := by
  obtain ⟨-, c0, ⟨a1, k1, c1, s1⟩, a2, k2, c2, s2⟩ := h
  refine ⟨_, rfl, fun j hj => ?_, a1, a2, k1, k2, rfl, s1, s2⟩
  match j, hj with
  | 0, _ => exact c0
  | 1, _ => exact c1
  | 2, _ => exact c2
set_option maxRecDepth 100000 in
theorem lne_any (a l : List Nd) (ao bo : Option Addr) (ca cb : Nat) (w : World) (ha : SlN w ao a ca) (hb : SlN w bo l cb) :
    Calls Tryz.prog 17 #[.slice ao a.length ca, .slice bo l.length cb, .func (.func 18) #[] #[]] w (FwB w (al2 samN a l)) := by
  obtain ⟨us, hul, hU, hQ⟩ := crow_of (Q := QN w) ha qn_of
  obtain ⟨vs, hvl, hV, hK⟩ := crow_of (Q := QN w) hb qn_of
  have H := eqf_N us vs ao bo ca cb w hU hV (fun i h => by obtain ⟨a1, a2, k1, k2, e, -⟩ := hQ i (hul ▸ h) h; exact ⟨_, _, _, _, _, _, _, e⟩) (fun i h => by obtain ⟨a1, a2, k1, k2, e, -⟩ := hK i (hvl ▸ h) h; exact ⟨_, _, _, _, _, _, _, e⟩) (at2 samN a l) (fun i h h' w' hf => by
    obtain ⟨a1, a2, k1, k2, e, s1, p1⟩ := hQ i (hul ▸ h) h
    obtain ⟨b1, b2, j1, j2, e2, s2, p2⟩ := hK i (hvl ▸ h') h'
    rw [at2_at samN a l i (hul ▸ h) (hvl ▸ h'), e, e2]
    exact lsn_any a[i] l[i] a1 a2 b1 b2 k1 k2 j1 j2 w' (slS_on hf s1) (slP_on hf p1) (slS_on hf s2) (slP_on hf p2))
  rw [hul, hvl, ← al2_all] at H
  exact H
/-- An edge's cells. -/
def QE (w : World) (n : Ed) (u : List Value) : Prop := ∃ a2 k2, u = [.int .i64 n.id, .int .i64 n.fr, .int .i64 n.to, .string (bs n.ty), .slice a2 n.ps.length k2] ∧ SlP w a2 n.ps k2
theorem qe_of {w : World} (x : Ed) (b o : Nat) (h : EC w x b o) : ∃ u : List Value, u.length = 5 ∧ (∀ j, j < 5 → w.cell? ⟨b, o + j, none⟩ = u[j]?) ∧ QE w x u := by
  obtain ⟨-, -, -, -, c0, c1, c2, c3, a2, k2, c4, s2⟩ := h
  refine ⟨_, rfl, fun j hj => ?_, a2, k2, rfl, s2⟩
  match j, hj with
  | 0, _ => exact c0
  | 1, _ => exact c1
  | 2, _ => exact c2
  | 3, _ => exact c3
  | 4, _ => exact c4
set_option maxRecDepth 100000 in
theorem lee_any (a l : List Ed) (ao bo : Option Addr) (ca cb : Nat) (w : World) (ha : SlE w ao a ca) (hb : SlE w bo l cb) :
    Calls Tryz.prog 19 #[.slice ao a.length ca, .slice bo l.length cb, .func (.func 20) #[] #[]] w (FwB w (al2 samE a l)) := by
  obtain ⟨us, hul, hU, hQ⟩ := crow_of (Q := QE w) ha qe_of
  obtain ⟨vs, hvl, hV, hK⟩ := crow_of (Q := QE w) hb qe_of
  have H := eqf_E us vs ao bo ca cb w hU hV (fun i h => by obtain ⟨a2, k2, e, -⟩ := hQ i (hul ▸ h) h; exact ⟨_, _, _, _, _, _, _, e⟩) (fun i h => by obtain ⟨a2, k2, e, -⟩ := hK i (hvl ▸ h) h; exact ⟨_, _, _, _, _, _, _, e⟩) (at2 samE a l) (fun i h h' w' hf => by
    obtain ⟨a2, k2, e, p1⟩ := hQ i (hul ▸ h) h
    obtain ⟨b2, j2, e2, p2⟩ := hK i (hvl ▸ h') h'
    rw [at2_at samE a l i (hul ▸ h) (hvl ▸ h'), e, e2]
    exact lsed_any a[i] l[i] a2 b2 k2 j2 w' (slP_on hf p1) (slP_on hf p2))
  rw [hul, hvl, ← al2_all] at H
  exact H
set_option maxHeartbeats 3200000 in
set_option maxRecDepth 100000 in
theorem lsame_any (g h : Gr) (an ae bn be : Option Addr) (cn ce dn de : Nat) (w : World) (hg : GIn w g an ae cn ce) (hh : GIn w h bn be dn de) :
    Calls Tryz.prog 7 #[.agg #[.slice an g.ns.length cn, .slice ae g.es.length ce, .int .i64 g.nn, .int .i64 g.ne], .agg #[.slice bn h.ns.length dn, .slice be h.es.length de, .int .i64 h.nn, .int .i64 h.ne]] w (FwB w (samG g h)) := by
  have p0 : Bk ((w.alloc (.cells #[.slice an g.ns.length cn, .slice ae g.es.length ce, .int .i64 g.nn, .int .i64 g.ne] 25)).alloc (.cells #[.slice bn h.ns.length dn, .slice be h.es.length de, .int .i64 h.nn, .int .i64 h.ne] 25)) w.heap.size #[.slice an g.ns.length cn, .slice ae g.es.length ce, .int .i64 g.nn, .int .i64 g.ne] 25 := (Bk.new w _ _).on (fuwA _ _)
  have p1 : Bk ((w.alloc (.cells #[.slice an g.ns.length cn, .slice ae g.es.length ce, .int .i64 g.nn, .int .i64 g.ne] 25)).alloc (.cells #[.slice bn h.ns.length dn, .slice be h.es.length de, .int .i64 h.nn, .int .i64 h.ne] 25)) (w.heap.size + 1) #[.slice bn h.ns.length dn, .slice be h.es.length de, .int .i64 h.nn, .int .i64 h.ne] 25 := bkw2 _ _ _ _
  have f0 : Fuw w ((w.alloc (.cells #[.slice an g.ns.length cn, .slice ae g.es.length ce, .int .i64 g.nn, .int .i64 g.ne] 25)).alloc (.cells #[.slice bn h.ns.length dn, .slice be h.es.length de, .int .i64 h.nn, .int .i64 h.ne] 25)) := (fuwA w _).trans (fuwA _ _)
  have HR := Lib.hid (show samG g h = ((g.nn == h.nn) && ((g.ne == h.ne) && (al2 samN g.ns h.ns && al2 samE g.es h.es))) from rfl)
  have HC := Lib.hid (fun w' (hf : Fuw w w') => lne_any g.ns h.ns an bn cn dn w' (slN_on hf hg.n) (slN_on hf hh.n))
  have HD := Lib.hid (fun w' (hf : Fuw w w') => lee_any g.es h.es ae be ce de w' (slE_on hf hg.e) (slE_on hf hh.e))
  clear hg hh
  obtain ⟨R, hR⟩ : ∃ R, R = samG g h := ⟨_, rfl⟩
  rw [← hR] at HR ⊢
  clear hR
  obtain ⟨W, hW⟩ : ∃ W, ((w.alloc (.cells #[.slice an g.ns.length cn, .slice ae g.es.length ce, .int .i64 g.nn, .int .i64 g.ne] 25)).alloc (.cells #[.slice bn h.ns.length dn, .slice be h.es.length de, .int .i64 h.nn, .int .i64 h.ne] 25)) = W := ⟨_, rfl⟩
  rw [hW] at p0 p1 f0
  generalize al2 samN g.ns h.ns = r0 at *
  generalize al2 samE g.es h.es = r1 at *
  go_enter Tryz.func7, Tryz.ntmps7
  go_upto_region 1 with fail
  clear hW
  have c0 : W.cell? ⟨w.heap.size, 0, none⟩ = some (.slice an g.ns.length cn) := p0.c 0
  have d0 : W.cell? ⟨w.heap.size + 1, 0, none⟩ = some (.slice bn h.ns.length dn) := p1.c 0
  have c1 : W.cell? ⟨w.heap.size, 1, none⟩ = some (.slice ae g.es.length ce) := p0.c 1
  have d1 : W.cell? ⟨w.heap.size + 1, 1, none⟩ = some (.slice be h.es.length de) := p1.c 1
  have c2 : W.cell? ⟨w.heap.size, 2, none⟩ = some (.int .i64 g.nn) := p0.c 2
  have d2 : W.cell? ⟨w.heap.size + 1, 2, none⟩ = some (.int .i64 h.nn) := p1.c 2
  have c3 : W.cell? ⟨w.heap.size, 3, none⟩ = some (.int .i64 g.ne) := p0.c 3
  have d3 : W.cell? ⟨w.heap.size + 1, 3, none⟩ = some (.int .i64 h.ne) := p1.c 3
  have F0 := Lib.hid f0
  clear p0 p1 f0
  cases h0 : (g.nn == h.nn) with
  | false =>
    have HZ := Lib.hid (show R = false by
      try rw [bs_eq] at h0
      rw [HR.out, h0]; rfl)
    go_wp2
    go_ret
    exact ⟨ret_bool HZ.out.symm, F0.out⟩
  | true =>
    cases h1 : (g.ne == h.ne) with
    | false =>
      have HZ := Lib.hid (show R = false by
        try rw [bs_eq] at h0
        try rw [bs_eq] at h1
        rw [HR.out, h0, h1]; rfl)
      go_wp2
      go_ret
      exact ⟨ret_bool HZ.out.symm, F0.out⟩
    | true =>
      have HE := Lib.hid (show R = (r0 && r1) by
        try rw [bs_eq] at h0
        try rw [bs_eq] at h1
        rw [HR.out, h0, h1]; rfl)
      go_wp2_with fail
      go_at_call 17; refine (HC.out _ F0.out).mono ?_; rintro e0 w0 ⟨rfl, f0⟩
      have G0 := Lib.hid (F0.out.trans f0)
      replace c0 := cellOnw f0 c0
      replace d0 := cellOnw f0 d0
      replace c1 := cellOnw f0 c1
      replace d1 := cellOnw f0 d1
      replace c2 := cellOnw f0 c2
      replace d2 := cellOnw f0 d2
      replace c3 := cellOnw f0 c3
      replace d3 := cellOnw f0 d3
      clear f0
      cases r0 with
      | false =>
        have HZ := Lib.hid (show R = false from HE.out)
        go_wp2
        go_ret
        exact ⟨ret_bool HZ.out.symm, G0.out⟩
      | true =>
        replace HE := Lib.hid (show R = r1 from HE.out)
        go_wp2_with fail
        go_at_call 19; refine (HD.out _ G0.out).mono ?_; rintro e1 w1 ⟨rfl, f1⟩
        have G1 := Lib.hid (G0.out.trans f1)
        clear f1
        go_wp2
        go_ret
        exact ⟨ret_bool HE.out.symm, G1.out⟩
end Go.Proofs.YtkcmakfmeioakaaGreat

/-! Package graph: equality of a graph with itself and with a changed one; nodes whose labels differ in number are unlike, whatever their properties. Nothing that was there turns. -/
namespace Go.Proofs.YtkcmakfmeioakaaGreat
open Go.RowKit

theorem samP_self (p : Pp) : samP p p = true := by unfold samP; rw [ord_self]; simp
theorem samN_self (n : Nd) : samN n n = true := by
  unfold samN
  rw [al2_self _ _ (fun x _ => by simp), al2_self _ _ (fun x _ => samP_self x)]; simp
theorem samE_self (e : Ed) : samE e e = true := by
  unfold samE
  rw [al2_self _ _ (fun x _ => samP_self x)]; simp
theorem samG_self (g : Gr) : samG g g = true := by
  unfold samG
  rw [al2_self _ _ (fun x _ => samN_self x), al2_self _ _ (fun x _ => samE_self x)]; simp
theorem al2_unlike {α : Type} (f : α → α → Bool) (l : List α) (i : Nat) (y : α) (h : i < l.length) (hf : f l[i] y = false) : al2 f l (l.set i y) = false := by
  rw [al2_all, List.length_set]
  rw [all_false (i := i) h (by rw [at2_at f l (l.set i y) i h (by rw [List.length_set]; exact h), List.getElem_set_self]; exact hf), Bool.and_false]
/-- The end of one edge changed. -/
theorem samG_to (g : Gr) (i : Nat) (e : Ed) (h : i < g.es.length) (ht : g.es[i].to ≠ e.to) : samG g { g with es := g.es.set i e } = false := by
  unfold samG
  rw [al2_unlike samE g.es i e h (by unfold samE; rw [beq_eq_false_iff_ne.2 ht]; simp)]; simp
theorem samG_ne (g : Gr) (x : Int) (h : g.ne ≠ x) : samG g { g with ne := x } = false := by
  unfold samG
  show ((g.nn == g.nn) && ((g.ne == x) && _)) = false
  rw [beq_eq_false_iff_ne.2 h]; simp
set_option maxHeartbeats 3200000 in
set_option maxRecDepth 100000 in
theorem lsn_len (i1 i2 : Int) (l1 l2 q1 q2 : Nat) (a1 a2 b1 b2 : Option Addr) (k1 k2 j1 j2 : Nat) (w : World) (hne : l1 ≠ l2) :
    Calls Tryz.prog 18 #[.agg #[.int .i64 i1, .slice a1 l1 k1, .slice a2 q1 k2], .agg #[.int .i64 i2, .slice b1 l2 j1, .slice b2 q2 j2]] w (FwB w false) := by
  have p0 : Bk ((w.alloc (.cells #[.int .i64 i1, .slice a1 l1 k1, .slice a2 q1 k2] 33)).alloc (.cells #[.int .i64 i2, .slice b1 l2 j1, .slice b2 q2 j2] 33)) w.heap.size #[.int .i64 i1, .slice a1 l1 k1, .slice a2 q1 k2] 33 := (Bk.new w _ _).on (fuwA _ _)
  have p1 : Bk ((w.alloc (.cells #[.int .i64 i1, .slice a1 l1 k1, .slice a2 q1 k2] 33)).alloc (.cells #[.int .i64 i2, .slice b1 l2 j1, .slice b2 q2 j2] 33)) (w.heap.size + 1) #[.int .i64 i2, .slice b1 l2 j1, .slice b2 q2 j2] 33 := bkw2 _ _ _ _
  have f0 : Fuw w ((w.alloc (.cells #[.int .i64 i1, .slice a1 l1 k1, .slice a2 q1 k2] 33)).alloc (.cells #[.int .i64 i2, .slice b1 l2 j1, .slice b2 q2 j2] 33)) := (fuwA w _).trans (fuwA _ _)
  have HC := Lib.hid (fun w' (_ : Fuw w w') => (Tryz.slices_Equal_string_lens a1 b1 l1 k1 l2 j1 w' hne).mono (R' := FwB w' false) fun e w2 ⟨he, hw⟩ => ⟨he, hw ▸ Fuw.refl _⟩)
  clear hne
  obtain ⟨W, hW⟩ : ∃ W, ((w.alloc (.cells #[.int .i64 i1, .slice a1 l1 k1, .slice a2 q1 k2] 33)).alloc (.cells #[.int .i64 i2, .slice b1 l2 j1, .slice b2 q2 j2] 33)) = W := ⟨_, rfl⟩
  rw [hW] at p0 p1 f0
  go_enter Tryz.func18, Tryz.ntmps18
  go_upto_region 1 with fail
  clear hW
  have c0 : W.cell? ⟨w.heap.size, 0, none⟩ = some (.int .i64 i1) := p0.c 0
  have d0 : W.cell? ⟨w.heap.size + 1, 0, none⟩ = some (.int .i64 i2) := p1.c 0
  have c1 : W.cell? ⟨w.heap.size, 1, none⟩ = some (.slice a1 l1 k1) := p0.c 1
  have d1 : W.cell? ⟨w.heap.size + 1, 1, none⟩ = some (.slice b1 l2 j1) := p1.c 1
  have c2 : W.cell? ⟨w.heap.size, 2, none⟩ = some (.slice a2 q1 k2) := p0.c 2
  have d2 : W.cell? ⟨w.heap.size + 1, 2, none⟩ = some (.slice b2 q2 j2) := p1.c 2
  have F0 := Lib.hid f0
  clear p0 p1 f0
  cases h0 : (i1 == i2) with
  | false =>
    have HZ := Lib.hid (rfl : false = false)
    go_wp2
    go_ret
    exact ⟨rfl, F0.out⟩
  | true =>
    have HE := Lib.hid (rfl : false = false)
    go_wp2_with fail
    go_at_call 33; refine (HC.out _ F0.out).mono ?_; rintro e0 w0 ⟨rfl, f0⟩
    have G0 := Lib.hid (F0.out.trans f0)
    clear f0
    go_wp2
    go_ret
    exact ⟨rfl, G0.out⟩
set_option maxHeartbeats 3200000 in
set_option maxRecDepth 100000 in
theorem lsame_no (n1 n2 m1 m2 : Nat) (y1 y2 z1 z2 : Int) (an ae bn be : Option Addr) (cn ce dn de : Nat) (w : World) (hC : ∀ w', Fuw w w' → Calls Tryz.prog 17 #[.slice an n1 cn, .slice bn n2 dn, .func (.func 18) #[] #[]] w' (FwB w' false)) :
    Calls Tryz.prog 7 #[.agg #[.slice an n1 cn, .slice ae m1 ce, .int .i64 y1, .int .i64 y2], .agg #[.slice bn n2 dn, .slice be m2 de, .int .i64 z1, .int .i64 z2]] w (FwB w false) := by
  have p0 : Bk ((w.alloc (.cells #[.slice an n1 cn, .slice ae m1 ce, .int .i64 y1, .int .i64 y2] 25)).alloc (.cells #[.slice bn n2 dn, .slice be m2 de, .int .i64 z1, .int .i64 z2] 25)) w.heap.size #[.slice an n1 cn, .slice ae m1 ce, .int .i64 y1, .int .i64 y2] 25 := (Bk.new w _ _).on (fuwA _ _)
  have p1 : Bk ((w.alloc (.cells #[.slice an n1 cn, .slice ae m1 ce, .int .i64 y1, .int .i64 y2] 25)).alloc (.cells #[.slice bn n2 dn, .slice be m2 de, .int .i64 z1, .int .i64 z2] 25)) (w.heap.size + 1) #[.slice bn n2 dn, .slice be m2 de, .int .i64 z1, .int .i64 z2] 25 := bkw2 _ _ _ _
  have f0 : Fuw w ((w.alloc (.cells #[.slice an n1 cn, .slice ae m1 ce, .int .i64 y1, .int .i64 y2] 25)).alloc (.cells #[.slice bn n2 dn, .slice be m2 de, .int .i64 z1, .int .i64 z2] 25)) := (fuwA w _).trans (fuwA _ _)
  have HC := Lib.hid hC
  clear hC
  obtain ⟨W, hW⟩ : ∃ W, ((w.alloc (.cells #[.slice an n1 cn, .slice ae m1 ce, .int .i64 y1, .int .i64 y2] 25)).alloc (.cells #[.slice bn n2 dn, .slice be m2 de, .int .i64 z1, .int .i64 z2] 25)) = W := ⟨_, rfl⟩
  rw [hW] at p0 p1 f0
  go_enter Tryz.func7, Tryz.ntmps7
  go_upto_region 1 with fail
  clear hW
  have c0 : W.cell? ⟨w.heap.size, 0, none⟩ = some (.slice an n1 cn) := p0.c 0
  have d0 : W.cell? ⟨w.heap.size + 1, 0, none⟩ = some (.slice bn n2 dn) := p1.c 0
  have c1 : W.cell? ⟨w.heap.size, 1, none⟩ = some (.slice ae m1 ce) := p0.c 1
  have d1 : W.cell? ⟨w.heap.size + 1, 1, none⟩ = some (.slice be m2 de) := p1.c 1
  have c2 : W.cell? ⟨w.heap.size, 2, none⟩ = some (.int .i64 y1) := p0.c 2
  have d2 : W.cell? ⟨w.heap.size + 1, 2, none⟩ = some (.int .i64 z1) := p1.c 2
  have c3 : W.cell? ⟨w.heap.size, 3, none⟩ = some (.int .i64 y2) := p0.c 3
  have d3 : W.cell? ⟨w.heap.size + 1, 3, none⟩ = some (.int .i64 z2) := p1.c 3
  have F0 := Lib.hid f0
  clear p0 p1 f0
  cases h0 : (y1 == z1) with
  | false =>
    have HZ := Lib.hid (rfl : false = false)
    go_wp2
    go_ret
    exact ⟨rfl, F0.out⟩
  | true =>
    cases h1 : (y2 == z2) with
    | false =>
      have HZ := Lib.hid (rfl : false = false)
      go_wp2
      go_ret
      exact ⟨rfl, F0.out⟩
    | true =>
      have HE := Lib.hid (rfl : false = false)
      go_wp2_with fail
      go_at_call 17; refine (HC.out _ F0.out).mono ?_; rintro e0 w0 ⟨rfl, f0⟩
      have G0 := Lib.hid (F0.out.trans f0)
      clear f0
      go_wp2
      go_ret
      exact ⟨rfl, G0.out⟩
end Go.Proofs.YtkcmakfmeioakaaGreat
