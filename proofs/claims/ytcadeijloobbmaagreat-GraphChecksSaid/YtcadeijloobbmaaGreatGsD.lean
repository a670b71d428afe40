/-
  The reference of package graph: what is wrong with an edge. Nothing that was there turns.
-/
import Derived.Test.YtcadeijloobbmaaGreatGsC
import Derived.Test.YtcadeijloobbmaaGreatGrX
namespace Go.Proofs.YtcadeijloobbmaaGreat
open Go.RowKit

set_option maxHeartbeats 12800000 in
set_option maxRecDepth 100000 in
theorem redge_v (g : Gr) (an ae : Option Addr) (cn ce : Nat) (i : Nat) (w : World) (hg : GIn w g an ae cn ce) (hlt : i < g.es.length) :
    Calls Tryz.prog 27 #[grv g an ae cn ce, .int .i64 (i : Int)] w (FwI w (edV g.ns g.ne (prevE g.es i) g.es[i])) := by
  have HG := Lib.hid hg
  have l1 := hg.e.len
  have hb0 := GB.new w g an ae cn ce
  have f0 := fuwA w (.cells #[.slice an g.ns.length cn, .slice ae g.es.length ce, .int .i64 g.nn, .int .i64 g.ne] 25)
  obtain ⟨w0, hw0⟩ : ∃ w0, w0 = w.alloc (.cells #[.slice an g.ns.length cn, .slice ae g.es.length ce, .int .i64 g.nn, .int .i64 g.ne] 25) := ⟨_, rfl⟩
  rw [← hw0] at hb0 f0
  have HW0 := Lib.hid hw0
  have HB := Lib.hid hb0
  have F0 := Lib.hid f0
  obtain ⟨b, o, hao, i1, i2, i3, ht, c0, c1, c2, c3, ap, cp, c4, hsp⟩ := (slE_on f0 hg.e).get hlt
  have HX := Lib.hid (show i = 0 ∧ badP (prevE g.es i) g.es[i].id = false ∨ ∃ (p : Nat) (hp : p < g.es.length), i = p + 1 ∧ badP (prevE g.es i) g.es[i].id = decide (g.es[i].id ≤ g.es[p].id) ∧ w0.cell? ⟨b, o + p * 5, none⟩ = some (.int .i64 g.es[p].id) from by
    rcases Nat.eq_zero_or_pos i with e | e
    · subst e; exact .inl ⟨rfl, rfl⟩
    · refine .inr ⟨i - 1, by omega, by omega, ?_, ?_⟩
      · rw [prevE_p g.es i (i - 1) (by omega) (by omega)]; rfl
      · obtain ⟨b', o', hao', -, -, -, -, k0, -⟩ := (slE_on f0 hg.e).get (show i - 1 < g.es.length by omega)
        rw [hao] at hao'
        cases hao'
        exact k0)
  have HC := Lib.hid (fun w' (hf' : Fuw w0 w') => rpar_any [] g.es[i].ps none ap 0 cp w' (Sl.empty _) (slP_on hf' hsp))
  have CF := Lib.hid (fun w' (hf' : Fuw w w') => rnode_any g an ae cn ce g.es[i].fr w' (HG.out.on hf'))
  have CT := Lib.hid (fun w' (hf' : Fuw w w') => rnode_any g an ae cn ce g.es[i].to w' (HG.out.on hf'))
  have HNM := Lib.hid (fun w' => rname_any (bs g.es[i].ty) w' (by rw [bs_size]; exact ht))
  rw [bs_data] at HNM
  have N1 := Lib.hid (nod_some g.ns g.es[i].fr)
  have N2 := Lib.hid (nod_some g.ns g.es[i].to)
  have HP := Lib.hid (fun (h : badP (prevE g.es i) g.es[i].id = false) (h1 : ¬ g.es[i].id < 1) (h2 : ¬ g.ne ≤ g.es[i].id) => ed_p (ns := g.ns) (ne := g.ne) h h1 h2)
  have H1 := Lib.hid (fun (h : badP (prevE g.es i) g.es[i].id = false) (h1 : g.es[i].id < 1 ∨ g.ne ≤ g.es[i].id) => ed_1 (ns := g.ns) (ne := g.ne) h h1)
  have H26 := Lib.hid (fun (h : badP (prevE g.es i) g.es[i].id = true) => ed_26 (ns := g.ns) (ne := g.ne) h)
  clear hw0 hb0 f0 hg i1 i2 i3 ht hsp
  subst hao
  generalize g.es[i] = x at *
  generalize badP (prevE g.es i) x.id = bad at *
  generalize edV g.ns g.ne (prevE g.es i) x = R at *
  unfold grv at *
  go_enter Tryz.func27, Tryz.ntmps27
  go_upto_region 1 with fail
  rw [← HW0.out]
  have q0 := HB.out.c0; have q1 := HB.out.c1; have q2 := HB.out.c2; have q3 := HB.out.c3
  go_upto_region 2 with fail
  obtain ⟨W, hW⟩ : ∃ W, W = w0.alloc (.cells #[.int .i64 x.id, .int .i64 x.fr, .int .i64 x.to, .string (bs x.ty), .slice ap x.ps.length cp] 40) := ⟨_, rfl⟩
  have hfW : Fuw w0 W := by rw [hW]; exact fuwA _ _
  have hBn : Bk W w0.heap.size #[.int .i64 x.id, .int .i64 x.fr, .int .i64 x.to, .string (bs x.ty), .slice ap x.ps.length cp] 40 := by rw [hW]; exact Bk.new _ _ _
  rw [← hW]
  clear hW q0 q1 q2 q3 c0 c1 c2 c3 c4
  have q1 := (HB.out.on hfW).c1
  have q3 := (HB.out.on hfW).c3
  have d0 : W.cell? ⟨w0.heap.size, 0, none⟩ = some (.int .i64 x.id) := hBn.c 0
  have KB := Lib.hid hBn
  have FW := Lib.hid hfW
  clear hBn hfW
  rcases HX.out with ⟨hi0, hbad⟩ | ⟨p, hp, hi0, hbad, k0⟩
  · have hd : decide (0 < i) = false := decide_eq_false (by omega)
    have HBD := Lib.hid hbad
    clear hi0 hbad
    go_wp2
    go_quiet (fail)
    clear hd
    have hb' : bad = false := HBD.out
    by_cases h1 : x.id < 1
    · have HZ := Lib.hid (show R = 1 from H1.out hb' (.inl h1))
      clear hb'
      go_wp2
      go_ret
      exact ⟨ret_int HZ.out.symm, F0.out.trans (FW.out.trans (fuw_dr _ _))⟩
    · by_cases h2 : g.ne ≤ x.id
      · have HZ := Lib.hid (show R = 1 from H1.out hb' (.inr h2))
        clear hb'
        go_wp2
        go_ret
        exact ⟨ret_int HZ.out.symm, F0.out.trans (FW.out.trans (fuw_dr _ _))⟩
      · have HZ := Lib.hid (HP.out hb' (by omega) (by omega))
        clear hb'
        have q0 := (HB.out.on FW.out).c0; have q2 := (HB.out.on FW.out).c2
        have d1 : W.cell? ⟨w0.heap.size, 1, none⟩ = some (.int .i64 x.fr) := KB.out.c 1
        generalize parV [] x.ps = c at *
        go_wp2_with fail
        go_at_call 46; refine (CF.out _ (F0.out.trans (FW.out.trans (fuw_dr _ _)))).mono ?_; rintro e1 w1 ⟨al1, ap1, cl1, cp1, rfl, -, f1⟩
        rw [N1.out]
        generalize (nodV g.ns x.fr).getD nilN = m1 at *
        unfold ndv
        generalize hasN g.ns x.fr = n1 at *
        go_upto_region 7 with fail
        obtain ⟨W1, hW1⟩ : ∃ W, W = w1.alloc (.cells #[.int .i64 m1.id, .slice al1 m1.ls.length cl1, .slice ap1 m1.ps.length cp1] 38) := ⟨_, rfl⟩
        have g1 : Fuw w1 W1 := by rw [hW1]; exact fuwA _ _
        have F1 := Lib.hid (FW.out.trans ((fuw_dr _ _).trans (f1.trans g1)))
        have KB1 := Lib.hid (KB.out.on ((fuw_dr _ _).trans (f1.trans g1)))
        rw [← hW1]
        clear hW1 f1 g1 q0 q1 q2 q3 d0 d1
        have q0 := (HB.out.on F1.out).c0; have q1 := (HB.out.on F1.out).c1; have q2 := (HB.out.on F1.out).c2; have q3 := (HB.out.on F1.out).c3
        have d2 : W1.cell? ⟨w0.heap.size, 2, none⟩ = some (.int .i64 x.to) := KB1.out.c 2
        go_wp2_with fail
        go_at_call 46; refine (CT.out _ (F0.out.trans F1.out)).mono ?_; rintro e2 w2 ⟨al2, ap2, cl2, cp2, rfl, -, f2⟩
        rw [N2.out]
        generalize (nodV g.ns x.to).getD nilN = m2 at *
        unfold ndv
        generalize hasN g.ns x.to = n2 at *
        go_upto_region 8 with fail
        obtain ⟨W2, hW2⟩ : ∃ W, W = w2.alloc (.cells #[.int .i64 m2.id, .slice al2 m2.ls.length cl2, .slice ap2 m2.ps.length cp2] 38) := ⟨_, rfl⟩
        have g2 : Fuw w2 W2 := by rw [hW2]; exact fuwA _ _
        have F2 := Lib.hid (F1.out.trans (f2.trans g2))
        have d3 : W2.cell? ⟨w0.heap.size, 3, none⟩ = some (.string (bs x.ty)) := (KB1.out.on (f2.trans g2)).c 3
        have d4 : W2.cell? ⟨w0.heap.size, 4, none⟩ = some (.slice ap x.ps.length cp) := (KB1.out.on (f2.trans g2)).c 4
        rw [← hW2]
        clear hW2 f2 g2 q0 q1 q2 q3 d2
        generalize nameV x.ty = n3 at *
        cases n1
        · have HY := Lib.hid (show R = 10 by rw [HZ.out]; rfl)
          go_wp2
          go_ret
          exact ⟨ret_int HY.out.symm, F0.out.trans F2.out⟩
        · cases n2
          · have HY := Lib.hid (show R = 10 by rw [HZ.out]; rfl)
            go_wp2
            go_ret
            exact ⟨ret_int HY.out.symm, F0.out.trans F2.out⟩
          · go_wp2_with fail
            go_at_call 47; refine (HNM.out _).mono ?_; rintro e3 w3 ⟨rfl, rfl⟩
            cases n3
            · have HY := Lib.hid (show R = 6 by rw [HZ.out]; rfl)
              go_wp2
              go_ret
              exact ⟨ret_int HY.out.symm, F0.out.trans F2.out⟩
            · have HY := Lib.hid (show R = c by rw [HZ.out]; rfl)
              go_wp2_with fail
              go_at_call 45; refine (HC.out _ F2.out).mono ?_; rintro e4 w4 ⟨rfl, f4⟩
              go_wp2
              go_ret
              exact ⟨ret_int HY.out.symm, F0.out.trans (F2.out.trans f4)⟩
  · have hd : decide (0 < i) = true := decide_eq_true (by omega)
    have k0' := cellOnw FW.out k0
    have k1 : IntKind.i64.wrap ((i : Int) - 1) = (p : Int) := by rw [show (i : Int) - 1 = p by omega]; exact IntWalk.i64_in _ (by omega)
    have k2 : (0 : Int) ≤ (p : Int) := by omega
    have k3 : (p : Int) < (g.es.length : Int) := by omega
    have HBD := Lib.hid hbad
    clear hi0 k0 hbad
    generalize g.es[p].id = pid at *
    by_cases hle : x.id ≤ pid
    · have HZ := Lib.hid (show R = 26 from H26.out (by rw [HBD.out]; exact decide_eq_true hle))
      have hle' : decide (x.id ≤ pid) = true := decide_eq_true hle
      clear hle
      go_wp2
      go_quiet (fail)
      clear hd k1 hle'
      go_wp2
      go_ret
      exact ⟨ret_int HZ.out.symm, F0.out.trans (FW.out.trans (fuw_dr _ _))⟩
    · have HBE := Lib.hid (show bad = false by rw [HBD.out]; exact decide_eq_false hle)
      have hle' : decide (x.id ≤ pid) = false := decide_eq_false hle
      clear hle
      go_wp2
      go_quiet (fail)
      clear hd k1 hle'
      have hb' : bad = false := HBE.out
      by_cases h1 : x.id < 1
      · have HZ := Lib.hid (show R = 1 from H1.out hb' (.inl h1))
        clear hb'
        go_wp2
        go_ret
        exact ⟨ret_int HZ.out.symm, F0.out.trans (FW.out.trans (fuw_dr _ _))⟩
      · by_cases h2 : g.ne ≤ x.id
        · have HZ := Lib.hid (show R = 1 from H1.out hb' (.inr h2))
          clear hb'
          go_wp2
          go_ret
          exact ⟨ret_int HZ.out.symm, F0.out.trans (FW.out.trans (fuw_dr _ _))⟩
        · have HZ := Lib.hid (HP.out hb' (by omega) (by omega))
          clear hb'
          have q0 := (HB.out.on FW.out).c0; have q2 := (HB.out.on FW.out).c2
          have d1 : W.cell? ⟨w0.heap.size, 1, none⟩ = some (.int .i64 x.fr) := KB.out.c 1
          generalize parV [] x.ps = c at *
          go_wp2_with fail
          go_at_call 46; refine (CF.out _ (F0.out.trans (FW.out.trans (fuw_dr _ _)))).mono ?_; rintro e1 w1 ⟨al1, ap1, cl1, cp1, rfl, -, f1⟩
          rw [N1.out]
          generalize (nodV g.ns x.fr).getD nilN = m1 at *
          unfold ndv
          generalize hasN g.ns x.fr = n1 at *
          go_upto_region 7 with fail
          obtain ⟨W1, hW1⟩ : ∃ W, W = w1.alloc (.cells #[.int .i64 m1.id, .slice al1 m1.ls.length cl1, .slice ap1 m1.ps.length cp1] 38) := ⟨_, rfl⟩
          have g1 : Fuw w1 W1 := by rw [hW1]; exact fuwA _ _
          have F1 := Lib.hid (FW.out.trans ((fuw_dr _ _).trans (f1.trans g1)))
          have KB1 := Lib.hid (KB.out.on ((fuw_dr _ _).trans (f1.trans g1)))
          rw [← hW1]
          clear hW1 f1 g1 q0 q1 q2 q3 d0 d1
          have q0 := (HB.out.on F1.out).c0; have q1 := (HB.out.on F1.out).c1; have q2 := (HB.out.on F1.out).c2; have q3 := (HB.out.on F1.out).c3
          have d2 : W1.cell? ⟨w0.heap.size, 2, none⟩ = some (.int .i64 x.to) := KB1.out.c 2
          go_wp2_with fail
          go_at_call 46; refine (CT.out _ (F0.out.trans F1.out)).mono ?_; rintro e2 w2 ⟨al2, ap2, cl2, cp2, rfl, -, f2⟩
          rw [N2.out]
          generalize (nodV g.ns x.to).getD nilN = m2 at *
          unfold ndv
          generalize hasN g.ns x.to = n2 at *
          go_upto_region 8 with fail
          obtain ⟨W2, hW2⟩ : ∃ W, W = w2.alloc (.cells #[.int .i64 m2.id, .slice al2 m2.ls.length cl2, .slice ap2 m2.ps.length cp2] 38) := ⟨_, rfl⟩
          have g2 : Fuw w2 W2 := by rw [hW2]; exact fuwA _ _
          have F2 := Lib.hid (F1.out.trans (f2.trans g2))
          have d3 : W2.cell? ⟨w0.heap.size, 3, none⟩ = some (.string (bs x.ty)) := (KB1.out.on (f2.trans g2)).c 3
          have d4 : W2.cell? ⟨w0.heap.size, 4, none⟩ = some (.slice ap x.ps.length cp) := (KB1.out.on (f2.trans g2)).c 4
          rw [← hW2]
          clear hW2 f2 g2 q0 q1 q2 q3 d2
          generalize nameV x.ty = n3 at *
          cases n1
          · have HY := Lib.hid (show R = 10 by rw [HZ.out]; rfl)
            go_wp2
            go_ret
            exact ⟨ret_int HY.out.symm, F0.out.trans F2.out⟩
          · cases n2
            · have HY := Lib.hid (show R = 10 by rw [HZ.out]; rfl)
              go_wp2
              go_ret
              exact ⟨ret_int HY.out.symm, F0.out.trans F2.out⟩
            · go_wp2_with fail
              go_at_call 47; refine (HNM.out _).mono ?_; rintro e3 w3 ⟨rfl, rfl⟩
              cases n3
              · have HY := Lib.hid (show R = 6 by rw [HZ.out]; rfl)
                go_wp2
                go_ret
                exact ⟨ret_int HY.out.symm, F0.out.trans F2.out⟩
              · have HY := Lib.hid (show R = c by rw [HZ.out]; rfl)
                go_wp2_with fail
                go_at_call 45; refine (HC.out _ F2.out).mono ?_; rintro e4 w4 ⟨rfl, f4⟩
                go_wp2
                go_ret
                exact ⟨ret_int HY.out.symm, F0.out.trans (F2.out.trans f4)⟩
end Go.Proofs.YtcadeijloobbmaaGreat
