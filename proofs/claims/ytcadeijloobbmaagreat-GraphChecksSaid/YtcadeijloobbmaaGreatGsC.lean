/-
  The reference of package graph: what is wrong with a node. Nothing that was there turns.
-/
import Derived.Test.YtcadeijloobbmaaGreatNg
import Derived.Test.YtcadeijloobbmaaGreatGrH
namespace Go.Proofs.YtcadeijloobbmaaGreat
open Go.RowKit

set_option maxHeartbeats 12800000 in
set_option maxRecDepth 100000 in
theorem rnode_v (g : Gr) (an ae : Option Addr) (cn ce : Nat) (i : Nat) (w : World) (hg : GIn w g an ae cn ce) (hlt : i < g.ns.length) :
    Calls Tryz.prog 26 #[grv g an ae cn ce, .int .i64 (i : Int)] w (FwI w (ndV g.nn (prevN g.ns i) g.ns[i])) := by
  have HG := Lib.hid hg
  have l1 := hg.n.len
  have hb0 := GB.new w g an ae cn ce
  have f0 := fuwA w (.cells #[.slice an g.ns.length cn, .slice ae g.es.length ce, .int .i64 g.nn, .int .i64 g.ne] 25)
  obtain ⟨w0, hw0⟩ : ∃ w0, w0 = w.alloc (.cells #[.slice an g.ns.length cn, .slice ae g.es.length ce, .int .i64 g.nn, .int .i64 g.ne] 25) := ⟨_, rfl⟩
  rw [← hw0] at hb0 f0
  have HW0 := Lib.hid hw0
  have HB := Lib.hid hb0
  have F0 := Lib.hid f0
  obtain ⟨b, o, hao, h64, c0, ⟨al, cl, c1, hsl⟩, ap, cp, c2, hsp⟩ := (slN_on f0 hg.n).get hlt
  have HX := Lib.hid (show i = 0 ∧ badP (prevN g.ns i) g.ns[i].id = false ∨ ∃ (p : Nat) (hp : p < g.ns.length), i = p + 1 ∧ badP (prevN g.ns i) g.ns[i].id = decide (g.ns[i].id ≤ g.ns[p].id) ∧ w0.cell? ⟨b, o + p * 3, none⟩ = some (.int .i64 g.ns[p].id) from by
    rcases Nat.eq_zero_or_pos i with e | e
    · subst e; exact .inl ⟨rfl, rfl⟩
    · refine .inr ⟨i - 1, by omega, by omega, ?_, ?_⟩
      · rw [prevN_p g.ns i (i - 1) (by omega) (by omega)]; rfl
      · obtain ⟨b', o', hao', -, k0, -⟩ := (slN_on f0 hg.n).get (show i - 1 < g.ns.length by omega)
        rw [hao] at hao'
        cases hao'
        exact k0)
  have HC := Lib.hid (fun w' (hf' : Fuw w0 w') => rpar_any g.ns[i].ls g.ns[i].ps al ap cl cp w' (slS_on hf' hsl) (slP_on hf' hsp))
  have HP := Lib.hid (fun (h : badP (prevN g.ns i) g.ns[i].id = false) (h1 : ¬ g.ns[i].id < 1) (h2 : ¬ g.nn ≤ g.ns[i].id) => nd_p (nn := g.nn) h h1 h2)
  have H1 := Lib.hid (fun (h : badP (prevN g.ns i) g.ns[i].id = false) (h1 : g.ns[i].id < 1 ∨ g.nn ≤ g.ns[i].id) => nd_1 (nn := g.nn) h h1)
  have H26 := Lib.hid (fun (h : badP (prevN g.ns i) g.ns[i].id = true) => nd_26 (nn := g.nn) h)
  clear hw0 hb0 f0 hg h64 hsl hsp
  subst hao
  generalize g.ns[i] = x at *
  generalize badP (prevN g.ns i) x.id = bad at *
  generalize ndV g.nn (prevN g.ns i) x = R at *
  unfold grv
  go_enter Tryz.func26, Tryz.ntmps26
  go_upto_region 1 with fail
  rw [← HW0.out]
  have q0 := HB.out.c0; have q1 := HB.out.c1; have q2 := HB.out.c2; have q3 := HB.out.c3
  go_upto_region 2 with fail
  obtain ⟨W, hW⟩ : ∃ W, W = w0.alloc (.cells #[.int .i64 x.id, .slice al x.ls.length cl, .slice ap x.ps.length cp] 38) := ⟨_, rfl⟩
  have hfW : Fuw w0 W := by rw [hW]; exact fuwA _ _
  have hBn : Bk W w0.heap.size #[.int .i64 x.id, .slice al x.ls.length cl, .slice ap x.ps.length cp] 38 := by rw [hW]; exact Bk.new _ _ _
  rw [← hW]
  clear hW q0 q1 q2 q3 c0 c1 c2
  have q0 := (HB.out.on hfW).c0
  have q2 := (HB.out.on hfW).c2
  have d0 : W.cell? ⟨w0.heap.size, 0, none⟩ = some (.int .i64 x.id) := hBn.c 0
  have KB := Lib.hid hBn
  have FW := Lib.hid hfW
  clear hBn hfW
  rcases HX.out with ⟨hi0, hbad⟩ | ⟨p, hp, hi0, hbad, k0⟩
  · have hd : decide (0 < i) = false := decide_eq_false (by omega)
    have HBD := Lib.hid hbad
    clear hi0 hbad
    go_wp2
    go_quiet (fail)
    clear hd
    have hb' : bad = false := HBD.out
    by_cases h1 : x.id < 1
    · have HZ := Lib.hid (show R = 1 from H1.out hb' (.inl h1))
      clear hb'
      go_wp2
      go_ret
      exact ⟨ret_int HZ.out.symm, F0.out.trans (FW.out.trans (fuw_dr _ _))⟩
    · by_cases h2 : g.nn ≤ x.id
      · have HZ := Lib.hid (show R = 1 from H1.out hb' (.inr h2))
        clear hb'
        go_wp2
        go_ret
        exact ⟨ret_int HZ.out.symm, F0.out.trans (FW.out.trans (fuw_dr _ _))⟩
      · have HZ := Lib.hid (HP.out hb' (by omega) (by omega))
        clear hb'
        have d1 : W.cell? ⟨w0.heap.size, 1, none⟩ = some (.slice al x.ls.length cl) := KB.out.c 1
        have d2 : W.cell? ⟨w0.heap.size, 2, none⟩ = some (.slice ap x.ps.length cp) := KB.out.c 2
        generalize parV x.ls x.ps = c at *
        go_wp2_with fail
        go_at_call 45; refine (HC.out _ (FW.out.trans (fuw_dr _ _))).mono ?_; rintro e1 w1 ⟨rfl, f1⟩
        go_wp2
        go_ret
        exact ⟨ret_int HZ.out.symm, F0.out.trans ((FW.out.trans (fuw_dr _ _)).trans f1)⟩
  · have hd : decide (0 < i) = true := decide_eq_true (by omega)
    have k0' := cellOnw FW.out k0
    have k1 : IntKind.i64.wrap ((i : Int) - 1) = (p : Int) := by rw [show (i : Int) - 1 = p by omega]; exact IntWalk.i64_in _ (by omega)
    have k2 : (0 : Int) ≤ (p : Int) := by omega
    have k3 : (p : Int) < (g.ns.length : Int) := by omega
    have HBD := Lib.hid hbad
    clear hi0 k0 hbad
    generalize g.ns[p].id = pid at *
    by_cases hle : x.id ≤ pid
    · have HZ := Lib.hid (show R = 26 from H26.out (by rw [HBD.out]; exact decide_eq_true hle))
      have hle' : decide (x.id ≤ pid) = true := decide_eq_true hle
      clear hle
      go_wp2
      go_quiet (fail)
      clear hd k1 hle'
      go_wp2
      go_ret
      exact ⟨ret_int HZ.out.symm, F0.out.trans (FW.out.trans (fuw_dr _ _))⟩
    · have HBE := Lib.hid (show bad = false by rw [HBD.out]; exact decide_eq_false hle)
      have hle' : decide (x.id ≤ pid) = false := decide_eq_false hle
      clear hle
      go_wp2
      go_quiet (fail)
      clear hd k1 hle'
      have hb' : bad = false := HBE.out
      by_cases h1 : x.id < 1
      · have HZ := Lib.hid (show R = 1 from H1.out hb' (.inl h1))
        clear hb'
        go_wp2
        go_ret
        exact ⟨ret_int HZ.out.symm, F0.out.trans (FW.out.trans (fuw_dr _ _))⟩
      · by_cases h2 : g.nn ≤ x.id
        · have HZ := Lib.hid (show R = 1 from H1.out hb' (.inr h2))
          clear hb'
          go_wp2
          go_ret
          exact ⟨ret_int HZ.out.symm, F0.out.trans (FW.out.trans (fuw_dr _ _))⟩
        · have HZ := Lib.hid (HP.out hb' (by omega) (by omega))
          clear hb'
          have d1 : W.cell? ⟨w0.heap.size, 1, none⟩ = some (.slice al x.ls.length cl) := KB.out.c 1
          have d2 : W.cell? ⟨w0.heap.size, 2, none⟩ = some (.slice ap x.ps.length cp) := KB.out.c 2
          generalize parV x.ls x.ps = c at *
          go_wp2_with fail
          go_at_call 45; refine (HC.out _ (FW.out.trans (fuw_dr _ _))).mono ?_; rintro e1 w1 ⟨rfl, f1⟩
          go_wp2
          go_ret
          exact ⟨ret_int HZ.out.symm, F0.out.trans ((FW.out.trans (fuw_dr _ _)).trans f1)⟩
end Go.Proofs.YtcadeijloobbmaaGreat
