/-
  M30; ChS: texts of one kind in one file; each part says what it holds.
-/
import Derived.Test.YtpamdlkagmlahaaGreatDoorK06
import Derived.Test.YtpamdlkagmlahaaGreatDoorK15

namespace Go.Proofs.YtpamdlkagmlahaaGreatDoor
open Go.RowKit
theorem ed_26 {ns : List Nd} {ne : Int} {prev : Option Int} {e : Ed} (h : badP prev e.id = true) : edV ns ne prev e = 26 := by unfold edV; rw [if_pos h]
theorem ed_1 {ns : List Nd} {ne : Int} {prev : Option Int} {e : Ed} (h : badP prev e.id = false) (h1 : e.id < 1 ∨ ne ≤ e.id) : edV ns ne prev e = 1 := by
 unfold edV; rw [h, if_neg (by decide), if_pos h1]
theorem ed_p {ns : List Nd} {ne : Int} {prev : Option Int} {e : Ed} (h : badP prev e.id = false) (h1 : ¬ e.id < 1) (h2 : ¬ ne ≤ e.id) :
  edV ns ne prev e = if (hasN ns e.fr && hasN ns e.to) = false then 10 else if nameV e.ty = false then 6 else parV [] e.ps := by
 unfold edV; rw [h, if_neg (by decide), if_neg (by omega)]
theorem prevE_p (es : List Ed) (i p : Nat) (h : p < es.length) (e : i = p + 1) : prevE es i = some es[p].id := by subst e; exact prevE_s es p h
set_option maxHeartbeats 6400000 in
set_option maxRecDepth 100000 in
theorem che_any (g : Gr) (an ae : Option Addr) (cn ce : Nat) (w : World) (hg : GIn w g an ae cn ce) (hn : g.ns.length ≤ 2000) (hinc : g.ns.Pairwise (fun a b => a.id < b.id)) :
  Calls Tryz.prog 89 #[grv g an ae cn ce] w (FwI w (esV g.ns g.ne none g.es)) := by
 have HG0 := hg
 have hle := hg.e.len
 have hb0 := GB.new w g an ae cn ce
 have f0 := fuwA w (.cells #[.slice an g.ns.length cn, .slice ae g.es.length ce, .int .i64 g.nn, .int .i64 g.ne] 25)
 obtain ⟨R, hR⟩ : ∃ R, R = esV g.ns g.ne none g.es := ⟨_, rfl⟩
 rw [← hR]
 unfold grv
 obtain ⟨w0, hw0⟩ : ∃ w0, w0 = w.alloc (.cells #[.slice an g.ns.length cn, .slice ae g.es.length ce, .int .i64 g.nn, .int .i64 g.ne] 25) := ⟨_, rfl⟩
 rw [← hw0] at hb0 f0
 have HW0 := Lib.hid hw0
 have HB := Lib.hid hb0
 have F0 := Lib.hid f0
 have HN := Lib.hid (slN_on f0 HG0.n)
 have HE := Lib.hid (slE_on f0 HG0.e)
 have HI := Lib.hid hinc
 have HS0 := Lib.hid (show R = esV g.ns g.ne (prevE g.es 0) (g.es.drop 0) from hR)
 clear hw0 hb0 f0 HG0 hg hR hinc
 go_enter Tryz.func89, Tryz.ntmps89
 go_wp2
 go_loopw [9] (fun iv wr => ∃ i : Nat, iv = .int .i64 i ∧ i ≤ g.es.length ∧ Hid (R = esV g.ns g.ne (prevE g.es i) (g.es.drop i)) ∧ Hid (Fuw w0 wr)) (fun iv _ => g.es.length - (RowKit.intOf iv).toNat)
 case atStart => exact ⟨0, rfl, Nat.zero_le _, HS0, by rw [HW0.out]; exact Fuw.refl _⟩
 case round =>
  obtain ⟨i, rfl, hi, HQ, hf⟩ := hrel
  by_cases hlt : i < g.es.length
  ·obtain ⟨b, o, hao, i1, i2, i3, ht, c0, c1, c2, c3, ap, cp, c4, hsp⟩ := (slE_on hf.out HE.out).get hlt
   have HA := Lib.hid (HQ.out.trans (esV_drop g.ns g.ne g.es i hlt))
   have HB1 := Lib.hid (HB.out.on hf.out)
   have HX := Lib.hid (show i = 0 ∧ badP (prevE g.es i) g.es[i].id = false ∨ ∃ (p : Nat) (hp : p < g.es.length), i = p + 1 ∧ badP (prevE g.es i) g.es[i].id = decide (g.es[i].id ≤ g.es[p].id) ∧ wr.cell? ⟨b, o + p * 5, none⟩ = some (.int .i64 g.es[p].id) from by
    rcases Nat.eq_zero_or_pos i with e | e
    ·subst e; exact .inl ⟨rfl, rfl⟩
    ·refine .inr ⟨i - 1, by omega, by omega, ?_, ?_⟩
     ·rw [prevE_p g.es i (i - 1) (by omega) (by omega)]; rfl
     ·obtain ⟨b', o', hao', -, -, -, -, k0, -⟩ := (slE_on hf.out HE.out).get (show i - 1 < g.es.length by omega)
      rw [hao] at hao'
      cases hao'
      exact k0)
   have HC := Lib.hid (fun w' (hf' : Fuw wr w') => cont_any [] g.es[i].ps none ap 0 cp w' (Sl.empty _) (slP_on hf' hsp))
   have HN1 := Lib.hid (fun w' (hf' : Fuw wr w') => hasn_any g.ns an cn g.es[i].fr w' (slN_on (hf.out.trans hf') HN.out) HI.out hn)
   have HN2 := Lib.hid (fun w' (hf' : Fuw wr w') => hasn_any g.ns an cn g.es[i].to w' (slN_on (hf.out.trans hf') HN.out) HI.out hn)
   have HNM := Lib.hid (fun w' => name_any (bs g.es[i].ty) w' (by rw [bs_size]; exact ht))
   rw [bs_data] at HNM
   have HP := Lib.hid (fun (h : badP (prevE g.es i) g.es[i].id = false) (h1 : ¬ g.es[i].id < 1) (h2 : ¬ g.ne ≤ g.es[i].id) => ed_p (ns := g.ns) (ne := g.ne) h h1 h2)
   have H1 := Lib.hid (fun (h : badP (prevE g.es i) g.es[i].id = false) (h1 : g.es[i].id < 1 ∨ g.ne ≤ g.es[i].id) => ed_1 (ns := g.ns) (ne := g.ne) h h1)
   have H26 := Lib.hid (fun (h : badP (prevE g.es i) g.es[i].id = true) => ed_26 (ns := g.ns) (ne := g.ne) h)
   subst hao
   clear i1 i2 i3 ht
   generalize g.es[i] = e at *
   generalize badP (prevE g.es i) e.id = bad at *
   generalize edV g.ns g.ne (prevE g.es i) e = nd at *
   have q1 := HB1.out.c1
   go_upto_region 4 with fail
   obtain ⟨W, hW⟩ : ∃ W, W = wr.alloc (.cells #[.int .i64 e.id, .int .i64 e.fr, .int .i64 e.to, .string (bs e.ty), .slice ap e.ps.length cp] 53) := ⟨_, rfl⟩
   have hfW : Fuw wr W := by rw [hW]; exact fuwA _ _
   have hBn : Bk W wr.heap.size #[.int .i64 e.id, .int .i64 e.fr, .int .i64 e.to, .string (bs e.ty), .slice ap e.ps.length cp] 53 := by rw [hW]; exact Bk.new _ _ _
   rw [← hW]
   clear hW q1 c0 c1 c2 c3 c4
   have q0 := (HB1.out.on hfW).c0
   have q1 := (HB1.out.on hfW).c1
   have q3 := (HB1.out.on hfW).c3
   have d0 : W.cell? ⟨wr.heap.size, 0, none⟩ = some (.int .i64 e.id) := hBn.c 0
   have d1 : W.cell? ⟨wr.heap.size, 1, none⟩ = some (.int .i64 e.fr) := hBn.c 1
   rcases HX.out with ⟨hi0, hbad⟩ | ⟨p, hp, hi0, hbad, k0⟩
   ·have hd : decide (0 < i) = false := decide_eq_false (by omega)
    have HBD := Lib.hid hbad
    clear hi0 hbad
    go_wp2
    go_quiet (fail)
    clear hd
    have hb' : bad = false := HBD.out
    by_cases h1 : e.id < 1
    ·have HZ := Lib.hid (show R = 1 by rw [HA.out, H1.out hb' (.inl h1)]; rfl)
     clear hb'
     go_wp2
     go_ret
     exact ⟨ret_int HZ.out.symm, F0.out.trans (hf.out.trans (hfW.trans (fuw_dr _ _)))⟩
    ·by_cases h2 : g.ne ≤ e.id
     ·have HZ := Lib.hid (show R = 1 by rw [HA.out, H1.out hb' (.inr h2)]; rfl)
      clear hb'
      go_wp2
      go_ret
      exact ⟨ret_int HZ.out.symm, F0.out.trans (hf.out.trans (hfW.trans (fuw_dr _ _)))⟩
     ·have HZ := Lib.hid (HP.out hb' (by omega) (by omega))
      clear hb'
      generalize hasN g.ns e.fr = n1 at *
      generalize hasN g.ns e.to = n2 at *
      generalize nameV e.ty = n3 at *
      generalize parV [] e.ps = c at *
      go_wp2_with fail
      go_at_call 126; refine (HN1.out _ (hfW.trans (fuw_dr _ _))).mono ?_; rintro e1 w1 ⟨rfl, f1⟩
      have F1 := Lib.hid ((hfW.trans (fuw_dr _ _)).trans f1)
      have q0 := (HB1.out.on F1.out).c0
      have hBn1 := hBn.on ((fuw_dr _ _).trans f1)
      have d1 : w1.cell? ⟨wr.heap.size, 1, none⟩ = some (.int .i64 e.fr) := hBn1.c 1
      have d2 : w1.cell? ⟨wr.heap.size, 2, none⟩ = some (.int .i64 e.to) := hBn1.c 2
      have HB2 := Lib.hid hBn1
      clear hBn1 f1
      cases n1
      ·have HY := Lib.hid (show R = 10 by rw [HA.out, HZ.out]; rfl)
       go_wp2
       go_ret
       exact ⟨ret_int HY.out.symm, F0.out.trans (hf.out.trans F1.out)⟩
      ·go_wp2_with fail
       go_at_call 126; refine (HN2.out _ F1.out).mono ?_; rintro e2 w2 ⟨rfl, f2⟩
       have F2 := Lib.hid (F1.out.trans f2)
       have hBn2 := HB2.out.on f2
       have d3 : w2.cell? ⟨wr.heap.size, 3, none⟩ = some (.string (bs e.ty)) := hBn2.c 3
       have d4 : w2.cell? ⟨wr.heap.size, 4, none⟩ = some (.slice ap e.ps.length cp) := hBn2.c 4
       clear hBn2 f2
       cases n2
       ·have HY := Lib.hid (show R = 10 by rw [HA.out, HZ.out]; rfl)
        go_wp2
        go_ret
        exact ⟨ret_int HY.out.symm, F0.out.trans (hf.out.trans F2.out)⟩
       ·go_wp2_with fail
        go_at_call 25; refine (HNM.out _).mono ?_; rintro e3 w3 ⟨rfl, rfl⟩
        cases n3
        ·have HY := Lib.hid (show R = 6 by rw [HA.out, HZ.out]; rfl)
         go_wp2
         go_ret
         exact ⟨ret_int HY.out.symm, F0.out.trans (hf.out.trans F2.out)⟩
        ·go_wp2_with fail
         go_at_call 125; refine (HC.out _ F2.out).mono ?_; rintro e4 w4 ⟨rfl, f4⟩
         have HF := Lib.hid (hf.out.trans (F2.out.trans f4))
         have HZ2 := Lib.hid (show nd = c by rw [HZ.out]; rfl)
         by_cases hc : c = 0
         ·subst hc
          have HY := Lib.hid (show R = esV g.ns g.ne (prevE g.es (i + 1)) (g.es.drop (i + 1)) by rw [HA.out, HZ2.out, if_pos rfl])
          go_wp2
          go_roundw
          case rel => exact ⟨i + 1, by go_num, by omega, HY, HF⟩
          case measure => simp [RowKit.intOf]; omega
         ·have HY := Lib.hid (show R = c by rw [HA.out, HZ2.out, if_neg hc])
          have hc' : (c != 0) = true := by rw [bne_iff_ne]; exact hc
          clear hc
          go_wp2
          go_ret
          exact ⟨ret_int HY.out.symm, F0.out.trans HF.out⟩
   ·have hd : decide (0 < i) = true := decide_eq_true (by omega)
    have k0' := cellOnw hfW k0
    have k1 : IntKind.i64.wrap ((i : Int) - 1) = (p : Int) := by rw [show (i : Int) - 1 = p by omega]; exact IntWalk.i64_in _ (by omega)
    have k2 : (0 : Int) ≤ (p : Int) := by omega
    have k3 : (p : Int) < (g.es.length : Int) := by omega
    have HBD := Lib.hid hbad
    clear hi0 k0 hbad
    generalize g.es[p].id = pid at *
    by_cases hle : e.id ≤ pid
    ·have HZ := Lib.hid (show R = 26 by rw [HA.out, H26.out (by rw [HBD.out]; exact decide_eq_true hle)]; rfl)
     have hle' : decide (e.id ≤ pid) = true := decide_eq_true hle
     clear hle
     go_wp2
     go_quiet (fail)
     clear hd k1 hle'
     go_wp2
     go_ret
     exact ⟨ret_int HZ.out.symm, F0.out.trans (hf.out.trans (hfW.trans (fuw_dr _ _)))⟩
    ·have HBE := Lib.hid (show bad = false by rw [HBD.out]; exact decide_eq_false hle)
     have hle' : decide (e.id ≤ pid) = false := decide_eq_false hle
     clear hle
     go_wp2
     go_quiet (fail)
     clear hd k1 hle'
     have hb' : bad = false := HBE.out
     by_cases h1 : e.id < 1
     ·have HZ := Lib.hid (show R = 1 by rw [HA.out, H1.out hb' (.inl h1)]; rfl)
      clear hb'
      go_wp2
      go_ret
      exact ⟨ret_int HZ.out.symm, F0.out.trans (hf.out.trans (hfW.trans (fuw_dr _ _)))⟩
     ·by_cases h2 : g.ne ≤ e.id
      ·have HZ := Lib.hid (show R = 1 by rw [HA.out, H1.out hb' (.inr h2)]; rfl)
       clear hb'
       go_wp2
       go_ret
       exact ⟨ret_int HZ.out.symm, F0.out.trans (hf.out.trans (hfW.trans (fuw_dr _ _)))⟩
      ·have HZ := Lib.hid (HP.out hb' (by omega) (by omega))
       clear hb'
       generalize hasN g.ns e.fr = n1 at *
       generalize hasN g.ns e.to = n2 at *
       generalize nameV e.ty = n3 at *
       generalize parV [] e.ps = c at *
       go_wp2_with fail
       go_at_call 126; refine (HN1.out _ (hfW.trans (fuw_dr _ _))).mono ?_; rintro e1 w1 ⟨rfl, f1⟩
       have F1 := Lib.hid ((hfW.trans (fuw_dr _ _)).trans f1)
       have q0 := (HB1.out.on F1.out).c0
       have hBn1 := hBn.on ((fuw_dr _ _).trans f1)
       have d1 : w1.cell? ⟨wr.heap.size, 1, none⟩ = some (.int .i64 e.fr) := hBn1.c 1
       have d2 : w1.cell? ⟨wr.heap.size, 2, none⟩ = some (.int .i64 e.to) := hBn1.c 2
       have HB2 := Lib.hid hBn1
       clear hBn1 f1
       cases n1
       ·have HY := Lib.hid (show R = 10 by rw [HA.out, HZ.out]; rfl)
        go_wp2
        go_ret
        exact ⟨ret_int HY.out.symm, F0.out.trans (hf.out.trans F1.out)⟩
       ·go_wp2_with fail
        go_at_call 126; refine (HN2.out _ F1.out).mono ?_; rintro e2 w2 ⟨rfl, f2⟩
        have F2 := Lib.hid (F1.out.trans f2)
        have hBn2 := HB2.out.on f2
        have d3 : w2.cell? ⟨wr.heap.size, 3, none⟩ = some (.string (bs e.ty)) := hBn2.c 3
        have d4 : w2.cell? ⟨wr.heap.size, 4, none⟩ = some (.slice ap e.ps.length cp) := hBn2.c 4
        clear hBn2 f2
        cases n2
        ·have HY := Lib.hid (show R = 10 by rw [HA.out, HZ.out]; rfl)
         go_wp2
         go_ret
         exact ⟨ret_int HY.out.symm, F0.out.trans (hf.out.trans F2.out)⟩
        ·go_wp2_with fail
         go_at_call 25; refine (HNM.out _).mono ?_; rintro e3 w3 ⟨rfl, rfl⟩
         cases n3
         ·have HY := Lib.hid (show R = 6 by rw [HA.out, HZ.out]; rfl)
          go_wp2
          go_ret
          exact ⟨ret_int HY.out.symm, F0.out.trans (hf.out.trans F2.out)⟩
         ·go_wp2_with fail
          go_at_call 125; refine (HC.out _ F2.out).mono ?_; rintro e4 w4 ⟨rfl, f4⟩
          have HF := Lib.hid (hf.out.trans (F2.out.trans f4))
          have HZ2 := Lib.hid (show nd = c by rw [HZ.out]; rfl)
          by_cases hc : c = 0
          ·subst hc
           have HY := Lib.hid (show R = esV g.ns g.ne (prevE g.es (i + 1)) (g.es.drop (i + 1)) by rw [HA.out, HZ2.out, if_pos rfl])
           go_wp2
           go_roundw
           case rel => exact ⟨i + 1, by go_num, by omega, HY, HF⟩
           case measure => simp [RowKit.intOf]; omega
          ·have HY := Lib.hid (show R = c by rw [HA.out, HZ2.out, if_neg hc])
           have hc' : (c != 0) = true := by rw [bne_iff_ne]; exact hc
           clear hc
           go_wp2
           go_ret
           exact ⟨ret_int HY.out.symm, F0.out.trans HF.out⟩
  ·have HZ := Lib.hid (show R = 0 by rw [HQ.out, List.drop_of_length_le (by omega)]; rfl)
   go_wp2
   go_ret
   exact ⟨ret_int HZ.out.symm, F0.out.trans hf.out⟩
theorem chk_4 {g : Gr} (h : 2000 < g.ns.length ∨ 4000 < g.es.length) : chkV g = 4 := by
 unfold chkV sizV
 rcases h with h | h
 ·rw [decide_eq_false (show ¬ g.ns.length ≤ 2000 by omega)]; rfl
 ·rw [decide_eq_false (show ¬ g.es.length ≤ 4000 by omega), Bool.and_false]; rfl
theorem chk_c {g : Gr} (h : g.ns.length ≤ 2000) (h' : g.es.length ≤ 4000) :
  chkV g = if (nxtV g.nn && nxtV g.ne) = false then 1 else if nsV g.nn none g.ns = 0 then esV g.ns g.ne none g.es else nsV g.nn none g.ns := by
 unfold chkV sizV
 rw [decide_eq_true h, decide_eq_true h']; rfl
set_option maxHeartbeats 3200000 in
set_option maxRecDepth 100000 in
theorem check_any (g : Gr) (an ae : Option Addr) (cn ce : Nat) (w : World) (hg : GIn w g an ae cn ce) :
  Calls Tryz.prog 47 #[grv g an ae cn ce] w (FwI w (chkV g)) := by
 have hb0 := GB.new w g an ae cn ce
 have f0 := fuwA w (.cells #[.slice an g.ns.length cn, .slice ae g.es.length ce, .int .i64 g.nn, .int .i64 g.ne] 25)
 have HG := Lib.hid hg
 have HB := Lib.hid hb0
 have F0 := Lib.hid f0
 have hl1 := hg.n.len
 have hl2 := hg.e.len
 clear hg hb0 f0
 by_cases h1 : (2000 : Int) < (g.ns.length : Int)
 ·have HZ := Lib.hid (chk_4 (g := g) (.inl (by omega)))
  generalize chkV g = R at *
  unfold grv
  go_enter Tryz.func47, Tryz.ntmps47
  go_wp2
  go_ret
  exact ⟨ret_int HZ.out.symm, F0.out⟩
 ·by_cases h2 : (4000 : Int) < (g.es.length : Int)
  ·have HZ := Lib.hid (chk_4 (g := g) (.inr (by omega)))
   generalize chkV g = R at *
   unfold grv
   go_enter Tryz.func47, Tryz.ntmps47
   go_wp2
   go_ret
   exact ⟨ret_int HZ.out.symm, F0.out⟩
  ·have HZ := Lib.hid (chk_c (g := g) (by omega) (by omega))
   have HCN := Lib.hid (fun w' (hf : Fuw w w') => chn_any g an ae cn ce w' (HG.out.on hf) (by omega))
   have HCE := Lib.hid (fun w' (hf : Fuw w w') (hinc : g.ns.Pairwise (fun a b => a.id < b.id)) => che_any g an ae cn ce w' (HG.out.on hf) (by omega) hinc)
   have HNI := Lib.hid (fun (h : nsV g.nn none g.ns = 0) => ns_inc h)
   generalize chkV g = R at *
   generalize nsV g.nn none g.ns = c at *
   generalize esV g.ns g.ne none g.es = d at *
   unfold grv at *
   go_enter Tryz.func47, Tryz.ntmps47
   go_wp2_with fail
   go_at_call 87; refine (next_any _ _).mono ?_; rintro e1 w1 ⟨rfl, rfl⟩
   cases n1 : nxtV g.nn
   ·have HY := Lib.hid (show R = 1 by rw [HZ.out, n1]; rfl)
    go_wp2
    go_ret
    exact ⟨ret_int HY.out.symm, F0.out⟩
   ·have HN1 := Lib.hid n1
    clear n1
    go_wp2_with fail
    go_at_call 87; refine (next_any _ _).mono ?_; rintro e1 w1 ⟨rfl, rfl⟩
    cases n2 : nxtV g.ne
    ·have HY := Lib.hid (show R = 1 by rw [HZ.out, HN1.out, n2]; rfl)
     go_wp2
     go_ret
     exact ⟨ret_int HY.out.symm, F0.out⟩
    ·have HY := Lib.hid (show R = if c = 0 then d else c by rw [HZ.out, HN1.out, n2]; rfl)
     clear n2 HN1 HZ
     go_wp2_with fail
     go_at_call 88; refine (HCN.out _ F0.out).mono ?_; rintro e1 w1 ⟨rfl, f1⟩
     have hb1 := HB.out.on f1
     have q0 := hb1.c0; have q1 := hb1.c1; have q2 := hb1.c2; have q3 := hb1.c3
     clear hb1
     have F1 := Lib.hid (F0.out.trans f1)
     clear f1
     by_cases hc : c = 0
     ·have HI := Lib.hid (HNI.out hc)
      subst hc
      have HX := Lib.hid (show R = d by rw [HY.out]; rfl)
      go_wp2_with fail
      go_at_call 89; refine (HCE.out _ F1.out HI.out).mono ?_; rintro e2 w2 ⟨rfl, f2⟩
      go_wp2
      go_ret
      exact ⟨ret_int HX.out.symm, F1.out.trans f2⟩
     ·have HX := Lib.hid (show R = c by rw [HY.out, if_neg hc])
      have hc' : (c != 0) = true := by rw [bne_iff_ne]; exact hc
      clear hc
      go_wp2
      go_ret
      exact ⟨ret_int HX.out.symm, F1.out⟩
end Go.Proofs.YtpamdlkagmlahaaGreatDoor
namespace Go.Proofs.YtpamdlkagmlahaaGreatDoor
open Go.RowKit
theorem load_gr (w : World) (b : Nat) (an ae : Option Addr) (ln le cn ce : Nat) (x y : Int) (h0 : w.cell? ⟨b, 0, none⟩ = some (.slice an ln cn)) (h1 : w.cell? ⟨b, 1, none⟩ = some (.slice ae le ce)) (h2 : w.cell? ⟨b, 2, none⟩ = some (.int .i64 x)) (h3 : w.cell? ⟨b, 3, none⟩ = some (.int .i64 y)) :
  (loadVar 25 ⟨b, 0, none⟩).run Tryz.prog w = .ok (.agg #[.slice an ln cn, .slice ae le ce, .int .i64 x, .int .i64 y]) w := by
 go_simp
theorem g_ret {fn : Func} {p : Tmp} (hres : fn.results = #[.cell p 25]) {tmps : Array Value} {B : Nat} {an ae : Option Addr} {ln le cn ce : Nat} {x y : Int} {w : World} {t : TypeId} {Q : Ending → World → Prop}
  (hp : tmps.getD p undef = .pointer (some ⟨B, 0, none⟩)) (h : Bk w B #[.slice an ln cn, .slice ae le ce, .int .i64 x, .int .i64 y] t)
  (hQ : Q (.returned (.agg #[.slice an ln cn, .slice ae le ce, .int .i64 x, .int .i64 y])) w) : bodyPost Tryz.prog fn Q Exit.ret { tmps := tmps, defers := [] } w := by
 refine bodyPost_ret (v := .agg #[.slice an ln cn, .slice ae le ce, .int .i64 x, .int .i64 y]) ?_ rfl hQ
 have e : (asAddr (.pointer (some ⟨B, 0, none⟩))).run Tryz.prog w = .ok ⟨B, 0, none⟩ w := by go_simp
 rw [results_cell hres, hp, e]
 simp only [Result.andThen]
 exact load_gr w B an ae ln le cn ce x y (h.c 0) (h.c 1) (h.c 2) (h.c 3)
def nilG : Gr := ⟨[], [], 1, 1⟩
theorem nil_in (w : World) : GIn w nilG none none 0 0 := ⟨Sl.empty _, Sl.empty _, ⟨by decide, by decide⟩, ⟨by decide, by decide⟩⟩
def RetG (w : World) (g : Gr) (e : Ending) (w' : World) : Prop := ∃ an ae cn ce, e = .returned (grv g an ae cn ce) ∧ GIn w' g an ae cn ce ∧ Fuw w w'
theorem new_any (w : World) : Calls Tryz.prog 17 #[] w (RetG w nilG) := by
 go_enter Tryz.func17, Tryz.ntmps17
 go_wp2
 exact g_ret rfl rfl (Bk.new _ _ _) ⟨none, none, 0, 0, rfl, nil_in _, fuwA _ _⟩
theorem i1 : I64 1 := ⟨by decide, by decide⟩
theorem i2 : I64 2 := ⟨by decide, by decide⟩
theorem i3 : I64 3 := ⟨by decide, by decide⟩
theorem m1 : (1 : Nat) ≤ maxLen := by unfold maxLen; decide
theorem m2 : (2 : Nat) ≤ maxLen := by unfold maxLen; decide
end Go.Proofs.YtpamdlkagmlahaaGreatDoor

namespace Go.Proofs.YtpamdlkagmlahaaGreatDoor
open Go.RowKit
def posC : List Int → Nat
 | [] => 0
 | c :: r => if c < 0 then posC r + 1 else 0
def fndC (cs : List Int) : Bool := decide (cs[posC cs]? = some 0)
def MonC (cs : List Int) : Prop := ∀ (i j : Nat) (hi : i < cs.length) (hj : j < cs.length), i < j → 0 ≤ cs[i] → 0 < cs[j]
def BsC (cs : List Int) (i j : Nat) : Prop := i ≤ j ∧ j ≤ cs.length ∧ (∀ k (h : k < cs.length), k < i → cs[k] < 0) ∧ ∀ k (h : k < cs.length), j ≤ k → 0 ≤ cs[k]
theorem posC_is : ∀ (cs : List Int) (i : Nat), i ≤ cs.length → (∀ k (h : k < cs.length), k < i → cs[k] < 0) → (∀ k (h : k < cs.length), i ≤ k → 0 ≤ cs[k]) → posC cs = i
 | [], i, h, _, _ => by
  obtain rfl : i = 0 := by simpa using h
  rfl
 | c :: r, 0, _, _, h => by
  have := h 0 (by simp) (Nat.le_refl _)
  unfold posC
  rw [if_neg (by simpa using this)]
 | c :: r, i + 1, h, h1, h2 => by
  have k := h1 0 (by simp) (by omega)
  unfold posC
  rw [if_pos (by simpa using k), posC_is r i (by simpa using h) (fun k hk hki => by
   have := h1 (k + 1) (by simpa using hk) (by omega)
   simpa using this) (fun k hk hki => by
   have := h2 (k + 1) (by simpa using hk) (by omega)
   simpa using this)]
theorem bsC_mid {cs : List Int} {i j : Nat} (hm : MonC cs) (h : BsC cs i j) (hij : i < j) (hl : (i + j) / 2 < cs.length) :
  (cs[(i + j) / 2] < 0 → BsC cs ((i + j) / 2 + 1) j) ∧ (0 ≤ cs[(i + j) / 2] → BsC cs i ((i + j) / 2)) := by
 obtain ⟨h1, h2, h3, h4⟩ := h
 refine ⟨fun hx => ⟨by omega, h2, fun k hk hk' => ?_, h4⟩, fun hx => ⟨by omega, by omega, h3, fun k hk hk' => ?_⟩⟩
 ·rcases Nat.lt_or_eq_of_le (show k ≤ (i + j) / 2 by omega) with g | g
  ·rcases Int.lt_or_le cs[k] 0 with e | e
   ·exact e
   ·have := hm k _ hk hl g e; omega
  ·subst g; exact hx
 ·rcases Nat.lt_or_eq_of_le hk' with g | g
  ·have := hm _ k hl hk g hx; omega
  ·subst g; exact hx
theorem bsC_end {cs : List Int} {i : Nat} (h : BsC cs i i) : posC cs = i := posC_is cs i h.2.1 h.2.2.1 h.2.2.2
theorem fnd_in {cs : List Int} {i : Nat} (h : posC cs = i) (hi : i < cs.length) : fndC cs = decide (cs[i] = 0) := by
 unfold fndC
 rw [h, List.getElem?_eq_getElem hi, Bool.eq_iff_iff]
 simp
theorem fnd_out {cs : List Int} {i : Nat} (h : posC cs = i) (hi : cs.length ≤ i) : fndC cs = false := by
 unfold fndC
 rw [h, List.getElem?_eq_none hi]
 rfl
def RetBs (w : World) (cs : List Int) (e : Ending) (w' : World) : Prop := e = .returned (.tuple #[.int .i64 (posC cs : Nat), .bool (fndC cs)]) ∧ Fuw w w'
theorem cmps_any' (a b : List UInt8) (w : World) : Calls Tryz.prog 135 #[.string (bs a), .string (bs b)] w (PureI w (strc a b)) := by
 have := lcmps_any (bs a) (bs b) w
 rw [bs_data, bs_data] at this
 exact this.mono fun _ _ h => ⟨h.1, h.2.symm⟩
theorem fnn1_any (n : Nd) (al ap : Option Addr) (cl cp : Nat) (x : Int) (w : World) : Calls Tryz.prog 156 #[ndv n al ap cl cp, .int .i64 x] w (FwI w (intc n.id x)) := by
 unfold ndv
 generalize n.id = k
 go_enter Tryz.func156, Tryz.ntmps156
 go_wp2_with (go_at_call 132; refine (cmpi_any _ _ _).mono ?_; rintro e1 w1 ⟨rfl, rfl⟩)
 go_ret
 exact ⟨rfl, fuwA _ _⟩
set_option maxHeartbeats 3200000 in
set_option maxRecDepth 100000 in
theorem fnn_any (ns : List Nd) (ao : Option Addr) (cap : Nat) (x : Int) (w : World) (hs : SlN w ao ns cap) (hp : MonC (ns.map fun n => intc n.id x)) (hn : ns.length ≤ 5000) :
  Calls Tryz.prog 155 #[.slice ao ns.length cap, .int .i64 x, .func (.func 156) #[] #[]] w (RetBs w (ns.map fun n => intc n.id x)) := by
 have HS := Lib.hid hs
 have HP := Lib.hid hp
 obtain ⟨cs, hcs⟩ : ∃ cs, cs = ns.map fun n => intc n.id x := ⟨_, rfl⟩
 have hcl : cs.length = ns.length := by rw [hcs, List.length_map]
 have HG := Lib.hid (show ∀ (k : Nat) (h : k < ns.length) (h' : k < cs.length), cs[k] = (fun n : Nd => intc n.id x) ns[k] from fun k h h' => by simp only [hcs, List.getElem_map])
 rw [← hcs] at HP ⊢
 clear hcs
 have HB := Lib.hid (show BsC cs 0 ns.length from ⟨Nat.zero_le _, by omega, fun k _ h => absurd h (by omega), fun k h h' => absurd h (by omega)⟩)
 have HL := Lib.hid hcl
 clear hs hp hcl
 go_enter Tryz.func155, Tryz.ntmps155
 go_wp2
 go_loopw [9, 10] (fun iv jv wr => ∃ i j : Nat, iv = .int .i64 i ∧ jv = .int .i64 j ∧ i ≤ j ∧ j ≤ ns.length ∧ Hid (BsC cs i j) ∧ Hid (Fuw w wr)) (fun iv jv _ => (RowKit.intOf jv).toNat - (RowKit.intOf iv).toNat)
 case atStart => exact ⟨0, ns.length, rfl, rfl, Nat.zero_le _, Nat.le_refl _, HB, Fuw.refl _⟩
 case round =>
  obtain ⟨i, j, rfl, rfl, hij, hj, HI, hf⟩ := hrel
  by_cases hlt : i < j
  ·have hm : (i + j) / 2 < ns.length := by omega
   obtain ⟨b, o, rfl, hv⟩ := (slN_on hf.out HS.out).get hm
   obtain ⟨-, c0, ⟨a1, k1, c1, -⟩, a2, k2, c2, -⟩ := hv
   have HM := Lib.hid (bsC_mid HP.out HI.out hlt (by rw [HL.out]; exact hm))
   have HGM := Lib.hid (HG.out _ hm (by rw [HL.out]; exact hm))
   have hh : ((i : Int) + (j : Int)) / 2 = ((i + j) / 2 : Nat) := by omega
   have HC := Lib.hid (fun w' => fnn1_any ns[(i + j) / 2] a1 a2 k1 k2 x w')
   unfold ndv at HC
   have h1 : i ≤ (i + j) / 2 := by omega
   have h2 : (i + j) / 2 < j := by omega
   rw [HGM.out] at HM
   clear HGM
   generalize ns[(i + j) / 2] = n at *
   generalize (i + j) / 2 = m at *
   try dsimp only at HM
   generalize intc n.id x = q at *
   go_wp2_with fail
   go_at_call 156; refine (HC.out _).mono ?_; rintro e1 w1 ⟨rfl, f1⟩
   clear hh
   have HF := Lib.hid (hf.out.trans f1)
   by_cases hx : q < 0
   ·have HZ := Lib.hid (HM.out.1 hx)
    have hx' : decide (q < 0) = true := decide_eq_true hx
    go_wp2
    go_roundw
    case rel => exact ⟨m + 1, j, by go_num, rfl, by omega, hj, HZ, HF⟩
    case measure => simp [RowKit.intOf]; omega
   ·have HZ := Lib.hid (HM.out.2 (by omega))
    have hx' : decide (q < 0) = false := decide_eq_false hx
    go_wp2
    go_roundw
    case rel => exact ⟨i, m, rfl, rfl, h1, by omega, HZ, HF⟩
    case measure => simp [RowKit.intOf]; omega
  ·obtain rfl : i = j := by omega
   have HE := Lib.hid (bsC_end HI.out)
   by_cases hi : i < ns.length
   ·have HE2 := Lib.hid (show ((fun n : Nd => intc n.id x) ns[i] = 0 → fndC cs = true) ∧ (¬ (fun n : Nd => intc n.id x) ns[i] = 0 → fndC cs = false) by rw [fnd_in HE.out (by rw [HL.out]; exact hi), HG.out i hi]; exact ⟨fun h => decide_eq_true h, fun h => decide_eq_false h⟩)
    obtain ⟨b, o, rfl, hv⟩ := (slN_on hf.out HS.out).get hi
    obtain ⟨-, c0, ⟨a1, k1, c1, -⟩, a2, k2, c2, -⟩ := hv
    have HC := Lib.hid (fun w' => fnn1_any ns[i] a1 a2 k1 k2 x w')
    unfold ndv at HC
    generalize ns[i] = n at *
    try dsimp only at HE2
    generalize intc n.id x = q at *
    go_wp2_with fail
    go_at_call 156; refine (HC.out _).mono ?_; rintro e1 w1 ⟨rfl, f1⟩
    have HF := Lib.hid (hf.out.trans f1)
    by_cases hx : q = 0
    ·have HT := Lib.hid (show fndC cs = true from HE2.out.1 hx)
     subst hx
     go_wp2
     go_ret2
     exact ⟨(by rw [HT.out, HE.out]; rfl), HF.out⟩
    ·have hq : (q == 0) = false := by rw [beq_eq_false_iff_ne]; exact hx
     have HT := Lib.hid (show fndC cs = false from HE2.out.2 hx)
     clear hx
     go_wp2
     go_ret2
     exact ⟨(by rw [HT.out, HE.out]; rfl), HF.out⟩
   ·have HT := Lib.hid (show fndC cs = false from fnd_out HE.out (by rw [HL.out]; omega))
    go_wp2
    go_ret2
    exact ⟨(by rw [HT.out, HE.out]; rfl), hf.out⟩
theorem fne1_any (n : Ed) (ap : Option Addr) (cp : Nat) (x : Int) (w : World) : Calls Tryz.prog 160 #[edv n ap cp, .int .i64 x] w (FwI w (intc n.id x)) := by
 unfold edv
 generalize n.id = k
 go_enter Tryz.func160, Tryz.ntmps160
 go_wp2_with (go_at_call 132; refine (cmpi_any _ _ _).mono ?_; rintro e1 w1 ⟨rfl, rfl⟩)
 go_ret
 exact ⟨rfl, fuwA _ _⟩
set_option maxHeartbeats 3200000 in
set_option maxRecDepth 100000 in
theorem fne_any (ns : List Ed) (ao : Option Addr) (cap : Nat) (x : Int) (w : World) (hs : SlE w ao ns cap) (hp : MonC (ns.map fun n => intc n.id x)) (hn : ns.length ≤ 5000) :
  Calls Tryz.prog 159 #[.slice ao ns.length cap, .int .i64 x, .func (.func 160) #[] #[]] w (RetBs w (ns.map fun n => intc n.id x)) := by
 have HS := Lib.hid hs
 have HP := Lib.hid hp
 obtain ⟨cs, hcs⟩ : ∃ cs, cs = ns.map fun n => intc n.id x := ⟨_, rfl⟩
 have hcl : cs.length = ns.length := by rw [hcs, List.length_map]
 have HG := Lib.hid (show ∀ (k : Nat) (h : k < ns.length) (h' : k < cs.length), cs[k] = (fun n : Ed => intc n.id x) ns[k] from fun k h h' => by simp only [hcs, List.getElem_map])
 rw [← hcs] at HP ⊢
 clear hcs
 have HB := Lib.hid (show BsC cs 0 ns.length from ⟨Nat.zero_le _, by omega, fun k _ h => absurd h (by omega), fun k h h' => absurd h (by omega)⟩)
 have HL := Lib.hid hcl
 clear hs hp hcl
 go_enter Tryz.func159, Tryz.ntmps159
 go_wp2
 go_loopw [9, 10] (fun iv jv wr => ∃ i j : Nat, iv = .int .i64 i ∧ jv = .int .i64 j ∧ i ≤ j ∧ j ≤ ns.length ∧ Hid (BsC cs i j) ∧ Hid (Fuw w wr)) (fun iv jv _ => (RowKit.intOf jv).toNat - (RowKit.intOf iv).toNat)
 case atStart => exact ⟨0, ns.length, rfl, rfl, Nat.zero_le _, Nat.le_refl _, HB, Fuw.refl _⟩
 case round =>
  obtain ⟨i, j, rfl, rfl, hij, hj, HI, hf⟩ := hrel
  by_cases hlt : i < j
  ·have hm : (i + j) / 2 < ns.length := by omega
   obtain ⟨b, o, rfl, hv⟩ := (slE_on hf.out HS.out).get hm
   obtain ⟨-, -, -, -, c0, c1, c2, c3, a2, k2, c4, -⟩ := hv
   have HM := Lib.hid (bsC_mid HP.out HI.out hlt (by rw [HL.out]; exact hm))
   have HGM := Lib.hid (HG.out _ hm (by rw [HL.out]; exact hm))
   have hh : ((i : Int) + (j : Int)) / 2 = ((i + j) / 2 : Nat) := by omega
   have HC := Lib.hid (fun w' => fne1_any ns[(i + j) / 2] a2 k2 x w')
   unfold edv at HC
   have h1 : i ≤ (i + j) / 2 := by omega
   have h2 : (i + j) / 2 < j := by omega
   rw [HGM.out] at HM
   clear HGM
   generalize ns[(i + j) / 2] = n at *
   generalize (i + j) / 2 = m at *
   try dsimp only at HM
   generalize intc n.id x = q at *
   go_wp2_with fail
   go_at_call 160; refine (HC.out _).mono ?_; rintro e1 w1 ⟨rfl, f1⟩
   clear hh
   have HF := Lib.hid (hf.out.trans f1)
   by_cases hx : q < 0
   ·have HZ := Lib.hid (HM.out.1 hx)
    have hx' : decide (q < 0) = true := decide_eq_true hx
    go_wp2
    go_roundw
    case rel => exact ⟨m + 1, j, by go_num, rfl, by omega, hj, HZ, HF⟩
    case measure => simp [RowKit.intOf]; omega
   ·have HZ := Lib.hid (HM.out.2 (by omega))
    have hx' : decide (q < 0) = false := decide_eq_false hx
    go_wp2
    go_roundw
    case rel => exact ⟨i, m, rfl, rfl, h1, by omega, HZ, HF⟩
    case measure => simp [RowKit.intOf]; omega
  ·obtain rfl : i = j := by omega
   have HE := Lib.hid (bsC_end HI.out)
   by_cases hi : i < ns.length
   ·have HE2 := Lib.hid (show ((fun n : Ed => intc n.id x) ns[i] = 0 → fndC cs = true) ∧ (¬ (fun n : Ed => intc n.id x) ns[i] = 0 → fndC cs = false) by rw [fnd_in HE.out (by rw [HL.out]; exact hi), HG.out i hi]; exact ⟨fun h => decide_eq_true h, fun h => decide_eq_false h⟩)
    obtain ⟨b, o, rfl, hv⟩ := (slE_on hf.out HS.out).get hi
    obtain ⟨-, -, -, -, c0, c1, c2, c3, a2, k2, c4, -⟩ := hv
    have HC := Lib.hid (fun w' => fne1_any ns[i] a2 k2 x w')
    unfold edv at HC
    generalize ns[i] = n at *
    try dsimp only at HE2
    generalize intc n.id x = q at *
    go_wp2_with fail
    go_at_call 160; refine (HC.out _).mono ?_; rintro e1 w1 ⟨rfl, f1⟩
    have HF := Lib.hid (hf.out.trans f1)
    by_cases hx : q = 0
    ·have HT := Lib.hid (show fndC cs = true from HE2.out.1 hx)
     subst hx
     go_wp2
     go_ret2
     exact ⟨(by rw [HT.out, HE.out]; rfl), HF.out⟩
    ·have hq : (q == 0) = false := by rw [beq_eq_false_iff_ne]; exact hx
     have HT := Lib.hid (show fndC cs = false from HE2.out.2 hx)
     clear hx
     go_wp2
     go_ret2
     exact ⟨(by rw [HT.out, HE.out]; rfl), HF.out⟩
   ·have HT := Lib.hid (show fndC cs = false from fnd_out HE.out (by rw [HL.out]; omega))
    go_wp2
    go_ret2
    exact ⟨(by rw [HT.out, HE.out]; rfl), hf.out⟩
theorem fnp1_any (n : Pp) (av : Option Addr) (cv : Nat) (x : List UInt8) (w : World) : Calls Tryz.prog 164 #[.agg #[.string (bs n.k), .int .i64 n.v.kd, .int .i64 n.v.nn, .int .i64 n.v.dd, .string (bs n.v.ss), .slice av n.v.ll.length cv], .string (bs x)] w (FwI w (strc n.k x)) := by
 generalize n.k = k
 generalize n.v = y
 go_enter Tryz.func164, Tryz.ntmps164
 go_wp2_with (go_at_call 135; refine (cmps_any' _ _ _).mono ?_; rintro e1 w1 ⟨rfl, rfl⟩)
 go_ret
 exact ⟨rfl, fuwA _ _⟩
set_option maxHeartbeats 3200000 in
set_option maxRecDepth 100000 in
theorem fnp_any (ns : List Pp) (ao : Option Addr) (cap : Nat) (x : List UInt8) (w : World) (hs : SlP w ao ns cap) (hp : MonC (ns.map fun n => strc n.k x)) (hn : ns.length ≤ 5000) :
  Calls Tryz.prog 163 #[.slice ao ns.length cap, .string (bs x), .func (.func 164) #[] #[]] w (RetBs w (ns.map fun n => strc n.k x)) := by
 have HS := Lib.hid hs
 have HP := Lib.hid hp
 obtain ⟨cs, hcs⟩ : ∃ cs, cs = ns.map fun n => strc n.k x := ⟨_, rfl⟩
 have hcl : cs.length = ns.length := by rw [hcs, List.length_map]
 have HG := Lib.hid (show ∀ (k : Nat) (h : k < ns.length) (h' : k < cs.length), cs[k] = (fun n : Pp => strc n.k x) ns[k] from fun k h h' => by simp only [hcs, List.getElem_map])
 rw [← hcs] at HP ⊢
 clear hcs
 have HB := Lib.hid (show BsC cs 0 ns.length from ⟨Nat.zero_le _, by omega, fun k _ h => absurd h (by omega), fun k h h' => absurd h (by omega)⟩)
 have HL := Lib.hid hcl
 clear hs hp hcl
 go_enter Tryz.func163, Tryz.ntmps163
 go_wp2
 go_loopw [9, 10] (fun iv jv wr => ∃ i j : Nat, iv = .int .i64 i ∧ jv = .int .i64 j ∧ i ≤ j ∧ j ≤ ns.length ∧ Hid (BsC cs i j) ∧ Hid (Fuw w wr)) (fun iv jv _ => (RowKit.intOf jv).toNat - (RowKit.intOf iv).toNat)
 case atStart => exact ⟨0, ns.length, rfl, rfl, Nat.zero_le _, Nat.le_refl _, HB, Fuw.refl _⟩
 case round =>
  obtain ⟨i, j, rfl, rfl, hij, hj, HI, hf⟩ := hrel
  by_cases hlt : i < j
  ·have hm : (i + j) / 2 < ns.length := by omega
   obtain ⟨b, o, rfl, hv⟩ := (slP_on hf.out HS.out).get hm
   obtain ⟨-, c0, hvc⟩ := hv
   obtain ⟨-, c1, c2, c3, c4, a2, k2, c5, -⟩ := VC_of hvc
   clear hvc
   have HM := Lib.hid (bsC_mid HP.out HI.out hlt (by rw [HL.out]; exact hm))
   have HGM := Lib.hid (HG.out _ hm (by rw [HL.out]; exact hm))
   have hh : ((i : Int) + (j : Int)) / 2 = ((i + j) / 2 : Nat) := by omega
   have HC := Lib.hid (fun w' => fnp1_any ns[(i + j) / 2] a2 k2 x w')
   skip
   have h1 : i ≤ (i + j) / 2 := by omega
   have h2 : (i + j) / 2 < j := by omega
   rw [HGM.out] at HM
   clear HGM
   generalize ns[(i + j) / 2] = n at *
   generalize (i + j) / 2 = m at *
   try dsimp only at HM
   generalize strc n.k x = q at *
   go_wp2_with fail
   go_at_call 164; refine (HC.out _).mono ?_; rintro e1 w1 ⟨rfl, f1⟩
   clear hh
   have HF := Lib.hid (hf.out.trans f1)
   by_cases hx : q < 0
   ·have HZ := Lib.hid (HM.out.1 hx)
    have hx' : decide (q < 0) = true := decide_eq_true hx
    go_wp2
    go_roundw
    case rel => exact ⟨m + 1, j, by go_num, rfl, by omega, hj, HZ, HF⟩
    case measure => simp [RowKit.intOf]; omega
   ·have HZ := Lib.hid (HM.out.2 (by omega))
    have hx' : decide (q < 0) = false := decide_eq_false hx
    go_wp2
    go_roundw
    case rel => exact ⟨i, m, rfl, rfl, h1, by omega, HZ, HF⟩
    case measure => simp [RowKit.intOf]; omega
  ·obtain rfl : i = j := by omega
   have HE := Lib.hid (bsC_end HI.out)
   by_cases hi : i < ns.length
   ·have HE2 := Lib.hid (show ((fun n : Pp => strc n.k x) ns[i] = 0 → fndC cs = true) ∧ (¬ (fun n : Pp => strc n.k x) ns[i] = 0 → fndC cs = false) by rw [fnd_in HE.out (by rw [HL.out]; exact hi), HG.out i hi]; exact ⟨fun h => decide_eq_true h, fun h => decide_eq_false h⟩)
    obtain ⟨b, o, rfl, hv⟩ := (slP_on hf.out HS.out).get hi
    obtain ⟨-, c0, hvc⟩ := hv
    obtain ⟨-, c1, c2, c3, c4, a2, k2, c5, -⟩ := VC_of hvc
    clear hvc
    have HC := Lib.hid (fun w' => fnp1_any ns[i] a2 k2 x w')
    skip
    generalize ns[i] = n at *
    try dsimp only at HE2
    generalize strc n.k x = q at *
    go_wp2_with fail
    go_at_call 164; refine (HC.out _).mono ?_; rintro e1 w1 ⟨rfl, f1⟩
    have HF := Lib.hid (hf.out.trans f1)
    by_cases hx : q = 0
    ·have HT := Lib.hid (show fndC cs = true from HE2.out.1 hx)
     subst hx
     go_wp2
     go_ret2
     exact ⟨(by rw [HT.out, HE.out]; rfl), HF.out⟩
    ·have hq : (q == 0) = false := by rw [beq_eq_false_iff_ne]; exact hx
     have HT := Lib.hid (show fndC cs = false from HE2.out.2 hx)
     clear hx
     go_wp2
     go_ret2
     exact ⟨(by rw [HT.out, HE.out]; rfl), HF.out⟩
   ·have HT := Lib.hid (show fndC cs = false from fnd_out HE.out (by rw [HL.out]; omega))
    go_wp2
    go_ret2
    exact ⟨(by rw [HT.out, HE.out]; rfl), hf.out⟩
end Go.Proofs.YtpamdlkagmlahaaGreatDoor
