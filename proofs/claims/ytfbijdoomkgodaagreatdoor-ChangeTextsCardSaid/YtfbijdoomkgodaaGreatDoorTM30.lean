/-
  GrH; GrR: texts of one kind in one file; each part says what it holds.
-/
import Derived.Test.YtfbijdoomkgodaaGreatDoorTK06

/-! Package graph: what is wrong with the edges of a graph whose nodes have no fault; Check. Nothing that was there turns. -/
namespace Go.Proofs.YtfbijdoomkgodaaGreatDoor
open Go.RowKit

theorem ed_26 {ns : List Nd} {ne : Int} {prev : Option Int} {e : Ed} (h : badP prev e.id = true) : edV ns ne prev e = 26 := by unfold edV; rw [if_pos h]
theorem ed_1 {ns : List Nd} {ne : Int} {prev : Option Int} {e : Ed} (h : badP prev e.id = false) (h1 : e.id < 1 ∨ ne ≤ e.id) : edV ns ne prev e = 1 := by
  unfold edV; rw [h, if_neg (by decide), if_pos h1]
theorem ed_p {ns : List Nd} {ne : Int} {prev : Option Int} {e : Ed} (h : badP prev e.id = false) (h1 : ¬ e.id < 1) (h2 : ¬ ne ≤ e.id) :
    edV ns ne prev e = if (hasN ns e.fr && hasN ns e.to) = false then 10 else if nameV e.ty = false then 6 else parV [] e.ps := by
  unfold edV; rw [h, if_neg (by decide), if_neg (by omega)]
theorem prevE_p (es : List Ed) (i p : Nat) (h : p < es.length) (e : i = p + 1) : prevE es i = some es[p].id := by subst e; exact prevE_s es p h

set_option maxHeartbeats 6400000 in
set_option maxRecDepth 100000 in
theorem che_any (g : Gr) (an ae : Option Addr) (cn ce : Nat) (w : World) (hg : GIn w g an ae cn ce) (hn : g.ns.length ≤ 2000) (hinc : g.ns.Pairwise (fun a b => a.id < b.id)) :
    Calls Tryz.prog 46 #[grv g an ae cn ce] w (FwI w (esV g.ns g.ne none g.es)) := by
  have HG0 := hg
  have hle := hg.e.len
  have hb0 := GB.new w g an ae cn ce
  have f0 := fuwA w (.cells #[.slice an g.ns.length cn, .slice ae g.es.length ce, .int .i64 g.nn, .int .i64 g.ne] 25)
  obtain ⟨R, hR⟩ : ∃ R, R = esV g.ns g.ne none g.es := ⟨_, rfl⟩
  rw [← hR]
  unfold grv
  obtain ⟨w0, hw0⟩ : ∃ w0, w0 = w.alloc (.cells #[.slice an g.ns.length cn, .slice ae g.es.length ce, .int .i64 g.nn, .int .i64 g.ne] 25) := ⟨_, rfl⟩
  rw [← hw0] at hb0 f0
  have HW0 := Lib.hid hw0
  have HB := Lib.hid hb0
  have F0 := Lib.hid f0
  have HN := Lib.hid (slN_on f0 HG0.n)
  have HE := Lib.hid (slE_on f0 HG0.e)
  have HI := Lib.hid hinc
  have HS0 := Lib.hid (show R = esV g.ns g.ne (prevE g.es 0) (g.es.drop 0) from hR)
  clear hw0 hb0 f0 HG0 hg hR hinc
  go_enter Tryz.func46, Tryz.ntmps46
  go_wp2
  go_loopw [9] (fun iv wr => ∃ i : Nat, iv = .int .i64 i ∧ i ≤ g.es.length ∧ Hid (R = esV g.ns g.ne (prevE g.es i) (g.es.drop i)) ∧ Hid (Fuw w0 wr)) (fun iv _ => g.es.length - (RowKit.intOf iv).toNat)
  case atStart => exact ⟨0, rfl, Nat.zero_le _, HS0, by rw [HW0.out]; exact Fuw.refl _⟩
  case round =>
    obtain ⟨i, rfl, hi, HQ, hf⟩ := hrel
    by_cases hlt : i < g.es.length
    · obtain ⟨b, o, hao, i1, i2, i3, ht, c0, c1, c2, c3, ap, cp, c4, hsp⟩ := (slE_on hf.out HE.out).get hlt
      have HA := Lib.hid (HQ.out.trans (esV_drop g.ns g.ne g.es i hlt))
      have HB1 := Lib.hid (HB.out.on hf.out)
      have HX := Lib.hid (show i = 0 ∧ badP (prevE g.es i) g.es[i].id = false ∨ ∃ (p : Nat) (hp : p < g.es.length), i = p + 1 ∧ badP (prevE g.es i) g.es[i].id = decide (g.es[i].id ≤ g.es[p].id) ∧ wr.cell? ⟨b, o + p * 5, none⟩ = some (.int .i64 g.es[p].id) from by
        rcases Nat.eq_zero_or_pos i with e | e
        · subst e; exact .inl ⟨rfl, rfl⟩
        · refine .inr ⟨i - 1, by omega, by omega, ?_, ?_⟩
          · rw [prevE_p g.es i (i - 1) (by omega) (by omega)]; rfl
          · obtain ⟨b', o', hao', -, -, -, -, k0, -⟩ := (slE_on hf.out HE.out).get (show i - 1 < g.es.length by omega)
            rw [hao] at hao'
            cases hao'
            exact k0)
      have HC := Lib.hid (fun w' (hf' : Fuw wr w') => cont_any [] g.es[i].ps none ap 0 cp w' (Sl.empty _) (slP_on hf' hsp))
      have HN1 := Lib.hid (fun w' (hf' : Fuw wr w') => hasn_any g.ns an cn g.es[i].fr w' (slN_on (hf.out.trans hf') HN.out) HI.out hn)
      have HN2 := Lib.hid (fun w' (hf' : Fuw wr w') => hasn_any g.ns an cn g.es[i].to w' (slN_on (hf.out.trans hf') HN.out) HI.out hn)
      have HNM := Lib.hid (fun w' => name_any (bs g.es[i].ty) w' (by rw [bs_size]; exact ht))
      rw [bs_data] at HNM
      have HP := Lib.hid (fun (h : badP (prevE g.es i) g.es[i].id = false) (h1 : ¬ g.es[i].id < 1) (h2 : ¬ g.ne ≤ g.es[i].id) => ed_p (ns := g.ns) (ne := g.ne) h h1 h2)
      have H1 := Lib.hid (fun (h : badP (prevE g.es i) g.es[i].id = false) (h1 : g.es[i].id < 1 ∨ g.ne ≤ g.es[i].id) => ed_1 (ns := g.ns) (ne := g.ne) h h1)
      have H26 := Lib.hid (fun (h : badP (prevE g.es i) g.es[i].id = true) => ed_26 (ns := g.ns) (ne := g.ne) h)
      subst hao
      clear i1 i2 i3 ht
      generalize g.es[i] = e at *
      generalize badP (prevE g.es i) e.id = bad at *
      generalize edV g.ns g.ne (prevE g.es i) e = nd at *
      have q1 := HB1.out.c1
      go_upto_region 4 with fail
      obtain ⟨W, hW⟩ : ∃ W, W = wr.alloc (.cells #[.int .i64 e.id, .int .i64 e.fr, .int .i64 e.to, .string (bs e.ty), .slice ap e.ps.length cp] 58) := ⟨_, rfl⟩
      have hfW : Fuw wr W := by rw [hW]; exact fuwA _ _
      have hBn : Bk W wr.heap.size #[.int .i64 e.id, .int .i64 e.fr, .int .i64 e.to, .string (bs e.ty), .slice ap e.ps.length cp] 58 := by rw [hW]; exact Bk.new _ _ _
      rw [← hW]
      clear hW q1 c0 c1 c2 c3 c4
      have q0 := (HB1.out.on hfW).c0
      have q1 := (HB1.out.on hfW).c1
      have q3 := (HB1.out.on hfW).c3
      have d0 : W.cell? ⟨wr.heap.size, 0, none⟩ = some (.int .i64 e.id) := hBn.c 0
      have d1 : W.cell? ⟨wr.heap.size, 1, none⟩ = some (.int .i64 e.fr) := hBn.c 1
      rcases HX.out with ⟨hi0, hbad⟩ | ⟨p, hp, hi0, hbad, k0⟩
      · have hd : decide (0 < i) = false := decide_eq_false (by omega)
        have HBD := Lib.hid hbad
        clear hi0 hbad
        go_wp2
        go_quiet (fail)
        clear hd
        have hb' : bad = false := HBD.out
        by_cases h1 : e.id < 1
        · have HZ := Lib.hid (show R = 1 by rw [HA.out, H1.out hb' (.inl h1)]; rfl)
          clear hb'
          go_wp2
          go_ret
          exact ⟨ret_int HZ.out.symm, F0.out.trans (hf.out.trans (hfW.trans (fuw_dr _ _)))⟩
        · by_cases h2 : g.ne ≤ e.id
          · have HZ := Lib.hid (show R = 1 by rw [HA.out, H1.out hb' (.inr h2)]; rfl)
            clear hb'
            go_wp2
            go_ret
            exact ⟨ret_int HZ.out.symm, F0.out.trans (hf.out.trans (hfW.trans (fuw_dr _ _)))⟩
          · have HZ := Lib.hid (HP.out hb' (by omega) (by omega))
            clear hb'
            generalize hasN g.ns e.fr = n1 at *
            generalize hasN g.ns e.to = n2 at *
            generalize nameV e.ty = n3 at *
            generalize parV [] e.ps = c at *
            go_wp2_with fail
            go_at_call 86; refine (HN1.out _ (hfW.trans (fuw_dr _ _))).mono ?_; rintro e1 w1 ⟨rfl, f1⟩
            have F1 := Lib.hid ((hfW.trans (fuw_dr _ _)).trans f1)
            have q0 := (HB1.out.on F1.out).c0
            have hBn1 := hBn.on ((fuw_dr _ _).trans f1)
            have d1 : w1.cell? ⟨wr.heap.size, 1, none⟩ = some (.int .i64 e.fr) := hBn1.c 1
            have d2 : w1.cell? ⟨wr.heap.size, 2, none⟩ = some (.int .i64 e.to) := hBn1.c 2
            have HB2 := Lib.hid hBn1
            clear hBn1 f1
            cases n1
            · have HY := Lib.hid (show R = 10 by rw [HA.out, HZ.out]; rfl)
              go_wp2
              go_ret
              exact ⟨ret_int HY.out.symm, F0.out.trans (hf.out.trans F1.out)⟩
            · go_wp2_with fail
              go_at_call 86; refine (HN2.out _ F1.out).mono ?_; rintro e2 w2 ⟨rfl, f2⟩
              have F2 := Lib.hid (F1.out.trans f2)
              have hBn2 := HB2.out.on f2
              have d3 : w2.cell? ⟨wr.heap.size, 3, none⟩ = some (.string (bs e.ty)) := hBn2.c 3
              have d4 : w2.cell? ⟨wr.heap.size, 4, none⟩ = some (.slice ap e.ps.length cp) := hBn2.c 4
              clear hBn2 f2
              cases n2
              · have HY := Lib.hid (show R = 10 by rw [HA.out, HZ.out]; rfl)
                go_wp2
                go_ret
                exact ⟨ret_int HY.out.symm, F0.out.trans (hf.out.trans F2.out)⟩
              · go_wp2_with fail
                go_at_call 33; refine (HNM.out _).mono ?_; rintro e3 w3 ⟨rfl, rfl⟩
                cases n3
                · have HY := Lib.hid (show R = 6 by rw [HA.out, HZ.out]; rfl)
                  go_wp2
                  go_ret
                  exact ⟨ret_int HY.out.symm, F0.out.trans (hf.out.trans F2.out)⟩
                · go_wp2_with fail
                  go_at_call 85; refine (HC.out _ F2.out).mono ?_; rintro e4 w4 ⟨rfl, f4⟩
                  have HF := Lib.hid (hf.out.trans (F2.out.trans f4))
                  have HZ2 := Lib.hid (show nd = c by rw [HZ.out]; rfl)
                  by_cases hc : c = 0
                  · subst hc
                    have HY := Lib.hid (show R = esV g.ns g.ne (prevE g.es (i + 1)) (g.es.drop (i + 1)) by rw [HA.out, HZ2.out, if_pos rfl])
                    go_wp2
                    go_roundw
                    case rel => exact ⟨i + 1, by go_num, by omega, HY, HF⟩
                    case measure => simp [RowKit.intOf]; omega
                  · have HY := Lib.hid (show R = c by rw [HA.out, HZ2.out, if_neg hc])
                    have hc' : (c != 0) = true := by rw [bne_iff_ne]; exact hc
                    clear hc
                    go_wp2
                    go_ret
                    exact ⟨ret_int HY.out.symm, F0.out.trans HF.out⟩
      · have hd : decide (0 < i) = true := decide_eq_true (by omega)
        have k0' := cellOnw hfW k0
        have k1 : IntKind.i64.wrap ((i : Int) - 1) = (p : Int) := by rw [show (i : Int) - 1 = p by omega]; exact IntWalk.i64_in _ (by omega)
        have k2 : (0 : Int) ≤ (p : Int) := by omega
        have k3 : (p : Int) < (g.es.length : Int) := by omega
        have HBD := Lib.hid hbad
        clear hi0 k0 hbad
        generalize g.es[p].id = pid at *
        by_cases hle : e.id ≤ pid
        · have HZ := Lib.hid (show R = 26 by rw [HA.out, H26.out (by rw [HBD.out]; exact decide_eq_true hle)]; rfl)
          have hle' : decide (e.id ≤ pid) = true := decide_eq_true hle
          clear hle
          go_wp2
          go_quiet (fail)
          clear hd k1 hle'
          go_wp2
          go_ret
          exact ⟨ret_int HZ.out.symm, F0.out.trans (hf.out.trans (hfW.trans (fuw_dr _ _)))⟩
        · have HBE := Lib.hid (show bad = false by rw [HBD.out]; exact decide_eq_false hle)
          have hle' : decide (e.id ≤ pid) = false := decide_eq_false hle
          clear hle
          go_wp2
          go_quiet (fail)
          clear hd k1 hle'
          have hb' : bad = false := HBE.out
          by_cases h1 : e.id < 1
          · have HZ := Lib.hid (show R = 1 by rw [HA.out, H1.out hb' (.inl h1)]; rfl)
            clear hb'
            go_wp2
            go_ret
            exact ⟨ret_int HZ.out.symm, F0.out.trans (hf.out.trans (hfW.trans (fuw_dr _ _)))⟩
          · by_cases h2 : g.ne ≤ e.id
            · have HZ := Lib.hid (show R = 1 by rw [HA.out, H1.out hb' (.inr h2)]; rfl)
              clear hb'
              go_wp2
              go_ret
              exact ⟨ret_int HZ.out.symm, F0.out.trans (hf.out.trans (hfW.trans (fuw_dr _ _)))⟩
            · have HZ := Lib.hid (HP.out hb' (by omega) (by omega))
              clear hb'
              generalize hasN g.ns e.fr = n1 at *
              generalize hasN g.ns e.to = n2 at *
              generalize nameV e.ty = n3 at *
              generalize parV [] e.ps = c at *
              go_wp2_with fail
              go_at_call 86; refine (HN1.out _ (hfW.trans (fuw_dr _ _))).mono ?_; rintro e1 w1 ⟨rfl, f1⟩
              have F1 := Lib.hid ((hfW.trans (fuw_dr _ _)).trans f1)
              have q0 := (HB1.out.on F1.out).c0
              have hBn1 := hBn.on ((fuw_dr _ _).trans f1)
              have d1 : w1.cell? ⟨wr.heap.size, 1, none⟩ = some (.int .i64 e.fr) := hBn1.c 1
              have d2 : w1.cell? ⟨wr.heap.size, 2, none⟩ = some (.int .i64 e.to) := hBn1.c 2
              have HB2 := Lib.hid hBn1
              clear hBn1 f1
              cases n1
              · have HY := Lib.hid (show R = 10 by rw [HA.out, HZ.out]; rfl)
                go_wp2
                go_ret
                exact ⟨ret_int HY.out.symm, F0.out.trans (hf.out.trans F1.out)⟩
              · go_wp2_with fail
                go_at_call 86; refine (HN2.out _ F1.out).mono ?_; rintro e2 w2 ⟨rfl, f2⟩
                have F2 := Lib.hid (F1.out.trans f2)
                have hBn2 := HB2.out.on f2
                have d3 : w2.cell? ⟨wr.heap.size, 3, none⟩ = some (.string (bs e.ty)) := hBn2.c 3
                have d4 : w2.cell? ⟨wr.heap.size, 4, none⟩ = some (.slice ap e.ps.length cp) := hBn2.c 4
                clear hBn2 f2
                cases n2
                · have HY := Lib.hid (show R = 10 by rw [HA.out, HZ.out]; rfl)
                  go_wp2
                  go_ret
                  exact ⟨ret_int HY.out.symm, F0.out.trans (hf.out.trans F2.out)⟩
                · go_wp2_with fail
                  go_at_call 33; refine (HNM.out _).mono ?_; rintro e3 w3 ⟨rfl, rfl⟩
                  cases n3
                  · have HY := Lib.hid (show R = 6 by rw [HA.out, HZ.out]; rfl)
                    go_wp2
                    go_ret
                    exact ⟨ret_int HY.out.symm, F0.out.trans (hf.out.trans F2.out)⟩
                  · go_wp2_with fail
                    go_at_call 85; refine (HC.out _ F2.out).mono ?_; rintro e4 w4 ⟨rfl, f4⟩
                    have HF := Lib.hid (hf.out.trans (F2.out.trans f4))
                    have HZ2 := Lib.hid (show nd = c by rw [HZ.out]; rfl)
                    by_cases hc : c = 0
                    · subst hc
                      have HY := Lib.hid (show R = esV g.ns g.ne (prevE g.es (i + 1)) (g.es.drop (i + 1)) by rw [HA.out, HZ2.out, if_pos rfl])
                      go_wp2
                      go_roundw
                      case rel => exact ⟨i + 1, by go_num, by omega, HY, HF⟩
                      case measure => simp [RowKit.intOf]; omega
                    · have HY := Lib.hid (show R = c by rw [HA.out, HZ2.out, if_neg hc])
                      have hc' : (c != 0) = true := by rw [bne_iff_ne]; exact hc
                      clear hc
                      go_wp2
                      go_ret
                      exact ⟨ret_int HY.out.symm, F0.out.trans HF.out⟩
    · have HZ := Lib.hid (show R = 0 by rw [HQ.out, List.drop_of_length_le (by omega)]; rfl)
      go_wp2
      go_ret
      exact ⟨ret_int HZ.out.symm, F0.out.trans hf.out⟩

theorem chk_4 {g : Gr} (h : 2000 < g.ns.length ∨ 4000 < g.es.length) : chkV g = 4 := by
  unfold chkV sizV
  rcases h with h | h
  · rw [decide_eq_false (show ¬ g.ns.length ≤ 2000 by omega)]; rfl
  · rw [decide_eq_false (show ¬ g.es.length ≤ 4000 by omega), Bool.and_false]; rfl
theorem chk_c {g : Gr} (h : g.ns.length ≤ 2000) (h' : g.es.length ≤ 4000) :
    chkV g = if (nxtV g.nn && nxtV g.ne) = false then 1 else if nsV g.nn none g.ns = 0 then esV g.ns g.ne none g.es else nsV g.nn none g.ns := by
  unfold chkV sizV
  rw [decide_eq_true h, decide_eq_true h']; rfl
set_option maxHeartbeats 3200000 in
set_option maxRecDepth 100000 in
theorem check_any (g : Gr) (an ae : Option Addr) (cn ce : Nat) (w : World) (hg : GIn w g an ae cn ce) :
    Calls Tryz.prog 16 #[grv g an ae cn ce] w (FwI w (chkV g)) := by
  have hb0 := GB.new w g an ae cn ce
  have f0 := fuwA w (.cells #[.slice an g.ns.length cn, .slice ae g.es.length ce, .int .i64 g.nn, .int .i64 g.ne] 25)
  have HG := Lib.hid hg
  have HB := Lib.hid hb0
  have F0 := Lib.hid f0
  have hl1 := hg.n.len
  have hl2 := hg.e.len
  clear hg hb0 f0
  by_cases h1 : (2000 : Int) < (g.ns.length : Int)
  · have HZ := Lib.hid (chk_4 (g := g) (.inl (by omega)))
    generalize chkV g = R at *
    unfold grv
    go_enter Tryz.func16, Tryz.ntmps16
    go_wp2
    go_ret
    exact ⟨ret_int HZ.out.symm, F0.out⟩
  · by_cases h2 : (4000 : Int) < (g.es.length : Int)
    · have HZ := Lib.hid (chk_4 (g := g) (.inr (by omega)))
      generalize chkV g = R at *
      unfold grv
      go_enter Tryz.func16, Tryz.ntmps16
      go_wp2
      go_ret
      exact ⟨ret_int HZ.out.symm, F0.out⟩
    · have HZ := Lib.hid (chk_c (g := g) (by omega) (by omega))
      have HCN := Lib.hid (fun w' (hf : Fuw w w') => chn_any g an ae cn ce w' (HG.out.on hf) (by omega))
      have HCE := Lib.hid (fun w' (hf : Fuw w w') (hinc : g.ns.Pairwise (fun a b => a.id < b.id)) => che_any g an ae cn ce w' (HG.out.on hf) (by omega) hinc)
      have HNI := Lib.hid (fun (h : nsV g.nn none g.ns = 0) => ns_inc h)
      generalize chkV g = R at *
      generalize nsV g.nn none g.ns = c at *
      generalize esV g.ns g.ne none g.es = d at *
      unfold grv at *
      go_enter Tryz.func16, Tryz.ntmps16
      go_wp2_with fail
      go_at_call 44; refine (next_any _ _).mono ?_; rintro e1 w1 ⟨rfl, rfl⟩
      cases n1 : nxtV g.nn
      · have HY := Lib.hid (show R = 1 by rw [HZ.out, n1]; rfl)
        go_wp2
        go_ret
        exact ⟨ret_int HY.out.symm, F0.out⟩
      · have HN1 := Lib.hid n1
        clear n1
        go_wp2_with fail
        go_at_call 44; refine (next_any _ _).mono ?_; rintro e1 w1 ⟨rfl, rfl⟩
        cases n2 : nxtV g.ne
        · have HY := Lib.hid (show R = 1 by rw [HZ.out, HN1.out, n2]; rfl)
          go_wp2
          go_ret
          exact ⟨ret_int HY.out.symm, F0.out⟩
        · have HY := Lib.hid (show R = if c = 0 then d else c by rw [HZ.out, HN1.out, n2]; rfl)
          clear n2 HN1 HZ
          go_wp2_with fail
          go_at_call 45; refine (HCN.out _ F0.out).mono ?_; rintro e1 w1 ⟨rfl, f1⟩
          have hb1 := HB.out.on f1
          have q0 := hb1.c0; have q1 := hb1.c1; have q2 := hb1.c2; have q3 := hb1.c3
          clear hb1
          have F1 := Lib.hid (F0.out.trans f1)
          clear f1
          by_cases hc : c = 0
          · have HI := Lib.hid (HNI.out hc)
            subst hc
            have HX := Lib.hid (show R = d by rw [HY.out]; rfl)
            go_wp2_with fail
            go_at_call 46; refine (HCE.out _ F1.out HI.out).mono ?_; rintro e2 w2 ⟨rfl, f2⟩
            go_wp2
            go_ret
            exact ⟨ret_int HX.out.symm, F1.out.trans f2⟩
          · have HX := Lib.hid (show R = c by rw [HY.out, if_neg hc])
            have hc' : (c != 0) = true := by rw [bne_iff_ne]; exact hc
            clear hc
            go_wp2
            go_ret
            exact ⟨ret_int HX.out.symm, F1.out⟩
end Go.Proofs.YtfbijdoomkgodaaGreatDoor

/-! Package graph and its reference: New; the worked example of the laws. Nothing that was there turns. -/
namespace Go.Proofs.YtfbijdoomkgodaaGreatDoor
open Go.RowKit

theorem load_gr (w : World) (b : Nat) (an ae : Option Addr) (ln le cn ce : Nat) (x y : Int) (h0 : w.cell? ⟨b, 0, none⟩ = some (.slice an ln cn)) (h1 : w.cell? ⟨b, 1, none⟩ = some (.slice ae le ce)) (h2 : w.cell? ⟨b, 2, none⟩ = some (.int .i64 x)) (h3 : w.cell? ⟨b, 3, none⟩ = some (.int .i64 y)) :
    (loadVar 25 ⟨b, 0, none⟩).run Tryz.prog w = .ok (.agg #[.slice an ln cn, .slice ae le ce, .int .i64 x, .int .i64 y]) w := by
  go_simp
theorem g_ret {fn : Func} {p : Tmp} (hres : fn.results = #[.cell p 25]) {tmps : Array Value} {B : Nat} {an ae : Option Addr} {ln le cn ce : Nat} {x y : Int} {w : World} {t : TypeId} {Q : Ending → World → Prop}
    (hp : tmps.getD p undef = .pointer (some ⟨B, 0, none⟩)) (h : Bk w B #[.slice an ln cn, .slice ae le ce, .int .i64 x, .int .i64 y] t)
    (hQ : Q (.returned (.agg #[.slice an ln cn, .slice ae le ce, .int .i64 x, .int .i64 y])) w) : bodyPost Tryz.prog fn Q Exit.ret { tmps := tmps, defers := [] } w := by
  refine bodyPost_ret (v := .agg #[.slice an ln cn, .slice ae le ce, .int .i64 x, .int .i64 y]) ?_ rfl hQ
  have e : (asAddr (.pointer (some ⟨B, 0, none⟩))).run Tryz.prog w = .ok ⟨B, 0, none⟩ w := by go_simp
  rw [results_cell hres, hp, e]
  simp only [Result.andThen]
  exact load_gr w B an ae ln le cn ce x y (h.c 0) (h.c 1) (h.c 2) (h.c 3)
/-- The empty graph. -/
def nilG : Gr := ⟨[], [], 1, 1⟩
theorem nil_in (w : World) : GIn w nilG none none 0 0 := ⟨Sl.empty _, Sl.empty _, ⟨by decide, by decide⟩, ⟨by decide, by decide⟩⟩
def RetG (w : World) (g : Gr) (e : Ending) (w' : World) : Prop := ∃ an ae cn ce, e = .returned (grv g an ae cn ce) ∧ GIn w' g an ae cn ce ∧ Fuw w w'
theorem new_any (w : World) : Calls Tryz.prog 27 #[] w (RetG w nilG) := by
  go_enter Tryz.func27, Tryz.ntmps27
  go_wp2
  exact g_ret rfl rfl (Bk.new _ _ _) ⟨none, none, 0, 0, rfl, nil_in _, fuwA _ _⟩
theorem i1 : I64 1 := ⟨by decide, by decide⟩
theorem i2 : I64 2 := ⟨by decide, by decide⟩
theorem i3 : I64 3 := ⟨by decide, by decide⟩
theorem m1 : (1 : Nat) ≤ maxLen := by unfold maxLen; decide
theorem m2 : (2 : Nat) ≤ maxLen := by unfold maxLen; decide
end Go.Proofs.YtfbijdoomkgodaaGreatDoor
