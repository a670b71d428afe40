/-
  The reference of package graph: Check. Nothing that was there turns.
-/
import Derived.Test.YtcadeijloobbmaaGreatGsD
namespace Go.Proofs.YtcadeijloobbmaaGreat
open Go.RowKit

theorem chk_1 {g : Gr} (h : g.ns.length ≤ 2000) (h' : g.es.length ≤ 4000) (hx : g.nn < 1 ∨ 1000001 < g.nn ∨ g.ne < 1 ∨ 1000001 < g.ne) : chkV g = 1 := by
  rw [chk_c h h', if_pos]
  unfold nxtV
  simp only [Bool.and_eq_false_iff, decide_eq_false_iff_not]
  omega
theorem chk_2 {g : Gr} (h : g.ns.length ≤ 2000) (h' : g.es.length ≤ 4000) (a1 : ¬ g.nn < 1) (a2 : ¬ 1000001 < g.nn) (a3 : ¬ g.ne < 1) (a4 : ¬ 1000001 < g.ne) :
    chkV g = if nsV g.nn (prevN g.ns 0) (g.ns.drop 0) = 0 then esV g.ns g.ne none g.es else nsV g.nn (prevN g.ns 0) (g.ns.drop 0) := by
  rw [chk_c h h', if_neg]
  · rfl
  · unfold nxtV
    simp only [Bool.and_eq_false_iff, decide_eq_false_iff_not]
    omega
set_option maxHeartbeats 6400000 in
set_option maxRecDepth 100000 in
theorem rcheck_any (g : Gr) (an ae : Option Addr) (cn ce : Nat) (w : World) (hg : GIn w g an ae cn ce) :
    Calls Tryz.prog 8 #[grv g an ae cn ce] w (FwI w (chkV g)) := by
  have hb0 := GB.new w g an ae cn ce
  have f0 := fuwA w (.cells #[.slice an g.ns.length cn, .slice ae g.es.length ce, .int .i64 g.nn, .int .i64 g.ne] 25)
  have HG := Lib.hid hg
  have HB := Lib.hid hb0
  have F0 := Lib.hid f0
  have hl1 := hg.n.len
  have hl2 := hg.e.len
  clear hg hb0 f0
  by_cases h1 : (2000 : Int) < (g.ns.length : Int)
  · have HZ := Lib.hid (chk_4 (g := g) (.inl (by omega)))
    generalize chkV g = R at *
    unfold grv
    go_enter Tryz.func8, Tryz.ntmps8
    go_wp2
    go_ret
    exact ⟨ret_int HZ.out.symm, F0.out⟩
  · by_cases h2 : (4000 : Int) < (g.es.length : Int)
    · have HZ := Lib.hid (chk_4 (g := g) (.inr (by omega)))
      generalize chkV g = R at *
      unfold grv
      go_enter Tryz.func8, Tryz.ntmps8
      go_wp2
      go_ret
      exact ⟨ret_int HZ.out.symm, F0.out⟩
    · have b1 : g.ns.length ≤ 2000 := by omega
      have b2 : g.es.length ≤ 4000 := by omega
      by_cases a : g.nn < 1 ∨ 1000001 < g.nn ∨ g.ne < 1 ∨ 1000001 < g.ne
      · have HZ := Lib.hid (chk_1 b1 b2 a)
        generalize chkV g = R at *
        unfold grv
        by_cases a1 : g.nn < 1
        · clear a
          go_enter Tryz.func8, Tryz.ntmps8
          go_wp2
          go_ret
          exact ⟨ret_int HZ.out.symm, F0.out⟩
        · by_cases a2 : 1000001 < g.nn
          · clear a
            go_enter Tryz.func8, Tryz.ntmps8
            go_wp2
            go_ret
            exact ⟨ret_int HZ.out.symm, F0.out⟩
          · by_cases a3 : g.ne < 1
            · clear a
              go_enter Tryz.func8, Tryz.ntmps8
              go_wp2
              go_ret
              exact ⟨ret_int HZ.out.symm, F0.out⟩
            · have a4 : 1000001 < g.ne := by omega
              clear a
              go_enter Tryz.func8, Tryz.ntmps8
              go_wp2
              go_ret
              exact ⟨ret_int HZ.out.symm, F0.out⟩
      · have a1 : ¬ g.nn < 1 := by omega
        have a2 : ¬ 1000001 < g.nn := by omega
        have a3 : ¬ g.ne < 1 := by omega
        have a4 : ¬ 1000001 < g.ne := by omega
        have HZ := Lib.hid (chk_2 b1 b2 a1 a2 a3 a4)
        have HCN := Lib.hid (fun w' (hf : Fuw w w') (i : Nat) (h : i < g.ns.length) => rnode_v g an ae cn ce i w' (HG.out.on hf) h)
        have HCE := Lib.hid (fun w' (hf : Fuw w w') (i : Nat) (h : i < g.es.length) => redge_v g an ae cn ce i w' (HG.out.on hf) h)
        have HDN := Lib.hid (fun (i : Nat) (h : i < g.ns.length) => nsV_drop g.nn g.ns i h)
        have HDE := Lib.hid (fun (i : Nat) (h : i < g.es.length) => esV_drop g.ns g.ne g.es i h)
        clear a b1 b2
        obtain ⟨D, hD⟩ : ∃ D, D = esV g.ns g.ne none g.es := ⟨_, rfl⟩
        rw [← hD] at HZ
        have HD := Lib.hid (show D = esV g.ns g.ne (prevE g.es 0) (g.es.drop 0) from hD)
        clear hD
        generalize chkV g = R at *
        unfold grv at *
        obtain ⟨w0, hw0⟩ : ∃ w0, w0 = w.alloc (.cells #[.slice an g.ns.length cn, .slice ae g.es.length ce, .int .i64 g.nn, .int .i64 g.ne] 25) := ⟨_, rfl⟩
        rw [← hw0] at F0 HB
        have HW0 := Lib.hid hw0
        clear hw0
        go_enter Tryz.func8, Tryz.ntmps8
        go_upto_region 1 with fail
        rw [← HW0.out]
        have q0 := HB.out.c0; have q1 := HB.out.c1; have q2 := HB.out.c2; have q3 := HB.out.c3
        go_wp2
        clear q0 q1 q2 q3
        go_loopw [3] (fun iv wr => ∃ i : Nat, iv = .int .i64 i ∧ i ≤ g.ns.length ∧ Hid (R = if nsV g.nn (prevN g.ns i) (g.ns.drop i) = 0 then D else nsV g.nn (prevN g.ns i) (g.ns.drop i)) ∧ Hid (Fuw w0 wr)) (fun iv _ => g.ns.length - (RowKit.intOf iv).toNat)
        case atStart => exact ⟨0, rfl, Nat.zero_le _, HZ, Fuw.refl _⟩
        case round =>
          obtain ⟨i, rfl, hi, HQ, hf⟩ := hrel
          have q0 := (HB.out.on hf.out).c0; have q1 := (HB.out.on hf.out).c1; have q2 := (HB.out.on hf.out).c2; have q3 := (HB.out.on hf.out).c3
          by_cases hlt : i < g.ns.length
          · have HC := Lib.hid (HCN.out _ (F0.out.trans hf.out) i hlt)
            have HA := Lib.hid (HDN.out i hlt)
            generalize ndV g.nn (prevN g.ns i) g.ns[i] = c at *
            go_wp2_with fail
            go_at_call 26; refine HC.out.mono ?_; rintro e1 w1 ⟨rfl, f1⟩
            have HF := Lib.hid (hf.out.trans f1)
            clear f1 q0 q1 q2 q3
            by_cases hc : c = 0
            · have HY := Lib.hid (show R = if nsV g.nn (prevN g.ns (i + 1)) (g.ns.drop (i + 1)) = 0 then D else nsV g.nn (prevN g.ns (i + 1)) (g.ns.drop (i + 1)) by
                rw [HQ.out, HA.out, if_pos hc])
              subst hc
              go_wp2
              go_roundw
              case rel => exact ⟨i + 1, by go_num, by omega, HY, HF⟩
              case measure => simp [RowKit.intOf]; omega
            · have HY := Lib.hid (show R = c by rw [HQ.out, HA.out, if_neg hc, if_neg hc])
              have hc' : (c != 0) = true := by rw [bne_iff_ne]; exact hc
              clear hc
              go_wp2
              go_ret
              exact ⟨ret_int HY.out.symm, F0.out.trans HF.out⟩
          · have HY := Lib.hid (show R = esV g.ns g.ne (prevE g.es 0) (g.es.drop 0) by
              rw [HQ.out, List.drop_of_length_le (show g.ns.length ≤ i by omega), ← HD.out]; rfl)
            go_wp2
            clear q0 q1 q2 q3
            go_loopw [5] (fun iv wx => ∃ i : Nat, iv = .int .i64 i ∧ i ≤ g.es.length ∧ Hid (R = esV g.ns g.ne (prevE g.es i) (g.es.drop i)) ∧ Hid (Fuw w0 wx)) (fun iv _ => g.es.length - (RowKit.intOf iv).toNat)
            case atStart => exact ⟨0, rfl, Nat.zero_le _, HY, hf⟩
            case round =>
              clear hf hlt hi HY HQ
              obtain ⟨i, rfl, hi, HQ, hf⟩ := hrel
              have q0 := (HB.out.on hf.out).c0; have q1 := (HB.out.on hf.out).c1; have q2 := (HB.out.on hf.out).c2; have q3 := (HB.out.on hf.out).c3
              by_cases hlt : i < g.es.length
              · have HC := Lib.hid (HCE.out _ (F0.out.trans hf.out) i hlt)
                have HA := Lib.hid (HQ.out.trans (HDE.out i hlt))
                generalize edV g.ns g.ne (prevE g.es i) g.es[i] = c at *
                go_wp2_with fail
                go_at_call 27; refine HC.out.mono ?_; rintro e1 w1 ⟨rfl, f1⟩
                have HF := Lib.hid (hf.out.trans f1)
                clear f1 q0 q1 q2 q3
                by_cases hc : c = 0
                · have HY := Lib.hid (show R = esV g.ns g.ne (prevE g.es (i + 1)) (g.es.drop (i + 1)) by rw [HA.out, if_pos hc])
                  subst hc
                  go_wp2
                  go_roundw
                  case rel => exact ⟨i + 1, by go_num, by omega, HY, HF⟩
                  case measure => simp [RowKit.intOf]; omega
                · have HY := Lib.hid (show R = c by rw [HA.out, if_neg hc])
                  have hc' : (c != 0) = true := by rw [bne_iff_ne]; exact hc
                  clear hc
                  go_wp2
                  go_ret
                  exact ⟨ret_int HY.out.symm, F0.out.trans HF.out⟩
              · have HY := Lib.hid (show R = 0 by rw [HQ.out, List.drop_of_length_le (show g.es.length ≤ i by omega)]; rfl)
                go_wp2
                go_ret
                exact ⟨ret_int HY.out.symm, F0.out.trans hf.out⟩
end Go.Proofs.YtcadeijloobbmaaGreat
