/-
  The laws of package change: ChangeRestores, walked.
-/
import Derived.Test.YtfbijdoomkgodaaGreatDoorK46
namespace Go.Proofs.YtfbijdoomkgodaaGreatDoor
open Go.RowKit

set_option maxHeartbeats 12800000 in
set_option maxRecDepth 100000 in
theorem rest_walk (g : Gr) (an ae : Option Addr) (cn ce : Nat) (l : List Ch) (al : Option Addr) (cl : Nat) (w : World) (hg : GIn w g an ae cn ce) (hl : SlC w al l cl) (hGd : Good w) :
    Calls Tryz.prog 6 #[grv g an ae cn ce, .slice al l.length cl] w (FwB w true) := by
  obtain ⟨W, hW⟩ : ∃ W, W = w.alloc (.cells #[.slice an g.ns.length cn, .slice ae g.es.length ce, .int .i64 g.nn, .int .i64 g.ne] 25) := ⟨_, rfl⟩
  have fW : Fuw w W := by rw [hW]; exact fuwA _ _
  have HBW := Lib.hid (show Bk W w.heap.size #[.slice an g.ns.length cn, .slice ae g.es.length ce, .int .i64 g.nn, .int .i64 g.ne] 25 from by rw [hW]; exact Bk.new _ _ _)
  have HFW := Lib.hid fW
  have HSM := Lib.hid (show Calls Tryz.prog 8 #[grv g an ae cn ce, .slice al l.length cl] W (FwB W (smC g l 40)) from
    smallc_any g an ae cn ce l al cl w W (hg.on fW) (slCz_of fW hl))
  have HAL := Lib.hid (fun (w' : World) (hf : Fuw w w') => alivec_any w' (hGd.onw hf))
  have HAP := Lib.hid (fun (w' : World) (hf : Fuw w w') => applyall_any g an ae cn ce l al cl w w' hg (slCz_of hf hl) hf)
  have HIV := Lib.hid (fun (hs : l.length ≤ 40) (w' : World) (hf : Fuw w w') => invert_any g an ae cn ce l al cl w w' hg (slCz_of hf hl) hf (by omega))
  have HSL := Lib.hid (fun (h : smC g l 40 = true) => (sm_len h).1)
  have HM := Lib.hid (@restore_maths g l)
  have HN := Lib.hid (@inv_bad g l)
  have HG := Lib.hid hg
  have c0 := HBW.out.c 0; have c1 := HBW.out.c 1; have c2 := HBW.out.c 2; have c3 := HBW.out.c 3
  unfold grv at *
  generalize smC g l 40 = sm at *
  clear fW hg hl hGd
  go_enter Tryz.func6, Tryz.ntmps6
  go_upto_region 1 with fail
  rw [← hW]
  clear hW
  go_wp2_with fail
  go_at_call 8; refine HSM.out.mono ?_; rintro e1 w1 ⟨rfl, f1⟩
  have HF1 := Lib.hid (HFW.out.trans f1)
  have HB1 := Lib.hid (HBW.out.on f1)
  clear c0 c1 c2 c3 f1 HSM HFW HBW
  cases sm with
  | false =>
    go_wp2_with fail
    go_at_call 9; refine (HAL.out _ HF1.out).mono ?_; rintro e2 w2 ⟨rfl, f2⟩
    have HF2 := Lib.hid (HF1.out.trans f2)
    clear f2
    go_wp2
    go_ret
    exact ⟨rfl, HF2.out⟩
  | true =>
    have HS40 := Lib.hid (HSL.out rfl)
    have c0 := HB1.out.c 0; have c1 := HB1.out.c 1; have c2 := HB1.out.c 2; have c3 := HB1.out.c 3
    go_wp2_with fail
    go_at_call 15; refine (HAP.out _ HF1.out).mono ?_; intro e2 w2 hr2
    obtain ⟨xn, xe, yn, ye, rfl, hgt, f2⟩ := hr2.gn
    clear c0 c1 c2 c3 hr2
    obtain ⟨T, hT⟩ : ∃ T, T = appG g l := ⟨_, rfl⟩
    obtain ⟨E, hE⟩ : ∃ E, E = appE g l := ⟨_, rfl⟩
    rw [← hT] at hgt ⊢
    rw [← hE]
    obtain ⟨n, x⟩ := E
    have HT := Lib.hid hT
    have HE := Lib.hid hE
    unfold grv
    simp only
    obtain ⟨X, hX⟩ : ∃ X, X = w2.alloc (.cells #[.slice xn T.ns.length yn, .slice xe T.es.length ye, .int .i64 T.nn, .int .i64 T.ne] 25) := ⟨_, rfl⟩
    have fX : Fuw w2 X := by rw [hX]; exact fuwA _ _
    have HF2 := Lib.hid ((HF1.out.trans f2).trans fX)
    have HB2 := Lib.hid ((HB1.out.on f2).on fX)
    have HT2 := Lib.hid (show Bk X w2.heap.size #[.slice xn T.ns.length yn, .slice xe T.es.length ye, .int .i64 T.nn, .int .i64 T.ne] 25 from by rw [hX]; exact Bk.new _ _ _)
    have HGT := Lib.hid (hgt.on fX)
    clear f2 fX hgt HF1 HB1 hT hE
    go_upto_region 4 with fail
    rw [← hX]
    clear hX
    generalize w2.heap.size = B2 at *
    have c0 := HB2.out.c 0; have c1 := HB2.out.c 1; have c2 := HB2.out.c 2; have c3 := HB2.out.c 3
    have HI := Lib.hid (HIV.out HS40.out X HF2.out)
    go_wp2_with fail
    go_at_call 17; refine HI.out.mono ?_; intro e3 w3 hr3
    obtain ⟨bl, kl, rfl, hbl, f3⟩ := hr3.st HF2.out
    clear c0 c1 c2 c3 hr3 HI
    rw [← HE.out]
    obtain ⟨L, hL⟩ : ∃ L, L = invR g l := ⟨_, rfl⟩
    rw [← hL] at hbl ⊢
    have HL := Lib.hid hL
    simp only
    have HF3 := Lib.hid (HF2.out.trans f3)
    have HB3 := Lib.hid (HB2.out.on f3)
    have HT3 := Lib.hid (HT2.out.on f3)
    have HG3 := Lib.hid (HGT.out.on f3)
    have HBL := Lib.hid hbl
    clear f3 hL hbl HF2 HB2 HT2 HGT
    by_cases hx : x = 0
    · subst hx
      have HM2 := Lib.hid (HM.out (by rw [← HE.out]))
      rw [← HT.out, ← HL.out] at HM2
      have HLL := Lib.hid (show L.length ≤ 1000 from by have h1 := HM2.out.2.2.2.2; have h2 := HS40.out; omega)
      obtain ⟨U, hU⟩ : ∃ U, U = appG T L := ⟨_, rfl⟩
      obtain ⟨M, hMM⟩ : ∃ M, M = invR T L := ⟨_, rfl⟩
      rw [← hU, ← hMM] at HM2
      have HU := Lib.hid hU
      have HMM := Lib.hid hMM
      clear hU hMM
      have HA := Lib.hid (applyall_any T xn xe yn ye L bl kl w3 w3 HG3.out (slCz_of (Fuw.refl w3) HBL.out) (Fuw.refl w3))
      have HI2 := Lib.hid (fun (w' : World) (hf : Fuw w3 w') => invert_any T xn xe yn ye L bl kl w3 w' HG3.out (slCz_of hf HBL.out) hf HLL.out)
      have c0 := HT3.out.c 0; have c1 := HT3.out.c 1; have c2 := HT3.out.c 2; have c3 := HT3.out.c 3
      unfold grv at HA HI2
      go_wp2_with fail
      go_at_call 15; refine HA.out.mono ?_; intro e4 w4 hr4
      obtain ⟨un, ue, vn, ve, rfl, hgu, f4⟩ := hr4.gn
      clear c0 c1 c2 c3 hr4 HA
      rw [← HU.out] at hgu ⊢
      rw [HM2.out.1]
      generalize (appE T L).1 = n4 at *
      unfold grv
      obtain ⟨Y, hY⟩ : ∃ Y, Y = w4.alloc (.cells #[.slice un U.ns.length vn, .slice ue U.es.length ve, .int .i64 U.nn, .int .i64 U.ne] 25) := ⟨_, rfl⟩
      have fY : Fuw w4 Y := by rw [hY]; exact fuwA _ _
      have HF4 := Lib.hid ((HF3.out.trans f4).trans fY)
      have HK4 := Lib.hid (f4.trans fY)
      have HB4 := Lib.hid ((HB3.out.on f4).on fY)
      have HT4 := Lib.hid ((HT3.out.on f4).on fY)
      have HU4 := Lib.hid (show Bk Y w4.heap.size #[.slice un U.ns.length vn, .slice ue U.es.length ve, .int .i64 U.nn, .int .i64 U.ne] 25 from by rw [hY]; exact Bk.new _ _ _)
      have HGU := Lib.hid (hgu.on fY)
      clear f4 fY hgu HF3 HB3 HT3
      go_upto_region 8 with fail
      rw [← hY]
      clear hY
      generalize w4.heap.size = B4 at *
      have HI5 := Lib.hid (HI2.out Y HK4.out)
      have c0 := HT4.out.c 0; have c1 := HT4.out.c 1; have c2 := HT4.out.c 2; have c3 := HT4.out.c 3
      go_wp2_with fail
      go_at_call 17; refine HI5.out.mono ?_; intro e5 w5 hr5
      obtain ⟨dl, ml, rfl, hdl, f5⟩ := hr5.st HK4.out
      clear c0 c1 c2 c3 hr5 HI5 HI2
      rw [← HMM.out] at hdl ⊢
      rw [HM2.out.1]
      generalize (appE T L).1 = n5 at *
      have HF5 := Lib.hid (HF4.out.trans f5)
      have HB5 := Lib.hid (HB4.out.on f5)
      have HT5 := Lib.hid (HT4.out.on f5)
      have HU5 := Lib.hid (HU4.out.on f5)
      have HG5 := Lib.hid ((HG3.out.on HK4.out).on f5)
      have HGU5 := Lib.hid (HGU.out.on f5)
      have HDL := Lib.hid hdl
      clear f5 hdl HF4 HB4 HT4 HU4 HG3 HGU HK4
      have HA := Lib.hid (applyall_any U un ue vn ve M dl ml w5 w5 HGU5.out (slCz_of (Fuw.refl w5) HDL.out) (Fuw.refl w5))
      have c0 := HU5.out.c 0; have c1 := HU5.out.c 1; have c2 := HU5.out.c 2; have c3 := HU5.out.c 3
      unfold grv at HA
      go_wp2_with fail
      go_at_call 15; refine HA.out.mono ?_; intro e6 w6 hr6
      obtain ⟨zn, ze, kn, ke, rfl, hgz, f6⟩ := hr6.gn
      clear c0 c1 c2 c3 hr6 HA
      rw [HM2.out.2.1]
      obtain ⟨Z, hZ⟩ : ∃ Z, Z = appG U M := ⟨_, rfl⟩
      rw [← hZ] at hgz ⊢ HM2
      generalize (appE U M).1 = n6 at *
      clear hZ
      unfold grv
      obtain ⟨V, hV⟩ : ∃ V, V = w6.alloc (.cells #[.slice zn Z.ns.length kn, .slice ze Z.es.length ke, .int .i64 Z.nn, .int .i64 Z.ne] 25) := ⟨_, rfl⟩
      have fV : Fuw w6 V := by rw [hV]; exact fuwA _ _
      have HF6 := Lib.hid ((HF5.out.trans f6).trans fV)
      have HB6 := Lib.hid ((HB5.out.on f6).on fV)
      have HT6 := Lib.hid ((HT5.out.on f6).on fV)
      have HU6 := Lib.hid ((HU5.out.on f6).on fV)
      have HZ6 := Lib.hid (show Bk V w6.heap.size #[.slice zn Z.ns.length kn, .slice ze Z.es.length ke, .int .i64 Z.nn, .int .i64 Z.ne] 25 from by rw [hV]; exact Bk.new _ _ _)
      have HG6 := Lib.hid ((HG5.out.on f6).on fV)
      have HGU6 := Lib.hid ((HGU5.out.on f6).on fV)
      have HGZ := Lib.hid (hgz.on fV)
      clear f6 fV hgz HF5 HB5 HT5 HU5 HG5 HGU5 HDL
      go_upto_region 10 with fail
      rw [← hV]
      clear hV
      generalize w6.heap.size = B6 at *
      have HS1 := Lib.hid (show Calls Tryz.prog 20 #[.agg #[.slice un U.ns.length vn, .slice ue U.es.length ve, .int .i64 U.nn, .int .i64 U.ne], .agg #[.slice an g.ns.length cn, .slice ae g.es.length ce, .int .i64 g.nn, .int .i64 g.ne]] V (FwB V true) from by
        have k := rsparts_any U.ns g.ns U.es g.es un ue an ae vn ve cn ce U.nn U.ne g.nn g.ne V HGU6.out.n HGU6.out.e (HG.out.on HF6.out).n (HG.out.on HF6.out).e
        rwa [pr_same HM2.out.2.2.1] at k)
      have HS2 := Lib.hid (fun (w' : World) (hf : Fuw V w') => show Calls Tryz.prog 20 #[.agg #[.slice zn Z.ns.length kn, .slice ze Z.es.length ke, .int .i64 Z.nn, .int .i64 Z.ne], .agg #[.slice xn T.ns.length yn, .slice xe T.es.length ye, .int .i64 T.nn, .int .i64 T.ne]] w' (FwB w' true) from by
        have k := rsparts_any Z.ns T.ns Z.es T.es zn ze xn xe kn ke yn ye Z.nn Z.ne T.nn T.ne w' (HGZ.out.on hf).n (HGZ.out.on hf).e (HG6.out.on hf).n (HG6.out.on hf).e
        rwa [pr_same HM2.out.2.2.2.1] at k)
      have c0 := HU6.out.c 0; have c1 := HU6.out.c 1; have c2 := HU6.out.c 2; have c3 := HU6.out.c 3
      have d0 := HB6.out.c 0; have d1 := HB6.out.c 1; have d2 := HB6.out.c 2; have d3 := HB6.out.c 3
      go_wp2_with fail
      go_at_call 20; refine HS1.out.mono ?_; rintro e7 w7 ⟨rfl, f7⟩
      have HF7 := Lib.hid (HF6.out.trans f7)
      have HH7 := Lib.hid f7
      clear c0 c1 c2 c3 d0 d1 d2 d3 f7
      have c0 := (HZ6.out.on HH7.out).c 0; have c1 := (HZ6.out.on HH7.out).c 1; have c2 := (HZ6.out.on HH7.out).c 2; have c3 := (HZ6.out.on HH7.out).c 3
      have d0 := (HT6.out.on HH7.out).c 0; have d1 := (HT6.out.on HH7.out).c 1; have d2 := (HT6.out.on HH7.out).c 2; have d3 := (HT6.out.on HH7.out).c 3
      go_wp2_with fail
      go_at_call 20; refine (HS2.out _ HH7.out).mono ?_; rintro e8 w8 ⟨rfl, f8⟩
      have HF8 := Lib.hid (HF7.out.trans f8)
      clear c0 c1 c2 c3 d0 d1 d2 d3 f8
      go_wp2_with fail
      go_at_call 9; refine (HAL.out _ HF8.out).mono ?_; rintro e9 w9 ⟨rfl, f9⟩
      have HF9 := Lib.hid (HF8.out.trans f9)
      clear f9
      go_wp2
      go_ret
      exact ⟨rfl, HF9.out⟩
    · have HL0 := Lib.hid (show L.length = 0 from by rw [HL.out, HN.out (by rw [← HE.out]; exact hx)]; rfl)
      rw [HL0.out]
      go_wp2_with fail
      go_at_call 9; refine (HAL.out _ HF3.out).mono ?_; rintro e7 w7 ⟨rfl, f7⟩
      have HF7 := Lib.hid (HF3.out.trans f7)
      clear f7
      go_wp2
      go_ret
      exact ⟨rfl, HF7.out⟩
end Go.Proofs.YtfbijdoomkgodaaGreatDoor
