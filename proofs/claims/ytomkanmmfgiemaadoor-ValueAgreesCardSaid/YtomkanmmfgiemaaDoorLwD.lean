/-
  ValueAgrees gives true by the contracts of package value: for a value and itself, and with LwC for every two.
-/
import Derived.Test.YtomkanmmfgiemaaDoorLwC
namespace Go.Proofs.YtomkanmmfgiemaaDoor
open Go.RowKit

set_option maxHeartbeats 16000000 in
set_option maxRecDepth 100000 in
theorem agr_same (x : Vl) (ao bo : Option Addr) (ca cb : Nat) (w : World) (hi : Vin x) (hi' : Vin x) (hs : SlV w ao x.ll ca) (hs' : SlV w bo x.ll cb) (G : Good w) :
    Calls Tryd.prog 4 #[vlv x ao ca, vlv x bo cb] w (RwB w true) := by
  obtain ⟨p0, p1, f0⟩ := bx2 w x x ao bo ca cb
  have HG := Lib.hid G
  have HI := Lib.hid (And.intro hi hi')
  have HS := Lib.hid (And.intro hs hs')
  have CE := Lib.hid (fun w' (hf : Fur w w') => leq_any x x ao bo ca cb w' hi hi' (hs.on hf) (hs'.on hf))
  have CO := Lib.hid (fun w' (hf : Fur w w') => lo_all x x ao bo ca cb w' hi hi' (hs.on hf) (hs'.on hf))
  have CV := Lib.hid (fun w' (hf : Fur w w') => lvalid_any x ao ca w' hi (hs.on hf))
  have CS := Lib.hid (fun w' (hf : Fuw w w') => (samB_t.2 rfl : samB x x = true) ▸ lsame_all x x ao bo ca cb w' hi hi' (hs.onw hf) (hs'.onw hf))
  have HSL := Lib.hid (fun w' (hf : Fur w w') => sl2x w' x x ao bo ca cb hi hi' (hs.on hf) (hs'.on hf))
  have HX := Lib.hid (fun (h : lite [x, x] = true) => And.intro (lite_tex h (x := x) (by simp)) (lite_tex h (x := x) (by simp)))
  have h0 : eqV x x ≠ 0 := eq_self x
  have hb : ((bs (texX x)).toList == (bs (texX x)).toList) = true := by rw [beq_iff_eq]
  rw [ord_self] at CO
  clear hs hs' hi hi' G
  unfold vlv at *
  obtain ⟨W, hW⟩ : ∃ W, ((w.alloc (.cells #[.int .i64 x.kd, .int .i64 x.nn, .int .i64 x.dd, .string (bs x.ss), .slice ao x.ll.length ca] 24)).alloc (.cells #[.int .i64 x.kd, .int .i64 x.nn, .int .i64 x.dd, .string (bs x.ss), .slice bo x.ll.length cb] 24)) = W := ⟨_, rfl⟩
  rw [hW] at p0 p1 f0
  go_enter Tryd.func4, Tryd.ntmps4
  go_upto_region 1 with fail
  clear hW
  have c0 := p0.c0; have c1 := p0.c1; have c2 := p0.c2; have c3 := p0.c3; have c4 := p0.c4
  have d0 := p1.c0; have d1 := p1.c1; have d2 := p1.c2; have d3 := p1.c3; have d4 := p1.c4
  go_wp2_with fail
  obtain ⟨hl, fl⟩ := HSL.out W f0
  go_at_call 6; refine (lsmall_any [x, x] _ _ _ hl).mono ?_; rintro e1 wz ⟨rfl, f1⟩
  have ff := fl.trans f1
  clear hl fl f1 HSL
  clear c0 c1 c2 c3 c4 d0 d1 d2 d3 d4
  replace p0 := p0.on ff
  replace p1 := p1.on ff
  replace f0 := f0.trans ff
  clear ff
  have c0 := p0.c0; have c1 := p0.c1; have c2 := p0.c2; have c3 := p0.c3; have c4 := p0.c4
  have d0 := p1.c0; have d1 := p1.c1; have d2 := p1.c2; have d3 := p1.c3; have d4 := p1.c4
  generalize lite [x, x] = q at *
  cases q
  · clear CE CO CV HX HI HS CS
    go_wp2_with fail
    go_at_call 7; refine (alive_any _ (HG.out.onw f0.w)).mono ?_; rintro e9 w9 ⟨rfl, f9⟩
    go_wp2
    go_ret
    exact ⟨rfl, Fuw.trans f0.w f9⟩
  replace HX := Lib.hid (HX.out rfl)
  generalize eqV x x = E at *
  go_wp2_with fail
  go_at_call 10; refine (CE.out _ f0).mono ?_; rintro e7 wz ⟨rfl, ff⟩
  clear c0 c1 c2 c3 c4 d0 d1 d2 d3 d4
  replace p0 := p0.on ff
  replace p1 := p1.on ff
  replace f0 := f0.trans ff
  clear ff
  have c0 := p0.c0; have c1 := p0.c1; have c2 := p0.c2; have c3 := p0.c3; have c4 := p0.c4
  have d0 := p1.c0; have d1 := p1.c1; have d2 := p1.c2; have d3 := p1.c3; have d4 := p1.c4
  by_cases h2 : E = 2
  · subst h2
    clear h0
    go_wp2_with fail
    go_at_call 8; refine (CO.out _ f0).mono ?_; rintro e7 wz ⟨rfl, ff⟩
    clear c0 c1 c2 c3 c4 d0 d1 d2 d3 d4
    replace p0 := p0.on ff
    replace p1 := p1.on ff
    replace f0 := f0.trans ff
    clear ff
    have c0 := p0.c0; have c1 := p0.c1; have c2 := p0.c2; have c3 := p0.c3; have c4 := p0.c4
    have d0 := p1.c0; have d1 := p1.c1; have d2 := p1.c2; have d3 := p1.c3; have d4 := p1.c4
    go_wp2_with fail
    go_at_call 11; refine (CV.out _ f0).mono ?_; rintro e7 wz ⟨rfl, ff⟩
    clear c0 c1 c2 c3 c4 d0 d1 d2 d3 d4
    replace p0 := p0.on ff
    replace p1 := p1.on ff
    replace f0 := f0.trans ff
    clear ff
    have c0 := p0.c0; have c1 := p0.c1; have c2 := p0.c2; have c3 := p0.c3; have c4 := p0.c4
    have d0 := p1.c0; have d1 := p1.c1; have d2 := p1.c2; have d3 := p1.c3; have d4 := p1.c4
    cases hp : okX x
    · clear hb CE CO CV CS HX
      go_upto_region 5 with fail
      have ff := Fuw.drew (Fuw.refl wz)
      clear c0 c1 c2 c3 c4 d0 d1 d2 d3 d4
      have c0 := (p0.onw ff).c0; have c1 := (p0.onw ff).c1; have c2 := (p0.onw ff).c2; have c3 := (p0.onw ff).c3; have c4 := (p0.onw ff).c4; have d0 := (p1.onw ff).c0; have d1 := (p1.onw ff).c1; have d2 := (p1.onw ff).c2; have d3 := (p1.onw ff).c3; have d4 := (p1.onw ff).c4
      go_region_with (first
          | (go_at_call 11; (refine (lvalid_f _ _ _ _ ?_ ?_ ?_).mono ?_; (first | exact HI.out.1 | exact HI.out.2); (first | exact HS.out.1.onw (f0.w.trans ff) | exact HS.out.2.onw (f0.w.trans ff)); (first | exact hp | exact hq); rintro e4 w4 ⟨rfl, f4⟩; replace ff := ff.trans f4.b; have c0 := (p0.onw ff).c0; have c1 := (p0.onw ff).c1; have c2 := (p0.onw ff).c2; have c3 := (p0.onw ff).c3; have c4 := (p0.onw ff).c4; have d0 := (p1.onw ff).c0; have d1 := (p1.onw ff).c1; have d2 := (p1.onw ff).c2; have d3 := (p1.onw ff).c3; have d4 := (p1.onw ff).c4))
          | (go_at_call 7; refine (alive_any _ (HG.out.onw (f0.w.trans ff))).mono ?_; rintro e4 w4 ⟨rfl, f4⟩; replace ff := ff.trans f4; have c0 := (p0.onw ff).c0; have c1 := (p0.onw ff).c1; have c2 := (p0.onw ff).c2; have c3 := (p0.onw ff).c3; have c4 := (p0.onw ff).c4; have d0 := (p1.onw ff).c0; have d1 := (p1.onw ff).c1; have d2 := (p1.onw ff).c2; have d3 := (p1.onw ff).c3; have d4 := (p1.onw ff).c4))
      all_goals
        go_wp2
        go_ret
        exact ⟨rfl, f0.w.trans ff⟩
    · go_wp2_with fail
      go_at_call 8; refine (CO.out _ f0).mono ?_; rintro e7 wz ⟨rfl, ff⟩
      clear c0 c1 c2 c3 c4 d0 d1 d2 d3 d4
      replace p0 := p0.on ff
      replace p1 := p1.on ff
      replace f0 := f0.trans ff
      clear ff
      have c0 := p0.c0; have c1 := p0.c1; have c2 := p0.c2; have c3 := p0.c3; have c4 := p0.c4
      have d0 := p1.c0; have d1 := p1.c1; have d2 := p1.c2; have d3 := p1.c3; have d4 := p1.c4
      go_wp2_with fail
      go_at_call 10; refine (CE.out _ f0).mono ?_; rintro e7 wz ⟨rfl, ff⟩
      clear c0 c1 c2 c3 c4 d0 d1 d2 d3 d4
      replace p0 := p0.on ff
      replace p1 := p1.on ff
      replace f0 := f0.trans ff
      clear ff
      have c0 := p0.c0; have c1 := p0.c1; have c2 := p0.c2; have c3 := p0.c3; have c4 := p0.c4
      have d0 := p1.c0; have d1 := p1.c1; have d2 := p1.c2; have d3 := p1.c3; have d4 := p1.c4
      clear CE CO CV
      go_upto_region 5 with fail
      have ff := Fuw.drew (Fuw.refl wz)
      clear c0 c1 c2 c3 c4 d0 d1 d2 d3 d4
      have c0 := (p0.onw ff).c0; have c1 := (p0.onw ff).c1; have c2 := (p0.onw ff).c2; have c3 := (p0.onw ff).c3; have c4 := (p0.onw ff).c4; have d0 := (p1.onw ff).c0; have d1 := (p1.onw ff).c1; have d2 := (p1.onw ff).c2; have d3 := (p1.onw ff).c3; have d4 := (p1.onw ff).c4
      go_region_with (first
          | (go_at_call 11; (refine (lvalid_t _ _ _ _ ?_ ?_ ?_).mono ?_; (first | exact HI.out.1 | exact HI.out.2); (first | exact HS.out.1.onw (f0.w.trans ff) | exact HS.out.2.onw (f0.w.trans ff)); (first | exact hp | exact hq); rintro e4 w4 ⟨rfl, f4⟩; replace ff := ff.trans f4.b; have c0 := (p0.onw ff).c0; have c1 := (p0.onw ff).c1; have c2 := (p0.onw ff).c2; have c3 := (p0.onw ff).c3; have c4 := (p0.onw ff).c4; have d0 := (p1.onw ff).c0; have d1 := (p1.onw ff).c1; have d2 := (p1.onw ff).c2; have d3 := (p1.onw ff).c3; have d4 := (p1.onw ff).c4))
          | (go_at_call 12; refine (ltext_any _ _ _ _ ?_ ?_ ?_ ?_).mono ?_; (first | exact HI.out.1 | exact HI.out.2); (first | exact HS.out.1.onw (f0.w.trans ff) | exact HS.out.2.onw (f0.w.trans ff)); exact HG.out.onw (f0.w.trans ff); (first | exact HX.out.1 | exact HX.out.2); rintro e4 w4 ⟨rfl, f4⟩; replace ff := ff.trans f4; have c0 := (p0.onw ff).c0; have c1 := (p0.onw ff).c1; have c2 := (p0.onw ff).c2; have c3 := (p0.onw ff).c3; have c4 := (p0.onw ff).c4; have d0 := (p1.onw ff).c0; have d1 := (p1.onw ff).c1; have d2 := (p1.onw ff).c2; have d3 := (p1.onw ff).c3; have d4 := (p1.onw ff).c4)
          | (go_at_call 9; refine (CS.out _ (f0.w.trans ff)).mono ?_; rintro e4 w4 ⟨rfl, f4⟩; replace ff := ff.trans f4.b; have c0 := (p0.onw ff).c0; have c1 := (p0.onw ff).c1; have c2 := (p0.onw ff).c2; have c3 := (p0.onw ff).c3; have c4 := (p0.onw ff).c4; have d0 := (p1.onw ff).c0; have d1 := (p1.onw ff).c1; have d2 := (p1.onw ff).c2; have d3 := (p1.onw ff).c3; have d4 := (p1.onw ff).c4)
          | (go_at_call 7; refine (alive_any _ (HG.out.onw (f0.w.trans ff))).mono ?_; rintro e4 w4 ⟨rfl, f4⟩; replace ff := ff.trans f4; have c0 := (p0.onw ff).c0; have c1 := (p0.onw ff).c1; have c2 := (p0.onw ff).c2; have c3 := (p0.onw ff).c3; have c4 := (p0.onw ff).c4; have d0 := (p1.onw ff).c0; have d1 := (p1.onw ff).c1; have d2 := (p1.onw ff).c2; have d3 := (p1.onw ff).c3; have d4 := (p1.onw ff).c4))
      all_goals
        go_wp2
        go_ret
        exact ⟨rfl, f0.w.trans ff⟩
  · have g2 : (E == 2) = false := beq_eq_false_iff_ne.2 h2
    have g0 : (E == 0) = false := beq_eq_false_iff_ne.2 h0
    clear h2 h0
    go_wp2_with fail
    go_at_call 11; refine (CV.out _ f0).mono ?_; rintro e7 wz ⟨rfl, ff⟩
    clear c0 c1 c2 c3 c4 d0 d1 d2 d3 d4
    replace p0 := p0.on ff
    replace p1 := p1.on ff
    replace f0 := f0.trans ff
    clear ff
    have c0 := p0.c0; have c1 := p0.c1; have c2 := p0.c2; have c3 := p0.c3; have c4 := p0.c4
    have d0 := p1.c0; have d1 := p1.c1; have d2 := p1.c2; have d3 := p1.c3; have d4 := p1.c4
    cases hp : okX x
    · clear hb CE CO CV CS HX
      go_upto_region 5 with fail
      have ff := Fuw.drew (Fuw.refl wz)
      clear c0 c1 c2 c3 c4 d0 d1 d2 d3 d4
      have c0 := (p0.onw ff).c0; have c1 := (p0.onw ff).c1; have c2 := (p0.onw ff).c2; have c3 := (p0.onw ff).c3; have c4 := (p0.onw ff).c4; have d0 := (p1.onw ff).c0; have d1 := (p1.onw ff).c1; have d2 := (p1.onw ff).c2; have d3 := (p1.onw ff).c3; have d4 := (p1.onw ff).c4
      go_region_with (first
          | (go_at_call 11; (refine (lvalid_f _ _ _ _ ?_ ?_ ?_).mono ?_; (first | exact HI.out.1 | exact HI.out.2); (first | exact HS.out.1.onw (f0.w.trans ff) | exact HS.out.2.onw (f0.w.trans ff)); (first | exact hp | exact hq); rintro e4 w4 ⟨rfl, f4⟩; replace ff := ff.trans f4.b; have c0 := (p0.onw ff).c0; have c1 := (p0.onw ff).c1; have c2 := (p0.onw ff).c2; have c3 := (p0.onw ff).c3; have c4 := (p0.onw ff).c4; have d0 := (p1.onw ff).c0; have d1 := (p1.onw ff).c1; have d2 := (p1.onw ff).c2; have d3 := (p1.onw ff).c3; have d4 := (p1.onw ff).c4))
          | (go_at_call 7; refine (alive_any _ (HG.out.onw (f0.w.trans ff))).mono ?_; rintro e4 w4 ⟨rfl, f4⟩; replace ff := ff.trans f4; have c0 := (p0.onw ff).c0; have c1 := (p0.onw ff).c1; have c2 := (p0.onw ff).c2; have c3 := (p0.onw ff).c3; have c4 := (p0.onw ff).c4; have d0 := (p1.onw ff).c0; have d1 := (p1.onw ff).c1; have d2 := (p1.onw ff).c2; have d3 := (p1.onw ff).c3; have d4 := (p1.onw ff).c4))
      all_goals
        go_wp2
        go_ret
        exact ⟨rfl, f0.w.trans ff⟩
    · go_wp2_with fail
      go_at_call 8; refine (CO.out _ f0).mono ?_; rintro e7 wz ⟨rfl, ff⟩
      clear c0 c1 c2 c3 c4 d0 d1 d2 d3 d4
      replace p0 := p0.on ff
      replace p1 := p1.on ff
      replace f0 := f0.trans ff
      clear ff
      have c0 := p0.c0; have c1 := p0.c1; have c2 := p0.c2; have c3 := p0.c3; have c4 := p0.c4
      have d0 := p1.c0; have d1 := p1.c1; have d2 := p1.c2; have d3 := p1.c3; have d4 := p1.c4
      go_wp2_with fail
      go_at_call 10; refine (CE.out _ f0).mono ?_; rintro e7 wz ⟨rfl, ff⟩
      clear c0 c1 c2 c3 c4 d0 d1 d2 d3 d4
      replace p0 := p0.on ff
      replace p1 := p1.on ff
      replace f0 := f0.trans ff
      clear ff
      have c0 := p0.c0; have c1 := p0.c1; have c2 := p0.c2; have c3 := p0.c3; have c4 := p0.c4
      have d0 := p1.c0; have d1 := p1.c1; have d2 := p1.c2; have d3 := p1.c3; have d4 := p1.c4
      clear CE CO CV
      go_upto_region 5 with fail
      have ff := Fuw.drew (Fuw.refl wz)
      clear c0 c1 c2 c3 c4 d0 d1 d2 d3 d4
      have c0 := (p0.onw ff).c0; have c1 := (p0.onw ff).c1; have c2 := (p0.onw ff).c2; have c3 := (p0.onw ff).c3; have c4 := (p0.onw ff).c4; have d0 := (p1.onw ff).c0; have d1 := (p1.onw ff).c1; have d2 := (p1.onw ff).c2; have d3 := (p1.onw ff).c3; have d4 := (p1.onw ff).c4
      go_region_with (first
          | (go_at_call 11; (refine (lvalid_t _ _ _ _ ?_ ?_ ?_).mono ?_; (first | exact HI.out.1 | exact HI.out.2); (first | exact HS.out.1.onw (f0.w.trans ff) | exact HS.out.2.onw (f0.w.trans ff)); (first | exact hp | exact hq); rintro e4 w4 ⟨rfl, f4⟩; replace ff := ff.trans f4.b; have c0 := (p0.onw ff).c0; have c1 := (p0.onw ff).c1; have c2 := (p0.onw ff).c2; have c3 := (p0.onw ff).c3; have c4 := (p0.onw ff).c4; have d0 := (p1.onw ff).c0; have d1 := (p1.onw ff).c1; have d2 := (p1.onw ff).c2; have d3 := (p1.onw ff).c3; have d4 := (p1.onw ff).c4))
          | (go_at_call 12; refine (ltext_any _ _ _ _ ?_ ?_ ?_ ?_).mono ?_; (first | exact HI.out.1 | exact HI.out.2); (first | exact HS.out.1.onw (f0.w.trans ff) | exact HS.out.2.onw (f0.w.trans ff)); exact HG.out.onw (f0.w.trans ff); (first | exact HX.out.1 | exact HX.out.2); rintro e4 w4 ⟨rfl, f4⟩; replace ff := ff.trans f4; have c0 := (p0.onw ff).c0; have c1 := (p0.onw ff).c1; have c2 := (p0.onw ff).c2; have c3 := (p0.onw ff).c3; have c4 := (p0.onw ff).c4; have d0 := (p1.onw ff).c0; have d1 := (p1.onw ff).c1; have d2 := (p1.onw ff).c2; have d3 := (p1.onw ff).c3; have d4 := (p1.onw ff).c4)
          | (go_at_call 9; refine (CS.out _ (f0.w.trans ff)).mono ?_; rintro e4 w4 ⟨rfl, f4⟩; replace ff := ff.trans f4.b; have c0 := (p0.onw ff).c0; have c1 := (p0.onw ff).c1; have c2 := (p0.onw ff).c2; have c3 := (p0.onw ff).c3; have c4 := (p0.onw ff).c4; have d0 := (p1.onw ff).c0; have d1 := (p1.onw ff).c1; have d2 := (p1.onw ff).c2; have d3 := (p1.onw ff).c3; have d4 := (p1.onw ff).c4)
          | (go_at_call 7; refine (alive_any _ (HG.out.onw (f0.w.trans ff))).mono ?_; rintro e4 w4 ⟨rfl, f4⟩; replace ff := ff.trans f4; have c0 := (p0.onw ff).c0; have c1 := (p0.onw ff).c1; have c2 := (p0.onw ff).c2; have c3 := (p0.onw ff).c3; have c4 := (p0.onw ff).c4; have d0 := (p1.onw ff).c0; have d1 := (p1.onw ff).c1; have d2 := (p1.onw ff).c2; have d3 := (p1.onw ff).c3; have d4 := (p1.onw ff).c4))
      all_goals
        go_wp2
        go_ret
        exact ⟨rfl, f0.w.trans ff⟩
theorem agrees_any (x y : Vl) (ao bo : Option Addr) (ca cb : Nat) (w : World) (hi : Vin x) (hi' : Vin y) (hs : SlV w ao x.ll ca) (hs' : SlV w bo y.ll cb) (G : Good w) :
    Calls Tryd.prog 4 #[vlv x ao ca, vlv y bo cb] w (RwB w true) := by
  by_cases h : ordV x y = 0
  · have e := ord_eq h
    subst e
    exact agr_same x ao bo ca cb w hi hi' hs hs' G
  · exact agr_diff x y ao bo ca cb w hi hi' hs hs' G h
end Go.Proofs.YtomkanmmfgiemaaDoor
