/-
  ValueAgrees gives true by the contracts of package value.
-/
import Derived.Test.YtomkanmmfgiemaaDoorLvP
import Derived.Test.YtomkanmmfgiemaaDoorLvQ
import Derived.Test.YtomkanmmfgiemaaDoorVMore
namespace Go.Proofs.YtomkanmmfgiemaaDoor
open Go.RowKit

/-- Cells that hold values, as values. -/
theorem VE_cons {w : World} {x : Vl} {l : List Vl} {b o : Nat} {ao : Option Addr} {cap : Nat} (hi : Vin x) (c0 : w.cell? ⟨b, o, none⟩ = some (.int .i64 x.kd)) (c1 : w.cell? ⟨b, o + 1, none⟩ = some (.int .i64 x.nn)) (c2 : w.cell? ⟨b, o + 2, none⟩ = some (.int .i64 x.dd)) (c3 : w.cell? ⟨b, o + 3, none⟩ = some (.string (bs x.ss))) (c4 : w.cell? ⟨b, o + 4, none⟩ = some (.slice ao x.ll.length cap)) (hs : SlV w ao x.ll cap) (h : VE w l b (o + 5)) : VE w (x :: l) b o := by
  unfold VE
  exact ⟨VC_mk hi c0 c1 c2 c3 c4 hs, h⟩
theorem VE_nil (w : World) (b o : Nat) : VE w [] b o := by unfold VE; trivial
theorem sl2x (w : World) (x y : Vl) (ao bo : Option Addr) (ca cb : Nat) (hi : Vin x) (hi' : Vin y) (hs : SlV w ao x.ll ca) (hs' : SlV w bo y.ll cb) :
    SlV (w.alloc (.cells #[.int .i64 x.kd, .int .i64 x.nn, .int .i64 x.dd, .string (bs x.ss), .slice ao x.ll.length ca, .int .i64 y.kd, .int .i64 y.nn, .int .i64 y.dd, .string (bs y.ss), .slice bo y.ll.length cb] 24)) (some ⟨w.heap.size, 0, none⟩) [x, y] 2 ∧ Fur w (w.alloc (.cells #[.int .i64 x.kd, .int .i64 x.nn, .int .i64 x.dd, .string (bs x.ss), .slice ao x.ll.length ca, .int .i64 y.kd, .int .i64 y.nn, .int .i64 y.dd, .string (bs y.ss), .slice bo y.ll.length cb] 24)) := by
  have hf : Fur w (w.alloc (.cells #[.int .i64 x.kd, .int .i64 x.nn, .int .i64 x.dd, .string (bs x.ss), .slice ao x.ll.length ca, .int .i64 y.kd, .int .i64 y.nn, .int .i64 y.dd, .string (bs y.ss), .slice bo y.ll.length cb] 24)) := (Fur.refl w).alloc _
  have hh : (w.alloc (.cells #[.int .i64 x.kd, .int .i64 x.nn, .int .i64 x.dd, .string (bs x.ss), .slice ao x.ll.length ca, .int .i64 y.kd, .int .i64 y.nn, .int .i64 y.dd, .string (bs y.ss), .slice bo y.ll.length cb] 24)).heap[w.heap.size]? = some (.cells #[.int .i64 x.kd, .int .i64 x.nn, .int .i64 x.dd, .string (bs x.ss), .slice ao x.ll.length ca, .int .i64 y.kd, .int .i64 y.nn, .int .i64 y.dd, .string (bs y.ss), .slice bo y.ll.length cb] 24 (0, 0)) := by
    show (w.heap.push _)[w.heap.size]? = _
    rw [Array.getElem?_push, if_pos rfl]
  replace hs := hs.on hf; replace hs' := hs'.on hf
  refine ⟨⟨Nat.le_refl _, by unfold maxLen; decide, (fun h => by cases h), fun _ => ⟨w.heap.size, 0, rfl, ?_⟩⟩, hf⟩
  generalize w.alloc (.cells #[.int .i64 x.kd, .int .i64 x.nn, .int .i64 x.dd, .string (bs x.ss), .slice ao x.ll.length ca, .int .i64 y.kd, .int .i64 y.nn, .int .i64 y.dd, .string (bs y.ss), .slice bo y.ll.length cb] 24) = W at *
  refine VE_cons hi ?_ ?_ ?_ ?_ (ao := ao) (cap := ca) ?_ hs (VE_cons hi' ?_ ?_ ?_ ?_ (ao := bo) (cap := cb) ?_ hs' (VE_nil _ _ _))
  all_goals (unfold World.cell?; rw [hh]; rfl)
set_option maxHeartbeats 16000000 in
set_option maxRecDepth 100000 in
theorem agr_diff (x y : Vl) (ao bo : Option Addr) (ca cb : Nat) (w : World) (hi : Vin x) (hi' : Vin y) (hs : SlV w ao x.ll ca) (hs' : SlV w bo y.ll cb) (G : Good w) (hT : ordV x y ≠ 0) :
    Calls Tryd.prog 4 #[vlv x ao ca, vlv y bo cb] w (RwB w true) := by
  obtain ⟨p0, p1, f0⟩ := bx2 w x y ao bo ca cb
  have HG := Lib.hid G
  have HI := Lib.hid (And.intro hi hi')
  have HS := Lib.hid (And.intro hs hs')
  have CE := Lib.hid (fun w' (hf : Fur w w') => leq_any x y ao bo ca cb w' hi hi' (hs.on hf) (hs'.on hf))
  have CO := Lib.hid (fun w' (hf : Fur w w') => lo_all x y ao bo ca cb w' hi hi' (hs.on hf) (hs'.on hf))
  have CV := Lib.hid (fun w' (hf : Fur w w') => lvalid_any x ao ca w' hi (hs.on hf))
  have HSL := Lib.hid (fun w' (hf : Fur w w') => sl2x w' x y ao bo ca cb hi hi' (hs.on hf) (hs'.on hf))
  have HX := Lib.hid (fun (h : lite [x, y] = true) => And.intro (lite_tex h (x := x) (by simp)) (lite_tex h (x := y) (by simp)))
  have h2 : eqV x y ≠ 2 := fun e => hT (eq_same e ▸ ord_self _)
  have g2 : (eqV x y == 2) = false := beq_eq_false_iff_ne.2 h2
  have gT : (ordV x y == 0) = false := beq_eq_false_iff_ne.2 hT
  have HB := Lib.hid (fun (a : okX x = true) (b : okX y = true) => show ((bs (texX x)).toList == (bs (texX y)).toList) = false by
    rw [bs_list, bs_list, beq_eq_false_iff_ne]
    intro e
    exact hT (by rw [tex_inj a b e]; exact ord_self _))
  clear h2 hT
  clear hs hs' hi hi' G
  unfold vlv at *
  obtain ⟨W, hW⟩ : ∃ W, ((w.alloc (.cells #[.int .i64 x.kd, .int .i64 x.nn, .int .i64 x.dd, .string (bs x.ss), .slice ao x.ll.length ca] 24)).alloc (.cells #[.int .i64 y.kd, .int .i64 y.nn, .int .i64 y.dd, .string (bs y.ss), .slice bo y.ll.length cb] 24)) = W := ⟨_, rfl⟩
  rw [hW] at p0 p1 f0
  go_enter Tryd.func4, Tryd.ntmps4
  go_upto_region 1 with fail
  clear hW
  have c0 := p0.c0; have c1 := p0.c1; have c2 := p0.c2; have c3 := p0.c3; have c4 := p0.c4
  have d0 := p1.c0; have d1 := p1.c1; have d2 := p1.c2; have d3 := p1.c3; have d4 := p1.c4
  go_wp2_with fail
  obtain ⟨hl, fl⟩ := HSL.out W f0
  go_at_call 6; refine (lsmall_any [x, y] _ _ _ hl).mono ?_; rintro e1 wz ⟨rfl, f1⟩
  have ff := fl.trans f1
  clear hl fl f1 HSL
  clear c0 c1 c2 c3 c4 d0 d1 d2 d3 d4
  replace p0 := p0.on ff
  replace p1 := p1.on ff
  replace f0 := f0.trans ff
  clear ff
  have c0 := p0.c0; have c1 := p0.c1; have c2 := p0.c2; have c3 := p0.c3; have c4 := p0.c4
  have d0 := p1.c0; have d1 := p1.c1; have d2 := p1.c2; have d3 := p1.c3; have d4 := p1.c4
  generalize lite [x, y] = q at *
  cases q
  · clear CE CO CV HX HI HS
    go_wp2_with fail
    go_at_call 7; refine (alive_any _ (HG.out.onw f0.w)).mono ?_; rintro e9 w9 ⟨rfl, f9⟩
    go_wp2
    go_ret
    exact ⟨rfl, Fuw.trans f0.w f9⟩
  replace HX := Lib.hid (HX.out rfl)
  generalize eqV x y = E at *
  generalize ordV x y = T at *
  go_wp2_with fail
  go_at_call 10; refine (CE.out _ f0).mono ?_; rintro e7 wz ⟨rfl, ff⟩
  clear c0 c1 c2 c3 c4 d0 d1 d2 d3 d4
  replace p0 := p0.on ff
  replace p1 := p1.on ff
  replace f0 := f0.trans ff
  clear ff
  have c0 := p0.c0; have c1 := p0.c1; have c2 := p0.c2; have c3 := p0.c3; have c4 := p0.c4
  have d0 := p1.c0; have d1 := p1.c1; have d2 := p1.c2; have d3 := p1.c3; have d4 := p1.c4
  go_wp2_with fail
  go_at_call 11; refine (CV.out _ f0).mono ?_; rintro e7 wz ⟨rfl, ff⟩
  clear c0 c1 c2 c3 c4 d0 d1 d2 d3 d4
  replace p0 := p0.on ff
  replace p1 := p1.on ff
  replace f0 := f0.trans ff
  clear ff
  have c0 := p0.c0; have c1 := p0.c1; have c2 := p0.c2; have c3 := p0.c3; have c4 := p0.c4
  have d0 := p1.c0; have d1 := p1.c1; have d2 := p1.c2; have d3 := p1.c3; have d4 := p1.c4
  cases hp : okX x
  · clear HB CE CO CV HX
    go_upto_region 5 with fail
    have ff := Fuw.drew (Fuw.refl wz)
    clear c0 c1 c2 c3 c4 d0 d1 d2 d3 d4
    have c0 := (p0.onw ff).c0; have c1 := (p0.onw ff).c1; have c2 := (p0.onw ff).c2; have c3 := (p0.onw ff).c3; have c4 := (p0.onw ff).c4; have d0 := (p1.onw ff).c0; have d1 := (p1.onw ff).c1; have d2 := (p1.onw ff).c2; have d3 := (p1.onw ff).c3; have d4 := (p1.onw ff).c4
    go_region_with (first
        | (go_at_call 11; (refine (lvalid_f _ _ _ _ ?_ ?_ ?_).mono ?_; (first | exact HI.out.1 | exact HI.out.2); (first | exact HS.out.1.onw (f0.w.trans ff) | exact HS.out.2.onw (f0.w.trans ff)); (first | exact hp | exact hq); rintro e4 w4 ⟨rfl, f4⟩; replace ff := ff.trans f4.b; have c0 := (p0.onw ff).c0; have c1 := (p0.onw ff).c1; have c2 := (p0.onw ff).c2; have c3 := (p0.onw ff).c3; have c4 := (p0.onw ff).c4; have d0 := (p1.onw ff).c0; have d1 := (p1.onw ff).c1; have d2 := (p1.onw ff).c2; have d3 := (p1.onw ff).c3; have d4 := (p1.onw ff).c4))
        | (go_at_call 7; refine (alive_any _ (HG.out.onw (f0.w.trans ff))).mono ?_; rintro e4 w4 ⟨rfl, f4⟩; replace ff := ff.trans f4; have c0 := (p0.onw ff).c0; have c1 := (p0.onw ff).c1; have c2 := (p0.onw ff).c2; have c3 := (p0.onw ff).c3; have c4 := (p0.onw ff).c4; have d0 := (p1.onw ff).c0; have d1 := (p1.onw ff).c1; have d2 := (p1.onw ff).c2; have d3 := (p1.onw ff).c3; have d4 := (p1.onw ff).c4))
    all_goals
      go_wp2
      go_ret
      exact ⟨rfl, f0.w.trans ff⟩
  · go_wp2_with fail
    go_at_call 8; refine (CO.out _ f0).mono ?_; rintro e7 wz ⟨rfl, ff⟩
    clear c0 c1 c2 c3 c4 d0 d1 d2 d3 d4
    replace p0 := p0.on ff
    replace p1 := p1.on ff
    replace f0 := f0.trans ff
    clear ff
    have c0 := p0.c0; have c1 := p0.c1; have c2 := p0.c2; have c3 := p0.c3; have c4 := p0.c4
    have d0 := p1.c0; have d1 := p1.c1; have d2 := p1.c2; have d3 := p1.c3; have d4 := p1.c4
    clear CE CO CV
    cases hq : okX y
    · clear HB HX
      go_upto_region 5 with fail
      have ff := Fuw.drew (Fuw.refl wz)
      clear c0 c1 c2 c3 c4 d0 d1 d2 d3 d4
      have c0 := (p0.onw ff).c0; have c1 := (p0.onw ff).c1; have c2 := (p0.onw ff).c2; have c3 := (p0.onw ff).c3; have c4 := (p0.onw ff).c4; have d0 := (p1.onw ff).c0; have d1 := (p1.onw ff).c1; have d2 := (p1.onw ff).c2; have d3 := (p1.onw ff).c3; have d4 := (p1.onw ff).c4
      go_region_with (first
          | (go_at_call 11; first | (refine (lvalid_t _ _ _ _ ?_ ?_ ?_).mono ?_; (first | exact HI.out.1 | exact HI.out.2); (first | exact HS.out.1.onw (f0.w.trans ff) | exact HS.out.2.onw (f0.w.trans ff)); (first | exact hp | exact hq); rintro e4 w4 ⟨rfl, f4⟩; replace ff := ff.trans f4.b; have c0 := (p0.onw ff).c0; have c1 := (p0.onw ff).c1; have c2 := (p0.onw ff).c2; have c3 := (p0.onw ff).c3; have c4 := (p0.onw ff).c4; have d0 := (p1.onw ff).c0; have d1 := (p1.onw ff).c1; have d2 := (p1.onw ff).c2; have d3 := (p1.onw ff).c3; have d4 := (p1.onw ff).c4) | (refine (lvalid_f _ _ _ _ ?_ ?_ ?_).mono ?_; (first | exact HI.out.1 | exact HI.out.2); (first | exact HS.out.1.onw (f0.w.trans ff) | exact HS.out.2.onw (f0.w.trans ff)); (first | exact hp | exact hq); rintro e4 w4 ⟨rfl, f4⟩; replace ff := ff.trans f4.b; have c0 := (p0.onw ff).c0; have c1 := (p0.onw ff).c1; have c2 := (p0.onw ff).c2; have c3 := (p0.onw ff).c3; have c4 := (p0.onw ff).c4; have d0 := (p1.onw ff).c0; have d1 := (p1.onw ff).c1; have d2 := (p1.onw ff).c2; have d3 := (p1.onw ff).c3; have d4 := (p1.onw ff).c4))
          | (go_at_call 7; refine (alive_any _ (HG.out.onw (f0.w.trans ff))).mono ?_; rintro e4 w4 ⟨rfl, f4⟩; replace ff := ff.trans f4; have c0 := (p0.onw ff).c0; have c1 := (p0.onw ff).c1; have c2 := (p0.onw ff).c2; have c3 := (p0.onw ff).c3; have c4 := (p0.onw ff).c4; have d0 := (p1.onw ff).c0; have d1 := (p1.onw ff).c1; have d2 := (p1.onw ff).c2; have d3 := (p1.onw ff).c3; have d4 := (p1.onw ff).c4))
      all_goals
        go_wp2
        go_ret
        exact ⟨rfl, f0.w.trans ff⟩
    · have hb := HB.out hp hq
      clear HB
      go_upto_region 5 with fail
      have ff := Fuw.drew (Fuw.refl wz)
      clear c0 c1 c2 c3 c4 d0 d1 d2 d3 d4
      have c0 := (p0.onw ff).c0; have c1 := (p0.onw ff).c1; have c2 := (p0.onw ff).c2; have c3 := (p0.onw ff).c3; have c4 := (p0.onw ff).c4; have d0 := (p1.onw ff).c0; have d1 := (p1.onw ff).c1; have d2 := (p1.onw ff).c2; have d3 := (p1.onw ff).c3; have d4 := (p1.onw ff).c4
      go_region_with (first
          | (go_at_call 11; (refine (lvalid_t _ _ _ _ ?_ ?_ ?_).mono ?_; (first | exact HI.out.1 | exact HI.out.2); (first | exact HS.out.1.onw (f0.w.trans ff) | exact HS.out.2.onw (f0.w.trans ff)); (first | exact hp | exact hq); rintro e4 w4 ⟨rfl, f4⟩; replace ff := ff.trans f4.b; have c0 := (p0.onw ff).c0; have c1 := (p0.onw ff).c1; have c2 := (p0.onw ff).c2; have c3 := (p0.onw ff).c3; have c4 := (p0.onw ff).c4; have d0 := (p1.onw ff).c0; have d1 := (p1.onw ff).c1; have d2 := (p1.onw ff).c2; have d3 := (p1.onw ff).c3; have d4 := (p1.onw ff).c4))
          | (go_at_call 12; refine (ltext_any _ _ _ _ ?_ ?_ ?_ ?_).mono ?_; (first | exact HI.out.1 | exact HI.out.2); (first | exact HS.out.1.onw (f0.w.trans ff) | exact HS.out.2.onw (f0.w.trans ff)); exact HG.out.onw (f0.w.trans ff); (first | exact HX.out.1 | exact HX.out.2); rintro e4 w4 ⟨rfl, f4⟩; replace ff := ff.trans f4; have c0 := (p0.onw ff).c0; have c1 := (p0.onw ff).c1; have c2 := (p0.onw ff).c2; have c3 := (p0.onw ff).c3; have c4 := (p0.onw ff).c4; have d0 := (p1.onw ff).c0; have d1 := (p1.onw ff).c1; have d2 := (p1.onw ff).c2; have d3 := (p1.onw ff).c3; have d4 := (p1.onw ff).c4)
          | (go_at_call 7; refine (alive_any _ (HG.out.onw (f0.w.trans ff))).mono ?_; rintro e4 w4 ⟨rfl, f4⟩; replace ff := ff.trans f4; have c0 := (p0.onw ff).c0; have c1 := (p0.onw ff).c1; have c2 := (p0.onw ff).c2; have c3 := (p0.onw ff).c3; have c4 := (p0.onw ff).c4; have d0 := (p1.onw ff).c0; have d1 := (p1.onw ff).c1; have d2 := (p1.onw ff).c2; have d3 := (p1.onw ff).c3; have d4 := (p1.onw ff).c4))
      all_goals
        go_wp2
        go_ret
        exact ⟨rfl, f0.w.trans ff⟩
end Go.Proofs.YtomkanmmfgiemaaDoor
