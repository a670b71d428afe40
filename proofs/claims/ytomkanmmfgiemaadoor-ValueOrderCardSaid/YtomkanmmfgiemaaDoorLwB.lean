/-
  ValueOrder gives true by the contracts of package value.
-/
import Derived.Test.YtomkanmmfgiemaaDoorLvP
import Derived.Test.YtomkanmmfgiemaaDoorLvQ
import Derived.Test.YtomkanmmfgiemaaDoorVMore
namespace Go.Proofs.YtomkanmmfgiemaaDoor
open Go.RowKit

/-- Three values boxed. -/
theorem bx3 (w : World) (x y z : Vl) (ao bo co : Option Addr) (ca cb cc : Nat) :
    Bx (((w.alloc (.cells #[.int .i64 x.kd, .int .i64 x.nn, .int .i64 x.dd, .string (bs x.ss), .slice ao x.ll.length ca] 24)).alloc (.cells #[.int .i64 y.kd, .int .i64 y.nn, .int .i64 y.dd, .string (bs y.ss), .slice bo y.ll.length cb] 24)).alloc (.cells #[.int .i64 z.kd, .int .i64 z.nn, .int .i64 z.dd, .string (bs z.ss), .slice co z.ll.length cc] 24)) w.heap.size x ao ca ∧ Bx (((w.alloc (.cells #[.int .i64 x.kd, .int .i64 x.nn, .int .i64 x.dd, .string (bs x.ss), .slice ao x.ll.length ca] 24)).alloc (.cells #[.int .i64 y.kd, .int .i64 y.nn, .int .i64 y.dd, .string (bs y.ss), .slice bo y.ll.length cb] 24)).alloc (.cells #[.int .i64 z.kd, .int .i64 z.nn, .int .i64 z.dd, .string (bs z.ss), .slice co z.ll.length cc] 24)) (w.heap.size + 1) y bo cb ∧ Bx (((w.alloc (.cells #[.int .i64 x.kd, .int .i64 x.nn, .int .i64 x.dd, .string (bs x.ss), .slice ao x.ll.length ca] 24)).alloc (.cells #[.int .i64 y.kd, .int .i64 y.nn, .int .i64 y.dd, .string (bs y.ss), .slice bo y.ll.length cb] 24)).alloc (.cells #[.int .i64 z.kd, .int .i64 z.nn, .int .i64 z.dd, .string (bs z.ss), .slice co z.ll.length cc] 24)) (w.heap.size + 1 + 1) z co cc ∧ Fur w (((w.alloc (.cells #[.int .i64 x.kd, .int .i64 x.nn, .int .i64 x.dd, .string (bs x.ss), .slice ao x.ll.length ca] 24)).alloc (.cells #[.int .i64 y.kd, .int .i64 y.nn, .int .i64 y.dd, .string (bs y.ss), .slice bo y.ll.length cb] 24)).alloc (.cells #[.int .i64 z.kd, .int .i64 z.nn, .int .i64 z.dd, .string (bs z.ss), .slice co z.ll.length cc] 24)) := by
  obtain ⟨p0, p1, f0⟩ := bx2 w x y ao bo ca cb
  have s0 : ((w.alloc (.cells #[.int .i64 x.kd, .int .i64 x.nn, .int .i64 x.dd, .string (bs x.ss), .slice ao x.ll.length ca] 24)).alloc (.cells #[.int .i64 y.kd, .int .i64 y.nn, .int .i64 y.dd, .string (bs y.ss), .slice bo y.ll.length cb] 24)).heap.size = w.heap.size + 1 + 1 := by simp
  generalize ((w.alloc (.cells #[.int .i64 x.kd, .int .i64 x.nn, .int .i64 x.dd, .string (bs x.ss), .slice ao x.ll.length ca] 24)).alloc (.cells #[.int .i64 y.kd, .int .i64 y.nn, .int .i64 y.dd, .string (bs y.ss), .slice bo y.ll.length cb] 24)) = w2 at *
  obtain ⟨p2, f2⟩ := bx1 w2 z co cc
  rw [s0] at p2
  exact ⟨p0.on f2, p1.on f2, p2, f0.trans f2⟩
/-- Cells that hold values, as values. -/
theorem VE_cons {w : World} {x : Vl} {l : List Vl} {b o : Nat} {ao : Option Addr} {cap : Nat} (hi : Vin x) (c0 : w.cell? ⟨b, o, none⟩ = some (.int .i64 x.kd)) (c1 : w.cell? ⟨b, o + 1, none⟩ = some (.int .i64 x.nn)) (c2 : w.cell? ⟨b, o + 2, none⟩ = some (.int .i64 x.dd)) (c3 : w.cell? ⟨b, o + 3, none⟩ = some (.string (bs x.ss))) (c4 : w.cell? ⟨b, o + 4, none⟩ = some (.slice ao x.ll.length cap)) (hs : SlV w ao x.ll cap) (h : VE w l b (o + 5)) : VE w (x :: l) b o := by
  unfold VE
  exact ⟨VC_mk hi c0 c1 c2 c3 c4 hs, h⟩
theorem VE_nil (w : World) (b o : Nat) : VE w [] b o := by unfold VE; trivial
theorem sl3 (w : World) (x y z : Vl) (ao bo co : Option Addr) (ca cb cc : Nat) (hi : Vin x) (hi' : Vin y) (hi'' : Vin z) (hs : SlV w ao x.ll ca) (hs' : SlV w bo y.ll cb) (hs'' : SlV w co z.ll cc) :
    SlV (w.alloc (.cells #[.int .i64 x.kd, .int .i64 x.nn, .int .i64 x.dd, .string (bs x.ss), .slice ao x.ll.length ca, .int .i64 y.kd, .int .i64 y.nn, .int .i64 y.dd, .string (bs y.ss), .slice bo y.ll.length cb, .int .i64 z.kd, .int .i64 z.nn, .int .i64 z.dd, .string (bs z.ss), .slice co z.ll.length cc] 24)) (some ⟨w.heap.size, 0, none⟩) [x, y, z] 3 ∧ Fur w (w.alloc (.cells #[.int .i64 x.kd, .int .i64 x.nn, .int .i64 x.dd, .string (bs x.ss), .slice ao x.ll.length ca, .int .i64 y.kd, .int .i64 y.nn, .int .i64 y.dd, .string (bs y.ss), .slice bo y.ll.length cb, .int .i64 z.kd, .int .i64 z.nn, .int .i64 z.dd, .string (bs z.ss), .slice co z.ll.length cc] 24)) := by
  have hf : Fur w (w.alloc (.cells #[.int .i64 x.kd, .int .i64 x.nn, .int .i64 x.dd, .string (bs x.ss), .slice ao x.ll.length ca, .int .i64 y.kd, .int .i64 y.nn, .int .i64 y.dd, .string (bs y.ss), .slice bo y.ll.length cb, .int .i64 z.kd, .int .i64 z.nn, .int .i64 z.dd, .string (bs z.ss), .slice co z.ll.length cc] 24)) := (Fur.refl w).alloc _
  have hh : (w.alloc (.cells #[.int .i64 x.kd, .int .i64 x.nn, .int .i64 x.dd, .string (bs x.ss), .slice ao x.ll.length ca, .int .i64 y.kd, .int .i64 y.nn, .int .i64 y.dd, .string (bs y.ss), .slice bo y.ll.length cb, .int .i64 z.kd, .int .i64 z.nn, .int .i64 z.dd, .string (bs z.ss), .slice co z.ll.length cc] 24)).heap[w.heap.size]? = some (.cells #[.int .i64 x.kd, .int .i64 x.nn, .int .i64 x.dd, .string (bs x.ss), .slice ao x.ll.length ca, .int .i64 y.kd, .int .i64 y.nn, .int .i64 y.dd, .string (bs y.ss), .slice bo y.ll.length cb, .int .i64 z.kd, .int .i64 z.nn, .int .i64 z.dd, .string (bs z.ss), .slice co z.ll.length cc] 24 (0, 0)) := by
    show (w.heap.push _)[w.heap.size]? = _
    rw [Array.getElem?_push, if_pos rfl]
  replace hs := hs.on hf; replace hs' := hs'.on hf; replace hs'' := hs''.on hf
  refine ⟨⟨Nat.le_refl _, by unfold maxLen; decide, (fun h => by cases h), fun _ => ⟨w.heap.size, 0, rfl, ?_⟩⟩, hf⟩
  generalize w.alloc (.cells #[.int .i64 x.kd, .int .i64 x.nn, .int .i64 x.dd, .string (bs x.ss), .slice ao x.ll.length ca, .int .i64 y.kd, .int .i64 y.nn, .int .i64 y.dd, .string (bs y.ss), .slice bo y.ll.length cb, .int .i64 z.kd, .int .i64 z.nn, .int .i64 z.dd, .string (bs z.ss), .slice co z.ll.length cc] 24) = W at *
  refine VE_cons hi ?_ ?_ ?_ ?_ (ao := ao) (cap := ca) ?_ hs (VE_cons hi' ?_ ?_ ?_ ?_ (ao := bo) (cap := cb) ?_ hs' (VE_cons hi'' ?_ ?_ ?_ ?_ (ao := co) (cap := cc) ?_ hs'' (VE_nil _ _ _)))
  all_goals (unfold World.cell?; rw [hh]; rfl)
/-- Order, for any two letters. -/
theorem lo_g (x y : Vl) (ao bo : Option Addr) (ca cb : Nat) (w : World) (hi : Vin x) (hi' : Vin y) (hs : SlV w ao x.ll ca) (hs' : SlV w bo y.ll cb) :
    Calls Tryd.prog 8 #[vlv x ao ca, vlv y bo cb] w (RetI w (ordV x y)) := lo_all x y ao bo ca cb w hi hi' hs hs'
set_option maxHeartbeats 16000000 in
set_option maxRecDepth 100000 in
theorem vorder_any (x y z : Vl) (ao bo co : Option Addr) (ca cb cc : Nat) (w : World) (hi : Vin x) (hi' : Vin y) (hi'' : Vin z) (hs : SlV w ao x.ll ca) (hs' : SlV w bo y.ll cb) (hs'' : SlV w co z.ll cc) (G : Good w) :
    Calls Tryd.prog 3 #[vlv x ao ca, vlv y bo cb, vlv z co cc] w (RwB w true) := by
  obtain ⟨p0, p1, p2, f0⟩ := bx3 w x y z ao bo co ca cb cc
  have HG := Lib.hid G
  have CXY := Lib.hid (fun w' (hf : Fur w w') => lo_all x y ao bo ca cb w' hi hi' (hs.on hf) (hs'.on hf))
  have HI := Lib.hid (And.intro hi hi')
  have HS := Lib.hid (And.intro hs hs')
  have exx : ordV x x = 0 := ord_self x
  have CYZ := Lib.hid (fun w' (hf : Fur w w') => lo_all y z bo co cb cc w' hi' hi'' (hs'.on hf) (hs''.on hf))
  have CXZ := Lib.hid (fun w' (hf : Fur w w') => lo_all x z ao co ca cc w' hi hi'' (hs.on hf) (hs''.on hf))
  have CS := Lib.hid (fun w' (hf : Fur w w') => lsame_all x y ao bo ca cb w' hi hi' (hs.on hf) (hs'.on hf))
  have HSL := Lib.hid (fun w' (hf : Fur w w') => sl3 w' x y z ao bo co ca cb cc hi hi' hi'' (hs.on hf) (hs'.on hf) (hs''.on hf))
  have HTR := Lib.hid (fun h k => ord_trans (a := x) (b := y) (c := z) h k)
  have hS : samB x y = decide (ordV x y = 0) := rfl
  rw [hS] at CS
  clear hs hs' hs'' hi hi' hi'' G hS
  unfold vlv at *
  obtain ⟨W, hW⟩ : ∃ W, (((w.alloc (.cells #[.int .i64 x.kd, .int .i64 x.nn, .int .i64 x.dd, .string (bs x.ss), .slice ao x.ll.length ca] 24)).alloc (.cells #[.int .i64 y.kd, .int .i64 y.nn, .int .i64 y.dd, .string (bs y.ss), .slice bo y.ll.length cb] 24)).alloc (.cells #[.int .i64 z.kd, .int .i64 z.nn, .int .i64 z.dd, .string (bs z.ss), .slice co z.ll.length cc] 24)) = W := ⟨_, rfl⟩
  rw [hW] at p0 p1 p2 f0
  go_enter Tryd.func3, Tryd.ntmps3
  go_upto_region 1 with fail
  clear hW
  have c0 := p0.c0; have c1 := p0.c1; have c2 := p0.c2; have c3 := p0.c3; have c4 := p0.c4
  have d0 := p1.c0; have d1 := p1.c1; have d2 := p1.c2; have d3 := p1.c3; have d4 := p1.c4
  have k0 := p2.c0; have k1 := p2.c1; have k2 := p2.c2; have k3 := p2.c3; have k4 := p2.c4
  go_wp2_with fail
  obtain ⟨hl, fl⟩ := HSL.out W f0
  go_at_call 6; refine (lsmall_any [x, y, z] _ _ _ hl).mono ?_; rintro e1 w1 ⟨rfl, f1⟩
  have ff := fl.trans f1
  clear hl fl f1 HSL
  clear c0 c1 c2 c3 c4 d0 d1 d2 d3 d4 k0 k1 k2 k3 k4
  replace p0 := p0.on ff
  replace p1 := p1.on ff
  replace p2 := p2.on ff
  replace f0 := f0.trans ff
  clear ff
  have c0 := p0.c0; have c1 := p0.c1; have c2 := p0.c2; have c3 := p0.c3; have c4 := p0.c4
  have d0 := p1.c0; have d1 := p1.c1; have d2 := p1.c2; have d3 := p1.c3; have d4 := p1.c4
  have k0 := p2.c0; have k1 := p2.c1; have k2 := p2.c2; have k3 := p2.c3; have k4 := p2.c4
  generalize lite [x, y, z] = q at *
  cases q
  · clear CXY HI HS CYZ CXZ CS HTR
    go_wp2_with fail
    go_at_call 7; refine (alive_any _ (HG.out.onw f0.w)).mono ?_; rintro e9 w9 ⟨rfl, f9⟩
    go_wp2
    go_ret
    exact ⟨rfl, Fuw.trans f0.w f9⟩
  generalize ordV y z = U at *
  generalize ordV x z = V at *
  go_upto_region 3 with fail
  have hne : ¬ (w.heap.size = w.heap.size + 1) := by omega
  have hne2 : ¬ (w.heap.size + 1 = w.heap.size) := by omega
  by_cases hT : ordV x y = 0
  · rw [decide_eq_true hT] at CS
    have ff : Fur w1 w1.drew := Fur.drew (Fur.refl w1)
    go_region_held3 (fun w' => Fur w1 w' ∧ w'.cell? ⟨w.heap.size, 0, none⟩ = some (.int .i64 x.kd) ∧ w'.cell? ⟨w.heap.size, 1, none⟩ = some (.int .i64 x.nn) ∧ w'.cell? ⟨w.heap.size, 2, none⟩ = some (.int .i64 x.dd) ∧ w'.cell? ⟨w.heap.size, 3, none⟩ = some (.string (bs x.ss)) ∧ w'.cell? ⟨w.heap.size, 4, none⟩ = some (.slice ao x.ll.length ca) ∧ w'.cell? ⟨w.heap.size + 1, 0, none⟩ = some (.int .i64 y.kd) ∧ w'.cell? ⟨w.heap.size + 1, 1, none⟩ = some (.int .i64 y.nn) ∧ w'.cell? ⟨w.heap.size + 1, 2, none⟩ = some (.int .i64 y.dd) ∧ w'.cell? ⟨w.heap.size + 1, 3, none⟩ = some (.string (bs y.ss)) ∧ w'.cell? ⟨w.heap.size + 1, 4, none⟩ = some (.slice bo y.ll.length cb))
      (first
        | exact keep10 ff c0 c1 c2 c3 c4 d0 d1 d2 d3 d4)
      (first
        | (go_at_call 8; refine (lo_g _ _ _ _ _ _ _ ?_ ?_ ?_ ?_).mono ?_; (first | exact HI.out.1 | exact HI.out.2); (first | exact HI.out.1 | exact HI.out.2); (first | exact HS.out.1.on (f0.trans ff) | exact HS.out.2.on (f0.trans ff)); (first | exact HS.out.1.on (f0.trans ff) | exact HS.out.2.on (f0.trans ff)); rintro e7 w7 ⟨rfl, f7⟩; replace ff := ff.trans f7)
        | (go_at_call 9; refine (CS.out _ (f0.trans ff)).mono ?_; rintro e7 w7 ⟨rfl, f7⟩; replace ff := ff.trans f7))
    clear CS HI HS exx
    generalize ordV x y = T at *
    subst hT
    clear c0 c1 c2 c3 c4 d0 d1 d2 d3 d4 k0 k1 k2 k3 k4
    replace p0 := p0.on ff
    replace p1 := p1.on ff
    replace p2 := p2.on ff
    replace f0 := f0.trans ff
    clear ff
    have c0 := p0.c0; have c1 := p0.c1; have c2 := p0.c2; have c3 := p0.c3; have c4 := p0.c4
    have d0 := p1.c0; have d1 := p1.c1; have d2 := p1.c2; have d3 := p1.c3; have d4 := p1.c4
    have k0 := p2.c0; have k1 := p2.c1; have k2 := p2.c2; have k3 := p2.c3; have k4 := p2.c4
    go_wp2_with fail
    go_at_call 8; refine (CXY.out _ f0).mono ?_; rintro e7 w7 ⟨rfl, ff⟩
    clear c0 c1 c2 c3 c4 d0 d1 d2 d3 d4 k0 k1 k2 k3 k4
    replace p0 := p0.on ff
    replace p1 := p1.on ff
    replace p2 := p2.on ff
    replace f0 := f0.trans ff
    clear ff
    have c0 := p0.c0; have c1 := p0.c1; have c2 := p0.c2; have c3 := p0.c3; have c4 := p0.c4
    have d0 := p1.c0; have d1 := p1.c1; have d2 := p1.c2; have d3 := p1.c3; have d4 := p1.c4
    have k0 := p2.c0; have k1 := p2.c1; have k2 := p2.c2; have k3 := p2.c3; have k4 := p2.c4
    have tn : ¬ ((0 : Int) < 0) := by omega
    have HV := Lib.hid (fun h => HTR.out (Int.le_refl 0) h)
    clear HTR CXY
    go_wp2_with fail
    go_at_call 8; refine (CYZ.out _ f0).mono ?_; rintro e7 w7 ⟨rfl, ff⟩
    clear c0 c1 c2 c3 c4 d0 d1 d2 d3 d4 k0 k1 k2 k3 k4
    replace p0 := p0.on ff
    replace p1 := p1.on ff
    replace p2 := p2.on ff
    replace f0 := f0.trans ff
    clear ff
    have c0 := p0.c0; have c1 := p0.c1; have c2 := p0.c2; have c3 := p0.c3; have c4 := p0.c4
    have d0 := p1.c0; have d1 := p1.c1; have d2 := p1.c2; have d3 := p1.c3; have d4 := p1.c4
    have k0 := p2.c0; have k1 := p2.c1; have k2 := p2.c2; have k3 := p2.c3; have k4 := p2.c4
    by_cases up : 0 < U
    · clear CYZ CXZ HV
      go_wp2_with fail
      go_at_call 7; refine (alive_any _ (HG.out.onw f0.w)).mono ?_; rintro e9 w9 ⟨rfl, f9⟩
      go_wp2
      go_ret
      exact ⟨rfl, Fuw.trans f0.w f9⟩
    have vn := HV.out (by omega)
    clear CYZ HV
    go_wp2_with fail
    go_at_call 8; refine (CXZ.out _ f0).mono ?_; rintro e7 w7 ⟨rfl, ff⟩
    clear c0 c1 c2 c3 c4 d0 d1 d2 d3 d4 k0 k1 k2 k3 k4
    replace p0 := p0.on ff
    replace p1 := p1.on ff
    replace p2 := p2.on ff
    replace f0 := f0.trans ff
    clear ff
    have c0 := p0.c0; have c1 := p0.c1; have c2 := p0.c2; have c3 := p0.c3; have c4 := p0.c4
    have d0 := p1.c0; have d1 := p1.c1; have d2 := p1.c2; have d3 := p1.c3; have d4 := p1.c4
    have k0 := p2.c0; have k1 := p2.c1; have k2 := p2.c2; have k3 := p2.c3; have k4 := p2.c4
    clear CXZ
    go_wp2_with fail
    go_at_call 7; refine (alive_any _ (HG.out.onw f0.w)).mono ?_; rintro e9 w9 ⟨rfl, f9⟩
    go_wp2
    go_ret
    exact ⟨rfl, Fuw.trans f0.w f9⟩
  · have g : (ordV x y == 0) = false := beq_eq_false_iff_ne.2 hT
    rw [decide_eq_false hT] at CS
    have ff : Fur w1 w1.drew := Fur.drew (Fur.refl w1)
    go_region_held3 (fun w' => Fur w1 w' ∧ w'.cell? ⟨w.heap.size, 0, none⟩ = some (.int .i64 x.kd) ∧ w'.cell? ⟨w.heap.size, 1, none⟩ = some (.int .i64 x.nn) ∧ w'.cell? ⟨w.heap.size, 2, none⟩ = some (.int .i64 x.dd) ∧ w'.cell? ⟨w.heap.size, 3, none⟩ = some (.string (bs x.ss)) ∧ w'.cell? ⟨w.heap.size, 4, none⟩ = some (.slice ao x.ll.length ca) ∧ w'.cell? ⟨w.heap.size + 1, 0, none⟩ = some (.int .i64 y.kd) ∧ w'.cell? ⟨w.heap.size + 1, 1, none⟩ = some (.int .i64 y.nn) ∧ w'.cell? ⟨w.heap.size + 1, 2, none⟩ = some (.int .i64 y.dd) ∧ w'.cell? ⟨w.heap.size + 1, 3, none⟩ = some (.string (bs y.ss)) ∧ w'.cell? ⟨w.heap.size + 1, 4, none⟩ = some (.slice bo y.ll.length cb))
      (first
        | exact keep10 ff c0 c1 c2 c3 c4 d0 d1 d2 d3 d4)
      (first
        | (go_at_call 8; refine (lo_g _ _ _ _ _ _ _ ?_ ?_ ?_ ?_).mono ?_; (first | exact HI.out.1 | exact HI.out.2); (first | exact HI.out.1 | exact HI.out.2); (first | exact HS.out.1.on (f0.trans ff) | exact HS.out.2.on (f0.trans ff)); (first | exact HS.out.1.on (f0.trans ff) | exact HS.out.2.on (f0.trans ff)); rintro e7 w7 ⟨rfl, f7⟩; replace ff := ff.trans f7)
        | (go_at_call 9; refine (CS.out _ (f0.trans ff)).mono ?_; rintro e7 w7 ⟨rfl, f7⟩; replace ff := ff.trans f7))
    clear CS HI HS exx
    generalize ordV x y = T at *
    clear c0 c1 c2 c3 c4 d0 d1 d2 d3 d4 k0 k1 k2 k3 k4
    replace p0 := p0.on ff
    replace p1 := p1.on ff
    replace p2 := p2.on ff
    replace f0 := f0.trans ff
    clear ff
    have c0 := p0.c0; have c1 := p0.c1; have c2 := p0.c2; have c3 := p0.c3; have c4 := p0.c4
    have d0 := p1.c0; have d1 := p1.c1; have d2 := p1.c2; have d3 := p1.c3; have d4 := p1.c4
    have k0 := p2.c0; have k1 := p2.c1; have k2 := p2.c2; have k3 := p2.c3; have k4 := p2.c4
    go_wp2_with fail
    go_at_call 8; refine (CXY.out _ f0).mono ?_; rintro e7 w7 ⟨rfl, ff⟩
    clear c0 c1 c2 c3 c4 d0 d1 d2 d3 d4 k0 k1 k2 k3 k4
    replace p0 := p0.on ff
    replace p1 := p1.on ff
    replace p2 := p2.on ff
    replace f0 := f0.trans ff
    clear ff
    have c0 := p0.c0; have c1 := p0.c1; have c2 := p0.c2; have c3 := p0.c3; have c4 := p0.c4
    have d0 := p1.c0; have d1 := p1.c1; have d2 := p1.c2; have d3 := p1.c3; have d4 := p1.c4
    have k0 := p2.c0; have k1 := p2.c1; have k2 := p2.c2; have k3 := p2.c3; have k4 := p2.c4
    by_cases tp : 0 < T
    · clear CYZ CXZ HTR CXY
      go_wp2_with fail
      go_at_call 7; refine (alive_any _ (HG.out.onw f0.w)).mono ?_; rintro e9 w9 ⟨rfl, f9⟩
      go_wp2
      go_ret
      exact ⟨rfl, Fuw.trans f0.w f9⟩
    have HV := Lib.hid (fun h => HTR.out (by omega) h)
    clear HTR CXY
    go_wp2_with fail
    go_at_call 8; refine (CYZ.out _ f0).mono ?_; rintro e7 w7 ⟨rfl, ff⟩
    clear c0 c1 c2 c3 c4 d0 d1 d2 d3 d4 k0 k1 k2 k3 k4
    replace p0 := p0.on ff
    replace p1 := p1.on ff
    replace p2 := p2.on ff
    replace f0 := f0.trans ff
    clear ff
    have c0 := p0.c0; have c1 := p0.c1; have c2 := p0.c2; have c3 := p0.c3; have c4 := p0.c4
    have d0 := p1.c0; have d1 := p1.c1; have d2 := p1.c2; have d3 := p1.c3; have d4 := p1.c4
    have k0 := p2.c0; have k1 := p2.c1; have k2 := p2.c2; have k3 := p2.c3; have k4 := p2.c4
    by_cases up : 0 < U
    · clear CYZ CXZ HV
      go_wp2_with fail
      go_at_call 7; refine (alive_any _ (HG.out.onw f0.w)).mono ?_; rintro e9 w9 ⟨rfl, f9⟩
      go_wp2
      go_ret
      exact ⟨rfl, Fuw.trans f0.w f9⟩
    have vn := HV.out (by omega)
    clear CYZ HV
    go_wp2_with fail
    go_at_call 8; refine (CXZ.out _ f0).mono ?_; rintro e7 w7 ⟨rfl, ff⟩
    clear c0 c1 c2 c3 c4 d0 d1 d2 d3 d4 k0 k1 k2 k3 k4
    replace p0 := p0.on ff
    replace p1 := p1.on ff
    replace p2 := p2.on ff
    replace f0 := f0.trans ff
    clear ff
    have c0 := p0.c0; have c1 := p0.c1; have c2 := p0.c2; have c3 := p0.c3; have c4 := p0.c4
    have d0 := p1.c0; have d1 := p1.c1; have d2 := p1.c2; have d3 := p1.c3; have d4 := p1.c4
    have k0 := p2.c0; have k1 := p2.c1; have k2 := p2.c2; have k3 := p2.c3; have k4 := p2.c4
    clear CXZ
    go_wp2_with fail
    go_at_call 7; refine (alive_any _ (HG.out.onw f0.w)).mono ?_; rintro e9 w9 ⟨rfl, f9⟩
    go_wp2
    go_ret
    exact ⟨rfl, Fuw.trans f0.w f9⟩
end Go.Proofs.YtomkanmmfgiemaaDoor
