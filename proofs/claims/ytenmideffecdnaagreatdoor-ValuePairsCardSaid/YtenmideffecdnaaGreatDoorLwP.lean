/-
  ValuePairs gives true by the contracts of package value and its reference.
-/
import Derived.Test.YtenmideffecdnaaGreatDoorLvP
import Derived.Test.YtenmideffecdnaaGreatDoorRvS
import Derived.Test.YtenmideffecdnaaGreatDoorVSize
namespace Go.Proofs.YtenmideffecdnaaGreatDoor
open Go.RowKit

/-- Cells that hold values, as values. -/
theorem VE_cons {w : World} {x : Vl} {l : List Vl} {b o : Nat} {ao : Option Addr} {cap : Nat} (hi : Vin x) (c0 : w.cell? ⟨b, o, none⟩ = some (.int .i64 x.kd)) (c1 : w.cell? ⟨b, o + 1, none⟩ = some (.int .i64 x.nn)) (c2 : w.cell? ⟨b, o + 2, none⟩ = some (.int .i64 x.dd)) (c3 : w.cell? ⟨b, o + 3, none⟩ = some (.string (bs x.ss))) (c4 : w.cell? ⟨b, o + 4, none⟩ = some (.slice ao x.ll.length cap)) (hs : SlV w ao x.ll cap) (h : VE w l b (o + 5)) : VE w (x :: l) b o := by
  unfold VE
  exact ⟨VC_mk hi c0 c1 c2 c3 c4 hs, h⟩
theorem VE_nil (w : World) (b o : Nat) : VE w [] b o := by unfold VE; trivial
theorem sl2x (w : World) (x y : Vl) (ao bo : Option Addr) (ca cb : Nat) (hi : Vin x) (hi' : Vin y) (hs : SlV w ao x.ll ca) (hs' : SlV w bo y.ll cb) :
    SlV (w.alloc (.cells #[.int .i64 x.kd, .int .i64 x.nn, .int .i64 x.dd, .string (bs x.ss), .slice ao x.ll.length ca, .int .i64 y.kd, .int .i64 y.nn, .int .i64 y.dd, .string (bs y.ss), .slice bo y.ll.length cb] 24)) (some ⟨w.heap.size, 0, none⟩) [x, y] 2 ∧ Fur w (w.alloc (.cells #[.int .i64 x.kd, .int .i64 x.nn, .int .i64 x.dd, .string (bs x.ss), .slice ao x.ll.length ca, .int .i64 y.kd, .int .i64 y.nn, .int .i64 y.dd, .string (bs y.ss), .slice bo y.ll.length cb] 24)) := by
  have hf : Fur w (w.alloc (.cells #[.int .i64 x.kd, .int .i64 x.nn, .int .i64 x.dd, .string (bs x.ss), .slice ao x.ll.length ca, .int .i64 y.kd, .int .i64 y.nn, .int .i64 y.dd, .string (bs y.ss), .slice bo y.ll.length cb] 24)) := (Fur.refl w).alloc _
  have hh : (w.alloc (.cells #[.int .i64 x.kd, .int .i64 x.nn, .int .i64 x.dd, .string (bs x.ss), .slice ao x.ll.length ca, .int .i64 y.kd, .int .i64 y.nn, .int .i64 y.dd, .string (bs y.ss), .slice bo y.ll.length cb] 24)).heap[w.heap.size]? = some (.cells #[.int .i64 x.kd, .int .i64 x.nn, .int .i64 x.dd, .string (bs x.ss), .slice ao x.ll.length ca, .int .i64 y.kd, .int .i64 y.nn, .int .i64 y.dd, .string (bs y.ss), .slice bo y.ll.length cb] 24 (0, 0)) := by
    show (w.heap.push _)[w.heap.size]? = _
    rw [Array.getElem?_push, if_pos rfl]
  replace hs := hs.on hf; replace hs' := hs'.on hf
  refine ⟨⟨Nat.le_refl _, by unfold maxLen; decide, (fun h => by cases h), fun _ => ⟨w.heap.size, 0, rfl, ?_⟩⟩, hf⟩
  generalize w.alloc (.cells #[.int .i64 x.kd, .int .i64 x.nn, .int .i64 x.dd, .string (bs x.ss), .slice ao x.ll.length ca, .int .i64 y.kd, .int .i64 y.nn, .int .i64 y.dd, .string (bs y.ss), .slice bo y.ll.length cb] 24) = W at *
  refine VE_cons hi ?_ ?_ ?_ ?_ (ao := ao) (cap := ca) ?_ hs (VE_cons hi' ?_ ?_ ?_ ?_ (ao := bo) (cap := cb) ?_ hs' (VE_nil _ _ _))
  all_goals (unfold World.cell?; rw [hh]; rfl)
/-- Ten cells and the frame. -/
theorem keep10w {v v' : World} {p0 p1 p2 p3 p4 q0 q1 q2 q3 q4 : Addr} {x0 x1 x2 x3 x4 y0 y1 y2 y3 y4 : Value} (hf : Fuw v v') (h0 : v.cell? p0 = some x0) (h1 : v.cell? p1 = some x1) (h2 : v.cell? p2 = some x2) (h3 : v.cell? p3 = some x3) (h4 : v.cell? p4 = some x4) (g0 : v.cell? q0 = some y0) (g1 : v.cell? q1 = some y1) (g2 : v.cell? q2 = some y2) (g3 : v.cell? q3 = some y3) (g4 : v.cell? q4 = some y4) :
    Fuw v v' ∧ v'.cell? p0 = some x0 ∧ v'.cell? p1 = some x1 ∧ v'.cell? p2 = some x2 ∧ v'.cell? p3 = some x3 ∧ v'.cell? p4 = some x4 ∧ v'.cell? q0 = some y0 ∧ v'.cell? q1 = some y1 ∧ v'.cell? q2 = some y2 ∧ v'.cell? q3 = some y3 ∧ v'.cell? q4 = some y4 :=
  ⟨hf, cellOnw hf h0, cellOnw hf h1, cellOnw hf h2, cellOnw hf h3, cellOnw hf h4, cellOnw hf g0, cellOnw hf g1, cellOnw hf g2, cellOnw hf g3, cellOnw hf g4⟩
theorem le_g (x y : Vl) (ao bo : Option Addr) (ca cb : Nat) (w : World) (hi : Vin x) (hi' : Vin y) (hs : SlV w ao x.ll ca) (hs' : SlV w bo y.ll cb) :
    Calls Tryz.prog 19 #[vlv x ao ca, vlv y bo cb] w (RetI w (eqV x y)) := leq_any x y ao bo ca cb w hi hi' hs hs'
theorem re_g (x y : Vl) (ao bo : Option Addr) (ca cb : Nat) (w : World) (hi : Vin x) (hi' : Vin y) (hs : SlV w ao x.ll ca) (hs' : SlV w bo y.ll cb) :
    Calls Tryz.prog 20 #[vlv x ao ca, vlv y bo cb] w (RwI w (eqV x y)) := requal_all x y ao bo ca cb w hi hi' hs hs'
theorem ll_g (x y : Vl) (ao bo : Option Addr) (ca cb : Nat) (w : World) (hi : Vin x) (hi' : Vin y) (hs : SlV w ao x.ll ca) (hs' : SlV w bo y.ll cb) :
    Calls Tryz.prog 21 #[vlv x ao ca, vlv y bo cb] w (RetI w (lessV x y)) := lless_any x y ao bo ca cb w hi hi' hs hs'
theorem rl_g (x y : Vl) (ao bo : Option Addr) (ca cb : Nat) (w : World) (hi : Vin x) (hi' : Vin y) (hs : SlV w ao x.ll ca) (hs' : SlV w bo y.ll cb) :
    Calls Tryz.prog 22 #[vlv x ao ca, vlv y bo cb] w (RwI w (lessV x y)) := rless_any x y ao bo ca cb w hi hi' hs hs'
theorem lo_g (x y : Vl) (ao bo : Option Addr) (ca cb : Nat) (w : World) (hi : Vin x) (hi' : Vin y) (hs : SlV w ao x.ll ca) (hs' : SlV w bo y.ll cb) :
    Calls Tryz.prog 23 #[vlv x ao ca, vlv y bo cb] w (RetI w (ordV x y)) := lo_all x y ao bo ca cb w hi hi' hs hs'
theorem ro_g (x y : Vl) (ao bo : Option Addr) (ca cb : Nat) (w : World) (hi : Vin x) (hi' : Vin y) (hs : SlV w ao x.ll ca) (hs' : SlV w bo y.ll cb) :
    Calls Tryz.prog 24 #[vlv x ao ca, vlv y bo cb] w (RwI w (ordV x y)) := rorder_all x y ao bo ca cb w hi hi' hs hs'
set_option maxHeartbeats 16000000 in
set_option maxRecDepth 4000000 in
theorem pairs_any (x y : Vl) (ao bo : Option Addr) (ca cb : Nat) (w : World) (hi : Vin x) (hi' : Vin y) (hs : SlV w ao x.ll ca) (hs' : SlV w bo y.ll cb) (G : Good w) :
    Calls Tryz.prog 4 #[vlv x ao ca, vlv y bo cb] w (RwB w true) := by
  obtain ⟨p0, p1, f0⟩ := bx2 w x y ao bo ca cb
  have HG := Lib.hid G
  have HI := Lib.hid (And.intro hi hi')
  have HS := Lib.hid (And.intro hs hs')
  have HSL := Lib.hid (fun w' (hf : Fur w w') => sl2x w' x y ao bo ca cb hi hi' (hs.on hf) (hs'.on hf))
  have eE := Lib.hid (eq_comm' x y)
  have eO := Lib.hid (ord_swap x y)
  have rO := ord_in x y
  have hwr : IntKind.i64.wrap (-ordV x y) = -ordV x y := by rw [IntKind.wrap_i64]; omega
  clear hs hs' hi hi' G
  unfold vlv at *
  obtain ⟨W, hW⟩ : ∃ W, (((w.alloc (.cells #[.int .i64 x.kd, .int .i64 x.nn, .int .i64 x.dd, .string (bs x.ss), .slice ao x.ll.length ca] 24)).alloc (.cells #[.int .i64 y.kd, .int .i64 y.nn, .int .i64 y.dd, .string (bs y.ss), .slice bo y.ll.length cb] 24))) = W := ⟨_, rfl⟩
  rw [hW] at p0 p1 f0
  go_enter Tryz.func4, Tryz.ntmps4
  go_upto_region 1 with fail
  clear hW
  have c0 := p0.c0; have c1 := p0.c1; have c2 := p0.c2; have c3 := p0.c3; have c4 := p0.c4
  have d0 := p1.c0; have d1 := p1.c1; have d2 := p1.c2; have d3 := p1.c3; have d4 := p1.c4
  go_wp2_with fail
  obtain ⟨hl, fl⟩ := HSL.out W f0
  go_at_call 7; refine (lsmall_any [x, y] _ _ _ hl).mono ?_; rintro e1 wz ⟨rfl, f1⟩
  have ff := fl.trans f1
  clear hl fl f1 HSL
  clear c0 c1 c2 c3 c4 d0 d1 d2 d3 d4
  replace p0 := p0.on ff
  replace p1 := p1.on ff
  replace f0 := f0.trans ff
  clear ff
  have c0 := p0.c0; have c1 := p0.c1; have c2 := p0.c2; have c3 := p0.c3; have c4 := p0.c4
  have d0 := p1.c0; have d1 := p1.c1; have d2 := p1.c2; have d3 := p1.c3; have d4 := p1.c4
  generalize lite [x, y] = q at *
  cases q
  · clear HI HS
    go_wp2_with fail
    go_at_call 8; refine (alive_any _ (HG.out.onw f0.w)).mono ?_; rintro e9 w9 ⟨rfl, f9⟩
    go_wp2
    go_ret
    exact ⟨rfl, Fuw.trans f0.w f9⟩
  go_upto_region 3 with fail
  have ff : Fuw wz wz.drew := Fuw.drew (Fuw.refl wz)
  go_region_held3 (fun w' => Fuw wz w' ∧ w'.cell? ⟨w.heap.size, 0, none⟩ = some (.int .i64 x.kd) ∧ w'.cell? ⟨w.heap.size, 1, none⟩ = some (.int .i64 x.nn) ∧ w'.cell? ⟨w.heap.size, 2, none⟩ = some (.int .i64 x.dd) ∧ w'.cell? ⟨w.heap.size, 3, none⟩ = some (.string (bs x.ss)) ∧ w'.cell? ⟨w.heap.size, 4, none⟩ = some (.slice ao x.ll.length ca) ∧ w'.cell? ⟨w.heap.size + 1, 0, none⟩ = some (.int .i64 y.kd) ∧ w'.cell? ⟨w.heap.size + 1, 1, none⟩ = some (.int .i64 y.nn) ∧ w'.cell? ⟨w.heap.size + 1, 2, none⟩ = some (.int .i64 y.dd) ∧ w'.cell? ⟨w.heap.size + 1, 3, none⟩ = some (.string (bs y.ss)) ∧ w'.cell? ⟨w.heap.size + 1, 4, none⟩ = some (.slice bo y.ll.length cb))
    (first
      | exact keep10w ff c0 c1 c2 c3 c4 d0 d1 d2 d3 d4)
    (first
      | (go_at_call 19; refine (le_g _ _ _ _ _ _ _ ?_ ?_ ?_ ?_).mono ?_; (first | exact HI.out.1 | exact HI.out.2); (first | exact HI.out.1 | exact HI.out.2); (first | exact HS.out.1.onw (Fuw.trans f0.w ff) | exact HS.out.2.onw (Fuw.trans f0.w ff)); (first | exact HS.out.1.onw (Fuw.trans f0.w ff) | exact HS.out.2.onw (Fuw.trans f0.w ff)); rintro e7 w7 ⟨he7, f7⟩; (try rw [eE.out] at he7); subst he7; replace ff := Fuw.trans ff f7.w)
      | (go_at_call 20; refine (re_g _ _ _ _ _ _ _ ?_ ?_ ?_ ?_).mono ?_; (first | exact HI.out.1 | exact HI.out.2); (first | exact HI.out.1 | exact HI.out.2); (first | exact HS.out.1.onw (Fuw.trans f0.w ff) | exact HS.out.2.onw (Fuw.trans f0.w ff)); (first | exact HS.out.1.onw (Fuw.trans f0.w ff) | exact HS.out.2.onw (Fuw.trans f0.w ff)); rintro e7 w7 ⟨rfl, f7⟩; replace ff := Fuw.trans ff f7)
      | (go_at_call 21; refine (ll_g _ _ _ _ _ _ _ ?_ ?_ ?_ ?_).mono ?_; (first | exact HI.out.1 | exact HI.out.2); (first | exact HI.out.1 | exact HI.out.2); (first | exact HS.out.1.onw (Fuw.trans f0.w ff) | exact HS.out.2.onw (Fuw.trans f0.w ff)); (first | exact HS.out.1.onw (Fuw.trans f0.w ff) | exact HS.out.2.onw (Fuw.trans f0.w ff)); rintro e7 w7 ⟨rfl, f7⟩; replace ff := Fuw.trans ff f7.w)
      | (go_at_call 22; refine (rl_g _ _ _ _ _ _ _ ?_ ?_ ?_ ?_).mono ?_; (first | exact HI.out.1 | exact HI.out.2); (first | exact HI.out.1 | exact HI.out.2); (first | exact HS.out.1.onw (Fuw.trans f0.w ff) | exact HS.out.2.onw (Fuw.trans f0.w ff)); (first | exact HS.out.1.onw (Fuw.trans f0.w ff) | exact HS.out.2.onw (Fuw.trans f0.w ff)); rintro e7 w7 ⟨rfl, f7⟩; replace ff := Fuw.trans ff f7)
      | (go_at_call 23; refine (lo_g _ _ _ _ _ _ _ ?_ ?_ ?_ ?_).mono ?_; (first | exact HI.out.1 | exact HI.out.2); (first | exact HI.out.1 | exact HI.out.2); (first | exact HS.out.1.onw (Fuw.trans f0.w ff) | exact HS.out.2.onw (Fuw.trans f0.w ff)); (first | exact HS.out.1.onw (Fuw.trans f0.w ff) | exact HS.out.2.onw (Fuw.trans f0.w ff)); rintro e7 w7 ⟨he7, f7⟩; (try rw [eO.out] at he7); subst he7; replace ff := Fuw.trans ff f7.w)
      | (go_at_call 24; refine (ro_g _ _ _ _ _ _ _ ?_ ?_ ?_ ?_).mono ?_; (first | exact HI.out.1 | exact HI.out.2); (first | exact HI.out.1 | exact HI.out.2); (first | exact HS.out.1.onw (Fuw.trans f0.w ff) | exact HS.out.2.onw (Fuw.trans f0.w ff)); (first | exact HS.out.1.onw (Fuw.trans f0.w ff) | exact HS.out.2.onw (Fuw.trans f0.w ff)); rintro e7 w7 ⟨rfl, f7⟩; replace ff := Fuw.trans ff f7)
      | (go_at_call 8; refine (alive_any _ (HG.out.onw (Fuw.trans f0.w ff))).mono ?_; rintro e7 w7 ⟨rfl, f7⟩; replace ff := Fuw.trans ff f7))
  go_wp2
  go_ret
  exact ⟨rfl, Fuw.trans f0.w ff⟩
end Go.Proofs.YtenmideffecdnaaGreatDoor
