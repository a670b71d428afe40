/-
  Package value: Less of every two values in memory. Nothing that was there turns.
-/
import Derived.Test.YteonkiajgfkieaaGreatDoorLvJ
namespace Go.Proofs.YteonkiajgfkieaaGreatDoor
open Go.RowKit

theorem lvalid_t (x : Vl) (ao : Option Addr) (cap : Nat) (w : World) (hi : Vin x) (hs : SlV w ao x.ll cap) (h : okX x = true) : Calls Tryz.prog 25 #[vlv x ao cap] w (RetB w true) := by
  have k := lvalid_any x ao cap w hi hs
  rwa [h] at k
theorem lvalid_f (x : Vl) (ao : Option Addr) (cap : Nat) (w : World) (hi : Vin x) (hs : SlV w ao x.ll cap) (h : okX x = false) : Calls Tryz.prog 25 #[vlv x ao cap] w (RetB w false) := by
  have k := lvalid_any x ao cap w hi hs
  rwa [h] at k
/-- Less, in three values. -/
def lessV (x y : Vl) : Int := if okX x = true ∧ okX y = true ∧ classV x.kd = classV y.kd ∧ (classV x.kd = 1 ∨ classV x.kd = 2 ∨ classV x.kd = 3) then (if decide (ordV x y < 0) = true then 2 else 0) else 1
set_option maxHeartbeats 6400000 in
set_option maxRecDepth 100000 in
theorem lless_1 (x y : Vl) (ao bo : Option Addr) (ca cb : Nat) (w : World) (hi : Vin x) (hi' : Vin y) (hs : SlV w ao x.ll ca) (hs' : SlV w bo y.ll cb) (hp : okX x = false ∨ okX y = false) :
    Calls Tryz.prog 21 #[vlv x ao ca, vlv y bo cb] w (RetI w (1)) := by
  obtain ⟨p0, p1, f0⟩ := bx2' w x y ao bo ca cb
  have hne : ¬ (w.heap.size = w.heap.size + 1) := by omega
  have hne2 : ¬ (w.heap.size + 1 = w.heap.size) := by omega
  have HI := Lib.hid (And.intro hi hi')
  have HS := Lib.hid (And.intro hs hs')
  clear hs hs' hi hi'
  rcases (show okX x = false ∨ (okX x = true ∧ okX y = false) by
    rcases hp with h | h
    · exact .inl h
    · cases e : okX x
      · exact .inl rfl
      · exact .inr ⟨rfl, h⟩) with g | ⟨g, g'⟩
  all_goals
    clear hp
    obtain ⟨W, hW⟩ : ∃ W, ((w.alloc (.cells #[.int .i64 x.kd, .int .i64 x.nn, .int .i64 x.dd, .string (bs x.ss), .slice ao x.ll.length ca] 34)).alloc (.cells #[.int .i64 y.kd, .int .i64 y.nn, .int .i64 y.dd, .string (bs y.ss), .slice bo y.ll.length cb] 34)) = W := ⟨_, rfl⟩
    rw [hW] at p0 p1 f0
    unfold vlv at *
    go_enter Tryz.func21, Tryz.ntmps21
    go_upto_region 1 with fail
    clear hW
    have c0 := p0.c0; have c1 := p0.c1; have c2 := p0.c2; have c3 := p0.c3; have c4 := p0.c4
    have d0 := p1.c0; have d1 := p1.c1; have d2 := p1.c2; have d3 := p1.c3; have d4 := p1.c4
    have ff : Fur W W.drew := Fur.drew (Fur.refl W)
    replace c0 := cellOn ff c0; replace c1 := cellOn ff c1; replace c2 := cellOn ff c2; replace c3 := cellOn ff c3; replace c4 := cellOn ff c4; replace d0 := cellOn ff d0; replace d1 := cellOn ff d1; replace d2 := cellOn ff d2; replace d3 := cellOn ff d3; replace d4 := cellOn ff d4
    go_region_with (first
        | (go_at_call 25; first
            | (refine (lvalid_f _ _ _ _ ?_ ?_ ?_).mono ?_; (first | exact HI.out.1 | exact HI.out.2); (first | exact HS.out.1.on (f0.trans ff) | exact HS.out.2.on (f0.trans ff)); (first | exact g | exact g'); rintro e4 w4 ⟨rfl, f4⟩; replace ff := ff.trans f4; have c0 := (p0.on ff).c0; have c1 := (p0.on ff).c1; have c2 := (p0.on ff).c2; have c3 := (p0.on ff).c3; have c4 := (p0.on ff).c4; have d0 := (p1.on ff).c0; have d1 := (p1.on ff).c1; have d2 := (p1.on ff).c2; have d3 := (p1.on ff).c3; have d4 := (p1.on ff).c4)
            | (refine (lvalid_t _ _ _ _ ?_ ?_ ?_).mono ?_; (first | exact HI.out.1 | exact HI.out.2); (first | exact HS.out.1.on (f0.trans ff) | exact HS.out.2.on (f0.trans ff)); (first | exact g | exact g'); rintro e4 w4 ⟨rfl, f4⟩; replace ff := ff.trans f4; have c0 := (p0.on ff).c0; have c1 := (p0.on ff).c1; have c2 := (p0.on ff).c2; have c3 := (p0.on ff).c3; have c4 := (p0.on ff).c4; have d0 := (p1.on ff).c0; have d1 := (p1.on ff).c1; have d2 := (p1.on ff).c2; have d3 := (p1.on ff).c3; have d4 := (p1.on ff).c4)))
    all_goals
      go_wp2
      go_ret
      exact ⟨rfl, f0.trans ff⟩
set_option maxHeartbeats 6400000 in
set_option maxRecDepth 100000 in
theorem lless_2 (x y : Vl) (ao bo : Option Addr) (ca cb : Nat) (w : World) (hi : Vin x) (hi' : Vin y) (hs : SlV w ao x.ll ca) (hs' : SlV w bo y.ll cb) (hp : okX x = true) (hq : okX y = true) :
    Calls Tryz.prog 21 #[vlv x ao ca, vlv y bo cb] w (RetI w (lessV x y)) := by
  obtain ⟨p0, p1, f0⟩ := bx2' w x y ao bo ca cb
  have hne : ¬ (w.heap.size = w.heap.size + 1) := by omega
  have hne2 : ¬ (w.heap.size + 1 = w.heap.size) := by omega
  have HI := Lib.hid (And.intro hi hi')
  have HS := Lib.hid (And.intro hs hs')
  have VO := Lib.hid (fun w' (hf : Fur w w') => lov_all x y hp hq ao bo ca cb w' hi hi' (hs.on hf) (hs'.on hf))
  have KN := Lib.hid (fun b w => lknown_r b w)
  have HE := Lib.hid (show lessV x y = if classG x.kd = classG y.kd ∧ (classG x.kd = 1 ∨ classG x.kd = 2 ∨ classG x.kd = 3) then (if decide (ordV x y < 0) = true then 2 else 0) else 1 by
    unfold lessV
    rw [classG_ok (kind_in hp).1 (kind_in hp).2, classG_ok (kind_in hq).1 (kind_in hq).2, hp, hq]
    simp only [true_and])
  clear hs hs' hi hi'
  generalize ordV x y = T at *
  generalize lessV x y = R at *
  obtain ⟨W, hW⟩ : ∃ W, ((w.alloc (.cells #[.int .i64 x.kd, .int .i64 x.nn, .int .i64 x.dd, .string (bs x.ss), .slice ao x.ll.length ca] 34)).alloc (.cells #[.int .i64 y.kd, .int .i64 y.nn, .int .i64 y.dd, .string (bs y.ss), .slice bo y.ll.length cb] 34)) = W := ⟨_, rfl⟩
  rw [hW] at p0 p1 f0
  unfold vlv at *
  go_enter Tryz.func21, Tryz.ntmps21
  go_upto_region 1 with fail
  clear hW
  have c0 := p0.c0; have c1 := p0.c1; have c2 := p0.c2; have c3 := p0.c3; have c4 := p0.c4
  have d0 := p1.c0; have d1 := p1.c1; have d2 := p1.c2; have d3 := p1.c3; have d4 := p1.c4
  have ff : Fur W W.drew := Fur.drew (Fur.refl W)
  go_region_held3 (fun w' => Fur W w' ∧ w'.cell? ⟨w.heap.size, 0, none⟩ = some (.int .i64 x.kd) ∧ w'.cell? ⟨w.heap.size, 1, none⟩ = some (.int .i64 x.nn) ∧ w'.cell? ⟨w.heap.size, 2, none⟩ = some (.int .i64 x.dd) ∧ w'.cell? ⟨w.heap.size, 3, none⟩ = some (.string (bs x.ss)) ∧ w'.cell? ⟨w.heap.size, 4, none⟩ = some (.slice ao x.ll.length ca) ∧ w'.cell? ⟨w.heap.size + 1, 0, none⟩ = some (.int .i64 y.kd) ∧ w'.cell? ⟨w.heap.size + 1, 1, none⟩ = some (.int .i64 y.nn) ∧ w'.cell? ⟨w.heap.size + 1, 2, none⟩ = some (.int .i64 y.dd) ∧ w'.cell? ⟨w.heap.size + 1, 3, none⟩ = some (.string (bs y.ss)) ∧ w'.cell? ⟨w.heap.size + 1, 4, none⟩ = some (.slice bo y.ll.length cb))
    (first
      | exact keep10 ff c0 c1 c2 c3 c4 d0 d1 d2 d3 d4)
    (first
      | (go_at_call 25; refine (lvalid_any _ _ _ _ ?_ ?_).mono ?_; (first | exact HI.out.1 | exact HI.out.2); (first | exact HS.out.1.on (f0.trans ff) | exact HS.out.2.on (f0.trans ff)); rintro e4 w4 ⟨rfl, f4⟩; replace ff := ff.trans f4)
      | (go_at_call 33; refine (lclass_any _ _ _ _).mono ?_; rintro e4 w4 ⟨rfl, f4⟩; replace ff := ff.trans f4))
  clear HI HS
  have CX := Lib.hid (fun w => lclass_any x ao ca w)
  unfold vlv at CX
  generalize classG x.kd = cx at *
  generalize classG y.kd = cy at *
  clear c0 c1 c2 c3 c4 d0 d1 d2 d3 d4
  replace p0 := p0.on ff
  replace p1 := p1.on ff
  replace f0 := f0.trans ff
  clear ff
  have c0 := p0.c0; have c1 := p0.c1; have c2 := p0.c2; have c3 := p0.c3; have c4 := p0.c4
  have d0 := p1.c0; have d1 := p1.c1; have d2 := p1.c2; have d3 := p1.c3; have d4 := p1.c4
  by_cases hc : cx = cy
  rotate_left
  · have g : (cx != cy) = true := by rw [bne_iff_ne]; exact hc
    have HR := Lib.hid (HE.out.trans (if_neg (fun t => hc t.1)))
    clear hc HE VO CX KN hp hq
    go_wp2
    go_ret
    exact ⟨ret_int HR.out.symm, f0⟩
  subst hc
  clear hp hq
  go_wp2_with fail
  go_at_call 33; refine (CX.out _).mono ?_; rintro e6 w6 ⟨rfl, ff⟩
  clear c0 c1 c2 c3 c4 d0 d1 d2 d3 d4
  replace p0 := p0.on ff
  replace p1 := p1.on ff
  replace f0 := f0.trans ff
  clear ff
  have c0 := p0.c0; have c1 := p0.c1; have c2 := p0.c2; have c3 := p0.c3; have c4 := p0.c4
  have d0 := p1.c0; have d1 := p1.c1; have d2 := p1.c2; have d3 := p1.c3; have d4 := p1.c4
  clear CX
  by_cases h3 : cx = 1 ∨ cx = 2 ∨ cx = 3
  rotate_left
  · have g1 : (cx == 1) = false := beq_eq_false_iff_ne.2 (by omega)
    have g2 : (cx == 2) = false := beq_eq_false_iff_ne.2 (by omega)
    have g3 : (cx == 3) = false := beq_eq_false_iff_ne.2 (by omega)
    have HR := Lib.hid (HE.out.trans (if_neg (fun t => h3 t.2)))
    clear h3 HE VO KN
    go_wp2
    go_ret
    exact ⟨ret_int HR.out.symm, f0⟩
  have HR := Lib.hid (HE.out.trans (if_pos (by simpa using h3)))
  clear HE
  rcases h3 with rfl | rfl | rfl
  all_goals
    go_wp2_with fail
    go_at_call 35; refine (VO.out _ f0).mono ?_; rintro e7 w7 ⟨rfl, f7⟩
    by_cases hT : T < 0
    · have HQ := Lib.hid (show R = 2 by rw [HR.out, decide_eq_true hT]; rfl)
      go_wp2_with fail
      go_at_call 34; refine (KN.out _ _).mono ?_; rintro e8 w8 ⟨rfl, f8⟩
      go_wp2
      go_ret
      exact ⟨ret_int HQ.out.symm, (f0.trans f7).trans f8⟩
    · have HQ := Lib.hid (show R = 0 by rw [HR.out, decide_eq_false hT]; rfl)
      go_wp2_with fail
      go_at_call 34; refine (KN.out _ _).mono ?_; rintro e8 w8 ⟨rfl, f8⟩
      go_wp2
      go_ret
      exact ⟨ret_int HQ.out.symm, (f0.trans f7).trans f8⟩
theorem lless_any (x y : Vl) (ao bo : Option Addr) (ca cb : Nat) (w : World) (hi : Vin x) (hi' : Vin y) (hs : SlV w ao x.ll ca) (hs' : SlV w bo y.ll cb) : Calls Tryz.prog 21 #[vlv x ao ca, vlv y bo cb] w (RetI w (lessV x y)) := by
  cases hp : okX x
  · have e : lessV x y = 1 := if_neg (fun t => by rw [hp] at t; cases t.1)
    rw [e]
    exact lless_1 x y ao bo ca cb w hi hi' hs hs' (.inl hp)
  · cases hq : okX y
    · have e : lessV x y = 1 := if_neg (fun t => by rw [hq] at t; cases t.2.1)
      rw [e]
      exact lless_1 x y ao bo ca cb w hi hi' hs hs' (.inr hq)
    · exact lless_2 x y ao bo ca cb w hi hi' hs hs' hp hq
end Go.Proofs.YteonkiajgfkieaaGreatDoor
