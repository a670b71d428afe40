/-
  RvM; RvN: texts of one kind in one file; each part says what it holds.
-/
import Derived.Test.YtkcmakfmeioakaaGreatM18

/-! The reference of package value: fields compares all fields of two values, given what Order answers of the values inside. Nothing that was there turns. -/
namespace Go.Proofs.YtkcmakfmeioakaaGreat
open Go.RowKit

/-- Two values boxed. -/
theorem bx2w (w : World) (x y : Vl) (ao bo : Option Addr) (ca cb : Nat) :
    Bx ((w.alloc (.cells #[.int .i64 x.kd, .int .i64 x.nn, .int .i64 x.dd, .string (bs x.ss), .slice ao x.ll.length ca] 55)).alloc (.cells #[.int .i64 y.kd, .int .i64 y.nn, .int .i64 y.dd, .string (bs y.ss), .slice bo y.ll.length cb] 55)) w.heap.size x ao ca ∧
    Bx ((w.alloc (.cells #[.int .i64 x.kd, .int .i64 x.nn, .int .i64 x.dd, .string (bs x.ss), .slice ao x.ll.length ca] 55)).alloc (.cells #[.int .i64 y.kd, .int .i64 y.nn, .int .i64 y.dd, .string (bs y.ss), .slice bo y.ll.length cb] 55)) (w.heap.size + 1) y bo cb ∧
    Fuw w ((w.alloc (.cells #[.int .i64 x.kd, .int .i64 x.nn, .int .i64 x.dd, .string (bs x.ss), .slice ao x.ll.length ca] 55)).alloc (.cells #[.int .i64 y.kd, .int .i64 y.nn, .int .i64 y.dd, .string (bs y.ss), .slice bo y.ll.length cb] 55)) := by
  obtain ⟨p0, f0⟩ := bx1w w x ao ca
  have s0 : (w.alloc (.cells #[.int .i64 x.kd, .int .i64 x.nn, .int .i64 x.dd, .string (bs x.ss), .slice ao x.ll.length ca] 55)).heap.size = w.heap.size + 1 := by simp
  generalize w.alloc (.cells #[.int .i64 x.kd, .int .i64 x.nn, .int .i64 x.dd, .string (bs x.ss), .slice ao x.ll.length ca] 55) = w1 at *
  obtain ⟨p1, f1⟩ := bx1w w1 y bo cb
  rw [s0] at p1
  exact ⟨p0.onw f1, p1, f0.trans f1⟩
set_option maxHeartbeats 6400000 in
set_option maxRecDepth 100000 in
theorem rfields_any (x y : Vl) (hO : ∀ z, z ∈ x.ll → OP z) (ao bo : Option Addr) (ca cb : Nat) (w : World) (hs : SlV w ao x.ll ca) (hs' : SlV w bo y.ll cb) :
    Calls Tryz.prog 71 #[vlv x ao ca, vlv y bo cb] w (RwI w (fldV x y)) := by
  obtain ⟨p0, p1, f0⟩ := bx2w w x y ao bo ca cb
  have hne : ¬ (w.heap.size = w.heap.size + 1) := by omega
  have hne2 : ¬ (w.heap.size + 1 = w.heap.size) := by omega
  have C0 := Lib.hid (fun w => rints_any x.kd y.kd w)
  have C1 := Lib.hid (fun w => rints_any x.nn y.nn w)
  have C2 := Lib.hid (fun w => rints_any x.dd y.dd w)
  have C3 := Lib.hid (fun w => rstrs_any (bs x.ss) (bs y.ss) w)
  rw [show (bs x.ss).data.toList = x.ss from rfl, show (bs y.ss).data.toList = y.ss from rfl] at C3
  have C4 := Lib.hid (fun w' (hf : Fuw w w') => rlists_any x.ll y.ll hO ao bo ca cb w' (hs.onw hf) (hs'.onw hf))
  have HE := Lib.hid (show fldV x y = thn (intc x.kd y.kd) (thn (intc x.nn y.nn) (thn (intc x.dd y.dd) (thn (strc x.ss y.ss) (ordL x.ll y.ll)))) from rfl)
  clear hs hs' hO
  generalize fldV x y = R at *
  generalize intc x.kd y.kd = r0 at *
  generalize intc x.nn y.nn = r1 at *
  generalize intc x.dd y.dd = r2 at *
  generalize strc x.ss y.ss = r3 at *
  generalize ordL x.ll y.ll = r4 at *
  unfold vlv
  by_cases h0 : r0 = 0
  rotate_left
  · have g0 : (r0 != 0) = true := by rw [bne_iff_ne]; exact h0
    have HF := Lib.hid (show R = r0 by rw [HE.out, thn_n h0])
    clear h0
    go_enter Tryz.func71, Tryz.ntmps71
    go_wp2_with fail
    go_at_call 72; refine (C0.out _).mono ?_; rintro e1 w1 ⟨rfl, rfl⟩
    go_wp2
    go_ret
    exact ⟨ret_int HF.out.symm, f0⟩
  subst h0
  rw [thn_0] at HE
  by_cases h1 : r1 = 0
  rotate_left
  · have g1 : (r1 != 0) = true := by rw [bne_iff_ne]; exact h1
    have HF := Lib.hid (show R = r1 by rw [HE.out, thn_n h1])
    clear h1
    go_enter Tryz.func71, Tryz.ntmps71
    go_wp2_with fail
    go_at_call 72; refine (C0.out _).mono ?_; rintro e1 w1 ⟨rfl, rfl⟩
    go_wp2_with fail
    go_at_call 72; refine (C1.out _).mono ?_; rintro e1 w1 ⟨rfl, rfl⟩
    go_wp2
    go_ret
    exact ⟨ret_int HF.out.symm, f0⟩
  subst h1
  rw [thn_0] at HE
  by_cases h2 : r2 = 0
  rotate_left
  · have g2 : (r2 != 0) = true := by rw [bne_iff_ne]; exact h2
    have HF := Lib.hid (show R = r2 by rw [HE.out, thn_n h2])
    clear h2
    go_enter Tryz.func71, Tryz.ntmps71
    go_wp2_with fail
    go_at_call 72; refine (C0.out _).mono ?_; rintro e1 w1 ⟨rfl, rfl⟩
    go_wp2_with fail
    go_at_call 72; refine (C1.out _).mono ?_; rintro e1 w1 ⟨rfl, rfl⟩
    go_wp2_with fail
    go_at_call 72; refine (C2.out _).mono ?_; rintro e1 w1 ⟨rfl, rfl⟩
    go_wp2
    go_ret
    exact ⟨ret_int HF.out.symm, f0⟩
  subst h2
  rw [thn_0] at HE
  by_cases h3 : r3 = 0
  rotate_left
  · have g3 : (r3 != 0) = true := by rw [bne_iff_ne]; exact h3
    have HF := Lib.hid (show R = r3 by rw [HE.out, thn_n h3])
    clear h3
    go_enter Tryz.func71, Tryz.ntmps71
    go_wp2_with fail
    go_at_call 72; refine (C0.out _).mono ?_; rintro e1 w1 ⟨rfl, rfl⟩
    go_wp2_with fail
    go_at_call 72; refine (C1.out _).mono ?_; rintro e1 w1 ⟨rfl, rfl⟩
    go_wp2_with fail
    go_at_call 72; refine (C2.out _).mono ?_; rintro e1 w1 ⟨rfl, rfl⟩
    go_wp2_with fail
    go_at_call 88; refine (C3.out _).mono ?_; rintro e1 w1 ⟨rfl, rfl⟩
    go_wp2
    go_ret
    exact ⟨ret_int HF.out.symm, f0⟩
  subst h3
  rw [thn_0] at HE
  go_enter Tryz.func71, Tryz.ntmps71
  go_wp2_with fail
  go_at_call 72; refine (C0.out _).mono ?_; rintro e1 w1 ⟨rfl, rfl⟩
  go_wp2_with fail
  go_at_call 72; refine (C1.out _).mono ?_; rintro e1 w1 ⟨rfl, rfl⟩
  go_wp2_with fail
  go_at_call 72; refine (C2.out _).mono ?_; rintro e1 w1 ⟨rfl, rfl⟩
  go_wp2_with fail
  go_at_call 88; refine (C3.out _).mono ?_; rintro e1 w1 ⟨rfl, rfl⟩
  go_wp2_with fail
  go_at_call 89; refine (C4.out _ f0).mono ?_; rintro e1 w1 ⟨rfl, f1⟩
  go_wp2
  go_ret
  exact ⟨ret_int HE.out.symm, f0.trans f1⟩
end Go.Proofs.YtkcmakfmeioakaaGreat

/-! The reference of package value: Order of every two values in memory. Nothing that was there turns. -/
namespace Go.Proofs.YtkcmakfmeioakaaGreat
open Go.RowKit

set_option maxHeartbeats 6400000 in
set_option maxRecDepth 100000 in
theorem rorder_tf (x y : Vl) (ao bo : Option Addr) (ca cb : Nat) (w : World) (hi : Vin x) (hi' : Vin y) (hs : SlV w ao x.ll ca) (hs' : SlV w bo y.ll cb) (hp : okX x = true) (hq : okX y = false) :
    Calls Tryz.prog 47 #[vlv x ao ca, vlv y bo cb] w (RwI w (-1)) := by
  obtain ⟨p0, p1, f0⟩ := bx2w w x y ao bo ca cb
  have hne : ¬ (w.heap.size = w.heap.size + 1) := by omega
  have hne2 : ¬ (w.heap.size + 1 = w.heap.size) := by omega
  have VA := Lib.hid (fun w' (hf : Fuw w w') => (rokV_any x ao ca w' hi (hs.onw hf)).mono fun _ _ h => RetB.w h)
  have VB := Lib.hid (fun w' (hf : Fuw w w') => (rokV_any y bo cb w' hi' (hs'.onw hf)).mono fun _ _ h => RetB.w h)
  rw [hp] at VA
  rw [hq] at VB
  clear hi hi' hs hs' hp hq
  unfold vlv at *
  go_enter Tryz.func47, Tryz.ntmps47
  go_wp2_with fail
  have c0 := p0.c0; have c1 := p0.c1; have c2 := p0.c2; have c3 := p0.c3; have c4 := p0.c4
  have d0 := p1.c0; have d1 := p1.c1; have d2 := p1.c2; have d3 := p1.c3; have d4 := p1.c4
  go_region_held3 (fun w' => Fuw ((w.alloc (.cells #[.int .i64 x.kd, .int .i64 x.nn, .int .i64 x.dd, .string (bs x.ss), .slice ao x.ll.length ca] 55)).alloc (.cells #[.int .i64 y.kd, .int .i64 y.nn, .int .i64 y.dd, .string (bs y.ss), .slice bo y.ll.length cb] 55)) w' ∧ w'.cell? ⟨w.heap.size, 0, none⟩ = some (.int .i64 x.kd) ∧ w'.cell? ⟨w.heap.size, 1, none⟩ = some (.int .i64 x.nn) ∧ w'.cell? ⟨w.heap.size, 2, none⟩ = some (.int .i64 x.dd) ∧ w'.cell? ⟨w.heap.size, 3, none⟩ = some (.string (bs x.ss)) ∧ w'.cell? ⟨w.heap.size, 4, none⟩ = some (.slice ao x.ll.length ca) ∧ w'.cell? ⟨w.heap.size + 1, 0, none⟩ = some (.int .i64 y.kd) ∧ w'.cell? ⟨w.heap.size + 1, 1, none⟩ = some (.int .i64 y.nn) ∧ w'.cell? ⟨w.heap.size + 1, 2, none⟩ = some (.int .i64 y.dd) ∧ w'.cell? ⟨w.heap.size + 1, 3, none⟩ = some (.string (bs y.ss)) ∧ w'.cell? ⟨w.heap.size + 1, 4, none⟩ = some (.slice bo y.ll.length cb))
    (first
      | (refine ⟨Fuw.drew (Fuw.refl _), ?_, ?_, ?_, ?_, ?_, ?_, ?_, ?_, ?_, ?_⟩ <;> simp [*]; done)
      | go_keep
      | (refine ⟨Fuw.trans ?_ (by assumption), cellOnw (by assumption) ?_, cellOnw (by assumption) ?_, cellOnw (by assumption) ?_, cellOnw (by assumption) ?_, cellOnw (by assumption) ?_, cellOnw (by assumption) ?_, cellOnw (by assumption) ?_, cellOnw (by assumption) ?_, cellOnw (by assumption) ?_, cellOnw (by assumption) ?_⟩ <;> simp [*]))
    (first
      | (go_at_call 69; first
          | (refine (VA.out _ (f0.trans (Fuw.drew (Fuw.refl _)))).mono ?_; rintro e1 w1 ⟨rfl, f1⟩)
          | (refine (VB.out _ (f0.trans (Fuw.drew (Fuw.refl _)))).mono ?_; rintro e1 w1 ⟨rfl, f1⟩)
          | (refine (VA.out _ (f0.trans ((Fuw.drew (Fuw.refl _)).trans (by assumption)))).mono ?_; rintro e1 w2 ⟨rfl, f2⟩)
          | (refine (VB.out _ (f0.trans ((Fuw.drew (Fuw.refl _)).trans (by assumption)))).mono ?_; rintro e1 w2 ⟨rfl, f2⟩)))
  have hS : Fuw ((w.alloc (.cells #[.int .i64 x.kd, .int .i64 x.nn, .int .i64 x.dd, .string (bs x.ss), .slice ao x.ll.length ca] 55)).alloc (.cells #[.int .i64 y.kd, .int .i64 y.nn, .int .i64 y.dd, .string (bs y.ss), .slice bo y.ll.length cb] 55)) w2 ∧ w2.cell? ⟨w.heap.size, 0, none⟩ = some (.int .i64 x.kd) ∧ w2.cell? ⟨w.heap.size, 1, none⟩ = some (.int .i64 x.nn) ∧ w2.cell? ⟨w.heap.size, 2, none⟩ = some (.int .i64 x.dd) ∧ w2.cell? ⟨w.heap.size, 3, none⟩ = some (.string (bs x.ss)) ∧ w2.cell? ⟨w.heap.size, 4, none⟩ = some (.slice ao x.ll.length ca) ∧ w2.cell? ⟨w.heap.size + 1, 0, none⟩ = some (.int .i64 y.kd) ∧ w2.cell? ⟨w.heap.size + 1, 1, none⟩ = some (.int .i64 y.nn) ∧ w2.cell? ⟨w.heap.size + 1, 2, none⟩ = some (.int .i64 y.dd) ∧ w2.cell? ⟨w.heap.size + 1, 3, none⟩ = some (.string (bs y.ss)) ∧ w2.cell? ⟨w.heap.size + 1, 4, none⟩ = some (.slice bo y.ll.length cb) := by assumption
  have ff := f0.trans hS.1
  have Y := Lib.hid (fun w => ryes_any true w)
  go_wp2_with fail
  go_at_call 70; refine (Y.out _).mono ?_; rintro e1 w3 ⟨rfl, rfl⟩
  go_wp2
  go_ret
  exact ⟨rfl, ff⟩
set_option maxHeartbeats 6400000 in
set_option maxRecDepth 100000 in
theorem rorder_ft (x y : Vl) (ao bo : Option Addr) (ca cb : Nat) (w : World) (hi : Vin x) (hi' : Vin y) (hs : SlV w ao x.ll ca) (hs' : SlV w bo y.ll cb) (hp : okX x = false) (hq : okX y = true) :
    Calls Tryz.prog 47 #[vlv x ao ca, vlv y bo cb] w (RwI w (1)) := by
  obtain ⟨p0, p1, f0⟩ := bx2w w x y ao bo ca cb
  have hne : ¬ (w.heap.size = w.heap.size + 1) := by omega
  have hne2 : ¬ (w.heap.size + 1 = w.heap.size) := by omega
  have VA := Lib.hid (fun w' (hf : Fuw w w') => (rokV_any x ao ca w' hi (hs.onw hf)).mono fun _ _ h => RetB.w h)
  have VB := Lib.hid (fun w' (hf : Fuw w w') => (rokV_any y bo cb w' hi' (hs'.onw hf)).mono fun _ _ h => RetB.w h)
  rw [hp] at VA
  rw [hq] at VB
  clear hi hi' hs hs' hp hq
  unfold vlv at *
  go_enter Tryz.func47, Tryz.ntmps47
  go_wp2_with fail
  have c0 := p0.c0; have c1 := p0.c1; have c2 := p0.c2; have c3 := p0.c3; have c4 := p0.c4
  have d0 := p1.c0; have d1 := p1.c1; have d2 := p1.c2; have d3 := p1.c3; have d4 := p1.c4
  go_region_held3 (fun w' => Fuw ((w.alloc (.cells #[.int .i64 x.kd, .int .i64 x.nn, .int .i64 x.dd, .string (bs x.ss), .slice ao x.ll.length ca] 55)).alloc (.cells #[.int .i64 y.kd, .int .i64 y.nn, .int .i64 y.dd, .string (bs y.ss), .slice bo y.ll.length cb] 55)) w' ∧ w'.cell? ⟨w.heap.size, 0, none⟩ = some (.int .i64 x.kd) ∧ w'.cell? ⟨w.heap.size, 1, none⟩ = some (.int .i64 x.nn) ∧ w'.cell? ⟨w.heap.size, 2, none⟩ = some (.int .i64 x.dd) ∧ w'.cell? ⟨w.heap.size, 3, none⟩ = some (.string (bs x.ss)) ∧ w'.cell? ⟨w.heap.size, 4, none⟩ = some (.slice ao x.ll.length ca) ∧ w'.cell? ⟨w.heap.size + 1, 0, none⟩ = some (.int .i64 y.kd) ∧ w'.cell? ⟨w.heap.size + 1, 1, none⟩ = some (.int .i64 y.nn) ∧ w'.cell? ⟨w.heap.size + 1, 2, none⟩ = some (.int .i64 y.dd) ∧ w'.cell? ⟨w.heap.size + 1, 3, none⟩ = some (.string (bs y.ss)) ∧ w'.cell? ⟨w.heap.size + 1, 4, none⟩ = some (.slice bo y.ll.length cb))
    (first
      | (refine ⟨Fuw.drew (Fuw.refl _), ?_, ?_, ?_, ?_, ?_, ?_, ?_, ?_, ?_, ?_⟩ <;> simp [*]; done)
      | go_keep
      | (refine ⟨Fuw.trans ?_ (by assumption), cellOnw (by assumption) ?_, cellOnw (by assumption) ?_, cellOnw (by assumption) ?_, cellOnw (by assumption) ?_, cellOnw (by assumption) ?_, cellOnw (by assumption) ?_, cellOnw (by assumption) ?_, cellOnw (by assumption) ?_, cellOnw (by assumption) ?_, cellOnw (by assumption) ?_⟩ <;> simp [*]))
    (first
      | (go_at_call 69; first
          | (refine (VA.out _ (f0.trans (Fuw.drew (Fuw.refl _)))).mono ?_; rintro e1 w1 ⟨rfl, f1⟩)
          | (refine (VB.out _ (f0.trans (Fuw.drew (Fuw.refl _)))).mono ?_; rintro e1 w1 ⟨rfl, f1⟩)
          | (refine (VA.out _ (f0.trans ((Fuw.drew (Fuw.refl _)).trans (by assumption)))).mono ?_; rintro e1 w2 ⟨rfl, f2⟩)
          | (refine (VB.out _ (f0.trans ((Fuw.drew (Fuw.refl _)).trans (by assumption)))).mono ?_; rintro e1 w2 ⟨rfl, f2⟩)))
  have hS : Fuw ((w.alloc (.cells #[.int .i64 x.kd, .int .i64 x.nn, .int .i64 x.dd, .string (bs x.ss), .slice ao x.ll.length ca] 55)).alloc (.cells #[.int .i64 y.kd, .int .i64 y.nn, .int .i64 y.dd, .string (bs y.ss), .slice bo y.ll.length cb] 55)) w2 ∧ w2.cell? ⟨w.heap.size, 0, none⟩ = some (.int .i64 x.kd) ∧ w2.cell? ⟨w.heap.size, 1, none⟩ = some (.int .i64 x.nn) ∧ w2.cell? ⟨w.heap.size, 2, none⟩ = some (.int .i64 x.dd) ∧ w2.cell? ⟨w.heap.size, 3, none⟩ = some (.string (bs x.ss)) ∧ w2.cell? ⟨w.heap.size, 4, none⟩ = some (.slice ao x.ll.length ca) ∧ w2.cell? ⟨w.heap.size + 1, 0, none⟩ = some (.int .i64 y.kd) ∧ w2.cell? ⟨w.heap.size + 1, 1, none⟩ = some (.int .i64 y.nn) ∧ w2.cell? ⟨w.heap.size + 1, 2, none⟩ = some (.int .i64 y.dd) ∧ w2.cell? ⟨w.heap.size + 1, 3, none⟩ = some (.string (bs y.ss)) ∧ w2.cell? ⟨w.heap.size + 1, 4, none⟩ = some (.slice bo y.ll.length cb) := by assumption
  have ff := f0.trans hS.1
  have Y := Lib.hid (fun w => ryes_any false w)
  go_wp2_with fail
  go_at_call 70; refine (Y.out _).mono ?_; rintro e1 w3 ⟨rfl, rfl⟩
  go_wp2
  go_ret
  exact ⟨rfl, ff⟩
set_option maxHeartbeats 6400000 in
set_option maxRecDepth 100000 in
theorem rorder_ff (x y : Vl) (ao bo : Option Addr) (ca cb : Nat) (w : World) (hi : Vin x) (hi' : Vin y) (hs : SlV w ao x.ll ca) (hs' : SlV w bo y.ll cb) (hp : okX x = false) (hq : okX y = false) (hO : ∀ z, z ∈ x.ll → OP z) :
    Calls Tryz.prog 47 #[vlv x ao ca, vlv y bo cb] w (RwI w (fldV x y)) := by
  obtain ⟨p0, p1, f0⟩ := bx2w w x y ao bo ca cb
  have hne : ¬ (w.heap.size = w.heap.size + 1) := by omega
  have hne2 : ¬ (w.heap.size + 1 = w.heap.size) := by omega
  have VA := Lib.hid (fun w' (hf : Fuw w w') => (rokV_any x ao ca w' hi (hs.onw hf)).mono fun _ _ h => RetB.w h)
  have VB := Lib.hid (fun w' (hf : Fuw w w') => (rokV_any y bo cb w' hi' (hs'.onw hf)).mono fun _ _ h => RetB.w h)
  have VF := Lib.hid (fun w' (hf : Fuw w w') => rfields_any x y hO ao bo ca cb w' (hs.onw hf) (hs'.onw hf))
  rw [hp] at VA
  rw [hq] at VB
  clear hi hi' hs hs' hp hq hO
  generalize fldV x y = R at *
  unfold vlv at *
  go_enter Tryz.func47, Tryz.ntmps47
  go_wp2_with fail
  have c0 := p0.c0; have c1 := p0.c1; have c2 := p0.c2; have c3 := p0.c3; have c4 := p0.c4
  have d0 := p1.c0; have d1 := p1.c1; have d2 := p1.c2; have d3 := p1.c3; have d4 := p1.c4
  go_region_held3 (fun w' => Fuw ((w.alloc (.cells #[.int .i64 x.kd, .int .i64 x.nn, .int .i64 x.dd, .string (bs x.ss), .slice ao x.ll.length ca] 55)).alloc (.cells #[.int .i64 y.kd, .int .i64 y.nn, .int .i64 y.dd, .string (bs y.ss), .slice bo y.ll.length cb] 55)) w' ∧ w'.cell? ⟨w.heap.size, 0, none⟩ = some (.int .i64 x.kd) ∧ w'.cell? ⟨w.heap.size, 1, none⟩ = some (.int .i64 x.nn) ∧ w'.cell? ⟨w.heap.size, 2, none⟩ = some (.int .i64 x.dd) ∧ w'.cell? ⟨w.heap.size, 3, none⟩ = some (.string (bs x.ss)) ∧ w'.cell? ⟨w.heap.size, 4, none⟩ = some (.slice ao x.ll.length ca) ∧ w'.cell? ⟨w.heap.size + 1, 0, none⟩ = some (.int .i64 y.kd) ∧ w'.cell? ⟨w.heap.size + 1, 1, none⟩ = some (.int .i64 y.nn) ∧ w'.cell? ⟨w.heap.size + 1, 2, none⟩ = some (.int .i64 y.dd) ∧ w'.cell? ⟨w.heap.size + 1, 3, none⟩ = some (.string (bs y.ss)) ∧ w'.cell? ⟨w.heap.size + 1, 4, none⟩ = some (.slice bo y.ll.length cb))
    (first
      | (refine ⟨Fuw.drew (Fuw.refl _), ?_, ?_, ?_, ?_, ?_, ?_, ?_, ?_, ?_, ?_⟩ <;> simp [*]; done)
      | go_keep
      | (refine ⟨Fuw.trans ?_ (by assumption), cellOnw (by assumption) ?_, cellOnw (by assumption) ?_, cellOnw (by assumption) ?_, cellOnw (by assumption) ?_, cellOnw (by assumption) ?_, cellOnw (by assumption) ?_, cellOnw (by assumption) ?_, cellOnw (by assumption) ?_, cellOnw (by assumption) ?_, cellOnw (by assumption) ?_⟩ <;> simp [*]))
    (first
      | (go_at_call 69; first
          | (refine (VA.out _ (f0.trans (Fuw.drew (Fuw.refl _)))).mono ?_; rintro e1 w1 ⟨rfl, f1⟩)
          | (refine (VB.out _ (f0.trans (Fuw.drew (Fuw.refl _)))).mono ?_; rintro e1 w1 ⟨rfl, f1⟩)
          | (refine (VA.out _ (f0.trans ((Fuw.drew (Fuw.refl _)).trans (by assumption)))).mono ?_; rintro e1 w2 ⟨rfl, f2⟩)
          | (refine (VB.out _ (f0.trans ((Fuw.drew (Fuw.refl _)).trans (by assumption)))).mono ?_; rintro e1 w2 ⟨rfl, f2⟩)))
  have hS : Fuw ((w.alloc (.cells #[.int .i64 x.kd, .int .i64 x.nn, .int .i64 x.dd, .string (bs x.ss), .slice ao x.ll.length ca] 55)).alloc (.cells #[.int .i64 y.kd, .int .i64 y.nn, .int .i64 y.dd, .string (bs y.ss), .slice bo y.ll.length cb] 55)) w2 ∧ w2.cell? ⟨w.heap.size, 0, none⟩ = some (.int .i64 x.kd) ∧ w2.cell? ⟨w.heap.size, 1, none⟩ = some (.int .i64 x.nn) ∧ w2.cell? ⟨w.heap.size, 2, none⟩ = some (.int .i64 x.dd) ∧ w2.cell? ⟨w.heap.size, 3, none⟩ = some (.string (bs x.ss)) ∧ w2.cell? ⟨w.heap.size, 4, none⟩ = some (.slice ao x.ll.length ca) ∧ w2.cell? ⟨w.heap.size + 1, 0, none⟩ = some (.int .i64 y.kd) ∧ w2.cell? ⟨w.heap.size + 1, 1, none⟩ = some (.int .i64 y.nn) ∧ w2.cell? ⟨w.heap.size + 1, 2, none⟩ = some (.int .i64 y.dd) ∧ w2.cell? ⟨w.heap.size + 1, 3, none⟩ = some (.string (bs y.ss)) ∧ w2.cell? ⟨w.heap.size + 1, 4, none⟩ = some (.slice bo y.ll.length cb) := by assumption
  have ff := f0.trans hS.1
  obtain ⟨-, k0, k1, k2, k3, k4, l0, l1, l2, l3, l4⟩ := hS
  go_wp2_with fail
  go_at_call 71; refine (VF.out _ ff).mono ?_; rintro e1 w3 ⟨rfl, f3⟩
  go_wp2
  go_ret
  exact ⟨rfl, ff.trans f3⟩
end Go.Proofs.YtkcmakfmeioakaaGreat
