/-
  M19; M23: texts of one kind in one file; each part says what it holds.
-/
import Derived.Test.YtpamdlkagmlahaaGreatDoorM18
import Derived.Test.YtpamdlkagmlahaaGreatDoorCmC
import Derived.Test.YtpamdlkagmlahaaGreatDoorK08

namespace Go.Proofs.YtpamdlkagmlahaaGreatDoor
open Go.RowKit
theorem bx2w (w : World) (x y : Vl) (ao bo : Option Addr) (ca cb : Nat) :
  Bx ((w.alloc (.cells #[.int .i64 x.kd, .int .i64 x.nn, .int .i64 x.dd, .string (bs x.ss), .slice ao x.ll.length ca] 28)).alloc (.cells #[.int .i64 y.kd, .int .i64 y.nn, .int .i64 y.dd, .string (bs y.ss), .slice bo y.ll.length cb] 28)) w.heap.size x ao ca ∧
  Bx ((w.alloc (.cells #[.int .i64 x.kd, .int .i64 x.nn, .int .i64 x.dd, .string (bs x.ss), .slice ao x.ll.length ca] 28)).alloc (.cells #[.int .i64 y.kd, .int .i64 y.nn, .int .i64 y.dd, .string (bs y.ss), .slice bo y.ll.length cb] 28)) (w.heap.size + 1) y bo cb ∧
  Fuw w ((w.alloc (.cells #[.int .i64 x.kd, .int .i64 x.nn, .int .i64 x.dd, .string (bs x.ss), .slice ao x.ll.length ca] 28)).alloc (.cells #[.int .i64 y.kd, .int .i64 y.nn, .int .i64 y.dd, .string (bs y.ss), .slice bo y.ll.length cb] 28)) := by
 obtain ⟨p0, f0⟩ := bx1w w x ao ca
 have s0 : (w.alloc (.cells #[.int .i64 x.kd, .int .i64 x.nn, .int .i64 x.dd, .string (bs x.ss), .slice ao x.ll.length ca] 28)).heap.size = w.heap.size + 1 := by simp
 generalize w.alloc (.cells #[.int .i64 x.kd, .int .i64 x.nn, .int .i64 x.dd, .string (bs x.ss), .slice ao x.ll.length ca] 28) = w1 at *
 obtain ⟨p1, f1⟩ := bx1w w1 y bo cb
 rw [s0] at p1
 exact ⟨p0.onw f1, p1, f0.trans f1⟩
set_option maxHeartbeats 6400000 in
set_option maxRecDepth 100000 in
theorem rfields_any (x y : Vl) (hO : ∀ z, z ∈ x.ll → OP z) (ao bo : Option Addr) (ca cb : Nat) (w : World) (hs : SlV w ao x.ll ca) (hs' : SlV w bo y.ll cb) :
  Calls Tryz.prog 100 #[vlv x ao ca, vlv y bo cb] w (RwI w (fldV x y)) := by
 obtain ⟨p0, p1, f0⟩ := bx2w w x y ao bo ca cb
 have hne : ¬ (w.heap.size = w.heap.size + 1) := by omega
 have hne2 : ¬ (w.heap.size + 1 = w.heap.size) := by omega
 have C0 := Lib.hid (fun w => rints_any x.kd y.kd w)
 have C1 := Lib.hid (fun w => rints_any x.nn y.nn w)
 have C2 := Lib.hid (fun w => rints_any x.dd y.dd w)
 have C3 := Lib.hid (fun w => rstrs_any (bs x.ss) (bs y.ss) w)
 rw [show (bs x.ss).data.toList = x.ss from rfl, show (bs y.ss).data.toList = y.ss from rfl] at C3
 have C4 := Lib.hid (fun w' (hf : Fuw w w') => rlists_any x.ll y.ll hO ao bo ca cb w' (hs.onw hf) (hs'.onw hf))
 have HE := Lib.hid (show fldV x y = thn (intc x.kd y.kd) (thn (intc x.nn y.nn) (thn (intc x.dd y.dd) (thn (strc x.ss y.ss) (ordL x.ll y.ll)))) from rfl)
 clear hs hs' hO
 generalize fldV x y = R at *
 generalize intc x.kd y.kd = r0 at *
 generalize intc x.nn y.nn = r1 at *
 generalize intc x.dd y.dd = r2 at *
 generalize strc x.ss y.ss = r3 at *
 generalize ordL x.ll y.ll = r4 at *
 unfold vlv
 by_cases h0 : r0 = 0
 rotate_left
 ·have g0 : (r0 != 0) = true := by rw [bne_iff_ne]; exact h0
  have HF := Lib.hid (show R = r0 by rw [HE.out, thn_n h0])
  clear h0
  go_enter Tryz.func100, Tryz.ntmps100
  go_wp2_with fail
  go_at_call 101; refine (C0.out _).mono ?_; rintro e1 w1 ⟨rfl, rfl⟩
  go_wp2
  go_ret
  exact ⟨ret_int HF.out.symm, f0⟩
 subst h0
 rw [thn_0] at HE
 by_cases h1 : r1 = 0
 rotate_left
 ·have g1 : (r1 != 0) = true := by rw [bne_iff_ne]; exact h1
  have HF := Lib.hid (show R = r1 by rw [HE.out, thn_n h1])
  clear h1
  go_enter Tryz.func100, Tryz.ntmps100
  go_wp2_with fail
  go_at_call 101; refine (C0.out _).mono ?_; rintro e1 w1 ⟨rfl, rfl⟩
  go_wp2_with fail
  go_at_call 101; refine (C1.out _).mono ?_; rintro e1 w1 ⟨rfl, rfl⟩
  go_wp2
  go_ret
  exact ⟨ret_int HF.out.symm, f0⟩
 subst h1
 rw [thn_0] at HE
 by_cases h2 : r2 = 0
 rotate_left
 ·have g2 : (r2 != 0) = true := by rw [bne_iff_ne]; exact h2
  have HF := Lib.hid (show R = r2 by rw [HE.out, thn_n h2])
  clear h2
  go_enter Tryz.func100, Tryz.ntmps100
  go_wp2_with fail
  go_at_call 101; refine (C0.out _).mono ?_; rintro e1 w1 ⟨rfl, rfl⟩
  go_wp2_with fail
  go_at_call 101; refine (C1.out _).mono ?_; rintro e1 w1 ⟨rfl, rfl⟩
  go_wp2_with fail
  go_at_call 101; refine (C2.out _).mono ?_; rintro e1 w1 ⟨rfl, rfl⟩
  go_wp2
  go_ret
  exact ⟨ret_int HF.out.symm, f0⟩
 subst h2
 rw [thn_0] at HE
 by_cases h3 : r3 = 0
 rotate_left
 ·have g3 : (r3 != 0) = true := by rw [bne_iff_ne]; exact h3
  have HF := Lib.hid (show R = r3 by rw [HE.out, thn_n h3])
  clear h3
  go_enter Tryz.func100, Tryz.ntmps100
  go_wp2_with fail
  go_at_call 101; refine (C0.out _).mono ?_; rintro e1 w1 ⟨rfl, rfl⟩
  go_wp2_with fail
  go_at_call 101; refine (C1.out _).mono ?_; rintro e1 w1 ⟨rfl, rfl⟩
  go_wp2_with fail
  go_at_call 101; refine (C2.out _).mono ?_; rintro e1 w1 ⟨rfl, rfl⟩
  go_wp2_with fail
  go_at_call 143; refine (C3.out _).mono ?_; rintro e1 w1 ⟨rfl, rfl⟩
  go_wp2
  go_ret
  exact ⟨ret_int HF.out.symm, f0⟩
 subst h3
 rw [thn_0] at HE
 go_enter Tryz.func100, Tryz.ntmps100
 go_wp2_with fail
 go_at_call 101; refine (C0.out _).mono ?_; rintro e1 w1 ⟨rfl, rfl⟩
 go_wp2_with fail
 go_at_call 101; refine (C1.out _).mono ?_; rintro e1 w1 ⟨rfl, rfl⟩
 go_wp2_with fail
 go_at_call 101; refine (C2.out _).mono ?_; rintro e1 w1 ⟨rfl, rfl⟩
 go_wp2_with fail
 go_at_call 143; refine (C3.out _).mono ?_; rintro e1 w1 ⟨rfl, rfl⟩
 go_wp2_with fail
 go_at_call 144; refine (C4.out _ f0).mono ?_; rintro e1 w1 ⟨rfl, f1⟩
 go_wp2
 go_ret
 exact ⟨ret_int HE.out.symm, f0.trans f1⟩
end Go.Proofs.YtpamdlkagmlahaaGreatDoor
namespace Go.Proofs.YtpamdlkagmlahaaGreatDoor
open Go.RowKit
set_option maxHeartbeats 6400000 in
set_option maxRecDepth 100000 in
theorem rorder_tf (x y : Vl) (ao bo : Option Addr) (ca cb : Nat) (w : World) (hi : Vin x) (hi' : Vin y) (hs : SlV w ao x.ll ca) (hs' : SlV w bo y.ll cb) (hp : okX x = true) (hq : okX y = false) :
  Calls Tryz.prog 62 #[vlv x ao ca, vlv y bo cb] w (RwI w (-1)) := by
 obtain ⟨p0, p1, f0⟩ := bx2w w x y ao bo ca cb
 have hne : ¬ (w.heap.size = w.heap.size + 1) := by omega
 have hne2 : ¬ (w.heap.size + 1 = w.heap.size) := by omega
 have VA := Lib.hid (fun w' (hf : Fuw w w') => (rokV_any x ao ca w' hi (hs.onw hf)).mono fun _ _ h => RetB.w h)
 have VB := Lib.hid (fun w' (hf : Fuw w w') => (rokV_any y bo cb w' hi' (hs'.onw hf)).mono fun _ _ h => RetB.w h)
 rw [hp] at VA
 rw [hq] at VB
 clear hi hi' hs hs' hp hq
 unfold vlv at *
 go_enter Tryz.func62, Tryz.ntmps62
 go_wp2_with fail
 have c0 := p0.c0; have c1 := p0.c1; have c2 := p0.c2; have c3 := p0.c3; have c4 := p0.c4
 have d0 := p1.c0; have d1 := p1.c1; have d2 := p1.c2; have d3 := p1.c3; have d4 := p1.c4
 go_region_held3 (fun w' => Fuw ((w.alloc (.cells #[.int .i64 x.kd, .int .i64 x.nn, .int .i64 x.dd, .string (bs x.ss), .slice ao x.ll.length ca] 28)).alloc (.cells #[.int .i64 y.kd, .int .i64 y.nn, .int .i64 y.dd, .string (bs y.ss), .slice bo y.ll.length cb] 28)) w' ∧ w'.cell? ⟨w.heap.size, 0, none⟩ = some (.int .i64 x.kd) ∧ w'.cell? ⟨w.heap.size, 1, none⟩ = some (.int .i64 x.nn) ∧ w'.cell? ⟨w.heap.size, 2, none⟩ = some (.int .i64 x.dd) ∧ w'.cell? ⟨w.heap.size, 3, none⟩ = some (.string (bs x.ss)) ∧ w'.cell? ⟨w.heap.size, 4, none⟩ = some (.slice ao x.ll.length ca) ∧ w'.cell? ⟨w.heap.size + 1, 0, none⟩ = some (.int .i64 y.kd) ∧ w'.cell? ⟨w.heap.size + 1, 1, none⟩ = some (.int .i64 y.nn) ∧ w'.cell? ⟨w.heap.size + 1, 2, none⟩ = some (.int .i64 y.dd) ∧ w'.cell? ⟨w.heap.size + 1, 3, none⟩ = some (.string (bs y.ss)) ∧ w'.cell? ⟨w.heap.size + 1, 4, none⟩ = some (.slice bo y.ll.length cb))
  (first
   | (refine ⟨Fuw.drew (Fuw.refl _), ?_, ?_, ?_, ?_, ?_, ?_, ?_, ?_, ?_, ?_⟩ <;> simp [*]; done)
   | go_keep
   | (refine ⟨Fuw.trans ?_ (by assumption), cellOnw (by assumption) ?_, cellOnw (by assumption) ?_, cellOnw (by assumption) ?_, cellOnw (by assumption) ?_, cellOnw (by assumption) ?_, cellOnw (by assumption) ?_, cellOnw (by assumption) ?_, cellOnw (by assumption) ?_, cellOnw (by assumption) ?_, cellOnw (by assumption) ?_⟩ <;> simp [*]))
  (first
   | (go_at_call 64; first
     | (refine (VA.out _ (f0.trans (Fuw.drew (Fuw.refl _)))).mono ?_; rintro e1 w1 ⟨rfl, f1⟩)
     | (refine (VB.out _ (f0.trans (Fuw.drew (Fuw.refl _)))).mono ?_; rintro e1 w1 ⟨rfl, f1⟩)
     | (refine (VA.out _ (f0.trans ((Fuw.drew (Fuw.refl _)).trans (by assumption)))).mono ?_; rintro e1 w2 ⟨rfl, f2⟩)
     | (refine (VB.out _ (f0.trans ((Fuw.drew (Fuw.refl _)).trans (by assumption)))).mono ?_; rintro e1 w2 ⟨rfl, f2⟩)))
 have hS : Fuw ((w.alloc (.cells #[.int .i64 x.kd, .int .i64 x.nn, .int .i64 x.dd, .string (bs x.ss), .slice ao x.ll.length ca] 28)).alloc (.cells #[.int .i64 y.kd, .int .i64 y.nn, .int .i64 y.dd, .string (bs y.ss), .slice bo y.ll.length cb] 28)) w2 ∧ w2.cell? ⟨w.heap.size, 0, none⟩ = some (.int .i64 x.kd) ∧ w2.cell? ⟨w.heap.size, 1, none⟩ = some (.int .i64 x.nn) ∧ w2.cell? ⟨w.heap.size, 2, none⟩ = some (.int .i64 x.dd) ∧ w2.cell? ⟨w.heap.size, 3, none⟩ = some (.string (bs x.ss)) ∧ w2.cell? ⟨w.heap.size, 4, none⟩ = some (.slice ao x.ll.length ca) ∧ w2.cell? ⟨w.heap.size + 1, 0, none⟩ = some (.int .i64 y.kd) ∧ w2.cell? ⟨w.heap.size + 1, 1, none⟩ = some (.int .i64 y.nn) ∧ w2.cell? ⟨w.heap.size + 1, 2, none⟩ = some (.int .i64 y.dd) ∧ w2.cell? ⟨w.heap.size + 1, 3, none⟩ = some (.string (bs y.ss)) ∧ w2.cell? ⟨w.heap.size + 1, 4, none⟩ = some (.slice bo y.ll.length cb) := by assumption
 have ff := f0.trans hS.1
 have Y := Lib.hid (fun w => ryes_any true w)
 go_wp2_with fail
 go_at_call 99; refine (Y.out _).mono ?_; rintro e1 w3 ⟨rfl, rfl⟩
 go_wp2
 go_ret
 exact ⟨rfl, ff⟩
set_option maxHeartbeats 6400000 in
set_option maxRecDepth 100000 in
theorem rorder_ft (x y : Vl) (ao bo : Option Addr) (ca cb : Nat) (w : World) (hi : Vin x) (hi' : Vin y) (hs : SlV w ao x.ll ca) (hs' : SlV w bo y.ll cb) (hp : okX x = false) (hq : okX y = true) :
  Calls Tryz.prog 62 #[vlv x ao ca, vlv y bo cb] w (RwI w (1)) := by
 obtain ⟨p0, p1, f0⟩ := bx2w w x y ao bo ca cb
 have hne : ¬ (w.heap.size = w.heap.size + 1) := by omega
 have hne2 : ¬ (w.heap.size + 1 = w.heap.size) := by omega
 have VA := Lib.hid (fun w' (hf : Fuw w w') => (rokV_any x ao ca w' hi (hs.onw hf)).mono fun _ _ h => RetB.w h)
 have VB := Lib.hid (fun w' (hf : Fuw w w') => (rokV_any y bo cb w' hi' (hs'.onw hf)).mono fun _ _ h => RetB.w h)
 rw [hp] at VA
 rw [hq] at VB
 clear hi hi' hs hs' hp hq
 unfold vlv at *
 go_enter Tryz.func62, Tryz.ntmps62
 go_wp2_with fail
 have c0 := p0.c0; have c1 := p0.c1; have c2 := p0.c2; have c3 := p0.c3; have c4 := p0.c4
 have d0 := p1.c0; have d1 := p1.c1; have d2 := p1.c2; have d3 := p1.c3; have d4 := p1.c4
 go_region_held3 (fun w' => Fuw ((w.alloc (.cells #[.int .i64 x.kd, .int .i64 x.nn, .int .i64 x.dd, .string (bs x.ss), .slice ao x.ll.length ca] 28)).alloc (.cells #[.int .i64 y.kd, .int .i64 y.nn, .int .i64 y.dd, .string (bs y.ss), .slice bo y.ll.length cb] 28)) w' ∧ w'.cell? ⟨w.heap.size, 0, none⟩ = some (.int .i64 x.kd) ∧ w'.cell? ⟨w.heap.size, 1, none⟩ = some (.int .i64 x.nn) ∧ w'.cell? ⟨w.heap.size, 2, none⟩ = some (.int .i64 x.dd) ∧ w'.cell? ⟨w.heap.size, 3, none⟩ = some (.string (bs x.ss)) ∧ w'.cell? ⟨w.heap.size, 4, none⟩ = some (.slice ao x.ll.length ca) ∧ w'.cell? ⟨w.heap.size + 1, 0, none⟩ = some (.int .i64 y.kd) ∧ w'.cell? ⟨w.heap.size + 1, 1, none⟩ = some (.int .i64 y.nn) ∧ w'.cell? ⟨w.heap.size + 1, 2, none⟩ = some (.int .i64 y.dd) ∧ w'.cell? ⟨w.heap.size + 1, 3, none⟩ = some (.string (bs y.ss)) ∧ w'.cell? ⟨w.heap.size + 1, 4, none⟩ = some (.slice bo y.ll.length cb))
  (first
   | (refine ⟨Fuw.drew (Fuw.refl _), ?_, ?_, ?_, ?_, ?_, ?_, ?_, ?_, ?_, ?_⟩ <;> simp [*]; done)
   | go_keep
   | (refine ⟨Fuw.trans ?_ (by assumption), cellOnw (by assumption) ?_, cellOnw (by assumption) ?_, cellOnw (by assumption) ?_, cellOnw (by assumption) ?_, cellOnw (by assumption) ?_, cellOnw (by assumption) ?_, cellOnw (by assumption) ?_, cellOnw (by assumption) ?_, cellOnw (by assumption) ?_, cellOnw (by assumption) ?_⟩ <;> simp [*]))
  (first
   | (go_at_call 64; first
     | (refine (VA.out _ (f0.trans (Fuw.drew (Fuw.refl _)))).mono ?_; rintro e1 w1 ⟨rfl, f1⟩)
     | (refine (VB.out _ (f0.trans (Fuw.drew (Fuw.refl _)))).mono ?_; rintro e1 w1 ⟨rfl, f1⟩)
     | (refine (VA.out _ (f0.trans ((Fuw.drew (Fuw.refl _)).trans (by assumption)))).mono ?_; rintro e1 w2 ⟨rfl, f2⟩)
     | (refine (VB.out _ (f0.trans ((Fuw.drew (Fuw.refl _)).trans (by assumption)))).mono ?_; rintro e1 w2 ⟨rfl, f2⟩)))
 have hS : Fuw ((w.alloc (.cells #[.int .i64 x.kd, .int .i64 x.nn, .int .i64 x.dd, .string (bs x.ss), .slice ao x.ll.length ca] 28)).alloc (.cells #[.int .i64 y.kd, .int .i64 y.nn, .int .i64 y.dd, .string (bs y.ss), .slice bo y.ll.length cb] 28)) w2 ∧ w2.cell? ⟨w.heap.size, 0, none⟩ = some (.int .i64 x.kd) ∧ w2.cell? ⟨w.heap.size, 1, none⟩ = some (.int .i64 x.nn) ∧ w2.cell? ⟨w.heap.size, 2, none⟩ = some (.int .i64 x.dd) ∧ w2.cell? ⟨w.heap.size, 3, none⟩ = some (.string (bs x.ss)) ∧ w2.cell? ⟨w.heap.size, 4, none⟩ = some (.slice ao x.ll.length ca) ∧ w2.cell? ⟨w.heap.size + 1, 0, none⟩ = some (.int .i64 y.kd) ∧ w2.cell? ⟨w.heap.size + 1, 1, none⟩ = some (.int .i64 y.nn) ∧ w2.cell? ⟨w.heap.size + 1, 2, none⟩ = some (.int .i64 y.dd) ∧ w2.cell? ⟨w.heap.size + 1, 3, none⟩ = some (.string (bs y.ss)) ∧ w2.cell? ⟨w.heap.size + 1, 4, none⟩ = some (.slice bo y.ll.length cb) := by assumption
 have ff := f0.trans hS.1
 have Y := Lib.hid (fun w => ryes_any false w)
 go_wp2_with fail
 go_at_call 99; refine (Y.out _).mono ?_; rintro e1 w3 ⟨rfl, rfl⟩
 go_wp2
 go_ret
 exact ⟨rfl, ff⟩
set_option maxHeartbeats 6400000 in
set_option maxRecDepth 100000 in
theorem rorder_ff (x y : Vl) (ao bo : Option Addr) (ca cb : Nat) (w : World) (hi : Vin x) (hi' : Vin y) (hs : SlV w ao x.ll ca) (hs' : SlV w bo y.ll cb) (hp : okX x = false) (hq : okX y = false) (hO : ∀ z, z ∈ x.ll → OP z) :
  Calls Tryz.prog 62 #[vlv x ao ca, vlv y bo cb] w (RwI w (fldV x y)) := by
 obtain ⟨p0, p1, f0⟩ := bx2w w x y ao bo ca cb
 have hne : ¬ (w.heap.size = w.heap.size + 1) := by omega
 have hne2 : ¬ (w.heap.size + 1 = w.heap.size) := by omega
 have VA := Lib.hid (fun w' (hf : Fuw w w') => (rokV_any x ao ca w' hi (hs.onw hf)).mono fun _ _ h => RetB.w h)
 have VB := Lib.hid (fun w' (hf : Fuw w w') => (rokV_any y bo cb w' hi' (hs'.onw hf)).mono fun _ _ h => RetB.w h)
 have VF := Lib.hid (fun w' (hf : Fuw w w') => rfields_any x y hO ao bo ca cb w' (hs.onw hf) (hs'.onw hf))
 rw [hp] at VA
 rw [hq] at VB
 clear hi hi' hs hs' hp hq hO
 generalize fldV x y = R at *
 unfold vlv at *
 go_enter Tryz.func62, Tryz.ntmps62
 go_wp2_with fail
 have c0 := p0.c0; have c1 := p0.c1; have c2 := p0.c2; have c3 := p0.c3; have c4 := p0.c4
 have d0 := p1.c0; have d1 := p1.c1; have d2 := p1.c2; have d3 := p1.c3; have d4 := p1.c4
 go_region_held3 (fun w' => Fuw ((w.alloc (.cells #[.int .i64 x.kd, .int .i64 x.nn, .int .i64 x.dd, .string (bs x.ss), .slice ao x.ll.length ca] 28)).alloc (.cells #[.int .i64 y.kd, .int .i64 y.nn, .int .i64 y.dd, .string (bs y.ss), .slice bo y.ll.length cb] 28)) w' ∧ w'.cell? ⟨w.heap.size, 0, none⟩ = some (.int .i64 x.kd) ∧ w'.cell? ⟨w.heap.size, 1, none⟩ = some (.int .i64 x.nn) ∧ w'.cell? ⟨w.heap.size, 2, none⟩ = some (.int .i64 x.dd) ∧ w'.cell? ⟨w.heap.size, 3, none⟩ = some (.string (bs x.ss)) ∧ w'.cell? ⟨w.heap.size, 4, none⟩ = some (.slice ao x.ll.length ca) ∧ w'.cell? ⟨w.heap.size + 1, 0, none⟩ = some (.int .i64 y.kd) ∧ w'.cell? ⟨w.heap.size + 1, 1, none⟩ = some (.int .i64 y.nn) ∧ w'.cell? ⟨w.heap.size + 1, 2, none⟩ = some (.int .i64 y.dd) ∧ w'.cell? ⟨w.heap.size + 1, 3, none⟩ = some (.string (bs y.ss)) ∧ w'.cell? ⟨w.heap.size + 1, 4, none⟩ = some (.slice bo y.ll.length cb))
  (first
   | (refine ⟨Fuw.drew (Fuw.refl _), ?_, ?_, ?_, ?_, ?_, ?_, ?_, ?_, ?_, ?_⟩ <;> simp [*]; done)
   | go_keep
   | (refine ⟨Fuw.trans ?_ (by assumption), cellOnw (by assumption) ?_, cellOnw (by assumption) ?_, cellOnw (by assumption) ?_, cellOnw (by assumption) ?_, cellOnw (by assumption) ?_, cellOnw (by assumption) ?_, cellOnw (by assumption) ?_, cellOnw (by assumption) ?_, cellOnw (by assumption) ?_, cellOnw (by assumption) ?_⟩ <;> simp [*]))
  (first
   | (go_at_call 64; first
     | (refine (VA.out _ (f0.trans (Fuw.drew (Fuw.refl _)))).mono ?_; rintro e1 w1 ⟨rfl, f1⟩)
     | (refine (VB.out _ (f0.trans (Fuw.drew (Fuw.refl _)))).mono ?_; rintro e1 w1 ⟨rfl, f1⟩)
     | (refine (VA.out _ (f0.trans ((Fuw.drew (Fuw.refl _)).trans (by assumption)))).mono ?_; rintro e1 w2 ⟨rfl, f2⟩)
     | (refine (VB.out _ (f0.trans ((Fuw.drew (Fuw.refl _)).trans (by assumption)))).mono ?_; rintro e1 w2 ⟨rfl, f2⟩)))
 have hS : Fuw ((w.alloc (.cells #[.int .i64 x.kd, .int .i64 x.nn, .int .i64 x.dd, .string (bs x.ss), .slice ao x.ll.length ca] 28)).alloc (.cells #[.int .i64 y.kd, .int .i64 y.nn, .int .i64 y.dd, .string (bs y.ss), .slice bo y.ll.length cb] 28)) w2 ∧ w2.cell? ⟨w.heap.size, 0, none⟩ = some (.int .i64 x.kd) ∧ w2.cell? ⟨w.heap.size, 1, none⟩ = some (.int .i64 x.nn) ∧ w2.cell? ⟨w.heap.size, 2, none⟩ = some (.int .i64 x.dd) ∧ w2.cell? ⟨w.heap.size, 3, none⟩ = some (.string (bs x.ss)) ∧ w2.cell? ⟨w.heap.size, 4, none⟩ = some (.slice ao x.ll.length ca) ∧ w2.cell? ⟨w.heap.size + 1, 0, none⟩ = some (.int .i64 y.kd) ∧ w2.cell? ⟨w.heap.size + 1, 1, none⟩ = some (.int .i64 y.nn) ∧ w2.cell? ⟨w.heap.size + 1, 2, none⟩ = some (.int .i64 y.dd) ∧ w2.cell? ⟨w.heap.size + 1, 3, none⟩ = some (.string (bs y.ss)) ∧ w2.cell? ⟨w.heap.size + 1, 4, none⟩ = some (.slice bo y.ll.length cb) := by assumption
 have ff := f0.trans hS.1
 obtain ⟨-, k0, k1, k2, k3, k4, l0, l1, l2, l3, l4⟩ := hS
 go_wp2_with fail
 go_at_call 100; refine (VF.out _ ff).mono ?_; rintro e1 w3 ⟨rfl, f3⟩
 go_wp2
 go_ret
 exact ⟨rfl, ff.trans f3⟩
end Go.Proofs.YtpamdlkagmlahaaGreatDoor

namespace Go.Proofs.YtpamdlkagmlahaaGreatDoor
open Go.RowKit
theorem bx_box (w : World) (x : Vl) (ao : Option Addr) (cap : Nat) :
  Bx ((w.alloc (.cells #[.int .i64 x.kd, .int .i64 x.nn, .int .i64 x.dd, .string (bs x.ss), .slice ao x.ll.length cap] 28)).alloc (.cells #[.int .i64 0, .int .i64 0] 122)) w.heap.size x ao cap ∧
  Box ((w.alloc (.cells #[.int .i64 x.kd, .int .i64 x.nn, .int .i64 x.dd, .string (bs x.ss), .slice ao x.ll.length cap] 28)).alloc (.cells #[.int .i64 0, .int .i64 0] 122)) (w.heap.size + 1) 0 0 ∧
  Fur w ((w.alloc (.cells #[.int .i64 x.kd, .int .i64 x.nn, .int .i64 x.dd, .string (bs x.ss), .slice ao x.ll.length cap] 28)).alloc (.cells #[.int .i64 0, .int .i64 0] 122)) := by
 obtain ⟨p0, f0⟩ := bx1 w x ao cap
 have s0 : (w.alloc (.cells #[.int .i64 x.kd, .int .i64 x.nn, .int .i64 x.dd, .string (bs x.ss), .slice ao x.ll.length cap] 28)).heap.size = w.heap.size + 1 := by simp
 generalize w.alloc (.cells #[.int .i64 x.kd, .int .i64 x.nn, .int .i64 x.dd, .string (bs x.ss), .slice ao x.ll.length cap] 28) = w1 at *
 have f1 : Fur w1 (w1.alloc (.cells #[.int .i64 0, .int .i64 0] 122)) := (Fur.refl w1).alloc _
 refine ⟨p0.on f1, ?_, f0.trans f1⟩
 show (w1.heap.push _)[w.heap.size + 1]? = _
 rw [← s0, Array.getElem?_push, if_pos rfl]
set_option maxHeartbeats 3200000 in
set_option maxRecDepth 100000 in
theorem rnum_v (x : Vl) (ao : Option Addr) (cap : Nat) (w : World) (hi : Vin x) (hs : SlV w ao x.ll cap) :
  Calls Tryz.prog 103 #[vlv x ao cap] w (RetFB w (nmN x) (nmD x) (isNum x)) := by
 obtain ⟨p0, p1, f0⟩ := bx_box w x ao cap
 have HV := Lib.hid (fun w' hf => rokV_any x ao cap w' hi (hs.on (w' := w') hf))
 clear hs hi
 have hne : ¬ (w.heap.size + 1 = w.heap.size) := by omega
 cases va : okX x
 ·have e : isNum x = false := by unfold isNum; rw [va]; rfl
  rw [show nmN x = 0 by unfold nmN; rw [e]; rfl, show nmD x = 0 by unfold nmD; rw [e]; rfl, e]
  rw [va] at HV
  clear va e
  unfold vlv at *
  go_enter Tryz.func103, Tryz.ntmps103
  go_wp2_with fail
  go_at_call 64; refine (HV.out _ f0).mono ?_; rintro e1 w1 ⟨rfl, f1⟩
  replace p1 := p1.on f1
  have z0 := p1.f0 0
  have z1 := p1.f0 1
  have d0 := p1.c0
  have d1 := p1.c1
  go_wp2
  try simp only [Exit.inBlock, Exit.then]
  exact fr_ret_put rfl rfl rfl p1 (f0.trans f1) (by omega)
 rw [va] at HV
 by_cases h2 : x.kd = 2
 ·have e : isNum x = true := by unfold isNum; rw [va, h2]; rfl
  rw [show nmN x = x.nn by unfold nmN; rw [e]; rfl, show nmD x = 1 by unfold nmD; rw [if_pos e, if_pos h2], e]
  have H2 := Lib.hid h2
  clear va e h2
  unfold vlv at *
  go_enter Tryz.func103, Tryz.ntmps103
  go_wp2_with fail
  go_at_call 64; refine (HV.out _ f0).mono ?_; rintro e1 w1 ⟨rfl, f1⟩
  replace p0 := p0.on f1
  replace p1 := p1.on f1
  have z0 := p1.f0 0
  have z1 := p1.f0 1
  have d0 := p1.c0
  have d1 := p1.c1
  have c0 := p0.c0
  have c1 := p0.c1
  rw [H2.out] at c0
  go_wp2
  try simp only [Exit.inBlock, Exit.then]
  exact fr_ret_put rfl rfl rfl p1 (f0.trans f1) (by omega)
 by_cases h3 : x.kd = 3
 ·have e : isNum x = true := by unfold isNum; rw [va, h3]; rfl
  rw [show nmN x = x.nn by unfold nmN; rw [e]; rfl, show nmD x = x.dd by unfold nmD; rw [if_pos e, if_neg h2], e]
  have H3 := Lib.hid h3
  clear va e h2 h3
  unfold vlv at *
  go_enter Tryz.func103, Tryz.ntmps103
  go_wp2_with fail
  go_at_call 64; refine (HV.out _ f0).mono ?_; rintro e1 w1 ⟨rfl, f1⟩
  replace p0 := p0.on f1
  replace p1 := p1.on f1
  have z0 := p1.f0 0
  have z1 := p1.f0 1
  have d0 := p1.c0
  have d1 := p1.c1
  have c0 := p0.c0
  have c1 := p0.c1
  have c2 := p0.c2
  rw [H3.out] at c0
  go_wp2
  try simp only [Exit.inBlock, Exit.then]
  exact fr_ret_put rfl rfl rfl p1 (f0.trans f1) (by omega)
 ·have e : isNum x = false := by unfold isNum; rw [va, beq_eq_false_iff_ne.2 h2, beq_eq_false_iff_ne.2 h3]; rfl
  rw [show nmN x = 0 by unfold nmN; rw [e]; rfl, show nmD x = 0 by unfold nmD; rw [e]; rfl, e]
  have G2 := Lib.hid (show (x.kd == 2) = false from beq_eq_false_iff_ne.2 h2)
  have G3 := Lib.hid (show (x.kd == 3) = false from beq_eq_false_iff_ne.2 h3)
  clear va e h2 h3
  unfold vlv at *
  go_enter Tryz.func103, Tryz.ntmps103
  go_wp2_with fail
  go_at_call 64; refine (HV.out _ f0).mono ?_; rintro e1 w1 ⟨rfl, f1⟩
  replace p0 := p0.on f1
  replace p1 := p1.on f1
  have z0 := p1.f0 0
  have z1 := p1.f0 1
  have d0 := p1.c0
  have d1 := p1.c1
  have c0 := p0.c0
  have g2 := G2.out
  have g3 := G3.out
  go_wp2
  try simp only [Exit.inBlock, Exit.then]
  exact fr_ret_put rfl rfl rfl p1 (f0.trans f1) (by omega)
end Go.Proofs.YtpamdlkagmlahaaGreatDoor
namespace Go.Proofs.YtpamdlkagmlahaaGreatDoor
open Go.RowKit
theorem keep10v {v v' : World} {p0 p1 p2 p3 p4 q0 q1 q2 q3 q4 : Addr} {x0 x1 x2 x3 x4 y0 y1 y2 y3 y4 : Value} (hf : Fur v v') (h0 : v.cell? p0 = some x0) (h1 : v.cell? p1 = some x1) (h2 : v.cell? p2 = some x2) (h3 : v.cell? p3 = some x3) (h4 : v.cell? p4 = some x4) (g0 : v.cell? q0 = some y0) (g1 : v.cell? q1 = some y1) (g2 : v.cell? q2 = some y2) (g3 : v.cell? q3 = some y3) (g4 : v.cell? q4 = some y4) :
  Fur v v' ∧ v'.cell? p0 = some x0 ∧ v'.cell? p1 = some x1 ∧ v'.cell? p2 = some x2 ∧ v'.cell? p3 = some x3 ∧ v'.cell? p4 = some x4 ∧ v'.cell? q0 = some y0 ∧ v'.cell? q1 = some y1 ∧ v'.cell? q2 = some y2 ∧ v'.cell? q3 = some y3 ∧ v'.cell? q4 = some y4 :=
 ⟨hf, cellOn hf h0, cellOn hf h1, cellOn hf h2, cellOn hf h3, cellOn hf h4, cellOn hf g0, cellOn hf g1, cellOn hf g2, cellOn hf g3, cellOn hf g4⟩
theorem ordV_cls {x y : Vl} (hx : okX x = true) (hy : okX y = true) (hc : classV x.kd ≠ classV y.kd) : ordV x y = intc (classV x.kd) (classV y.kd) := by
 rw [ordV_eq hx hy, if_pos hc]
theorem ordV_num {x y : Vl} (hx : okX x = true) (hy : okX y = true) (hc : classV x.kd = classV y.kd) (hn : isNum x = true) : ordV x y = cmpQ (fz (nmN x) (nmD x)) (fz (nmN y) (nmD y)) := by
 obtain ⟨k, n, d, s, l⟩ := x
 unfold ordV
 rw [hx, hy]
 refine (if_neg (by simp)).trans ((if_neg (fun t => t.2 hc)).trans (if_pos ⟨rfl, hn⟩))
theorem ordV_fld {x y : Vl} (hx : okX x = true) (hy : okX y = true) (hc : classV x.kd = classV y.kd) (hn : isNum x = false) : ordV x y = fldV x y := by
 obtain ⟨k, n, d, s, l⟩ := x
 unfold ordV
 rw [hx, hy]
 exact (if_neg (by simp)).trans ((if_neg (fun t => t.2 hc)).trans (if_neg (fun t => by rw [hn] at t; cases t.2)))
theorem rclass_r (k : Int) (w : World) : Calls Tryz.prog 102 #[.int .i64 k] w (RetI w (classV k)) :=
 (rclass_any k w).mono fun _ _ ⟨he, hw⟩ => ⟨he, hw ▸ Fur.refl _⟩
theorem rints_r (a b : Int) (w : World) : Calls Tryz.prog 101 #[.int .i64 a, .int .i64 b] w (RetI w (intc a b)) :=
 (rints_any a b w).mono fun _ _ ⟨he, hw⟩ => ⟨he, hw ▸ Fur.refl _⟩
theorem rvalid_t (x : Vl) (ao : Option Addr) (cap : Nat) (w : World) (hi : Vin x) (hs : SlV w ao x.ll cap) (h : okX x = true) : Calls Tryz.prog 64 #[vlv x ao cap] w (RetB w true) := by
 have k := rokV_any x ao cap w hi hs
 rwa [h] at k
set_option maxHeartbeats 6400000 in
set_option maxRecDepth 100000 in
theorem rorder_tt (x y : Vl) (ao bo : Option Addr) (ca cb : Nat) (w : World) (hi : Vin x) (hi' : Vin y) (hs : SlV w ao x.ll ca) (hs' : SlV w bo y.ll cb) (hp : okX x = true) (hq : okX y = true) (hO : ∀ z, z ∈ x.ll → OP z) :
  Calls Tryz.prog 62 #[vlv x ao ca, vlv y bo cb] w (RwI w (ordV x y)) := by
 obtain ⟨p0, p1, f0⟩ := bx2 w x y ao bo ca cb
 have hne : ¬ (w.heap.size = w.heap.size + 1) := by omega
 have hne2 : ¬ (w.heap.size + 1 = w.heap.size) := by omega
 have HI := Lib.hid (And.intro hi hi')
 have HS := Lib.hid (And.intro hs hs')
 have NA := Lib.hid (fun w' (hf : Fur w w') => rnum_v x ao ca w' hi (hs.on hf))
 have NB := Lib.hid (fun w' (hf : Fur w w') => rnum_v y bo cb w' hi' (hs'.on hf))
 have VF := Lib.hid (fun w' (hf : Fur w w') => rfields_any x y hO ao bo ca cb w' (hs.on hf) (hs'.on hf))
 have HC := Lib.hid (fun h => ordV_cls hp hq h)
 have HN := Lib.hid (fun h k => ordV_num hp hq h k)
 have HD := Lib.hid (fun h k => ordV_fld hp hq h k)
 clear hs hs' hi hi' hO
 obtain ⟨W, hW⟩ : ∃ W, ((w.alloc (.cells #[.int .i64 x.kd, .int .i64 x.nn, .int .i64 x.dd, .string (bs x.ss), .slice ao x.ll.length ca] 28)).alloc (.cells #[.int .i64 y.kd, .int .i64 y.nn, .int .i64 y.dd, .string (bs y.ss), .slice bo y.ll.length cb] 28)) = W := ⟨_, rfl⟩
 rw [hW] at p0 p1 f0
 unfold vlv at *
 generalize ordV x y = R at *
 go_enter Tryz.func62, Tryz.ntmps62
 go_upto_region 1 with fail
 clear hW
 have c0 := p0.c0; have c1 := p0.c1; have c2 := p0.c2; have c3 := p0.c3; have c4 := p0.c4
 have d0 := p1.c0; have d1 := p1.c1; have d2 := p1.c2; have d3 := p1.c3; have d4 := p1.c4
 have ff : Fur W W.drew := Fur.drew (Fur.refl W)
 go_region_held3 (fun w' => Fur W w' ∧ w'.cell? ⟨w.heap.size, 0, none⟩ = some (.int .i64 x.kd) ∧ w'.cell? ⟨w.heap.size, 1, none⟩ = some (.int .i64 x.nn) ∧ w'.cell? ⟨w.heap.size, 2, none⟩ = some (.int .i64 x.dd) ∧ w'.cell? ⟨w.heap.size, 3, none⟩ = some (.string (bs x.ss)) ∧ w'.cell? ⟨w.heap.size, 4, none⟩ = some (.slice ao x.ll.length ca) ∧ w'.cell? ⟨w.heap.size + 1, 0, none⟩ = some (.int .i64 y.kd) ∧ w'.cell? ⟨w.heap.size + 1, 1, none⟩ = some (.int .i64 y.nn) ∧ w'.cell? ⟨w.heap.size + 1, 2, none⟩ = some (.int .i64 y.dd) ∧ w'.cell? ⟨w.heap.size + 1, 3, none⟩ = some (.string (bs y.ss)) ∧ w'.cell? ⟨w.heap.size + 1, 4, none⟩ = some (.slice bo y.ll.length cb))
  (first
   | exact keep10v ff c0 c1 c2 c3 c4 d0 d1 d2 d3 d4)
  (first
   | (go_at_call 64; refine (rvalid_t _ _ _ _ ?_ ?_ ?_).mono ?_; (first | exact HI.out.1 | exact HI.out.2); (first | exact HS.out.1.on (f0.trans ff) | exact HS.out.2.on (f0.trans ff)); (first | exact hp | exact hq); rintro e4 w4 ⟨rfl, f4⟩; replace ff := ff.trans f4))
 clear HI HS
 clear c0 c1 c2 c3 c4 d0 d1 d2 d3 d4
 replace p0 := p0.on ff
 replace p1 := p1.on ff
 replace f0 := f0.trans ff
 clear ff
 have c0 := p0.c0; have c1 := p0.c1; have c2 := p0.c2; have c3 := p0.c3; have c4 := p0.c4
 have d0 := p1.c0; have d1 := p1.c1; have d2 := p1.c2; have d3 := p1.c3; have d4 := p1.c4
 go_wp2_with fail
 have ff : Fur w4 w4.drew := Fur.drew (Fur.refl w4)
 go_region_held3 (fun w' => Fur w4 w' ∧ w'.cell? ⟨w.heap.size, 0, none⟩ = some (.int .i64 x.kd) ∧ w'.cell? ⟨w.heap.size, 1, none⟩ = some (.int .i64 x.nn) ∧ w'.cell? ⟨w.heap.size, 2, none⟩ = some (.int .i64 x.dd) ∧ w'.cell? ⟨w.heap.size, 3, none⟩ = some (.string (bs x.ss)) ∧ w'.cell? ⟨w.heap.size, 4, none⟩ = some (.slice ao x.ll.length ca) ∧ w'.cell? ⟨w.heap.size + 1, 0, none⟩ = some (.int .i64 y.kd) ∧ w'.cell? ⟨w.heap.size + 1, 1, none⟩ = some (.int .i64 y.nn) ∧ w'.cell? ⟨w.heap.size + 1, 2, none⟩ = some (.int .i64 y.dd) ∧ w'.cell? ⟨w.heap.size + 1, 3, none⟩ = some (.string (bs y.ss)) ∧ w'.cell? ⟨w.heap.size + 1, 4, none⟩ = some (.slice bo y.ll.length cb))
  (first
   | exact keep10v ff c0 c1 c2 c3 c4 d0 d1 d2 d3 d4)
  (first
   | (go_at_call 102; refine (rclass_r _ _).mono ?_; rintro e5 w5 ⟨rfl, f5⟩; replace ff := ff.trans f5)
   | (go_at_call 101; refine (rints_r _ _ _).mono ?_; rintro e6 w6 ⟨rfl, f6⟩; replace ff := ff.trans f6))
 clear c0 c1 c2 c3 c4 d0 d1 d2 d3 d4
 replace p0 := p0.on ff
 replace p1 := p1.on ff
 replace f0 := f0.trans ff
 clear ff
 have c0 := p0.c0; have c1 := p0.c1; have c2 := p0.c2; have c3 := p0.c3; have c4 := p0.c4
 have d0 := p1.c0; have d1 := p1.c1; have d2 := p1.c2; have d3 := p1.c3; have d4 := p1.c4
 generalize classV x.kd = cx at *
 generalize classV y.kd = cy at *
 by_cases hc : cx = cy
 rotate_left
 ·have g : (intc cx cy != 0) = true := intc_ne hc
  have HE := Lib.hid (HC.out hc)
  clear hc HC HN HD NA NB VF
  go_wp2
  go_ret
  exact ⟨ret_int HE.out.symm, f0.b⟩
 replace HN := Lib.hid (HN.out hc)
 replace HD := Lib.hid (HD.out hc)
 subst hc
 rw [intc_self]
 clear HC hp hq
 go_wp2_with fail
 go_at_call 103; refine (NA.out _ f0).mono ?_; rintro e7 w7 ⟨rfl, ff⟩
 clear c0 c1 c2 c3 c4 d0 d1 d2 d3 d4
 replace p0 := p0.on ff
 replace p1 := p1.on ff
 replace f0 := f0.trans ff
 clear ff
 have c0 := p0.c0; have c1 := p0.c1; have c2 := p0.c2; have c3 := p0.c3; have c4 := p0.c4
 have d0 := p1.c0; have d1 := p1.c1; have d2 := p1.c2; have d3 := p1.c3; have d4 := p1.c4
 go_upto_region 10 with fail
 obtain ⟨bf, ff⟩ := box1 w7 (nmN x) (nmD x)
 obtain ⟨W8, hW8⟩ : ∃ W8, (w7.alloc (.cells #[.int .i64 (nmN x), .int .i64 (nmD x)] 122)) = W8 := ⟨_, rfl⟩
 rw [hW8] at bf ff ⊢
 clear hW8
 clear c0 c1 c2 c3 c4 d0 d1 d2 d3 d4
 replace p0 := p0.on ff
 replace p1 := p1.on ff
 replace f0 := f0.trans ff
 clear ff
 have c0 := p0.c0; have c1 := p0.c1; have c2 := p0.c2; have c3 := p0.c3; have c4 := p0.c4
 have d0 := p1.c0; have d1 := p1.c1; have d2 := p1.c2; have d3 := p1.c3; have d4 := p1.c4
 go_wp2_with fail
 go_at_call 103; refine (NB.out _ f0).mono ?_; rintro e9 w9 ⟨rfl, ff⟩
 replace bf := bf.on ff
 clear c0 c1 c2 c3 c4 d0 d1 d2 d3 d4
 replace p0 := p0.on ff
 replace p1 := p1.on ff
 replace f0 := f0.trans ff
 clear ff
 have c0 := p0.c0; have c1 := p0.c1; have c2 := p0.c2; have c3 := p0.c3; have c4 := p0.c4
 have d0 := p1.c0; have d1 := p1.c1; have d2 := p1.c2; have d3 := p1.c3; have d4 := p1.c4
 clear NA NB
 cases hn : isNum x
 ·have HE := Lib.hid (HD.out hn)
  clear HN HD
  go_upto_region 13 with fail
  obtain ⟨bg, ff⟩ := box1 w9 (nmN y) (nmD y)
  obtain ⟨Wa, hWa⟩ : ∃ Wa, (w9.alloc (.cells #[.int .i64 (nmN y), .int .i64 (nmD y)] 122)) = Wa := ⟨_, rfl⟩
  rw [hWa] at bg ff ⊢
  clear hWa
  replace bf := bf.on ff
  clear c0 c1 c2 c3 c4 d0 d1 d2 d3 d4
  replace p0 := p0.on ff
  replace p1 := p1.on ff
  replace f0 := f0.trans ff
  clear ff
  have c0 := p0.c0; have c1 := p0.c1; have c2 := p0.c2; have c3 := p0.c3; have c4 := p0.c4
  have d0 := p1.c0; have d1 := p1.c1; have d2 := p1.c2; have d3 := p1.c3; have d4 := p1.c4
  go_wp2_with fail
  go_at_call 100; refine (VF.out _ f0).mono ?_; rintro eb wb ⟨rfl, fb⟩
  go_wp2
  go_ret
  exact ⟨ret_int HE.out.symm, Fuw.trans f0.b fb⟩
 ·have HE := Lib.hid (HN.out hn)
  clear HN HD VF
  go_upto_region 12 with fail
  obtain ⟨bg, ff⟩ := box1 w9 (nmN y) (nmD y)
  obtain ⟨Wa, hWa⟩ : ∃ Wa, (w9.alloc (.cells #[.int .i64 (nmN y), .int .i64 (nmD y)] 122)) = Wa := ⟨_, rfl⟩
  rw [hWa] at bg ff ⊢
  clear hWa
  replace bf := bf.on ff
  clear c0 c1 c2 c3 c4 d0 d1 d2 d3 d4
  replace p0 := p0.on ff
  replace p1 := p1.on ff
  replace f0 := f0.trans ff
  clear ff
  have c0 := p0.c0; have c1 := p0.c1; have c2 := p0.c2; have c3 := p0.c3; have c4 := p0.c4
  have d0 := p1.c0; have d1 := p1.c1; have d2 := p1.c2; have d3 := p1.c3; have d4 := p1.c4
  have a0 := bf.c0; have a1 := bf.c1; have b0 := bg.c0; have b1 := bg.c1
  go_wp2_with fail
  go_at_call 104; refine (rcmp_any _ _ _ _ _).mono ?_; rintro eb wb ⟨rfl, fb⟩
  go_wp2
  go_ret
  exact ⟨ret_int HE.out.symm, Fuw.trans f0.b fb⟩
end Go.Proofs.YtpamdlkagmlahaaGreatDoor
namespace Go.Proofs.YtpamdlkagmlahaaGreatDoor
open Go.RowKit
theorem rorder_by (x : Vl) (hO : ∀ z, z ∈ x.ll → OP z) : OP x := fun y ao bo ca cb w hi hi' hs hs' => by
 cases hp : okX x <;> cases hq : okX y
 ·rw [ordV_inv hp hq]; exact rorder_ff x y ao bo ca cb w hi hi' hs hs' hp hq hO
 ·rw [ordV_ft hp hq]; exact rorder_ft x y ao bo ca cb w hi hi' hs hs' hp hq
 ·rw [ordV_tf hp hq]; exact rorder_tf x y ao bo ca cb w hi hi' hs hs' hp hq
 ·exact rorder_tt x y ao bo ca cb w hi hi' hs hs' hp hq hO
mutual
theorem rorder_all : ∀ x : Vl, OP x
 | .mk k n d s l => rorder_by (.mk k n d s l) (fun z hz => rorder_list l z hz)
theorem rorder_list : ∀ l : List Vl, ∀ z, z ∈ l → OP z
 | [], _, h => by cases h
 | x :: r, z, h => (List.mem_cons.1 h).elim (fun e => e ▸ rorder_all x) (fun e => rorder_list r z e)
end
end Go.Proofs.YtpamdlkagmlahaaGreatDoor
