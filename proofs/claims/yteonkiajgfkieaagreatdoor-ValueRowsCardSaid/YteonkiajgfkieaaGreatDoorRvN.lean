/-
  The reference of package value: Order of every two values in memory. Nothing that was there turns.
-/
import Derived.Test.YteonkiajgfkieaaGreatDoorM32
namespace Go.Proofs.YteonkiajgfkieaaGreatDoor
open Go.RowKit

set_option maxHeartbeats 6400000 in
set_option maxRecDepth 100000 in
theorem rorder_tf (x y : Vl) (ao bo : Option Addr) (ca cb : Nat) (w : World) (hi : Vin x) (hi' : Vin y) (hs : SlV w ao x.ll ca) (hs' : SlV w bo y.ll cb) (hp : okX x = true) (hq : okX y = false) :
    Calls Tryz.prog 41 #[vlv x ao ca, vlv y bo cb] w (RwI w (-1)) := by
  obtain ⟨p0, p1, f0⟩ := bx2w w x y ao bo ca cb
  have hne : ¬ (w.heap.size = w.heap.size + 1) := by omega
  have hne2 : ¬ (w.heap.size + 1 = w.heap.size) := by omega
  have VA := Lib.hid (fun w' (hf : Fuw w w') => (rokV_any x ao ca w' hi (hs.onw hf)).mono fun _ _ h => RetB.w h)
  have VB := Lib.hid (fun w' (hf : Fuw w w') => (rokV_any y bo cb w' hi' (hs'.onw hf)).mono fun _ _ h => RetB.w h)
  rw [hp] at VA
  rw [hq] at VB
  clear hi hi' hs hs' hp hq
  unfold vlv at *
  go_enter Tryz.func41, Tryz.ntmps41
  go_wp2_with fail
  have c0 := p0.c0; have c1 := p0.c1; have c2 := p0.c2; have c3 := p0.c3; have c4 := p0.c4
  have d0 := p1.c0; have d1 := p1.c1; have d2 := p1.c2; have d3 := p1.c3; have d4 := p1.c4
  go_region_held3 (fun w' => Fuw ((w.alloc (.cells #[.int .i64 x.kd, .int .i64 x.nn, .int .i64 x.dd, .string (bs x.ss), .slice ao x.ll.length ca] 34)).alloc (.cells #[.int .i64 y.kd, .int .i64 y.nn, .int .i64 y.dd, .string (bs y.ss), .slice bo y.ll.length cb] 34)) w' ∧ w'.cell? ⟨w.heap.size, 0, none⟩ = some (.int .i64 x.kd) ∧ w'.cell? ⟨w.heap.size, 1, none⟩ = some (.int .i64 x.nn) ∧ w'.cell? ⟨w.heap.size, 2, none⟩ = some (.int .i64 x.dd) ∧ w'.cell? ⟨w.heap.size, 3, none⟩ = some (.string (bs x.ss)) ∧ w'.cell? ⟨w.heap.size, 4, none⟩ = some (.slice ao x.ll.length ca) ∧ w'.cell? ⟨w.heap.size + 1, 0, none⟩ = some (.int .i64 y.kd) ∧ w'.cell? ⟨w.heap.size + 1, 1, none⟩ = some (.int .i64 y.nn) ∧ w'.cell? ⟨w.heap.size + 1, 2, none⟩ = some (.int .i64 y.dd) ∧ w'.cell? ⟨w.heap.size + 1, 3, none⟩ = some (.string (bs y.ss)) ∧ w'.cell? ⟨w.heap.size + 1, 4, none⟩ = some (.slice bo y.ll.length cb))
    (first
      | (refine ⟨Fuw.drew (Fuw.refl _), ?_, ?_, ?_, ?_, ?_, ?_, ?_, ?_, ?_, ?_⟩ <;> simp [*]; done)
      | go_keep
      | (refine ⟨Fuw.trans ?_ (by assumption), cellOnw (by assumption) ?_, cellOnw (by assumption) ?_, cellOnw (by assumption) ?_, cellOnw (by assumption) ?_, cellOnw (by assumption) ?_, cellOnw (by assumption) ?_, cellOnw (by assumption) ?_, cellOnw (by assumption) ?_, cellOnw (by assumption) ?_, cellOnw (by assumption) ?_⟩ <;> simp [*]))
    (first
      | (go_at_call 70; first
          | (refine (VA.out _ (f0.trans (Fuw.drew (Fuw.refl _)))).mono ?_; rintro e1 w1 ⟨rfl, f1⟩)
          | (refine (VB.out _ (f0.trans (Fuw.drew (Fuw.refl _)))).mono ?_; rintro e1 w1 ⟨rfl, f1⟩)
          | (refine (VA.out _ (f0.trans ((Fuw.drew (Fuw.refl _)).trans (by assumption)))).mono ?_; rintro e1 w2 ⟨rfl, f2⟩)
          | (refine (VB.out _ (f0.trans ((Fuw.drew (Fuw.refl _)).trans (by assumption)))).mono ?_; rintro e1 w2 ⟨rfl, f2⟩)))
  have hS : Fuw ((w.alloc (.cells #[.int .i64 x.kd, .int .i64 x.nn, .int .i64 x.dd, .string (bs x.ss), .slice ao x.ll.length ca] 34)).alloc (.cells #[.int .i64 y.kd, .int .i64 y.nn, .int .i64 y.dd, .string (bs y.ss), .slice bo y.ll.length cb] 34)) w2 ∧ w2.cell? ⟨w.heap.size, 0, none⟩ = some (.int .i64 x.kd) ∧ w2.cell? ⟨w.heap.size, 1, none⟩ = some (.int .i64 x.nn) ∧ w2.cell? ⟨w.heap.size, 2, none⟩ = some (.int .i64 x.dd) ∧ w2.cell? ⟨w.heap.size, 3, none⟩ = some (.string (bs x.ss)) ∧ w2.cell? ⟨w.heap.size, 4, none⟩ = some (.slice ao x.ll.length ca) ∧ w2.cell? ⟨w.heap.size + 1, 0, none⟩ = some (.int .i64 y.kd) ∧ w2.cell? ⟨w.heap.size + 1, 1, none⟩ = some (.int .i64 y.nn) ∧ w2.cell? ⟨w.heap.size + 1, 2, none⟩ = some (.int .i64 y.dd) ∧ w2.cell? ⟨w.heap.size + 1, 3, none⟩ = some (.string (bs y.ss)) ∧ w2.cell? ⟨w.heap.size + 1, 4, none⟩ = some (.slice bo y.ll.length cb) := by assumption
  have ff := f0.trans hS.1
  have Y := Lib.hid (fun w => ryes_any true w)
  go_wp2_with fail
  go_at_call 71; refine (Y.out _).mono ?_; rintro e1 w3 ⟨rfl, rfl⟩
  go_wp2
  go_ret
  exact ⟨rfl, ff⟩
set_option maxHeartbeats 6400000 in
set_option maxRecDepth 100000 in
theorem rorder_ft (x y : Vl) (ao bo : Option Addr) (ca cb : Nat) (w : World) (hi : Vin x) (hi' : Vin y) (hs : SlV w ao x.ll ca) (hs' : SlV w bo y.ll cb) (hp : okX x = false) (hq : okX y = true) :
    Calls Tryz.prog 41 #[vlv x ao ca, vlv y bo cb] w (RwI w (1)) := by
  obtain ⟨p0, p1, f0⟩ := bx2w w x y ao bo ca cb
  have hne : ¬ (w.heap.size = w.heap.size + 1) := by omega
  have hne2 : ¬ (w.heap.size + 1 = w.heap.size) := by omega
  have VA := Lib.hid (fun w' (hf : Fuw w w') => (rokV_any x ao ca w' hi (hs.onw hf)).mono fun _ _ h => RetB.w h)
  have VB := Lib.hid (fun w' (hf : Fuw w w') => (rokV_any y bo cb w' hi' (hs'.onw hf)).mono fun _ _ h => RetB.w h)
  rw [hp] at VA
  rw [hq] at VB
  clear hi hi' hs hs' hp hq
  unfold vlv at *
  go_enter Tryz.func41, Tryz.ntmps41
  go_wp2_with fail
  have c0 := p0.c0; have c1 := p0.c1; have c2 := p0.c2; have c3 := p0.c3; have c4 := p0.c4
  have d0 := p1.c0; have d1 := p1.c1; have d2 := p1.c2; have d3 := p1.c3; have d4 := p1.c4
  go_region_held3 (fun w' => Fuw ((w.alloc (.cells #[.int .i64 x.kd, .int .i64 x.nn, .int .i64 x.dd, .string (bs x.ss), .slice ao x.ll.length ca] 34)).alloc (.cells #[.int .i64 y.kd, .int .i64 y.nn, .int .i64 y.dd, .string (bs y.ss), .slice bo y.ll.length cb] 34)) w' ∧ w'.cell? ⟨w.heap.size, 0, none⟩ = some (.int .i64 x.kd) ∧ w'.cell? ⟨w.heap.size, 1, none⟩ = some (.int .i64 x.nn) ∧ w'.cell? ⟨w.heap.size, 2, none⟩ = some (.int .i64 x.dd) ∧ w'.cell? ⟨w.heap.size, 3, none⟩ = some (.string (bs x.ss)) ∧ w'.cell? ⟨w.heap.size, 4, none⟩ = some (.slice ao x.ll.length ca) ∧ w'.cell? ⟨w.heap.size + 1, 0, none⟩ = some (.int .i64 y.kd) ∧ w'.cell? ⟨w.heap.size + 1, 1, none⟩ = some (.int .i64 y.nn) ∧ w'.cell? ⟨w.heap.size + 1, 2, none⟩ = some (.int .i64 y.dd) ∧ w'.cell? ⟨w.heap.size + 1, 3, none⟩ = some (.string (bs y.ss)) ∧ w'.cell? ⟨w.heap.size + 1, 4, none⟩ = some (.slice bo y.ll.length cb))
    (first
      | (refine ⟨Fuw.drew (Fuw.refl _), ?_, ?_, ?_, ?_, ?_, ?_, ?_, ?_, ?_, ?_⟩ <;> simp [*]; done)
      | go_keep
      | (refine ⟨Fuw.trans ?_ (by assumption), cellOnw (by assumption) ?_, cellOnw (by assumption) ?_, cellOnw (by assumption) ?_, cellOnw (by assumption) ?_, cellOnw (by assumption) ?_, cellOnw (by assumption) ?_, cellOnw (by assumption) ?_, cellOnw (by assumption) ?_, cellOnw (by assumption) ?_, cellOnw (by assumption) ?_⟩ <;> simp [*]))
    (first
      | (go_at_call 70; first
          | (refine (VA.out _ (f0.trans (Fuw.drew (Fuw.refl _)))).mono ?_; rintro e1 w1 ⟨rfl, f1⟩)
          | (refine (VB.out _ (f0.trans (Fuw.drew (Fuw.refl _)))).mono ?_; rintro e1 w1 ⟨rfl, f1⟩)
          | (refine (VA.out _ (f0.trans ((Fuw.drew (Fuw.refl _)).trans (by assumption)))).mono ?_; rintro e1 w2 ⟨rfl, f2⟩)
          | (refine (VB.out _ (f0.trans ((Fuw.drew (Fuw.refl _)).trans (by assumption)))).mono ?_; rintro e1 w2 ⟨rfl, f2⟩)))
  have hS : Fuw ((w.alloc (.cells #[.int .i64 x.kd, .int .i64 x.nn, .int .i64 x.dd, .string (bs x.ss), .slice ao x.ll.length ca] 34)).alloc (.cells #[.int .i64 y.kd, .int .i64 y.nn, .int .i64 y.dd, .string (bs y.ss), .slice bo y.ll.length cb] 34)) w2 ∧ w2.cell? ⟨w.heap.size, 0, none⟩ = some (.int .i64 x.kd) ∧ w2.cell? ⟨w.heap.size, 1, none⟩ = some (.int .i64 x.nn) ∧ w2.cell? ⟨w.heap.size, 2, none⟩ = some (.int .i64 x.dd) ∧ w2.cell? ⟨w.heap.size, 3, none⟩ = some (.string (bs x.ss)) ∧ w2.cell? ⟨w.heap.size, 4, none⟩ = some (.slice ao x.ll.length ca) ∧ w2.cell? ⟨w.heap.size + 1, 0, none⟩ = some (.int .i64 y.kd) ∧ w2.cell? ⟨w.heap.size + 1, 1, none⟩ = some (.int .i64 y.nn) ∧ w2.cell? ⟨w.heap.size + 1, 2, none⟩ = some (.int .i64 y.dd) ∧ w2.cell? ⟨w.heap.size + 1, 3, none⟩ = some (.string (bs y.ss)) ∧ w2.cell? ⟨w.heap.size + 1, 4, none⟩ = some (.slice bo y.ll.length cb) := by assumption
  have ff := f0.trans hS.1
  have Y := Lib.hid (fun w => ryes_any false w)
  go_wp2_with fail
  go_at_call 71; refine (Y.out _).mono ?_; rintro e1 w3 ⟨rfl, rfl⟩
  go_wp2
  go_ret
  exact ⟨rfl, ff⟩
set_option maxHeartbeats 6400000 in
set_option maxRecDepth 100000 in
theorem rorder_ff (x y : Vl) (ao bo : Option Addr) (ca cb : Nat) (w : World) (hi : Vin x) (hi' : Vin y) (hs : SlV w ao x.ll ca) (hs' : SlV w bo y.ll cb) (hp : okX x = false) (hq : okX y = false) (hO : ∀ z, z ∈ x.ll → OP z) :
    Calls Tryz.prog 41 #[vlv x ao ca, vlv y bo cb] w (RwI w (fldV x y)) := by
  obtain ⟨p0, p1, f0⟩ := bx2w w x y ao bo ca cb
  have hne : ¬ (w.heap.size = w.heap.size + 1) := by omega
  have hne2 : ¬ (w.heap.size + 1 = w.heap.size) := by omega
  have VA := Lib.hid (fun w' (hf : Fuw w w') => (rokV_any x ao ca w' hi (hs.onw hf)).mono fun _ _ h => RetB.w h)
  have VB := Lib.hid (fun w' (hf : Fuw w w') => (rokV_any y bo cb w' hi' (hs'.onw hf)).mono fun _ _ h => RetB.w h)
  have VF := Lib.hid (fun w' (hf : Fuw w w') => rfields_any x y hO ao bo ca cb w' (hs.onw hf) (hs'.onw hf))
  rw [hp] at VA
  rw [hq] at VB
  clear hi hi' hs hs' hp hq hO
  generalize fldV x y = R at *
  unfold vlv at *
  go_enter Tryz.func41, Tryz.ntmps41
  go_wp2_with fail
  have c0 := p0.c0; have c1 := p0.c1; have c2 := p0.c2; have c3 := p0.c3; have c4 := p0.c4
  have d0 := p1.c0; have d1 := p1.c1; have d2 := p1.c2; have d3 := p1.c3; have d4 := p1.c4
  go_region_held3 (fun w' => Fuw ((w.alloc (.cells #[.int .i64 x.kd, .int .i64 x.nn, .int .i64 x.dd, .string (bs x.ss), .slice ao x.ll.length ca] 34)).alloc (.cells #[.int .i64 y.kd, .int .i64 y.nn, .int .i64 y.dd, .string (bs y.ss), .slice bo y.ll.length cb] 34)) w' ∧ w'.cell? ⟨w.heap.size, 0, none⟩ = some (.int .i64 x.kd) ∧ w'.cell? ⟨w.heap.size, 1, none⟩ = some (.int .i64 x.nn) ∧ w'.cell? ⟨w.heap.size, 2, none⟩ = some (.int .i64 x.dd) ∧ w'.cell? ⟨w.heap.size, 3, none⟩ = some (.string (bs x.ss)) ∧ w'.cell? ⟨w.heap.size, 4, none⟩ = some (.slice ao x.ll.length ca) ∧ w'.cell? ⟨w.heap.size + 1, 0, none⟩ = some (.int .i64 y.kd) ∧ w'.cell? ⟨w.heap.size + 1, 1, none⟩ = some (.int .i64 y.nn) ∧ w'.cell? ⟨w.heap.size + 1, 2, none⟩ = some (.int .i64 y.dd) ∧ w'.cell? ⟨w.heap.size + 1, 3, none⟩ = some (.string (bs y.ss)) ∧ w'.cell? ⟨w.heap.size + 1, 4, none⟩ = some (.slice bo y.ll.length cb))
    (first
      | (refine ⟨Fuw.drew (Fuw.refl _), ?_, ?_, ?_, ?_, ?_, ?_, ?_, ?_, ?_, ?_⟩ <;> simp [*]; done)
      | go_keep
      | (refine ⟨Fuw.trans ?_ (by assumption), cellOnw (by assumption) ?_, cellOnw (by assumption) ?_, cellOnw (by assumption) ?_, cellOnw (by assumption) ?_, cellOnw (by assumption) ?_, cellOnw (by assumption) ?_, cellOnw (by assumption) ?_, cellOnw (by assumption) ?_, cellOnw (by assumption) ?_, cellOnw (by assumption) ?_⟩ <;> simp [*]))
    (first
      | (go_at_call 70; first
          | (refine (VA.out _ (f0.trans (Fuw.drew (Fuw.refl _)))).mono ?_; rintro e1 w1 ⟨rfl, f1⟩)
          | (refine (VB.out _ (f0.trans (Fuw.drew (Fuw.refl _)))).mono ?_; rintro e1 w1 ⟨rfl, f1⟩)
          | (refine (VA.out _ (f0.trans ((Fuw.drew (Fuw.refl _)).trans (by assumption)))).mono ?_; rintro e1 w2 ⟨rfl, f2⟩)
          | (refine (VB.out _ (f0.trans ((Fuw.drew (Fuw.refl _)).trans (by assumption)))).mono ?_; rintro e1 w2 ⟨rfl, f2⟩)))
  have hS : Fuw ((w.alloc (.cells #[.int .i64 x.kd, .int .i64 x.nn, .int .i64 x.dd, .string (bs x.ss), .slice ao x.ll.length ca] 34)).alloc (.cells #[.int .i64 y.kd, .int .i64 y.nn, .int .i64 y.dd, .string (bs y.ss), .slice bo y.ll.length cb] 34)) w2 ∧ w2.cell? ⟨w.heap.size, 0, none⟩ = some (.int .i64 x.kd) ∧ w2.cell? ⟨w.heap.size, 1, none⟩ = some (.int .i64 x.nn) ∧ w2.cell? ⟨w.heap.size, 2, none⟩ = some (.int .i64 x.dd) ∧ w2.cell? ⟨w.heap.size, 3, none⟩ = some (.string (bs x.ss)) ∧ w2.cell? ⟨w.heap.size, 4, none⟩ = some (.slice ao x.ll.length ca) ∧ w2.cell? ⟨w.heap.size + 1, 0, none⟩ = some (.int .i64 y.kd) ∧ w2.cell? ⟨w.heap.size + 1, 1, none⟩ = some (.int .i64 y.nn) ∧ w2.cell? ⟨w.heap.size + 1, 2, none⟩ = some (.int .i64 y.dd) ∧ w2.cell? ⟨w.heap.size + 1, 3, none⟩ = some (.string (bs y.ss)) ∧ w2.cell? ⟨w.heap.size + 1, 4, none⟩ = some (.slice bo y.ll.length cb) := by assumption
  have ff := f0.trans hS.1
  obtain ⟨-, k0, k1, k2, k3, k4, l0, l1, l2, l3, l4⟩ := hS
  go_wp2_with fail
  go_at_call 72; refine (VF.out _ ff).mono ?_; rintro e1 w3 ⟨rfl, f3⟩
  go_wp2
  go_ret
  exact ⟨rfl, ff.trans f3⟩
end Go.Proofs.YteonkiajgfkieaaGreatDoor
