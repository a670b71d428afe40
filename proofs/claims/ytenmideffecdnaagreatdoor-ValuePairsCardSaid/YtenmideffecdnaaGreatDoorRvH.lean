/-
  The reference of package value: Number, Plain, Truth of every value in memory. Nothing that was there turns.
-/
import Derived.Test.YtenmideffecdnaaGreatDoorGh
import Derived.Test.YtenmideffecdnaaGreatDoorCmC
import Derived.Test.YtenmideffecdnaaGreatDoorRxM
namespace Go.Proofs.YtenmideffecdnaaGreatDoor
open Go.RowKit

/-- A value boxed, a fraction's cell behind it. -/
theorem bx_box (w : World) (x : Vl) (ao : Option Addr) (cap : Nat) :
    Bx ((w.alloc (.cells #[.int .i64 x.kd, .int .i64 x.nn, .int .i64 x.dd, .string (bs x.ss), .slice ao x.ll.length cap] 24)).alloc (.cells #[.int .i64 0, .int .i64 0] 28)) w.heap.size x ao cap ∧
    Box ((w.alloc (.cells #[.int .i64 x.kd, .int .i64 x.nn, .int .i64 x.dd, .string (bs x.ss), .slice ao x.ll.length cap] 24)).alloc (.cells #[.int .i64 0, .int .i64 0] 28)) (w.heap.size + 1) 0 0 ∧
    Fur w ((w.alloc (.cells #[.int .i64 x.kd, .int .i64 x.nn, .int .i64 x.dd, .string (bs x.ss), .slice ao x.ll.length cap] 24)).alloc (.cells #[.int .i64 0, .int .i64 0] 28)) := by
  obtain ⟨p0, f0⟩ := bx1 w x ao cap
  have s0 : (w.alloc (.cells #[.int .i64 x.kd, .int .i64 x.nn, .int .i64 x.dd, .string (bs x.ss), .slice ao x.ll.length cap] 24)).heap.size = w.heap.size + 1 := by simp
  generalize w.alloc (.cells #[.int .i64 x.kd, .int .i64 x.nn, .int .i64 x.dd, .string (bs x.ss), .slice ao x.ll.length cap] 24) = w1 at *
  have f1 : Fur w1 (w1.alloc (.cells #[.int .i64 0, .int .i64 0] 28)) := (Fur.refl w1).alloc _
  refine ⟨p0.on f1, ?_, f0.trans f1⟩
  show (w1.heap.push _)[w.heap.size + 1]? = _
  rw [← s0, Array.getElem?_push, if_pos rfl]

set_option maxHeartbeats 3200000 in
set_option maxRecDepth 100000 in
theorem rnum_v (x : Vl) (ao : Option Addr) (cap : Nat) (w : World) (hi : Vin x) (hs : SlV w ao x.ll cap) :
    Calls Tryz.prog 10 #[vlv x ao cap] w (RetFB w (nmN x) (nmD x) (isNum x)) := by
  obtain ⟨p0, p1, f0⟩ := bx_box w x ao cap
  have HV := Lib.hid (fun w' hf => rokV_any x ao cap w' hi (hs.on (w' := w') hf))
  clear hs hi
  have hne : ¬ (w.heap.size + 1 = w.heap.size) := by omega
  cases va : okX x
  · have e : isNum x = false := by unfold isNum; rw [va]; rfl
    rw [show nmN x = 0 by unfold nmN; rw [e]; rfl, show nmD x = 0 by unfold nmD; rw [e]; rfl, e]
    rw [va] at HV
    clear va e
    unfold vlv at *
    go_enter Tryz.func10, Tryz.ntmps10
    go_wp2_with fail
    go_at_call 12; refine (HV.out _ f0).mono ?_; rintro e1 w1 ⟨rfl, f1⟩
    replace p1 := p1.on f1
    have z0 := p1.f0 0
    have z1 := p1.f0 1
    have d0 := p1.c0
    have d1 := p1.c1
    go_wp2
    try simp only [Exit.inBlock, Exit.then]
    exact fr_ret_put rfl rfl rfl p1 (f0.trans f1) (by omega)
  rw [va] at HV
  by_cases h2 : x.kd = 2
  · have e : isNum x = true := by unfold isNum; rw [va, h2]; rfl
    rw [show nmN x = x.nn by unfold nmN; rw [e]; rfl, show nmD x = 1 by unfold nmD; rw [if_pos e, if_pos h2], e]
    have H2 := Lib.hid h2
    clear va e h2
    unfold vlv at *
    go_enter Tryz.func10, Tryz.ntmps10
    go_wp2_with fail
    go_at_call 12; refine (HV.out _ f0).mono ?_; rintro e1 w1 ⟨rfl, f1⟩
    replace p0 := p0.on f1
    replace p1 := p1.on f1
    have z0 := p1.f0 0
    have z1 := p1.f0 1
    have d0 := p1.c0
    have d1 := p1.c1
    have c0 := p0.c0
    have c1 := p0.c1
    rw [H2.out] at c0
    go_wp2
    try simp only [Exit.inBlock, Exit.then]
    exact fr_ret_put rfl rfl rfl p1 (f0.trans f1) (by omega)
  by_cases h3 : x.kd = 3
  · have e : isNum x = true := by unfold isNum; rw [va, h3]; rfl
    rw [show nmN x = x.nn by unfold nmN; rw [e]; rfl, show nmD x = x.dd by unfold nmD; rw [if_pos e, if_neg h2], e]
    have H3 := Lib.hid h3
    clear va e h2 h3
    unfold vlv at *
    go_enter Tryz.func10, Tryz.ntmps10
    go_wp2_with fail
    go_at_call 12; refine (HV.out _ f0).mono ?_; rintro e1 w1 ⟨rfl, f1⟩
    replace p0 := p0.on f1
    replace p1 := p1.on f1
    have z0 := p1.f0 0
    have z1 := p1.f0 1
    have d0 := p1.c0
    have d1 := p1.c1
    have c0 := p0.c0
    have c1 := p0.c1
    have c2 := p0.c2
    rw [H3.out] at c0
    go_wp2
    try simp only [Exit.inBlock, Exit.then]
    exact fr_ret_put rfl rfl rfl p1 (f0.trans f1) (by omega)
  · have e : isNum x = false := by unfold isNum; rw [va, beq_eq_false_iff_ne.2 h2, beq_eq_false_iff_ne.2 h3]; rfl
    rw [show nmN x = 0 by unfold nmN; rw [e]; rfl, show nmD x = 0 by unfold nmD; rw [e]; rfl, e]
    have G2 := Lib.hid (show (x.kd == 2) = false from beq_eq_false_iff_ne.2 h2)
    have G3 := Lib.hid (show (x.kd == 3) = false from beq_eq_false_iff_ne.2 h3)
    clear va e h2 h3
    unfold vlv at *
    go_enter Tryz.func10, Tryz.ntmps10
    go_wp2_with fail
    go_at_call 12; refine (HV.out _ f0).mono ?_; rintro e1 w1 ⟨rfl, f1⟩
    replace p0 := p0.on f1
    replace p1 := p1.on f1
    have z0 := p1.f0 0
    have z1 := p1.f0 1
    have d0 := p1.c0
    have d1 := p1.c1
    have c0 := p0.c0
    have g2 := G2.out
    have g3 := G3.out
    go_wp2
    try simp only [Exit.inBlock, Exit.then]
    exact fr_ret_put rfl rfl rfl p1 (f0.trans f1) (by omega)
end Go.Proofs.YtenmideffecdnaaGreatDoor
