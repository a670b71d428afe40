import Derived.Test.YtpamdlkagmlahaaGreatDoorK02
namespace Go.Proofs.YtpamdlkagmlahaaGreatDoor
open Go.RowKit
theorem bx2 (w : World) (x y : Vl) (ao bo : Option Addr) (ca cb : Nat) :
  Bx ((w.alloc (.cells #[.int .i64 x.kd, .int .i64 x.nn, .int .i64 x.dd, .string (bs x.ss), .slice ao x.ll.length ca] 28)).alloc (.cells #[.int .i64 y.kd, .int .i64 y.nn, .int .i64 y.dd, .string (bs y.ss), .slice bo y.ll.length cb] 28)) w.heap.size x ao ca ∧
  Bx ((w.alloc (.cells #[.int .i64 x.kd, .int .i64 x.nn, .int .i64 x.dd, .string (bs x.ss), .slice ao x.ll.length ca] 28)).alloc (.cells #[.int .i64 y.kd, .int .i64 y.nn, .int .i64 y.dd, .string (bs y.ss), .slice bo y.ll.length cb] 28)) (w.heap.size + 1) y bo cb ∧
  Fur w ((w.alloc (.cells #[.int .i64 x.kd, .int .i64 x.nn, .int .i64 x.dd, .string (bs x.ss), .slice ao x.ll.length ca] 28)).alloc (.cells #[.int .i64 y.kd, .int .i64 y.nn, .int .i64 y.dd, .string (bs y.ss), .slice bo y.ll.length cb] 28)) := by
 obtain ⟨p0, f0⟩ := bx1 w x ao ca
 have s0 : (w.alloc (.cells #[.int .i64 x.kd, .int .i64 x.nn, .int .i64 x.dd, .string (bs x.ss), .slice ao x.ll.length ca] 28)).heap.size = w.heap.size + 1 := by simp
 generalize w.alloc (.cells #[.int .i64 x.kd, .int .i64 x.nn, .int .i64 x.dd, .string (bs x.ss), .slice ao x.ll.length ca] 28) = w1 at *
 obtain ⟨p1, f1⟩ := bx1 w1 y bo cb
 rw [s0] at p1
 exact ⟨p0.on f1, p1, f0.trans f1⟩
theorem bs_list (s : List UInt8) : (bs s).toList = s := by rw [ByteArray.toList_eq]; rfl
theorem len0 (l : List Vl) : (((l.length : Nat) : Int) == 0) = l.isEmpty := by cases l <;> simp <;> omega
set_option maxHeartbeats 3200000 in
theorem lvk0 (n d : Int) (s : List UInt8) (l : List Vl) (ao : Option Addr) (cap : Nat) (m : Int) (w : World) : Calls Tryz.prog 98 #[vlv (.mk 0 n d s l) ao cap, .int .i64 m] w (RetB w (bareV n d s l false false false false)) := by
 obtain ⟨p0, p1, f0⟩ := bx2 w (.mk 0 n d s l) (.mk 0 n d s l) ao ao cap cap
 simp only [vlv, Vl.kd, Vl.nn, Vl.dd, Vl.ss, Vl.ll] at f0 p0 p1 ⊢
 obtain ⟨W, hW⟩ : ∃ W, ((w.alloc (.cells #[.int .i64 0, .int .i64 n, .int .i64 d, .string (bs s), .slice ao l.length cap] 28)).alloc (.cells #[.int .i64 0, .int .i64 n, .int .i64 d, .string (bs s), .slice ao l.length cap] 28)) = W := ⟨_, rfl⟩
 rw [hW] at f0 p0 p1
 have c0 := p0.c0; have c1 := p0.c1; have c2 := p0.c2; have c3 := p0.c3; have c4 := p0.c4
 have d0 := p1.c0; have d1 := p1.c1; have d2 := p1.c2; have d3 := p1.c3; have d4 := p1.c4
 have z0 := p1.f 0; have z1 := p1.f 1; have z2 := p1.f 2; have z3 := p1.f 3; have z4 := p1.f 4
 simp only [Vl.kd, Vl.nn, Vl.dd, Vl.ss, Vl.ll] at c0 c1 c2 c3 c4 d0 d1 d2 d3 d4
 have hne : ¬ (w.heap.size = w.heap.size + 1) := by omega
 have hne2 : ¬ (w.heap.size + 1 = w.heap.size) := by omega
 have hS : (s == []) = s.isEmpty := by cases s <;> rfl
 have hL := len0 l
 go_enter Tryz.func98, Tryz.ntmps98
 go_upto_region 2 with fail
 clear hW
 go_wp2
 all_goals
  go_ret
  exact ⟨ret_bool (by (try unfold bareV); first | (simp_all; done) | (simp_all; omega) | (simp_all [bs_list]; done) | (simp_all [bs_list]; omega)), by first | assumption | exact fur_set f0 (by omega) | exact (fur_set f0 (by omega)).drew | exact fur_set (fur_set f0 (by omega)) (by omega)⟩
set_option maxHeartbeats 3200000 in
theorem lvk1 (n d : Int) (s : List UInt8) (l : List Vl) (ao : Option Addr) (cap : Nat) (m : Int) (w : World) : Calls Tryz.prog 98 #[vlv (.mk 1 n d s l) ao cap, .int .i64 m] w (RetB w (bareV n d s l true false false false && (n == 0 || n == 1))) := by
 obtain ⟨p0, p1, f0⟩ := bx2 w (.mk 1 n d s l) (.mk 1 n d s l) ao ao cap cap
 simp only [vlv, Vl.kd, Vl.nn, Vl.dd, Vl.ss, Vl.ll] at f0 p0 p1 ⊢
 obtain ⟨W, hW⟩ : ∃ W, ((w.alloc (.cells #[.int .i64 1, .int .i64 n, .int .i64 d, .string (bs s), .slice ao l.length cap] 28)).alloc (.cells #[.int .i64 1, .int .i64 n, .int .i64 d, .string (bs s), .slice ao l.length cap] 28)) = W := ⟨_, rfl⟩
 rw [hW] at f0 p0 p1
 have c0 := p0.c0; have c1 := p0.c1; have c2 := p0.c2; have c3 := p0.c3; have c4 := p0.c4
 have d0 := p1.c0; have d1 := p1.c1; have d2 := p1.c2; have d3 := p1.c3; have d4 := p1.c4
 have z0 := p1.f 0; have z1 := p1.f 1; have z2 := p1.f 2; have z3 := p1.f 3; have z4 := p1.f 4
 simp only [Vl.kd, Vl.nn, Vl.dd, Vl.ss, Vl.ll] at c0 c1 c2 c3 c4 d0 d1 d2 d3 d4
 have hne : ¬ (w.heap.size = w.heap.size + 1) := by omega
 have hne2 : ¬ (w.heap.size + 1 = w.heap.size) := by omega
 have hS : (s == []) = s.isEmpty := by cases s <;> rfl
 have hL := len0 l
 rcases (show n = 0 ∨ n = 1 ∨ ((n == 0) = false ∧ (n == 1) = false) by
  by_cases h0 : n = 0
  ·exact .inl h0
  ·by_cases h1 : n = 1
   ·exact .inr (.inl h1)
   ·exact .inr (.inr ⟨beq_eq_false_iff_ne.2 h0, beq_eq_false_iff_ne.2 h1⟩)) with rfl | rfl | ⟨g0, g1⟩
 all_goals
  go_enter Tryz.func98, Tryz.ntmps98
  go_upto_region 2 with fail
  clear hW
  go_wp2
  go_region
  all_goals go_wp2
  all_goals
   go_ret
   exact ⟨ret_bool (by (try unfold bareV); first | (simp_all; done) | (simp_all; omega) | (simp_all [bs_list]; done) | (simp_all [bs_list]; omega)), by first | assumption | exact fur_set f0 (by omega) | exact (fur_set f0 (by omega)).drew | exact fur_set (fur_set f0 (by omega)) (by omega)⟩
set_option maxHeartbeats 3200000 in
theorem lvk2 (n d : Int) (s : List UInt8) (l : List Vl) (ao : Option Addr) (cap : Nat) (m : Int) (w : World) : Calls Tryz.prog 98 #[vlv (.mk 2 n d s l) ao cap, .int .i64 m] w (RetB w (bareV n d s l true false false false && inB n)) := by
 obtain ⟨p0, p1, f0⟩ := bx2 w (.mk 2 n d s l) (.mk 2 n d s l) ao ao cap cap
 simp only [vlv, Vl.kd, Vl.nn, Vl.dd, Vl.ss, Vl.ll] at f0 p0 p1 ⊢
 obtain ⟨W, hW⟩ : ∃ W, ((w.alloc (.cells #[.int .i64 2, .int .i64 n, .int .i64 d, .string (bs s), .slice ao l.length cap] 28)).alloc (.cells #[.int .i64 2, .int .i64 n, .int .i64 d, .string (bs s), .slice ao l.length cap] 28)) = W := ⟨_, rfl⟩
 rw [hW] at f0 p0 p1
 have c0 := p0.c0; have c1 := p0.c1; have c2 := p0.c2; have c3 := p0.c3; have c4 := p0.c4
 have d0 := p1.c0; have d1 := p1.c1; have d2 := p1.c2; have d3 := p1.c3; have d4 := p1.c4
 have z0 := p1.f 0; have z1 := p1.f 1; have z2 := p1.f 2; have z3 := p1.f 3; have z4 := p1.f 4
 simp only [Vl.kd, Vl.nn, Vl.dd, Vl.ss, Vl.ll] at c0 c1 c2 c3 c4 d0 d1 d2 d3 d4
 have hne : ¬ (w.heap.size = w.heap.size + 1) := by omega
 have hne2 : ¬ (w.heap.size + 1 = w.heap.size) := by omega
 have hS : (s == []) = s.isEmpty := by cases s <;> rfl
 have hL := len0 l
 have IN := Lib.hid (fun w => num_in n w)
 generalize inB n = q at *
 go_enter Tryz.func98, Tryz.ntmps98
 go_upto_region 2 with fail
 clear hW
 go_wp2_with fail
 go_at_call 138; refine (IN.out _).mono ?_; rintro e2 w2 ⟨rfl, rfl⟩
 cases q
 all_goals
  go_wp2
  all_goals
   go_ret
   exact ⟨ret_bool (by (try unfold bareV); first | (simp_all; done) | (simp_all; omega) | (simp_all [bs_list]; done) | (simp_all [bs_list]; omega)), by first | assumption | exact fur_set f0 (by omega) | exact (fur_set f0 (by omega)).drew | exact fur_set (fur_set f0 (by omega)) (by omega)⟩
set_option maxHeartbeats 3200000 in
theorem lvk3 (n d : Int) (s : List UInt8) (l : List Vl) (ao : Option Addr) (cap : Nat) (m : Int) (w : World) : Calls Tryz.prog 98 #[vlv (.mk 3 n d s l) ao cap, .int .i64 m] w (RetB w (bareV n d s l true true false false && decide (2 ≤ d) && okF n d)) := by
 obtain ⟨p0, p1, f0⟩ := bx2 w (.mk 3 n d s l) (.mk 3 n d s l) ao ao cap cap
 simp only [vlv, Vl.kd, Vl.nn, Vl.dd, Vl.ss, Vl.ll] at f0 p0 p1 ⊢
 obtain ⟨W, hW⟩ : ∃ W, ((w.alloc (.cells #[.int .i64 3, .int .i64 n, .int .i64 d, .string (bs s), .slice ao l.length cap] 28)).alloc (.cells #[.int .i64 3, .int .i64 n, .int .i64 d, .string (bs s), .slice ao l.length cap] 28)) = W := ⟨_, rfl⟩
 rw [hW] at f0 p0 p1
 have c0 := p0.c0; have c1 := p0.c1; have c2 := p0.c2; have c3 := p0.c3; have c4 := p0.c4
 have d0 := p1.c0; have d1 := p1.c1; have d2 := p1.c2; have d3 := p1.c3; have d4 := p1.c4
 have z0 := p1.f 0; have z1 := p1.f 1; have z2 := p1.f 2; have z3 := p1.f 3; have z4 := p1.f 4
 simp only [Vl.kd, Vl.nn, Vl.dd, Vl.ss, Vl.ll] at c0 c1 c2 c3 c4 d0 d1 d2 d3 d4
 have hne : ¬ (w.heap.size = w.heap.size + 1) := by omega
 have hne2 : ¬ (w.heap.size + 1 = w.heap.size) := by omega
 have hS : (s == []) = s.isEmpty := by cases s <;> rfl
 have hL := len0 l
 have FR := Lib.hid (fun w => lfrac_any (.mk 3 n d s l) ao cap w)
 have VA := Lib.hid (fun w => nf_valid n d w)
 have e3 : frD 3 d = d := rfl
 simp only [vlv, Vl.kd, Vl.nn, Vl.dd, e3] at FR
 clear e3
 by_cases hd : 2 ≤ d
 ·rw [decide_eq_true hd, Bool.and_true]
  generalize okF n d = q at *
  go_enter Tryz.func98, Tryz.ntmps98
  go_upto_region 2 with fail
  clear hW
  go_wp2_with fail
  go_at_call 119; refine (FR.out _).mono ?_; rintro e2 w2 ⟨rfl, f2⟩
  go_wp2_with fail
  go_at_call 139; refine (VA.out _).mono ?_; rintro e3 w3 ⟨rfl, f3⟩
  clear c0 c1 c2 c3 c4 d0 d1 d2 d3 d4 z0 z1 z2 z3 z4
  replace f2 := f2.trans f3
  replace p0 := p0.on f2
  replace p1 := p1.on f2
  replace f0 := f0.trans f2
  clear f2 f3
  have c0 := p0.c0; have c1 := p0.c1; have c2 := p0.c2; have c3 := p0.c3; have c4 := p0.c4
  have d0 := p1.c0; have d1 := p1.c1; have d2 := p1.c2; have d3 := p1.c3; have d4 := p1.c4
  have z0 := p1.f 0; have z1 := p1.f 1; have z2 := p1.f 2; have z3 := p1.f 3; have z4 := p1.f 4
  simp only [Vl.kd, Vl.nn, Vl.dd, Vl.ss, Vl.ll] at c0 c1 c2 c3 c4 d0 d1 d2 d3 d4
  cases q
  all_goals
   go_wp2
   all_goals
    go_ret
    exact ⟨ret_bool (by (try unfold bareV); first | (simp_all; done) | (simp_all; omega) | (simp_all [bs_list]; done) | (simp_all [bs_list]; omega)), by first | assumption | exact fur_set f0 (by omega) | exact (fur_set f0 (by omega)).drew | exact fur_set (fur_set f0 (by omega)) (by omega)⟩
 ·rw [decide_eq_false hd, Bool.and_false, Bool.false_and]
  go_enter Tryz.func98, Tryz.ntmps98
  go_upto_region 2 with fail
  clear hW
  go_wp2
  all_goals
   go_ret
   exact ⟨ret_bool (by (try unfold bareV); first | (simp_all; done) | (simp_all; omega) | (simp_all [bs_list]; done) | (simp_all [bs_list]; omega)), by first | assumption | exact fur_set f0 (by omega) | exact (fur_set f0 (by omega)).drew | exact fur_set (fur_set f0 (by omega)) (by omega)⟩
set_option maxHeartbeats 3200000 in
theorem lvk4 (n d : Int) (s : List UInt8) (l : List Vl) (ao : Option Addr) (cap : Nat) (m : Int) (w : World) (hs : s.length ≤ maxLen) : Calls Tryz.prog 98 #[vlv (.mk 4 n d s l) ao cap, .int .i64 m] w (RetB w (bareV n d s l false false true false && okStr s)) := by
 obtain ⟨p0, p1, f0⟩ := bx2 w (.mk 4 n d s l) (.mk 4 n d s l) ao ao cap cap
 simp only [vlv, Vl.kd, Vl.nn, Vl.dd, Vl.ss, Vl.ll] at f0 p0 p1 ⊢
 obtain ⟨W, hW⟩ : ∃ W, ((w.alloc (.cells #[.int .i64 4, .int .i64 n, .int .i64 d, .string (bs s), .slice ao l.length cap] 28)).alloc (.cells #[.int .i64 4, .int .i64 n, .int .i64 d, .string (bs s), .slice ao l.length cap] 28)) = W := ⟨_, rfl⟩
 rw [hW] at f0 p0 p1
 have c0 := p0.c0; have c1 := p0.c1; have c2 := p0.c2; have c3 := p0.c3; have c4 := p0.c4
 have d0 := p1.c0; have d1 := p1.c1; have d2 := p1.c2; have d3 := p1.c3; have d4 := p1.c4
 have z0 := p1.f 0; have z1 := p1.f 1; have z2 := p1.f 2; have z3 := p1.f 3; have z4 := p1.f 4
 simp only [Vl.kd, Vl.nn, Vl.dd, Vl.ss, Vl.ll] at c0 c1 c2 c3 c4 d0 d1 d2 d3 d4
 have hne : ¬ (w.heap.size = w.heap.size + 1) := by omega
 have hne2 : ¬ (w.heap.size + 1 = w.heap.size) := by omega
 have hS : (s == []) = s.isEmpty := by cases s <;> rfl
 have hL := len0 l
 have ST := Lib.hid (fun w => lvstr_any (bs s) (by simpa [bs, ByteArray.size] using hs) w)
 rw [show (bs s).data.toList = s from rfl] at ST
 clear hs
 generalize okStr s = q at *
 go_enter Tryz.func98, Tryz.ntmps98
 go_upto_region 2 with fail
 clear hW
 go_wp2_with fail
 go_at_call 140; refine (ST.out _).mono ?_; rintro e2 w2 ⟨rfl, rfl⟩
 cases q
 all_goals
  go_wp2
  all_goals
   go_ret
   exact ⟨ret_bool (by (try unfold bareV); first | (simp_all; done) | (simp_all; omega) | (simp_all [bs_list]; done) | (simp_all [bs_list]; omega)), by first | assumption | exact fur_set f0 (by omega) | exact (fur_set f0 (by omega)).drew | exact fur_set (fur_set f0 (by omega)) (by omega)⟩
set_option maxHeartbeats 3200000 in
theorem lvk5 (n d : Int) (s : List UInt8) (l : List Vl) (ao : Option Addr) (cap : Nat) (m : Int) (w : World) : Calls Tryz.prog 98 #[vlv (.mk 5 n d s l) ao cap, .int .i64 m] w (RetB w (bareV n d s l true false false false && decide (1 ≤ n) && decide (n ≤ 1000000))) := by
 obtain ⟨p0, p1, f0⟩ := bx2 w (.mk 5 n d s l) (.mk 5 n d s l) ao ao cap cap
 simp only [vlv, Vl.kd, Vl.nn, Vl.dd, Vl.ss, Vl.ll] at f0 p0 p1 ⊢
 obtain ⟨W, hW⟩ : ∃ W, ((w.alloc (.cells #[.int .i64 5, .int .i64 n, .int .i64 d, .string (bs s), .slice ao l.length cap] 28)).alloc (.cells #[.int .i64 5, .int .i64 n, .int .i64 d, .string (bs s), .slice ao l.length cap] 28)) = W := ⟨_, rfl⟩
 rw [hW] at f0 p0 p1
 have c0 := p0.c0; have c1 := p0.c1; have c2 := p0.c2; have c3 := p0.c3; have c4 := p0.c4
 have d0 := p1.c0; have d1 := p1.c1; have d2 := p1.c2; have d3 := p1.c3; have d4 := p1.c4
 have z0 := p1.f 0; have z1 := p1.f 1; have z2 := p1.f 2; have z3 := p1.f 3; have z4 := p1.f 4
 simp only [Vl.kd, Vl.nn, Vl.dd, Vl.ss, Vl.ll] at c0 c1 c2 c3 c4 d0 d1 d2 d3 d4
 have hne : ¬ (w.heap.size = w.heap.size + 1) := by omega
 have hne2 : ¬ (w.heap.size + 1 = w.heap.size) := by omega
 have hS : (s == []) = s.isEmpty := by cases s <;> rfl
 have hL := len0 l
 rcases (show (¬ (1 ≤ n) ∧ decide (1 ≤ n) = false ∧ n < 1) ∨ (1 ≤ n ∧ n ≤ 1000000 ∧ decide (1 ≤ n) = true ∧ decide (n ≤ 1000000) = true) ∨ (1 ≤ n ∧ ¬ (n ≤ 1000000) ∧ decide (1 ≤ n) = true ∧ decide (n ≤ 1000000) = false ∧ 1000000 < n) by
  by_cases h : 1 ≤ n
  ·by_cases h' : n ≤ 1000000
   ·exact .inr (.inl ⟨h, h', decide_eq_true h, decide_eq_true h'⟩)
   ·exact .inr (.inr ⟨h, h', decide_eq_true h, decide_eq_false h', by omega⟩)
  ·exact .inl ⟨h, decide_eq_false h, by omega⟩) with ⟨g, g1, g2⟩ | ⟨g0, g1, g2, g3⟩ | ⟨g0, g1, g2, g3, g4⟩
 all_goals
  go_enter Tryz.func98, Tryz.ntmps98
  go_upto_region 2 with fail
  clear hW
  go_wp2
  go_region
  all_goals go_wp2
  all_goals
   go_ret
   exact ⟨ret_bool (by (try unfold bareV); first | (simp_all; done) | (simp_all; omega) | (simp_all [bs_list]; done) | (simp_all [bs_list]; omega)), by first | assumption | exact fur_set f0 (by omega) | exact (fur_set f0 (by omega)).drew | exact fur_set (fur_set f0 (by omega)) (by omega)⟩
set_option maxHeartbeats 3200000 in
theorem lvk6 (n d : Int) (s : List UInt8) (l : List Vl) (ao : Option Addr) (cap : Nat) (m : Int) (w : World) : Calls Tryz.prog 98 #[vlv (.mk 6 n d s l) ao cap, .int .i64 m] w (RetB w (bareV n d s l true false false false && decide (1 ≤ n) && decide (n ≤ 1000000))) := by
 obtain ⟨p0, p1, f0⟩ := bx2 w (.mk 6 n d s l) (.mk 6 n d s l) ao ao cap cap
 simp only [vlv, Vl.kd, Vl.nn, Vl.dd, Vl.ss, Vl.ll] at f0 p0 p1 ⊢
 obtain ⟨W, hW⟩ : ∃ W, ((w.alloc (.cells #[.int .i64 6, .int .i64 n, .int .i64 d, .string (bs s), .slice ao l.length cap] 28)).alloc (.cells #[.int .i64 6, .int .i64 n, .int .i64 d, .string (bs s), .slice ao l.length cap] 28)) = W := ⟨_, rfl⟩
 rw [hW] at f0 p0 p1
 have c0 := p0.c0; have c1 := p0.c1; have c2 := p0.c2; have c3 := p0.c3; have c4 := p0.c4
 have d0 := p1.c0; have d1 := p1.c1; have d2 := p1.c2; have d3 := p1.c3; have d4 := p1.c4
 have z0 := p1.f 0; have z1 := p1.f 1; have z2 := p1.f 2; have z3 := p1.f 3; have z4 := p1.f 4
 simp only [Vl.kd, Vl.nn, Vl.dd, Vl.ss, Vl.ll] at c0 c1 c2 c3 c4 d0 d1 d2 d3 d4
 have hne : ¬ (w.heap.size = w.heap.size + 1) := by omega
 have hne2 : ¬ (w.heap.size + 1 = w.heap.size) := by omega
 have hS : (s == []) = s.isEmpty := by cases s <;> rfl
 have hL := len0 l
 rcases (show (¬ (1 ≤ n) ∧ decide (1 ≤ n) = false ∧ n < 1) ∨ (1 ≤ n ∧ n ≤ 1000000 ∧ decide (1 ≤ n) = true ∧ decide (n ≤ 1000000) = true) ∨ (1 ≤ n ∧ ¬ (n ≤ 1000000) ∧ decide (1 ≤ n) = true ∧ decide (n ≤ 1000000) = false ∧ 1000000 < n) by
  by_cases h : 1 ≤ n
  ·by_cases h' : n ≤ 1000000
   ·exact .inr (.inl ⟨h, h', decide_eq_true h, decide_eq_true h'⟩)
   ·exact .inr (.inr ⟨h, h', decide_eq_true h, decide_eq_false h', by omega⟩)
  ·exact .inl ⟨h, decide_eq_false h, by omega⟩) with ⟨g, g1, g2⟩ | ⟨g0, g1, g2, g3⟩ | ⟨g0, g1, g2, g3, g4⟩
 all_goals
  go_enter Tryz.func98, Tryz.ntmps98
  go_upto_region 2 with fail
  clear hW
  go_wp2
  go_region
  all_goals go_wp2
  all_goals
   go_ret
   exact ⟨ret_bool (by (try unfold bareV); first | (simp_all; done) | (simp_all; omega) | (simp_all [bs_list]; done) | (simp_all [bs_list]; omega)), by first | assumption | exact fur_set f0 (by omega) | exact (fur_set f0 (by omega)).drew | exact fur_set (fur_set f0 (by omega)) (by omega)⟩
set_option maxHeartbeats 3200000 in
theorem lvk7 (n d : Int) (s : List UInt8) (l : List Vl) (ao : Option Addr) (cap : Nat) (m : Int) (w : World) (q : Bool) (HP : Hid (∀ w', Fur w w' → Calls Tryz.prog 142 #[.slice ao l.length cap] w' (RetB w' q))) : Calls Tryz.prog 98 #[vlv (.mk 7 n d s l) ao cap, .int .i64 m] w (RetB w (bareV n d s l false false false true && q)) := by
 obtain ⟨p0, p1, f0⟩ := bx2 w (.mk 7 n d s l) (.mk 7 n d s l) ao ao cap cap
 simp only [vlv, Vl.kd, Vl.nn, Vl.dd, Vl.ss, Vl.ll] at f0 p0 p1 ⊢
 obtain ⟨W, hW⟩ : ∃ W, ((w.alloc (.cells #[.int .i64 7, .int .i64 n, .int .i64 d, .string (bs s), .slice ao l.length cap] 28)).alloc (.cells #[.int .i64 7, .int .i64 n, .int .i64 d, .string (bs s), .slice ao l.length cap] 28)) = W := ⟨_, rfl⟩
 rw [hW] at f0 p0 p1
 have c0 := p0.c0; have c1 := p0.c1; have c2 := p0.c2; have c3 := p0.c3; have c4 := p0.c4
 have d0 := p1.c0; have d1 := p1.c1; have d2 := p1.c2; have d3 := p1.c3; have d4 := p1.c4
 have z0 := p1.f 0; have z1 := p1.f 1; have z2 := p1.f 2; have z3 := p1.f 3; have z4 := p1.f 4
 simp only [Vl.kd, Vl.nn, Vl.dd, Vl.ss, Vl.ll] at c0 c1 c2 c3 c4 d0 d1 d2 d3 d4
 have hne : ¬ (w.heap.size = w.heap.size + 1) := by omega
 have hne2 : ¬ (w.heap.size + 1 = w.heap.size) := by omega
 have hS : (s == []) = s.isEmpty := by cases s <;> rfl
 have hL := len0 l
 go_enter Tryz.func98, Tryz.ntmps98
 go_upto_region 2 with fail
 clear hW
 go_wp2_with fail
 go_at_call 142; refine (HP.out _ f0).mono ?_; rintro e2 w2 ⟨rfl, f2⟩
 clear c0 c1 c2 c3 c4 d0 d1 d2 d3 d4 z0 z1 z2 z3 z4
 replace p0 := p0.on f2
 replace p1 := p1.on f2
 replace f0 := f0.trans f2
 clear f2
 have c0 := p0.c0; have c1 := p0.c1; have c2 := p0.c2; have c3 := p0.c3; have c4 := p0.c4
 have d0 := p1.c0; have d1 := p1.c1; have d2 := p1.c2; have d3 := p1.c3; have d4 := p1.c4
 have z0 := p1.f 0; have z1 := p1.f 1; have z2 := p1.f 2; have z3 := p1.f 3; have z4 := p1.f 4
 simp only [Vl.kd, Vl.nn, Vl.dd, Vl.ss, Vl.ll] at c0 c1 c2 c3 c4 d0 d1 d2 d3 d4
 cases q
 all_goals
  go_wp2
  all_goals
   go_ret
   exact ⟨ret_bool (by (try unfold bareV); first | (simp_all; done) | (simp_all; omega) | (simp_all [bs_list]; done) | (simp_all [bs_list]; omega)), by first | assumption | exact fur_set f0 (by omega) | exact (fur_set f0 (by omega)).drew | exact fur_set (fur_set f0 (by omega)) (by omega)⟩
set_option maxHeartbeats 3200000 in
theorem lvk8 (n d : Int) (s : List UInt8) (l : List Vl) (ao : Option Addr) (cap : Nat) (m : Int) (w : World) (q : Bool) (HP : Hid (∀ w', Fur w w' → Calls Tryz.prog 141 #[.slice ao l.length cap, .int .i64 m] w' (RetB w' q))) : Calls Tryz.prog 98 #[vlv (.mk 8 n d s l) ao cap, .int .i64 m] w (RetB w (bareV n d s l false false false true && q)) := by
 obtain ⟨p0, p1, f0⟩ := bx2 w (.mk 8 n d s l) (.mk 8 n d s l) ao ao cap cap
 simp only [vlv, Vl.kd, Vl.nn, Vl.dd, Vl.ss, Vl.ll] at f0 p0 p1 ⊢
 obtain ⟨W, hW⟩ : ∃ W, ((w.alloc (.cells #[.int .i64 8, .int .i64 n, .int .i64 d, .string (bs s), .slice ao l.length cap] 28)).alloc (.cells #[.int .i64 8, .int .i64 n, .int .i64 d, .string (bs s), .slice ao l.length cap] 28)) = W := ⟨_, rfl⟩
 rw [hW] at f0 p0 p1
 have c0 := p0.c0; have c1 := p0.c1; have c2 := p0.c2; have c3 := p0.c3; have c4 := p0.c4
 have d0 := p1.c0; have d1 := p1.c1; have d2 := p1.c2; have d3 := p1.c3; have d4 := p1.c4
 have z0 := p1.f 0; have z1 := p1.f 1; have z2 := p1.f 2; have z3 := p1.f 3; have z4 := p1.f 4
 simp only [Vl.kd, Vl.nn, Vl.dd, Vl.ss, Vl.ll] at c0 c1 c2 c3 c4 d0 d1 d2 d3 d4
 have hne : ¬ (w.heap.size = w.heap.size + 1) := by omega
 have hne2 : ¬ (w.heap.size + 1 = w.heap.size) := by omega
 have hS : (s == []) = s.isEmpty := by cases s <;> rfl
 have hL := len0 l
 go_enter Tryz.func98, Tryz.ntmps98
 go_upto_region 2 with fail
 clear hW
 go_wp2_with fail
 go_at_call 141; refine (HP.out _ f0).mono ?_; rintro e2 w2 ⟨rfl, f2⟩
 clear c0 c1 c2 c3 c4 d0 d1 d2 d3 d4 z0 z1 z2 z3 z4
 replace p0 := p0.on f2
 replace p1 := p1.on f2
 replace f0 := f0.trans f2
 clear f2
 have c0 := p0.c0; have c1 := p0.c1; have c2 := p0.c2; have c3 := p0.c3; have c4 := p0.c4
 have d0 := p1.c0; have d1 := p1.c1; have d2 := p1.c2; have d3 := p1.c3; have d4 := p1.c4
 have z0 := p1.f 0; have z1 := p1.f 1; have z2 := p1.f 2; have z3 := p1.f 3; have z4 := p1.f 4
 simp only [Vl.kd, Vl.nn, Vl.dd, Vl.ss, Vl.ll] at c0 c1 c2 c3 c4 d0 d1 d2 d3 d4
 cases q
 all_goals
  go_wp2
  all_goals
   go_ret
   exact ⟨ret_bool (by (try unfold bareV); first | (simp_all; done) | (simp_all; omega) | (simp_all [bs_list]; done) | (simp_all [bs_list]; omega)), by first | assumption | exact fur_set f0 (by omega) | exact (fur_set f0 (by omega)).drew | exact fur_set (fur_set f0 (by omega)) (by omega)⟩
set_option maxHeartbeats 3200000 in
theorem lvk_no (x : Vl) (ao : Option Addr) (cap : Nat) (m : Int) (w : World) (h : ∀ j : Nat, j < 9 → x.kd ≠ j) : Calls Tryz.prog 98 #[vlv x ao cap, .int .i64 m] w (RetB w false) := by
 obtain ⟨p0, p1, f0⟩ := bx2 w x x ao ao cap cap
 have g0 : (x.kd == 0) = false := beq_eq_false_iff_ne.2 (h 0 (by decide))
 have g1 : (x.kd == 1) = false := beq_eq_false_iff_ne.2 (h 1 (by decide))
 have g2 : (x.kd == 2) = false := beq_eq_false_iff_ne.2 (h 2 (by decide))
 have g3 : (x.kd == 3) = false := beq_eq_false_iff_ne.2 (h 3 (by decide))
 have g4 : (x.kd == 4) = false := beq_eq_false_iff_ne.2 (h 4 (by decide))
 have g5 : (x.kd == 5) = false := beq_eq_false_iff_ne.2 (h 5 (by decide))
 have g6 : (x.kd == 6) = false := beq_eq_false_iff_ne.2 (h 6 (by decide))
 have g7 : (x.kd == 7) = false := beq_eq_false_iff_ne.2 (h 7 (by decide))
 have g8 : (x.kd == 8) = false := beq_eq_false_iff_ne.2 (h 8 (by decide))
 clear h
 unfold vlv
 have c0 := p0.c0
 go_enter Tryz.func98, Tryz.ntmps98
 go_wp2
 go_ret
 exact ⟨rfl, f0⟩
end Go.Proofs.YtpamdlkagmlahaaGreatDoor
