import Derived.Test.YtpamdlkagmlahaaGreatDoorK01
import Derived.Test.YtpamdlkagmlahaaGreatDoorK00
import Derived.Test.YtpamdlkagmlahaaGreatDoorK08
namespace Go.Proofs.YtpamdlkagmlahaaGreatDoor
open Go.RowKit
theorem rsize_any (n : Int) (h : -9223372036854775807 ≤ n) (h' : n ≤ 9223372036854775807) (w : World) : Calls Tryz.prog 149 #[.int .i64 n] w fun e w' => e = .returned (.int .i64 (n.natAbs : Int)) ∧ w' = w := by
 by_cases hn : n < 0
 ·have e : (n.natAbs : Int) = -n := by omega
  rw [e]; clear e
  go_enter Tryz.func149, Tryz.ntmps149
  go_wp2
  go_ret
  exact ⟨rfl, rfl⟩
 ·have e : (n.natAbs : Int) = n := by omega
  rw [e]; clear e
  have hn' : 0 ≤ n := by omega
  clear hn
  go_enter Tryz.func149, Tryz.ntmps149
  go_wp2
  go_ret
  exact ⟨rfl, rfl⟩
theorem rsign_any (n : Int) (w : World) : Calls Tryz.prog 147 #[.int .i64 n] w fun e w' => e = .returned (.int .i64 n.sign) ∧ w' = w := by
 rcases Int.lt_trichotomy n 0 with hn | hn | hn
 ·rw [Int.sign_eq_neg_one_of_neg hn]
  go_enter Tryz.func147, Tryz.ntmps147
  go_wp2
  go_ret
  exact ⟨rfl, rfl⟩
 ·subst hn
  go_enter Tryz.func147, Tryz.ntmps147
  go_wp2
  go_ret
  exact ⟨rfl, rfl⟩
 ·rw [Int.sign_eq_one_of_pos hn]
  have hn' : ¬ n < 0 := by omega
  go_enter Tryz.func147, Tryz.ntmps147
  go_wp2
  go_ret
  exact ⟨rfl, rfl⟩
def RetQ (w : World) (n : Int) (e : Ending) (w' : World) : Prop := ∃ q, e = .returned (.int .i64 n) ∧ w' = w.drewN q
theorem gcd_round {x y : Nat} : Nat.gcd y (x % y) = Nat.gcd x y := by
 rw [Nat.gcd_comm x y, Nat.gcd_rec y x, Nat.gcd_comm]
set_option maxHeartbeats 800000 in
theorem rgcd_any (a b : Nat) (ha : a ≤ 9223372036854775807) (hb : b ≤ 9223372036854775807) (w : World) : Calls Tryz.prog 192 #[.int .i64 a, .int .i64 b] w (RetQ w (Nat.gcd a b : Nat)) := by
 go_enter Tryz.func192, Tryz.ntmps192
 go_wp2
 go_loopw [0, 1] (fun x y wr => ∃ p q : Nat, x = .int .i64 p ∧ y = .int .i64 q ∧ p ≤ 9223372036854775807 ∧ q ≤ 9223372036854775807 ∧ Hid (Nat.gcd p q = Nat.gcd a b) ∧ ∃ n, wr = w.drewN n) (fun _ y _ => (RowKit.intOf y).toNat)
 case atStart => exact ⟨a, b, rfl, rfl, ha, hb, rfl, 0, rfl⟩
 case round =>
  obtain ⟨p, q, rfl, rfl, c1, c2, HG, n, rfl⟩ := hrel
  by_cases hq : q = 0
  ·subst hq
   have HP := Lib.hid (show ((Nat.gcd a b : Nat) : Int) = (p : Int) by rw [← HG.out, Nat.gcd_zero_right])
   go_wp2
   go_ret
   exact ⟨n, ret_int HP.out.symm, rfl⟩
  ·have hq0 : 0 < q := by omega
   have hne : ((q : Int) != 0) = true := by rw [bne_iff_ne]; omega
   have hlt := Nat.mod_lt p hq0
   have HG2 := Lib.hid (gcd_round.trans HG.out)
   clear hq
   go_wp2
   go_region
   go_wp2
   go_roundw
   case rel => exact ⟨q, p % q, rfl, by go_num, by omega, by omega, HG2.out, n + 1, rfl⟩
   case measure => simp [RowKit.intOf]; omega
end Go.Proofs.YtpamdlkagmlahaaGreatDoor
namespace Go.Proofs.YtpamdlkagmlahaaGreatDoor
open Go.RowKit
theorem rsize_q (n : Int) (h : -9223372036854775807 ≤ n) (h' : n ≤ 9223372036854775807) (w : World) (k : Nat) : Calls Tryz.prog 149 #[.int .i64 n] (w.drewN k) fun e w' => e = .returned (.int .i64 (n.natAbs : Int)) ∧ ∃ m, w' = w.drewN m :=
 Calls.quiet_of_same (rsize_any n h h' _)
theorem rgcd_q (a b : Nat) (ha : a ≤ 9223372036854775807) (hb : b ≤ 9223372036854775807) (w : World) (k : Nat) : Calls Tryz.prog 192 #[.int .i64 a, .int .i64 b] (w.drewN k) fun e w' => e = .returned (.int .i64 (Nat.gcd a b : Nat)) ∧ ∃ m, w' = w.drewN m :=
 Calls.quiet_of ((rgcd_any a b ha hb _).mono fun _ _ ⟨q, he, hw⟩ => ⟨he, q, hw⟩)
set_option maxHeartbeats 1600000 in
theorem rvalid_any (n d : Int) (w : World) :
  Calls Tryz.prog 145 #[.agg #[.int .i64 n, .int .i64 d]] w (RetB w (okF n d)) := by
 have fin : ∀ k, Fur w ((w.alloc (Obj.cells #[Value.int IntKind.i64 n, Value.int IntKind.i64 d] 122)).drewN k) := fun k => ((Fur.refl w).alloc _).trans (fur_drewN _ k)
 have FIN := Lib.hid fin
 clear fin
 by_cases h1 : 1 ≤ d
 rotate_left
 ·have e : okF n d = false := by unfold okF; rw [decide_eq_false h1]; rfl
  have g1 : decide (1 ≤ d) = false := decide_eq_false h1
  rw [e]; clear e h1
  go_enter Tryz.func145, Tryz.ntmps145
  go_wp2
  go_quiet (fail)
  go_wp2
  go_ret
  exact ⟨rfl, FIN.out _⟩
 have g1 : decide (1 ≤ d) = true := decide_eq_true h1
 by_cases h2 : d ≤ 1000000000000000
 rotate_left
 ·have e : okF n d = false := by unfold okF; rw [decide_eq_false h2, Bool.and_false]; rfl
  have g2 : decide (d ≤ 1000000000000000) = false := decide_eq_false h2
  rw [e]; clear e h1 h2
  go_enter Tryz.func145, Tryz.ntmps145
  go_wp2
  go_quiet (fail)
  go_wp2
  go_ret
  exact ⟨rfl, FIN.out _⟩
 have g2 : decide (d ≤ 1000000000000000) = true := decide_eq_true h2
 by_cases h3 : -1000000000000000 ≤ n
 rotate_left
 ·have e : okF n d = false := by unfold okF; rw [decide_eq_false h3, Bool.and_false]; rfl
  have g3 : decide (-1000000000000000 ≤ n) = false := decide_eq_false h3
  rw [e]; clear e h1 h2 h3
  go_enter Tryz.func145, Tryz.ntmps145
  go_wp2
  go_quiet (fail)
  go_wp2
  go_ret
  exact ⟨rfl, FIN.out _⟩
 have g3 : decide (-1000000000000000 ≤ n) = true := decide_eq_true h3
 by_cases h4 : n ≤ 1000000000000000
 rotate_left
 ·have e : okF n d = false := by unfold okF; rw [decide_eq_false h4, Bool.and_false]; rfl
  have g4 : decide (n ≤ 1000000000000000) = false := decide_eq_false h4
  rw [e]; clear e h1 h2 h3 h4
  go_enter Tryz.func145, Tryz.ntmps145
  go_wp2
  go_quiet (fail)
  go_wp2
  go_ret
  exact ⟨rfl, FIN.out _⟩
 have g4 : decide (n ≤ 1000000000000000) = true := decide_eq_true h4
 obtain ⟨D, rfl⟩ : ∃ D : Nat, d = (D : Int) := ⟨d.toNat, by omega⟩
 have CS := Lib.hid (fun k => rsize_q n (by omega) (by omega) (w.alloc (Obj.cells #[Value.int IntKind.i64 n, Value.int IntKind.i64 (D : Int)] 122)) k)
 have CG := Lib.hid (fun k => rgcd_q n.natAbs D (by omega) (by omega) (w.alloc (Obj.cells #[Value.int IntKind.i64 n, Value.int IntKind.i64 (D : Int)] 122)) k)
 have HE := Lib.hid (show okF n (D : Int) = (((Nat.gcd n.natAbs D : Nat) : Int) == 1) by
  unfold okF
  rw [g1, g2, g3, g4, Int.toNat_natCast, Bool.true_and, Bool.true_and, Bool.true_and, Bool.true_and]
  by_cases h : Nat.gcd n.natAbs D = 1
  ·rw [decide_eq_true h, h]; rfl
  ·rw [decide_eq_false h]
   exact (beq_eq_false_iff_ne.2 (by omega)).symm)
 generalize Nat.gcd n.natAbs D = g at CG HE
 rw [HE.out]
 clear h1 h2 h3 h4 HE
 go_enter Tryz.func145, Tryz.ntmps145
 go_wp2
 go_quiet (first | (go_at_call 149; exact CS.out _) | (go_at_call 192; exact CG.out _))
 go_wp2
 go_ret
 exact ⟨rfl, FIN.out _⟩
end Go.Proofs.YtpamdlkagmlahaaGreatDoor
namespace Go.Proofs.YtpamdlkagmlahaaGreatDoor
open Go.RowKit
set_option maxHeartbeats 1600000 in
theorem rvk0 (n d : Int) (s : List UInt8) (l : List Vl) (ao : Option Addr) (cap : Nat) (m : Int) (w : World) : Calls Tryz.prog 105 #[vlv (.mk 0 n d s l) ao cap, .int .i64 m] w (RetB w (okFlat 0 n d s l)) := by
 obtain ⟨p0, f0⟩ := bx1 w (.mk 0 n d s l) ao cap
 have B := Lib.hid (fun w => rbare_any (.mk 0 n d s l) ao cap w false false false false)
 have e : okFlat 0 n d s l = bareV n d s l false false false false := by simp [okFlat]
 rw [e]; clear e
 simp only [vlv, Vl.kd, Vl.nn, Vl.dd, Vl.ss, Vl.ll] at B f0 ⊢
 generalize bareV n d s l false false false false = q at B
 go_enter Tryz.func105, Tryz.ntmps105
 go_wp2_with fail
 go_at_call 150; refine (B.out _).mono ?_; rintro e1 w1 ⟨rfl, f1⟩
 go_wp2
 go_ret
 exact ⟨rfl, f0.trans f1⟩
set_option maxHeartbeats 1600000 in
theorem rvk1 (n d : Int) (s : List UInt8) (l : List Vl) (ao : Option Addr) (cap : Nat) (m : Int) (w : World) : Calls Tryz.prog 105 #[vlv (.mk 1 n d s l) ao cap, .int .i64 m] w (RetB w (okFlat 1 n d s l)) := by
 obtain ⟨p0, f0⟩ := bx1 w (.mk 1 n d s l) ao cap
 have B := Lib.hid (fun w => rbare_any (.mk 1 n d s l) ao cap w true false false false)
 have e : okFlat 1 n d s l = (bareV n d s l true false false false && (n == 0 || n == 1)) := by simp [okFlat]
 rw [e]; clear e
 simp only [vlv, Vl.kd, Vl.nn, Vl.dd, Vl.ss, Vl.ll] at B f0 ⊢
 generalize bareV n d s l true false false false = q at B
 cases q
 ·go_enter Tryz.func105, Tryz.ntmps105
  go_wp2_with fail
  go_at_call 150; refine (B.out _).mono ?_; rintro e1 w1 ⟨rfl, f1⟩
  go_wp2
  go_ret
  exact ⟨rfl, f0.trans f1⟩
 ·go_enter Tryz.func105, Tryz.ntmps105
  go_wp2_with fail
  go_at_call 150; refine (B.out _).mono ?_; rintro e1 w1 ⟨rfl, f1⟩
  have c1 := (p0.on f1).c1
  simp only [Vl.nn] at c1
  go_wp2
  all_goals
   go_ret
   exact ⟨ret_bool (by first | (simp_all; done) | (rw [Bool.eq_iff_iff]; simp; omega)), f0.trans f1⟩
set_option maxHeartbeats 1600000 in
theorem rvk2 (n d : Int) (s : List UInt8) (l : List Vl) (ao : Option Addr) (cap : Nat) (m : Int) (w : World) : Calls Tryz.prog 105 #[vlv (.mk 2 n d s l) ao cap, .int .i64 m] w (RetB w (okFlat 2 n d s l)) := by
 obtain ⟨p0, f0⟩ := bx1 w (.mk 2 n d s l) ao cap
 have B := Lib.hid (fun w => rbare_any (.mk 2 n d s l) ao cap w true false false false)
 have e : okFlat 2 n d s l = (bareV n d s l true false false false && inV n) := by simp [okFlat, inV]
 rw [e]; clear e
 simp only [vlv, Vl.kd, Vl.nn, Vl.dd, Vl.ss, Vl.ll] at B f0 ⊢
 have IN := Lib.hid (fun w => rin_any n w)
 generalize bareV n d s l true false false false = q at B
 cases q
 ·go_enter Tryz.func105, Tryz.ntmps105
  go_wp2_with fail
  go_at_call 150; refine (B.out _).mono ?_; rintro e1 w1 ⟨rfl, f1⟩
  go_wp2
  go_ret
  exact ⟨rfl, f0.trans f1⟩
 ·go_enter Tryz.func105, Tryz.ntmps105
  go_wp2_with fail
  go_at_call 150; refine (B.out _).mono ?_; rintro e1 w1 ⟨rfl, f1⟩
  have c1 := (p0.on f1).c1
  simp only [Vl.nn] at c1
  go_wp2_with fail
  go_at_call 151; refine (IN.out _).mono ?_; rintro e2 w2 ⟨rfl, rfl⟩
  go_wp2
  go_ret
  exact ⟨ret_bool (by simp), f0.trans f1⟩
set_option maxHeartbeats 1600000 in
theorem rvk3 (n d : Int) (s : List UInt8) (l : List Vl) (ao : Option Addr) (cap : Nat) (m : Int) (w : World) : Calls Tryz.prog 105 #[vlv (.mk 3 n d s l) ao cap, .int .i64 m] w (RetB w (okFlat 3 n d s l)) := by
 obtain ⟨p0, f0⟩ := bx1 w (.mk 3 n d s l) ao cap
 have B := Lib.hid (fun w => rbare_any (.mk 3 n d s l) ao cap w true true false false)
 have e : okFlat 3 n d s l = (bareV n d s l true true false false && decide (2 ≤ d) && okF n d) := by simp [okFlat]
 rw [e]; clear e
 simp only [vlv, Vl.kd, Vl.nn, Vl.dd, Vl.ss, Vl.ll] at B f0 ⊢
 have VA := Lib.hid (fun w => rvalid_any n d w)
 generalize bareV n d s l true true false false = q at B
 cases q
 ·go_enter Tryz.func105, Tryz.ntmps105
  go_wp2_with fail
  go_at_call 150; refine (B.out _).mono ?_; rintro e1 w1 ⟨rfl, f1⟩
  go_wp2
  go_ret
  exact ⟨rfl, f0.trans f1⟩
 ·go_enter Tryz.func105, Tryz.ntmps105
  go_wp2_with fail
  go_at_call 150; refine (B.out _).mono ?_; rintro e1 w1 ⟨rfl, f1⟩
  have c1 := (p0.on f1).c1
  simp only [Vl.nn] at c1
  have c2 := (p0.on f1).c2
  simp only [Vl.dd] at c2
  by_cases hd : 2 ≤ d
  ·have g : decide (2 ≤ d) = true := decide_eq_true hd
   go_wp2_with fail
   go_at_call 145; refine (VA.out _).mono ?_; rintro e2 w2 ⟨rfl, f2⟩
   go_wp2
   go_ret
   exact ⟨ret_bool (by rw [g]; simp), (f0.trans f1).trans f2⟩
  ·have g : decide (2 ≤ d) = false := decide_eq_false hd
   go_wp2
   go_ret
   exact ⟨ret_bool (by rw [g]; simp), f0.trans f1⟩
set_option maxHeartbeats 1600000 in
theorem rvk4 (n d : Int) (s : List UInt8) (l : List Vl) (ao : Option Addr) (cap : Nat) (m : Int) (w : World) (hs : s.length ≤ maxLen) : Calls Tryz.prog 105 #[vlv (.mk 4 n d s l) ao cap, .int .i64 m] w (RetB w (okFlat 4 n d s l)) := by
 obtain ⟨p0, f0⟩ := bx1 w (.mk 4 n d s l) ao cap
 have B := Lib.hid (fun w => rbare_any (.mk 4 n d s l) ao cap w false false true false)
 have e : okFlat 4 n d s l = (bareV n d s l false false true false && okStr s) := by simp [okFlat]
 rw [e]; clear e
 simp only [vlv, Vl.kd, Vl.nn, Vl.dd, Vl.ss, Vl.ll] at B f0 ⊢
 have ST := Lib.hid (fun w => rstr_any (bs s) (by simpa [bs, ByteArray.size] using hs) w)
 rw [show (bs s).data.toList = s from rfl] at ST
 generalize bareV n d s l false false true false = q at B
 cases q
 ·go_enter Tryz.func105, Tryz.ntmps105
  go_wp2_with fail
  go_at_call 150; refine (B.out _).mono ?_; rintro e1 w1 ⟨rfl, f1⟩
  go_wp2
  go_ret
  exact ⟨rfl, f0.trans f1⟩
 ·go_enter Tryz.func105, Tryz.ntmps105
  go_wp2_with fail
  go_at_call 150; refine (B.out _).mono ?_; rintro e1 w1 ⟨rfl, f1⟩
  have c3 := (p0.on f1).c3
  simp only [Vl.ss] at c3
  go_wp2_with fail
  go_at_call 152; refine (ST.out _).mono ?_; rintro e2 w2 ⟨rfl, rfl⟩
  go_wp2
  go_ret
  exact ⟨ret_bool (by simp), f0.trans f1⟩
set_option maxHeartbeats 1600000 in
theorem rvk5 (n d : Int) (s : List UInt8) (l : List Vl) (ao : Option Addr) (cap : Nat) (m : Int) (w : World) : Calls Tryz.prog 105 #[vlv (.mk 5 n d s l) ao cap, .int .i64 m] w (RetB w (okFlat 5 n d s l)) := by
 obtain ⟨p0, f0⟩ := bx1 w (.mk 5 n d s l) ao cap
 have B := Lib.hid (fun w => rbare_any (.mk 5 n d s l) ao cap w true false false false)
 have e : okFlat 5 n d s l = (bareV n d s l true false false false && decide (1 ≤ n) && decide (n ≤ 1000000)) := by simp [okFlat]
 rw [e]; clear e
 simp only [vlv, Vl.kd, Vl.nn, Vl.dd, Vl.ss, Vl.ll] at B f0 ⊢
 generalize bareV n d s l true false false false = q at B
 cases q
 ·go_enter Tryz.func105, Tryz.ntmps105
  go_wp2_with fail
  go_at_call 150; refine (B.out _).mono ?_; rintro e1 w1 ⟨rfl, f1⟩
  go_wp2
  go_ret
  exact ⟨rfl, f0.trans f1⟩
 ·go_enter Tryz.func105, Tryz.ntmps105
  go_wp2_with fail
  go_at_call 150; refine (B.out _).mono ?_; rintro e1 w1 ⟨rfl, f1⟩
  have c1 := (p0.on f1).c1
  simp only [Vl.nn] at c1
  go_wp2
  all_goals
   go_ret
   exact ⟨ret_bool (by first | (simp_all; done) | (rw [Bool.eq_iff_iff]; simp; omega)), f0.trans f1⟩
set_option maxHeartbeats 1600000 in
theorem rvk6 (n d : Int) (s : List UInt8) (l : List Vl) (ao : Option Addr) (cap : Nat) (m : Int) (w : World) : Calls Tryz.prog 105 #[vlv (.mk 6 n d s l) ao cap, .int .i64 m] w (RetB w (okFlat 6 n d s l)) := by
 obtain ⟨p0, f0⟩ := bx1 w (.mk 6 n d s l) ao cap
 have B := Lib.hid (fun w => rbare_any (.mk 6 n d s l) ao cap w true false false false)
 have e : okFlat 6 n d s l = (bareV n d s l true false false false && decide (1 ≤ n) && decide (n ≤ 1000000)) := by simp [okFlat]
 rw [e]; clear e
 simp only [vlv, Vl.kd, Vl.nn, Vl.dd, Vl.ss, Vl.ll] at B f0 ⊢
 generalize bareV n d s l true false false false = q at B
 cases q
 ·go_enter Tryz.func105, Tryz.ntmps105
  go_wp2_with fail
  go_at_call 150; refine (B.out _).mono ?_; rintro e1 w1 ⟨rfl, f1⟩
  go_wp2
  go_ret
  exact ⟨rfl, f0.trans f1⟩
 ·go_enter Tryz.func105, Tryz.ntmps105
  go_wp2_with fail
  go_at_call 150; refine (B.out _).mono ?_; rintro e1 w1 ⟨rfl, f1⟩
  have c1 := (p0.on f1).c1
  simp only [Vl.nn] at c1
  go_wp2
  all_goals
   go_ret
   exact ⟨ret_bool (by first | (simp_all; done) | (rw [Bool.eq_iff_iff]; simp; omega)), f0.trans f1⟩
set_option maxHeartbeats 1600000 in
theorem rvk7 (n d : Int) (s : List UInt8) (l : List Vl) (ao : Option Addr) (cap : Nat) (m : Int) (w : World) (p : Bool) (HP : Hid (∀ w', Fur w w' → Calls Tryz.prog 153 #[.slice ao l.length cap] w' (RetB w' p))) : Calls Tryz.prog 105 #[vlv (.mk 7 n d s l) ao cap, .int .i64 m] w (RetB w (bareV n d s l false false false true && p)) := by
 obtain ⟨p0, f0⟩ := bx1 w (.mk 7 n d s l) ao cap
 have B := Lib.hid (fun w => rbare_any (.mk 7 n d s l) ao cap w false false false true)
 simp only [vlv, Vl.kd, Vl.nn, Vl.dd, Vl.ss, Vl.ll] at B f0 ⊢
 generalize bareV n d s l false false false true = q at B
 cases q
 ·go_enter Tryz.func105, Tryz.ntmps105
  go_wp2_with fail
  go_at_call 150; refine (B.out _).mono ?_; rintro e1 w1 ⟨rfl, f1⟩
  go_wp2
  go_ret
  exact ⟨rfl, f0.trans f1⟩
 ·go_enter Tryz.func105, Tryz.ntmps105
  go_wp2_with fail
  go_at_call 150; refine (B.out _).mono ?_; rintro e1 w1 ⟨rfl, f1⟩
  have c4 := (p0.on f1).c4
  simp only [Vl.ll] at c4
  go_wp2_with fail
  go_at_call 153; refine (HP.out _ (f0.trans f1)).mono ?_; rintro e2 w2 ⟨rfl, f2⟩
  go_wp2
  go_ret
  exact ⟨ret_bool (by simp), (f0.trans f1).trans f2⟩
set_option maxHeartbeats 1600000 in
theorem rvk8 (n d : Int) (s : List UInt8) (l : List Vl) (ao : Option Addr) (cap : Nat) (m : Int) (w : World) (p : Bool) (HP : Hid (∀ w', Fur w w' → Calls Tryz.prog 154 #[.slice ao l.length cap, .int .i64 m] w' (RetB w' p))) : Calls Tryz.prog 105 #[vlv (.mk 8 n d s l) ao cap, .int .i64 m] w (RetB w (bareV n d s l false false false true && p)) := by
 obtain ⟨p0, f0⟩ := bx1 w (.mk 8 n d s l) ao cap
 have B := Lib.hid (fun w => rbare_any (.mk 8 n d s l) ao cap w false false false true)
 simp only [vlv, Vl.kd, Vl.nn, Vl.dd, Vl.ss, Vl.ll] at B f0 ⊢
 generalize bareV n d s l false false false true = q at B
 cases q
 ·go_enter Tryz.func105, Tryz.ntmps105
  go_wp2_with fail
  go_at_call 150; refine (B.out _).mono ?_; rintro e1 w1 ⟨rfl, f1⟩
  go_wp2
  go_ret
  exact ⟨rfl, f0.trans f1⟩
 ·go_enter Tryz.func105, Tryz.ntmps105
  go_wp2_with fail
  go_at_call 150; refine (B.out _).mono ?_; rintro e1 w1 ⟨rfl, f1⟩
  have c4 := (p0.on f1).c4
  simp only [Vl.ll] at c4
  go_wp2_with fail
  go_at_call 154; refine (HP.out _ (f0.trans f1)).mono ?_; rintro e2 w2 ⟨rfl, f2⟩
  go_wp2
  go_ret
  exact ⟨ret_bool (by simp), (f0.trans f1).trans f2⟩
set_option maxHeartbeats 1600000 in
theorem rvk_no (x : Vl) (ao : Option Addr) (cap : Nat) (m : Int) (w : World) (h : ∀ j : Nat, j < 9 → x.kd ≠ j) : Calls Tryz.prog 105 #[vlv x ao cap, .int .i64 m] w (RetB w false) := by
 obtain ⟨p0, f0⟩ := bx1 w x ao cap
 have g0 : (x.kd == 0) = false := beq_eq_false_iff_ne.2 (h 0 (by decide))
 have g1 : (x.kd == 1) = false := beq_eq_false_iff_ne.2 (h 1 (by decide))
 have g2 : (x.kd == 2) = false := beq_eq_false_iff_ne.2 (h 2 (by decide))
 have g3 : (x.kd == 3) = false := beq_eq_false_iff_ne.2 (h 3 (by decide))
 have g4 : (x.kd == 4) = false := beq_eq_false_iff_ne.2 (h 4 (by decide))
 have g5 : (x.kd == 5) = false := beq_eq_false_iff_ne.2 (h 5 (by decide))
 have g6 : (x.kd == 6) = false := beq_eq_false_iff_ne.2 (h 6 (by decide))
 have g7 : (x.kd == 7) = false := beq_eq_false_iff_ne.2 (h 7 (by decide))
 have g8 : (x.kd == 8) = false := beq_eq_false_iff_ne.2 (h 8 (by decide))
 clear h
 unfold vlv
 go_enter Tryz.func105, Tryz.ntmps105
 go_wp2
 go_ret
 exact ⟨rfl, f0⟩
end Go.Proofs.YtpamdlkagmlahaaGreatDoor
namespace Go.Proofs.YtpamdlkagmlahaaGreatDoor
open Go.RowKit
def VP (m : Nat) : Prop := ∀ (x : Vl) (ao : Option Addr) (cap : Nat) (w : World), Vin x → SlV w ao x.ll cap → Calls Tryz.prog 105 #[vlv x ao cap, .int .i64 (m : Int)] w (RetB w (okV m x))
set_option maxHeartbeats 3200000 in
theorem rlist_any (m : Nat) (hm : m < 1000) (hv : VP m) (l : List Vl) (ao : Option Addr) (cap : Nat) (w : World) (hs : SlV w ao l cap) :
  Calls Tryz.prog 154 #[.slice ao l.length cap, .int .i64 ((m + 1 : Nat) : Int)] w (RetB w (decide (l.length ≤ 64) && okVs m l)) := by
 have HV := Lib.hid hv
 have HS := Lib.hid hs
 have hl := hs.le
 have hx := hs.max
 unfold maxLen at hx
 clear hv hs
 by_cases h64 : l.length ≤ 64
 rotate_left
 ·have h64' : 64 < l.length := by omega
  rw [decide_eq_false h64]
  clear h64
  go_enter Tryz.func154, Tryz.ntmps154
  go_wp2
  go_ret
  exact ⟨rfl, Fur.refl _⟩
 ·rw [decide_eq_true h64, Bool.true_and]
  go_enter Tryz.func154, Tryz.ntmps154
  go_wp2
  go_loopw [5] (fun iv wr => ∃ i : Nat, iv = .int .i64 i ∧ i ≤ l.length ∧ Hid (okVs m l = okVs m (l.drop i)) ∧ Fur w wr) (fun iv _ => l.length - (RowKit.intOf iv).toNat)
  case atStart => exact ⟨0, rfl, Nat.zero_le _, rfl, Fur.refl _⟩
  case round =>
   obtain ⟨i, rfl, hi, HN, hf⟩ := hrel
   by_cases hlt : i < l.length
   ·obtain ⟨b, o, rfl, hc⟩ := (HS.out.on hf).get hlt
    have hA := okVs_drop m l i hlt
    obtain ⟨hy, c0, c1, c2, c3, ao', cap', c4, hs2⟩ := VC_of hc
    have HC := Lib.hid (HV.out l[i] ao' cap' wr hy hs2)
    unfold vlv at HC
    have HA := Lib.hid hA
    clear hc hs2 hy hA
    generalize l[i] = y at *
    generalize okV m y = q at *
    go_wp2_with fail
    go_at_call 105
    refine (HC.out).mono ?_; rintro e1 w1 ⟨rfl, f1⟩
    cases q
    ·have HE := Lib.hid (show okVs m l = false by rw [HN.out, HA.out]; rfl)
     go_wp2
     go_ret
     exact ⟨ret_bool HE.out.symm, hf.trans f1⟩
    ·have HE := Lib.hid (show okVs m l = okVs m (l.drop (i + 1)) by rw [HN.out, HA.out, Bool.true_and])
     go_wp2
     go_roundw
     case rel => exact ⟨i + 1, by go_num, by omega, HE.out, hf.trans f1⟩
     case measure => simp [RowKit.intOf]; omega
   ·have HE := Lib.hid (show okVs m l = true by rw [HN.out, List.drop_of_length_le (by omega)]; rfl)
    go_wp2
    go_ret
    exact ⟨ret_bool HE.out.symm, hf⟩
end Go.Proofs.YtpamdlkagmlahaaGreatDoor
