
/-
  The reference of package frac: Valid tells the valid fractions. For every two ints; nothing that was there turns.
-/
import Derived.Test.YtieicceceggglaaGreatDoorFrA
namespace Go.Proofs.YtieicceceggglaaGreatDoor
open Go.RowKit

theorem rsize_q (n : Int) (h : -9223372036854775807 ≤ n) (h' : n ≤ 9223372036854775807) (w : World) (k : Nat) : Calls Tryz.prog 96 #[.int .i64 n] (w.drewN k) fun e w' => e = .returned (.int .i64 (n.natAbs : Int)) ∧ ∃ m, w' = w.drewN m :=
  Calls.quiet_of_same (rsize_any n h h' _)
theorem rgcd_q (a b : Nat) (ha : a ≤ 9223372036854775807) (hb : b ≤ 9223372036854775807) (w : World) (k : Nat) : Calls Tryz.prog 95 #[.int .i64 a, .int .i64 b] (w.drewN k) fun e w' => e = .returned (.int .i64 (Nat.gcd a b : Nat)) ∧ ∃ m, w' = w.drewN m :=
  Calls.quiet_of ((rgcd_any a b ha hb _).mono fun _ _ ⟨q, he, hw⟩ => ⟨he, q, hw⟩)

set_option maxHeartbeats 1600000 in
theorem rvalid_any (n d : Int) (w : World) :
    Calls Tryz.prog 75 #[.agg #[.int .i64 n, .int .i64 d]] w (RetB w (okF n d)) := by
  have fin : ∀ k, Fur w ((w.alloc (Obj.cells #[Value.int IntKind.i64 n, Value.int IntKind.i64 d] 28)).drewN k) := fun k => ((Fur.refl w).alloc _).trans (fur_drewN _ k)
  have FIN := Lib.hid fin
  clear fin
  by_cases h1 : 1 ≤ d
  rotate_left
  · have e : okF n d = false := by unfold okF; rw [decide_eq_false h1]; rfl
    have g1 : decide (1 ≤ d) = false := decide_eq_false h1
    rw [e]; clear e h1
    go_enter Tryz.func75, Tryz.ntmps75
    go_wp2
    go_quiet (fail)
    go_wp2
    go_ret
    exact ⟨rfl, FIN.out _⟩
  have g1 : decide (1 ≤ d) = true := decide_eq_true h1
  by_cases h2 : d ≤ 1000000000000000
  rotate_left
  · have e : okF n d = false := by unfold okF; rw [decide_eq_false h2, Bool.and_false]; rfl
    have g2 : decide (d ≤ 1000000000000000) = false := decide_eq_false h2
    rw [e]; clear e h1 h2
    go_enter Tryz.func75, Tryz.ntmps75
    go_wp2
    go_quiet (fail)
    go_wp2
    go_ret
    exact ⟨rfl, FIN.out _⟩
  have g2 : decide (d ≤ 1000000000000000) = true := decide_eq_true h2
  by_cases h3 : -1000000000000000 ≤ n
  rotate_left
  · have e : okF n d = false := by unfold okF; rw [decide_eq_false h3, Bool.and_false]; rfl
    have g3 : decide (-1000000000000000 ≤ n) = false := decide_eq_false h3
    rw [e]; clear e h1 h2 h3
    go_enter Tryz.func75, Tryz.ntmps75
    go_wp2
    go_quiet (fail)
    go_wp2
    go_ret
    exact ⟨rfl, FIN.out _⟩
  have g3 : decide (-1000000000000000 ≤ n) = true := decide_eq_true h3
  by_cases h4 : n ≤ 1000000000000000
  rotate_left
  · have e : okF n d = false := by unfold okF; rw [decide_eq_false h4, Bool.and_false]; rfl
    have g4 : decide (n ≤ 1000000000000000) = false := decide_eq_false h4
    rw [e]; clear e h1 h2 h3 h4
    go_enter Tryz.func75, Tryz.ntmps75
    go_wp2
    go_quiet (fail)
    go_wp2
    go_ret
    exact ⟨rfl, FIN.out _⟩
  have g4 : decide (n ≤ 1000000000000000) = true := decide_eq_true h4
  obtain ⟨D, rfl⟩ : ∃ D : Nat, d = (D : Int) := ⟨d.toNat, by omega⟩
  have CS := Lib.hid (fun k => rsize_q n (by omega) (by omega) (w.alloc (Obj.cells #[Value.int IntKind.i64 n, Value.int IntKind.i64 (D : Int)] 28)) k)
  have CG := Lib.hid (fun k => rgcd_q n.natAbs D (by omega) (by omega) (w.alloc (Obj.cells #[Value.int IntKind.i64 n, Value.int IntKind.i64 (D : Int)] 28)) k)
  have HE := Lib.hid (show okF n (D : Int) = (((Nat.gcd n.natAbs D : Nat) : Int) == 1) by
    unfold okF
    rw [g1, g2, g3, g4, Int.toNat_natCast, Bool.true_and, Bool.true_and, Bool.true_and, Bool.true_and]
    by_cases h : Nat.gcd n.natAbs D = 1
    · rw [decide_eq_true h, h]; rfl
    · rw [decide_eq_false h]
      exact (beq_eq_false_iff_ne.2 (by omega)).symm)
  generalize Nat.gcd n.natAbs D = g at CG HE
  rw [HE.out]
  clear h1 h2 h3 h4 HE
  go_enter Tryz.func75, Tryz.ntmps75
  go_wp2
  go_quiet (first | (go_at_call 96; exact CS.out _) | (go_at_call 95; exact CG.out _))
  go_wp2
  go_ret
  exact ⟨rfl, FIN.out _⟩
end Go.Proofs.YtieicceceggglaaGreatDoor
