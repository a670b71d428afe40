
/-
  The reference of package value: tri, Not, And, Or, yes, ints, class: of ints. Nothing that was there turns.
-/
import Derived.Test.YtomkanmmfgiemaaDoorLvO
namespace Go.Proofs.YtomkanmmfgiemaaDoor
open Go.RowKit

theorem rtri_any (a : Int) (w : World) : Calls Tryd.prog 37 #[.int .i64 a] w fun e w' => e = .returned (.int .i64 (triV a)) ∧ w' = w := by
  rcases triV_c a with ⟨rfl, e⟩ | ⟨rfl, e⟩ | ⟨h0, h2, e⟩
  · rw [e]; clear e
    go_enter Tryd.func37, Tryd.ntmps37
    go_wp2
    go_ret
    exact ⟨rfl, rfl⟩
  · rw [e]; clear e
    go_enter Tryd.func37, Tryd.ntmps37
    go_wp2
    go_ret
    exact ⟨rfl, rfl⟩
  · rw [e]; clear e
    have g0 : (a == 0) = false := beq_eq_false_iff_ne.2 h0
    have g2 : (a == 2) = false := beq_eq_false_iff_ne.2 h2
    clear h0 h2
    go_enter Tryd.func37, Tryd.ntmps37
    go_wp2
    go_ret
    exact ⟨rfl, rfl⟩
theorem rtri_q (a : Int) (w : World) (k : Nat) : Calls Tryd.prog 37 #[.int .i64 a] (w.drewN k) fun e w' => e = .returned (.int .i64 (triV a)) ∧ ∃ m, w' = w.drewN m :=
  Calls.quiet_of_same (rtri_any a _)
theorem rnot_any (a : Int) (w : World) : Calls Tryd.prog 14 #[.int .i64 a] w fun e w' => e = .returned (.int .i64 (2 - triV a)) ∧ w' = w := by
  have T := Lib.hid (fun w => rtri_any a w)
  have c := triV_3 a
  generalize triV a = t at T c
  go_enter Tryd.func14, Tryd.ntmps14
  go_wp2_with fail
  go_at_call 37; refine (T.out _).mono ?_; rintro e1 w1 ⟨rfl, rfl⟩
  rcases c with rfl | rfl | rfl <;> (go_wp2; go_ret; exact ⟨rfl, rfl⟩)
theorem rand_any (a b : Int) (w : World) : Calls Tryd.prog 17 #[.int .i64 a, .int .i64 b] w fun e w' => e = .returned (.int .i64 (min (triV a) (triV b))) ∧ w' = w := by
  rcases triV_d a with ⟨rfl, e⟩ | ⟨rfl, e⟩ | ⟨g0, g2, e⟩ <;> rcases triV_d b with ⟨rfl, e'⟩ | ⟨rfl, e'⟩ | ⟨g0', g2', e'⟩ <;> simp only [e, e'] <;> clear e e'
  all_goals
    go_enter Tryd.func17, Tryd.ntmps17
    go_wp2
    go_ret
    exact ⟨rfl, rfl⟩
theorem ror_any (a b : Int) (w : World) : Calls Tryd.prog 18 #[.int .i64 a, .int .i64 b] w fun e w' => e = .returned (.int .i64 (max (triV a) (triV b))) ∧ w' = w := by
  rcases triV_d a with ⟨rfl, e⟩ | ⟨rfl, e⟩ | ⟨g0, g2, e⟩ <;> rcases triV_d b with ⟨rfl, e'⟩ | ⟨rfl, e'⟩ | ⟨g0', g2', e'⟩ <;> simp only [e, e'] <;> clear e e'
  all_goals
    go_enter Tryd.func18, Tryd.ntmps18
    go_wp2
    go_ret
    exact ⟨rfl, rfl⟩

end Go.Proofs.YtomkanmmfgiemaaDoor
