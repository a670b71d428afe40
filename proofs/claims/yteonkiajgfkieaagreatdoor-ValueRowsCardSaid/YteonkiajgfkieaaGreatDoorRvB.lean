/-
  The reference of package value: class, bare (which fields are zero). Nothing that was there turns.
-/
import Derived.Test.YteonkiajgfkieaaGreatDoorM26
namespace Go.Proofs.YteonkiajgfkieaaGreatDoor
open Go.RowKit

theorem rclass_any (k : Int) (w : World) : Calls Tryz.prog 73 #[.int .i64 k] w fun e w' => e = .returned (.int .i64 (classV k)) ∧ w' = w := by
  by_cases h0 : k = 0
  · subst h0
    go_enter Tryz.func73, Tryz.ntmps73
    go_wp2
    go_ret
    exact ⟨rfl, rfl⟩
  by_cases h1 : k = 1
  · subst h1
    go_enter Tryz.func73, Tryz.ntmps73
    go_wp2
    go_ret
    exact ⟨rfl, rfl⟩
  by_cases h2 : k = 2
  · subst h2
    go_enter Tryz.func73, Tryz.ntmps73
    go_wp2
    go_ret
    exact ⟨rfl, rfl⟩
  by_cases h3 : k = 3
  · subst h3
    go_enter Tryz.func73, Tryz.ntmps73
    go_wp2
    go_ret
    exact ⟨rfl, rfl⟩
  by_cases h4 : k = 4
  · subst h4
    go_enter Tryz.func73, Tryz.ntmps73
    go_wp2
    go_ret
    exact ⟨rfl, rfl⟩
  by_cases h5 : k = 5
  · subst h5
    go_enter Tryz.func73, Tryz.ntmps73
    go_wp2
    go_ret
    exact ⟨rfl, rfl⟩
  by_cases h6 : k = 6
  · subst h6
    go_enter Tryz.func73, Tryz.ntmps73
    go_wp2
    go_ret
    exact ⟨rfl, rfl⟩
  by_cases h8 : k = 8
  · subst h8
    go_enter Tryz.func73, Tryz.ntmps73
    go_wp2
    go_ret
    exact ⟨rfl, rfl⟩
  have g0 : (k == 0) = false := beq_eq_false_iff_ne.2 h0
  have g1 : (k == 1) = false := beq_eq_false_iff_ne.2 h1
  have g2 : (k == 2) = false := beq_eq_false_iff_ne.2 h2
  have g3 : (k == 3) = false := beq_eq_false_iff_ne.2 h3
  have g4 : (k == 4) = false := beq_eq_false_iff_ne.2 h4
  have g5 : (k == 5) = false := beq_eq_false_iff_ne.2 h5
  have g6 : (k == 6) = false := beq_eq_false_iff_ne.2 h6
  have g8 : (k == 8) = false := beq_eq_false_iff_ne.2 h8
  rw [show classV k = 7 by unfold classV; rw [if_neg h0, if_neg h1, if_neg (by omega), if_neg h4, if_neg h5, if_neg h6, if_neg h8]]
  clear h0 h1 h2 h3 h4 h5 h6 h8
  go_enter Tryz.func73, Tryz.ntmps73
  go_wp2
  go_ret
  exact ⟨rfl, rfl⟩

set_option maxHeartbeats 6400000 in
theorem rbare_any (x : Vl) (ao : Option Addr) (cap : Nat) (w : World) (bn bd b2 bl : Bool) : Calls Tryz.prog 112 #[vlv x ao cap, .bool bn, .bool bd, .bool b2, .bool bl] w (RetB w (bareV x.nn x.dd x.ss x.ll bn bd b2 bl)) := by
  unfold vlv
  cases bn <;> cases bd <;> cases b2 <;> cases bl
  all_goals
    go_enter Tryz.func112, Tryz.ntmps112
    go_wp2
    all_goals
      go_ret
      refine ⟨ret_bool ?_, (Fur.refl _).alloc _⟩
      unfold bareV
      (try rw [len0])
      simp_all [bs_list]
end Go.Proofs.YteonkiajgfkieaaGreatDoor
