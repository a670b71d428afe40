/-
  The law GraphNames of package graph, walked.
-/
import Derived.Test.YtcadeijloobbmaaGrS
namespace Go.Proofs.Ytcadeijloobbmaa
open Go.RowKit

theorem eqn0_any (a b : Option Addr) (c d : Nat) (w : World) : Calls Try.prog 56 #[.slice a 0 c, .slice b 0 d, .func (.func 57) #[] #[]] w (PureB w true) := by
  go_enter Try.func56, Try.ntmps56
  go_wp2
  go_loop [17] (fun iv => iv = .int .i64 0) (fun _ => 0)
  case atStart => exact rfl
  case round =>
    subst hrel
    go_wp2
    go_ret
    exact ⟨rfl, rfl⟩
theorem eqe0_any (a b : Option Addr) (c d : Nat) (w : World) : Calls Try.prog 58 #[.slice a 0 c, .slice b 0 d, .func (.func 59) #[] #[]] w (PureB w true) := by
  go_enter Try.func58, Try.ntmps58
  go_wp2
  go_loop [17] (fun iv => iv = .int .i64 0) (fun _ => 0)
  case atStart => exact rfl
  case round =>
    subst hrel
    go_wp2
    go_ret
    exact ⟨rfl, rfl⟩
theorem same0_any (an ae bn be : Option Addr) (cn ce dn de : Nat) (w : World) : Calls Try.prog 28 #[.agg #[.slice an 0 cn, .slice ae 0 ce, .int .i64 1, .int .i64 1], .agg #[.slice bn 0 dn, .slice be 0 de, .int .i64 1, .int .i64 1]] w (FwB w true) := by
  go_enter Try.func28, Try.ntmps28
  go_wp2_with (first
    | (go_at_call 56; refine (eqn0_any _ _ _ _ _).mono ?_; rintro e w' ⟨rfl, rfl⟩)
    | (go_at_call 58; refine (eqe0_any _ _ _ _ _).mono ?_; rintro e w' ⟨rfl, rfl⟩))
  go_ret
  exact ⟨rfl, ((Fuw.refl w).alloc _).alloc _⟩
set_option maxHeartbeats 3200000 in
set_option maxRecDepth 100000 in
theorem names_walk (s : ByteArray) (w : World) (hs : s.size ≤ maxLen) : Calls Try.prog 6 #[.string s] w (FwB w true) := by
  have hm := hs
  unfold maxLen at hm
  have HN := Lib.hid (name_any s w hs)
  have HR := Lib.hid (rname_any s w hs)
  have HA := Lib.hid alive_any
  clear hs
  generalize nameV s.data.toList = n at *
  by_cases h : (200 : Int) < (s.size : Int)
  · go_enter Try.func6, Try.ntmps6
    go_wp2_with (go_at_call 8; refine (HA.out _).mono ?_; rintro e w' ⟨rfl, f⟩)
    go_ret
    exact ⟨rfl, f⟩
  · go_enter Try.func6, Try.ntmps6
    go_wp2_with fail
    go_at_call 26; refine HN.out.mono ?_; rintro e1 w1 ⟨rfl, rfl⟩
    go_wp2_with fail
    go_at_call 27; refine HR.out.mono ?_; rintro e2 w2 ⟨rfl, rfl⟩
    have hq : (n == n) = true := by simp
    go_wp2_with fail
    go_at_call 29; refine (new_any _).mono ?_; rintro e3 w3 ⟨an, ae, cn, ce, rfl, g3, f3⟩
    clear g3
    unfold grv
    go_wp2_with fail
    go_at_call 30; refine (rnew_any _).mono ?_; rintro e4 w4 ⟨bn, be, dn, de, rfl, g4, f4⟩
    clear g4
    unfold grv
    go_wp2_with fail
    go_at_call 28; refine (same0_any an ae bn be cn ce dn de _).mono ?_; rintro e5 w5 ⟨rfl, f5⟩
    go_wp2_with fail
    go_at_call 8; refine (HA.out _).mono ?_; rintro e6 w6 ⟨rfl, f6⟩
    go_wp2
    go_ret
    exact ⟨rfl, ((f3.trans f4).trans f5).trans f6⟩
end Go.Proofs.Ytcadeijloobbmaa
