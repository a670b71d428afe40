/-
  For every two (three) slices of int, the laws IntsetSeeks of package intset return true. The walks alone; in any world; nothing that was there turns.
-/
import Derived.Test.YtmmkcnohicfjeaaIsA
namespace Go.Proofs.Ytmmkcnohicfjeaa
open Go.RowKit

set_option maxHeartbeats 6400000 in
set_option maxRecDepth 100000 in
theorem seeks_walk (ao : Option Addr) (a : List Int) (ca : Nat) (fr x : Int) (w : World) (ha : IsS w ao a ca) :
    Calls Try.prog 4 #[.slice ao a.length ca, .int .i64 fr, .int .i64 x] w (RetB w true) := by
  have F := Fur.refl w
  by_cases hs : a.length ≤ 200
  · have v1 := Lib.hid (fun w ao ca h => seek_any ao a ca fr x w h)
    have v2 := Lib.hid (fun w ao ca h => rseek_any ao a ca fr x w h)
    generalize seekN a fr.toNat x = v at v1 v2
    have hv : ((v : Int) == (v : Int)) = true := by simp
    go_enter Try.func4, Try.ntmps4
    go_wp2_with fail
    go_at_call 9; refine (small_yes _ _ _ _ _ _ _ hs (by omega)).mono ?_; rintro e w1 ⟨rfl, rfl⟩
    go_wp2_with fail
    go_at_call 24; refine (v1.out _ _ _ ha).mono ?_; rintro e w2 ⟨rfl, rfl⟩
    go_wp2_with fail
    go_at_call 25; refine (v2.out _ _ _ ha).mono ?_; rintro e w3 ⟨rfl, rfl⟩
    go_wp2_with fail
    go_at_call 10; refine (alive_any _).mono ?_; rintro e w4 ⟨rfl, f4⟩
    go_wp2
    go_ret
    exact ⟨rfl, F.trans f4⟩
  · have hs2 : 200 < a.length ∨ 200 < 0 := by omega
    clear hs
    go_enter Try.func4, Try.ntmps4
    go_wp2_with fail
    go_at_call 9; refine (small_no _ _ _ _ _ _ _ hs2).mono ?_; rintro e w1 ⟨rfl, rfl⟩
    go_wp2_with fail
    go_at_call 10; refine (alive_any _).mono ?_; rintro e w2 ⟨rfl, f2⟩
    go_wp2
    go_ret
    exact ⟨rfl, F.trans f2⟩
end Go.Proofs.Ytmmkcnohicfjeaa
