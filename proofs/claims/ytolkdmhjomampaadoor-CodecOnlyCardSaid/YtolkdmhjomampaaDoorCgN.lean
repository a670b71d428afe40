/-
  Package codec: what elementsAt of paths calls: mayHave and pathKind. Nothing that was there turns.
-/
import Derived.Test.YtolkdmhjomampaaDoorCgV
import Derived.BigQuiet
namespace Go.Proofs.YtolkdmhjomampaaDoor
open Go.RowKit

theorem may_path (n : Nat) (hn : n ≤ 9223372036854775807) (w : World) : Calls Tryd.prog 86 #[.int .i64 7, .int .i64 n] w fun e w' => e = .returned (.bool (decide (n ≤ 25 ∧ n % 2 = 1))) ∧ w = w' := by
  have ht : ((n : Int).tmod 2) = ((n % 2 : Nat) : Int) := rfl
  by_cases h : n ≤ 25
  · have hi : (n : Int) ≤ 25 := by omega
    rcases Nat.mod_two_eq_zero_or_one n with e | e
    · rw [show decide (n ≤ 25 ∧ n % 2 = 1) = false from decide_eq_false (by omega)]
      rw [e] at ht
      have hb : ((((n : Int).tmod 2)) == 1) = false := by rw [ht]; rfl
      clear e h hn
      go_enter Tryd.func86, Tryd.ntmps86
      go_wp2
      go_ret
      exact ⟨rfl, rfl⟩
    · rw [show decide (n ≤ 25 ∧ n % 2 = 1) = true from decide_eq_true (by omega)]
      rw [e] at ht
      have hb : ((((n : Int).tmod 2)) == 1) = true := by rw [ht]; rfl
      clear e h hn
      go_enter Tryd.func86, Tryd.ntmps86
      go_wp2
      go_ret
      exact ⟨rfl, rfl⟩
  · rw [show decide (n ≤ 25 ∧ n % 2 = 1) = false from decide_eq_false (by omega)]
    have hi : ¬ ((n : Int) ≤ 25) := by omega
    clear ht h hn
    go_enter Tryd.func86, Tryd.ntmps86
    go_wp2
    go_ret
    exact ⟨rfl, rfl⟩
theorem pk_is (i : Nat) (w : World) : Calls Tryd.prog 87 #[.int .i64 i] w fun e w' => e = .returned (.int .i64 (pkV i)) ∧ w = w' := by
  have ht : ((i : Int).tmod 2) = ((i % 2 : Nat) : Int) := rfl
  unfold pkV
  rcases Nat.mod_two_eq_zero_or_one i with e | e
  · rw [if_neg (by omega)]
    rw [e] at ht
    have hb : ((((i : Int).tmod 2)) == 1) = false := by rw [ht]; rfl
    clear e
    go_enter Tryd.func87, Tryd.ntmps87
    go_wp2
    go_ret
    exact ⟨rfl, rfl⟩
  · rw [if_pos e]
    rw [e] at ht
    have hb : ((((i : Int).tmod 2)) == 1) = true := by rw [ht]; rfl
    clear e
    go_enter Tryd.func87, Tryd.ntmps87
    go_wp2
    go_ret
    exact ⟨rfl, rfl⟩
theorem fuwN (w : World) (n : Nat) : Fuw w (w.drewN n) := ⟨rfl, rfl, rfl, Nat.le_refl _, fun _ _ => rfl⟩
/-- A path's elements: the number, then each. -/
def pathV (l : List UInt8) (rv : Int → Rs) (a : Int) : Rl :=
  if (uintV l a).2.2 ≠ 0 then .er (uintV l a).2.2
  else if ¬ ((uintV l a).1.toNat ≤ 25 ∧ (uintV l a).1.toNat % 2 = 1) then .er 2
  else elsV l 7 rv (uintV l a).1.toNat 0 (uintV l a).2.1
end Go.Proofs.YtolkdmhjomampaaDoor
