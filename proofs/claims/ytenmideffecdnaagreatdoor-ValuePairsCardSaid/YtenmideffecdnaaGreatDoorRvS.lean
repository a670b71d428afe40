/-
  The reference of package value: Equal of every two values in memory, by induction. Nothing that was there turns.
-/
import Derived.Test.YtenmideffecdnaaGreatDoorRvR
namespace Go.Proofs.YtenmideffecdnaaGreatDoor
open Go.RowKit

mutual
theorem requal_all : ∀ x : Vl, EQ x
  | .mk k n d s l => requal_by (.mk k n d s l) (fun z hz => requal_list l z hz)
theorem requal_list : ∀ l : List Vl, ∀ z, z ∈ l → EQ z
  | [], _, h => by cases h
  | x :: r, z, h => (List.mem_cons.1 h).elim (fun e => e ▸ requal_all x) (fun e => requal_list r z e)
end
theorem lex_in : ∀ a b : List Rat, -1 ≤ lexQ a b ∧ lexQ a b ≤ 1
  | [], [] => by unfold lexQ; decide
  | [], _ :: _ => by unfold lexQ; decide
  | _ :: _, [] => by unfold lexQ; decide
  | x :: r, y :: t => by
    have ih := lex_in r t
    have c := cmp_three x y
    rw [lex_cons]
    unfold thn
    split <;> omega
theorem ord_in (a b : Vl) : -1 ≤ ordV a b ∧ ordV a b ≤ 1 := by rw [ord_lex]; exact lex_in _ _
end Go.Proofs.YtenmideffecdnaaGreatDoor
