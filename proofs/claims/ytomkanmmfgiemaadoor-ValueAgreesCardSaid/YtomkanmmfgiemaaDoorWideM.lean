
/-
  Plain mathematics of natural numbers as lists of digits in base 1000, the least one first: the value of a list, and what one round of a loop over the digits keeps. No program, no world.
-/
import Derived.WalkKit
namespace Go.Proofs.YtomkanmmfgiemaaDoor

/-- The value of a list of digits. -/
def wv : List Int → Nat
  | [] => 0
  | z :: r => z.toNat + 1000 * wv r
/-- Every element is a digit. -/
def WD (l : List Int) : Prop := ∀ z ∈ l, 0 ≤ z ∧ z < 1000
theorem wv_lt {l : List Int} (h : WD l) : wv l < 1000 ^ l.length := by
  induction l with
  | nil => simp [wv]
  | cons z r ih =>
    have h1 := h z (List.mem_cons_self ..)
    have h2 := ih fun y hy => h y (List.mem_cons_of_mem _ hy)
    rw [wv, List.length_cons, Nat.pow_succ]
    omega
/-- A wide number: fourteen digits. -/
structure Wide (l : List Int) (n : Nat) : Prop where
  len : l.length = 14
  digs : WD l
  val : wv l = n
theorem Wide.lt {l : List Int} {n : Nat} (h : Wide l n) : n < 1000 ^ 14 := by
  have k := wv_lt h.digs
  rwa [h.len, h.val] at k
/-! times -/
end Go.Proofs.YtomkanmmfgiemaaDoor
