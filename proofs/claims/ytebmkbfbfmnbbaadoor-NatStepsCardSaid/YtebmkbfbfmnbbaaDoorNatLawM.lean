/-
  Plain mathematics that the laws without the reference want: what a bounded list says of its number. No program, no world.
-/
import Derived.Test.YtebmkbfbfmnbbaaDoorNatAlive
namespace Go.Proofs.YtebmkbfbfmnbbaaDoor

theorem bdB_t {n : Nat} (h : bdB (lim n) = true) : n < 1000000000 ^ 64 := (len_lim n 64).1 (of_decide_eq_true h)
theorem bdB_mk {n : Nat} (h : n < 1000000000 ^ 64) : bdB (lim n) = true := (bd_of h).2
theorem nv_bd {n : Nat} (h : bdB (lim n) = true) : nv (bdL (lim n)) = n := by rw [(bd_of (bdB_t h)).1, nv_lim (bdB_t h)]
theorem lim_nv {a : List Int} (h : okL a = true) : lim (nv a) = a := by
  have k := numL_lim a
  unfold numL at k
  rw [if_pos h] at k
  exact k.symm
theorem nv_inj {a b : List Int} (ha : okL a = true) (hb : okL b = true) : nv a = nv b ↔ a = b := ⟨okL_eq ha hb, fun h => by rw [h]⟩
theorem lim_pos {n : Nat} : 0 < (lim n).length ↔ n ≠ 0 := by
  rw [List.length_pos_iff]; exact not_congr lim_nil
end Go.Proofs.YtebmkbfbfmnbbaaDoor
