/-
  Small lemmas on lists of limbs that are written in place. No program's function is walked here.
-/
import Derived.Test.YtebmkbfbfmnbbaaDoorNatC
import Derived.Test.YtebmkbfbfmnbbaaDoorNatTimes
namespace Go.Proofs.YtebmkbfbfmnbbaaDoor
open Go.RowKit

theorem set_take {o : List Int} {k : Nat} (h : k < o.length) (z : Int) : (o.set k z).take (k + 1) = o.take k ++ [z] := by
  have h2 : k < (o.set k z).length := by rw [List.length_set]; exact h
  rw [List.take_succ_eq_append_getElem h2, List.getElem_set_self, List.take_set_of_le (Nat.le_refl _)]
theorem add_fin {a b x y : List Int} (hx : Num a x) (hy : Num b y) {n : Nat} {o : List Int} {c : Int} (h : AddAt x y n o c) (kx : x.length < n) (ky : y.length < n) : vl o = nv a + nv b := by
  obtain ⟨h1, h2, h3, h4, h5⟩ := h
  rw [List.take_of_length_le (by omega), List.take_of_length_le (by omega), hx.val, hy.val] at h5
  rcases bit_cases h3 h4 with rfl | rfl
  · simpa using h5
  · exfalso
    obtain ⟨m, rfl⟩ : ∃ m, n = m + 1 := ⟨n - 1, by omega⟩
    have gx : nv a < 1000000000 ^ m := by
      rw [← hx.val]
      exact Nat.lt_of_lt_of_le (vl_lt hx.digs) (Nat.pow_le_pow_right (by decide) (by omega))
    have gy : nv b < 1000000000 ^ m := by
      rw [← hy.val]
      exact Nat.lt_of_lt_of_le (vl_lt hy.digs) (Nat.pow_le_pow_right (by decide) (by omega))
    have e1 : 1000000000 ^ (m + 1) * (1 : Int).toNat = 1000000000 ^ m * 1000000000 := by rw [Nat.pow_succ]; simp
    rw [e1] at h5
    omega
theorem made_zero (n : Nat) : (madeCells (Value.int .i64 0).cells (n * 1)).toList = cs (List.replicate n 0) := by
  rw [Nat.mul_one]
  unfold cs
  rw [List.map_replicate]
  exact toList_madeCells_one (.int .i64 0) _

end Go.Proofs.YtebmkbfbfmnbbaaDoor
