/-
  Package frac: wide numbers (product, plus, sign, abs): each gives the number of 128 bits that it should, for every number of less than 2^126 in size. Nothing that was there turns.
-/
import Derived.WalkKit
import Derived.Test.YtcadeijloobbmaaGreatProg
import Derived.Test.YtcadeijloobbmaaGreatFrMem
import Derived.Deep.CutBlock
import Derived.Deep.LoopGhost
import Derived.Deep.CutRange
import Derived.Lib.Hide
import Derived.Test.YtcadeijloobbmaaGreatFrQ
import Derived.Shelf.Spec.BitsCarry
import Derived.Laws.ResultCell
namespace Go.Proofs.YtcadeijloobbmaaGreat
open Go.RowKit Go.Shelf

/-- The halves of a number of 128 bits. -/
def hiW (T : Int) : Int := T / 18446744073709551616 % 18446744073709551616
def loW (T : Int) : Int := T % 18446744073709551616
def wide (T : Int) : Value := .agg #[.int .u64 (hiW T), .int .u64 (loW T)]
theorem hiW_0 (T : Int) : 0 ≤ hiW T := by unfold hiW; omega
theorem hiW_1 (T : Int) : hiW T < 18446744073709551616 := by unfold hiW; omega
theorem loW_0 (T : Int) : 0 ≤ loW T := by unfold loW; omega
theorem loW_1 (T : Int) : loW T < 18446744073709551616 := by unfold loW; omega
/-- A call's result is a wide number. -/
def RetV (w : World) (T : Int) (e : Ending) (w' : World) : Prop := e = .returned (.agg #[.int .u64 (hiW T), .int .u64 (loW T)]) ∧ Fur w w'
theorem results_cell {fn : Func} {p : Tmp} {ty : TypeId} (h : fn.results = #[.cell p ty]) (tmps : Array Value) (P : Program) (w : World) :
    (results fn tmps).run P w = ((asAddr (tmps.getD p undef)).run P w).andThen fun a w₁ => (loadVar ty a).run P w₁ := by
  simp only [results, h]
  simp [Sem.run_bind, Result.andThen]
theorem hiW_nn {T : Int} (h0 : 0 ≤ T) (h1 : T < 1000000000000000000000000000000000000) : T / 18446744073709551616 = hiW T := by unfold hiW; omega
theorem prod_nn {n d : Int} (n0 : 0 ≤ n) (n1 : n ≤ 1000000000000000) (d0 : 0 ≤ d) (d1 : d ≤ 1000000000000000) : 0 ≤ n * d ∧ n * d ≤ 1000000000000000000000000000000 := by
  refine ⟨Int.mul_nonneg n0 d0, ?_⟩
  have k := Int.mul_le_mul n1 d1 d0 (show (0 : Int) ≤ 1000000000000000 by decide)
  omega
theorem prod_neg {n d : Int} (h : n < 0) (n1 : -1000000000000000 ≤ n) (d0 : 0 ≤ d) : (((n + 18446744073709551616).toNat * d.toNat : Nat) : Int) = n * d + d * 18446744073709551616 := by
  rw [Int.natCast_mul, Int.toNat_of_nonneg (by omega), Int.toNat_of_nonneg d0, Int.add_mul, Int.mul_comm 18446744073709551616]
end Go.Proofs.YtcadeijloobbmaaGreat
