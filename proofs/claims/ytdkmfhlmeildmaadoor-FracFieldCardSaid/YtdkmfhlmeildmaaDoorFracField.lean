/-
  FracField gives true for every three pairs of ints.
-/
import Derived.Test.YtdkmfhlmeildmaaDoorFracFld
import Derived.Test.YtdkmfhlmeildmaaDoorFracMat
namespace Go.Proofs.YtdkmfhlmeildmaaDoor
open Go.RowKit

theorem group_any (an ad bn bd cn cd : Int) (w : World) :
    Calls Tryd.prog 30 #[.agg #[.int .i64 (rN (addO an ad bn bd)), .int .i64 (rD (addO an ad bn bd))], .bool (rB (addO an ad bn bd)), .agg #[.int .i64 an, .int .i64 ad], .agg #[.int .i64 bn, .int .i64 bd], .agg #[.int .i64 cn, .int .i64 cd]] w (RetB w true) := by
  refine group_core _ _ an ad bn bd cn cd _ _ _ _ _ _ _ w (Lib.hid fun w => nf_add bn bd cn cd w) (Lib.hid fun h k w => nf_add _ _ _ _ w) (Lib.hid fun h k w => ?_)
  have e := op_assoc (f := (· + ·)) Rat.add_assoc h k
  have c := nf_add an ad (rN (addO bn bd cn cd)) (rD (addO bn bd cn cd)) w
  unfold addO at *
  rw [← e] at c
  exact c
theorem lprod_any (an ad bn bd cn cd : Int) (w : World) :
    Calls Tryd.prog 31 #[.agg #[.int .i64 (rN (mulO an ad bn bd)), .int .i64 (rD (mulO an ad bn bd))], .bool (rB (mulO an ad bn bd)), .agg #[.int .i64 an, .int .i64 ad], .agg #[.int .i64 bn, .int .i64 bd], .agg #[.int .i64 cn, .int .i64 cd]] w (RetB w true) := by
  refine product_core _ _ an ad bn bd cn cd _ _ _ _ _ _ _ w (Lib.hid fun w => nf_mul bn bd cn cd w) (Lib.hid fun h k w => nf_mul _ _ _ _ w) (Lib.hid fun h k w => ?_)
  have e := op_assoc (f := (· * ·)) Rat.mul_assoc h k
  have c := nf_mul an ad (rN (mulO bn bd cn cd)) (rD (mulO bn bd cn cd)) w
  unfold mulO at *
  rw [← e] at c
  exact c
theorem spreads_any (an ad bn bd cn cd : Int) (w : World) :
    Calls Tryd.prog 32 #[.agg #[.int .i64 an, .int .i64 ad], .agg #[.int .i64 bn, .int .i64 bd], .agg #[.int .i64 cn, .int .i64 cd]] w (RetB w true) := by
  refine spreads_core an ad bn bd cn cd _ _ _ _ _ _ _ _ _ _ _ _ w (Lib.hid fun w => nf_add bn bd cn cd w) (Lib.hid fun w => nf_mul an ad bn bd w) (Lib.hid fun w => nf_mul an ad cn cd w) (Lib.hid fun h k l w => nf_mul _ _ _ _ w) (Lib.hid fun h k l w => ?_)
  rw [spread' h k l]
  exact nf_add _ _ _ _ w
theorem field_any (an ad bn bd cn cd : Int) (w : World) (G : Good w) :
    Calls Tryd.prog 6 #[.agg #[.int .i64 an, .int .i64 ad], .agg #[.int .i64 bn, .int .i64 bd], .agg #[.int .i64 cn, .int .i64 cd]] w (RetB w true) := by
  refine field_core an ad bn bd cn cd _ _ _ _ _ _ w G (Lib.hid fun w => nf_add an ad bn bd w) (Lib.hid fun w => ?_) (Lib.hid fun h w => ?_) (Lib.hid fun w => nf_mul an ad bn bd w) (Lib.hid fun w => ?_) (Lib.hid fun h hb w => ?_)
    (Lib.hid fun w => group_any an ad bn bd cn cd w) (Lib.hid fun w => lprod_any an ad bn bd cn cd w) (Lib.hid fun w => spreads_any an ad bn bd cn cd w)
  · rw [add_comm' an ad bn bd]; exact nf_add bn bd an ad w
  · obtain ⟨a, b, c⟩ := sub_back h
    have ob := okF_t (op_ok h).2.1
    have o1 := ob.n1; have o2 := ob.n2
    have k := nf_sub (rN (addO an ad bn bd)) (rD (addO an ad bn bd)) bn bd (by omega) (by omega) w
    rw [a, b, c] at k
    exact k
  · rw [mul_comm' an ad bn bd]; exact nf_mul bn bd an ad w
  · obtain ⟨a, b, c⟩ := div_back h hb
    have k := nf_div (rN (mulO an ad bn bd)) (rD (mulO an ad bn bd)) bn bd w
    rw [a, b, c] at k
    exact k
end Go.Proofs.YtdkmfhlmeildmaaDoor
