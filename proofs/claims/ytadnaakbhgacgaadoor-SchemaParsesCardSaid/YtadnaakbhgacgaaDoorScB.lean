/-
  Package schema: whether a rule has no more than its shape uses, whether its number is one that its shape allows, words of kinds. Nothing that was there turns.
-/
import Derived.Test.YtadnaakbhgacgaaDoorScA
namespace Go.Proofs.YtadnaakbhgacgaaDoor
open Go.RowKit

theorem fuwA2 (w : World) (a b : Obj) : Fuw w ((w.alloc a).alloc b) := (fuwA w a).trans (fuwA _ b)
set_option maxHeartbeats 3200000 in
set_option maxRecDepth 100000 in
theorem more_any (k n : Int) (a y f t hw : ByteArray) (b1 b2 b3 b4 : Bool) (w : World) :
    Calls Tryd.prog 25 #[.agg #[.int .i64 k, .int .i64 n, .string a, .string y, .string f, .string t], .agg #[.string hw, .bool b1, .bool b2, .bool b3, .bool b4]] w (FwB w ((b1 || y.toList.isEmpty) && (b2 || (f.toList.isEmpty && t.toList.isEmpty)))) := by
  go_enter Tryd.func25, Tryd.ntmps25
  go_wp2
  all_goals
    go_ret
    exact ⟨ret_bool (by simp_all), fuwA2 _ _ _⟩
set_option maxHeartbeats 3200000 in
set_option maxRecDepth 100000 in
theorem kw_any (n : Int) (w : World) : Calls Tryd.prog 33 #[.int .i64 n] w (PureT w (bs (kwW n))) := by
  by_cases h1 : n = 1
  · subst h1
    go_enter Tryd.func33, Tryd.ntmps33
    go_wp2
    go_ret
    exact ⟨rfl, rfl⟩
  · by_cases h2 : n = 2
    · subst h2
      go_enter Tryd.func33, Tryd.ntmps33
      go_wp2
      go_ret
      exact ⟨rfl, rfl⟩
    · by_cases h4 : n = 4
      · subst h4
        go_enter Tryd.func33, Tryd.ntmps33
        go_wp2
        go_ret
        exact ⟨rfl, rfl⟩
      · rw [show kwW n = [] by unfold kwW; rw [if_neg h1, if_neg h2, if_neg h4]]
        go_enter Tryd.func33, Tryd.ntmps33
        go_wp2
        go_ret
        exact ⟨rfl, rfl⟩
end Go.Proofs.YtadnaakbhgacgaaDoor
