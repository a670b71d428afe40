
/-
  Package overlay: ids of entries. Nothing that was there turns.
-/
import Derived.Test.YtpjikijfendmhaaGreatOvA
namespace Go.Proofs.YtpjikijfendmhaaGreat
open Go.RowKit

theorem idJ_mk (f t e : Int) : idJ (f, t, e) = (decide (1 ≤ min (min f t) e) && decide (max (max f t) e ≤ 1000000)) := by
  unfold idJ idB
  rw [Bool.eq_iff_iff]
  simp only [Bool.and_eq_true, decide_eq_true_eq]
  omega
set_option maxHeartbeats 3200000 in
set_option maxRecDepth 100000 in
theorem hids_any (x : Aj) (w : World) : Calls Tryz.prog 47 #[adv x] w (FwB w (idJ x)) := by
  obtain ⟨f, t, e⟩ := x
  obtain ⟨R, hR⟩ : ∃ R, R = idJ (f, t, e) := ⟨_, rfl⟩
  rw [← hR]
  have HR := Lib.hid (hR.trans (idJ_mk f t e))
  clear hR
  unfold adv
  obtain ⟨w0, hw0⟩ : ∃ w0, w.alloc (.cells #[.int .i64 f, .int .i64 t, .int .i64 e] 42) = w0 := ⟨_, rfl⟩
  have B0 := Lib.hid (show Bk w0 w.heap.size #[.int .i64 f, .int .i64 t, .int .i64 e] 42 by rw [← hw0]; exact Bk.new _ _ _)
  have F0 := Lib.hid (show Fuw w w0 by rw [← hw0]; exact fuwA _ _)
  have d1 := B0.out.c 0; have d2 := B0.out.c 1; have d3 := B0.out.c 2
  simp only [List.getElem?_toArray, List.getElem?_cons_zero, List.getElem?_cons_succ] at d1 d2 d3
  go_enter Tryz.func47, Tryz.ntmps47
  go_upto_region 1 with fail
  clear hw0
  go_wp2
  all_goals
    go_ret
    exact ⟨ret_bool (by rw [HR.out, Bool.eq_iff_iff]; simp; omega), F0.out⟩
end Go.Proofs.YtpjikijfendmhaaGreat
