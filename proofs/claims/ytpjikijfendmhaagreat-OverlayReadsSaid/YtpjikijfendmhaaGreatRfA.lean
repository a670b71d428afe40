
/-
  The references' order of entries. Nothing that was there turns.
-/
import Derived.Test.YtpjikijfendmhaaGreatCoB
import Derived.Test.YtpjikijfendmhaaGreatRfM
namespace Go.Proofs.YtpjikijfendmhaaGreat
open Go.RowKit

set_option maxHeartbeats 3200000 in
set_option maxRecDepth 100000 in
theorem less_any (a b : Aj) (w : World) : Calls Tryz.prog 43 #[adv a, adv b] w (FwB w (adjL a b)) := by
  obtain ⟨f1, t1, e1⟩ := a
  obtain ⟨f2, t2, e2⟩ := b
  have HJ := Lib.hid (show adjL (f1, t1, e1) (f2, t2, e2) = (decide (f1 < f2) || (decide (f1 = f2) && (decide (t1 < t2) || (decide (t1 = t2) && decide (e1 < e2))))) from rfl)
  generalize adjL (f1, t1, e1) (f2, t2, e2) = R at *
  unfold adv
  obtain ⟨w0, hw0⟩ : ∃ w0, w.alloc (.cells #[.int .i64 f1, .int .i64 t1, .int .i64 e1] 42) = w0 := ⟨_, rfl⟩
  obtain ⟨w1, hw1⟩ : ∃ w1, w0.alloc (.cells #[.int .i64 f2, .int .i64 t2, .int .i64 e2] 42) = w1 := ⟨_, rfl⟩
  have F0 := Lib.hid (show Fuw w w0 by rw [← hw0]; exact fuwA _ _)
  have F1 := Lib.hid (show Fuw w0 w1 by rw [← hw1]; exact fuwA _ _)
  have B0 := Lib.hid (show Bk w1 w.heap.size #[.int .i64 f1, .int .i64 t1, .int .i64 e1] 42 from (show Bk w0 w.heap.size _ _ by rw [← hw0]; exact Bk.new _ _ _).on F1.out)
  have B1 := Lib.hid (show Bk w1 w0.heap.size #[.int .i64 f2, .int .i64 t2, .int .i64 e2] 42 by rw [← hw1]; exact Bk.new _ _ _)
  have c0 := B0.out.c 0; have c1 := B0.out.c 1; have c2 := B0.out.c 2
  have d0 := B1.out.c 0; have d1 := B1.out.c 1; have d2 := B1.out.c 2
  simp only [List.getElem?_toArray, List.getElem?_cons_zero, List.getElem?_cons_succ] at c0 c1 c2 d0 d1 d2
  have FF := Lib.hid (F0.out.trans F1.out)
  go_enter Tryz.func43, Tryz.ntmps43
  go_upto_region 1 with fail
  clear hw0 hw1
  by_cases h1 : f1 = f2
  · by_cases h2 : t1 = t2
    · have HZ := Lib.hid (show R = decide (e1 < e2) by rw [HJ.out, decide_eq_true h1, decide_eq_true h2, decide_eq_false (show ¬ f1 < f2 by omega), decide_eq_false (show ¬ t1 < t2 by omega)]; simp)
      subst h1; subst h2
      go_wp2
      go_ret
      exact ⟨ret_bool HZ.out.symm, FF.out⟩
    · have HZ := Lib.hid (show R = decide (t1 < t2) by rw [HJ.out, decide_eq_true h1, decide_eq_false h2, decide_eq_false (show ¬ f1 < f2 by omega)]; simp)
      subst h1
      go_wp2
      go_ret
      exact ⟨ret_bool HZ.out.symm, FF.out⟩
  · have HZ := Lib.hid (show R = decide (f1 < f2) by rw [HJ.out, decide_eq_false h1]; simp)
    go_wp2
    go_ret
    exact ⟨ret_bool HZ.out.symm, FF.out⟩
set_option maxHeartbeats 3200000 in
set_option maxRecDepth 100000 in
theorem less12_any (a b : Aj) (w : World) : Calls Tryz.prog 76 #[adv a, adv b] w (FwB w (adjL a b)) := by
  obtain ⟨f1, t1, e1⟩ := a
  obtain ⟨f2, t2, e2⟩ := b
  have HJ := Lib.hid (show adjL (f1, t1, e1) (f2, t2, e2) = (decide (f1 < f2) || (decide (f1 = f2) && (decide (t1 < t2) || (decide (t1 = t2) && decide (e1 < e2))))) from rfl)
  generalize adjL (f1, t1, e1) (f2, t2, e2) = R at *
  unfold adv
  obtain ⟨w0, hw0⟩ : ∃ w0, w.alloc (.cells #[.int .i64 f1, .int .i64 t1, .int .i64 e1] 42) = w0 := ⟨_, rfl⟩
  obtain ⟨w1, hw1⟩ : ∃ w1, w0.alloc (.cells #[.int .i64 f2, .int .i64 t2, .int .i64 e2] 42) = w1 := ⟨_, rfl⟩
  have F0 := Lib.hid (show Fuw w w0 by rw [← hw0]; exact fuwA _ _)
  have F1 := Lib.hid (show Fuw w0 w1 by rw [← hw1]; exact fuwA _ _)
  have B0 := Lib.hid (show Bk w1 w.heap.size #[.int .i64 f1, .int .i64 t1, .int .i64 e1] 42 from (show Bk w0 w.heap.size _ _ by rw [← hw0]; exact Bk.new _ _ _).on F1.out)
  have B1 := Lib.hid (show Bk w1 w0.heap.size #[.int .i64 f2, .int .i64 t2, .int .i64 e2] 42 by rw [← hw1]; exact Bk.new _ _ _)
  have c0 := B0.out.c 0; have c1 := B0.out.c 1; have c2 := B0.out.c 2
  have d0 := B1.out.c 0; have d1 := B1.out.c 1; have d2 := B1.out.c 2
  simp only [List.getElem?_toArray, List.getElem?_cons_zero, List.getElem?_cons_succ] at c0 c1 c2 d0 d1 d2
  have FF := Lib.hid (F0.out.trans F1.out)
  go_enter Tryz.func76, Tryz.ntmps76
  go_upto_region 1 with fail
  clear hw0 hw1
  by_cases h1 : f1 = f2
  · by_cases h2 : t1 = t2
    · have HZ := Lib.hid (show R = decide (e1 < e2) by rw [HJ.out, decide_eq_true h1, decide_eq_true h2, decide_eq_false (show ¬ f1 < f2 by omega), decide_eq_false (show ¬ t1 < t2 by omega)]; simp)
      subst h1; subst h2
      go_wp2
      go_ret
      exact ⟨ret_bool HZ.out.symm, FF.out⟩
    · have HZ := Lib.hid (show R = decide (t1 < t2) by rw [HJ.out, decide_eq_true h1, decide_eq_false h2, decide_eq_false (show ¬ f1 < f2 by omega)]; simp)
      subst h1
      go_wp2
      go_ret
      exact ⟨ret_bool HZ.out.symm, FF.out⟩
  · have HZ := Lib.hid (show R = decide (f1 < f2) by rw [HJ.out, decide_eq_false h1]; simp)
    go_wp2
    go_ret
    exact ⟨ret_bool HZ.out.symm, FF.out⟩
end Go.Proofs.YtpjikijfendmhaaGreat
