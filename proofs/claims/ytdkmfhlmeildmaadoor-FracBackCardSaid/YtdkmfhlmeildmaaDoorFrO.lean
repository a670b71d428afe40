/-
  The reference of package frac: Floor gives the greatest int that is not greater. For every pair of ints; nothing that was there turns.
-/
import Derived.Test.YtdkmfhlmeildmaaDoorFrB
import Derived.Test.YtdkmfhlmeildmaaDoorFrQ
namespace Go.Proofs.YtdkmfhlmeildmaaDoor
open Go.RowKit

theorem box1 (w : World) (a b : Int) : Box (w.alloc (.cells #[.int .i64 a, .int .i64 b] 23)) w.heap.size a b ∧ Fur w (w.alloc (.cells #[.int .i64 a, .int .i64 b] 23)) := by
  refine ⟨?_, (Fur.refl w).alloc _⟩
  show (w.heap.push _)[w.heap.size]? = _
  rw [Array.getElem?_push, if_pos rfl]
/-- What Floor gives. -/
def flV (n d : Int) : Int := if okF n d = true then n / d else 0
theorem fl_neg {n d : Int} (hd : 1 ≤ d) (hn : n < 0) : -((d - 1 - n).tdiv d) = n / d := by
  rw [Int.tdiv_eq_ediv_of_nonneg (by omega)]
  have e := Int.mul_ediv_add_emod n d
  have m0 := Int.emod_nonneg n (show d ≠ 0 by omega)
  have m1 := Int.emod_lt_of_pos n (show 0 < d by omega)
  have k : (d - 1 - n) / d = -(n / d) := by
    rw [Int.ediv_eq_iff_of_pos (by omega)]
    generalize n / d = q at *
    rw [Int.neg_mul, Int.mul_comm q d]
    omega
  rw [k]; omega

set_option maxHeartbeats 1600000 in
theorem rfloor_any (n d : Int) (w : World) : Calls Tryd.prog 29 #[.agg #[.int .i64 n, .int .i64 d]] w (RetI w (flV n d)) := by
  obtain ⟨p0, f0⟩ := box1 w n d
  have VA := Lib.hid (fun w => rvalid_any n d w)
  cases va : okF n d
  · rw [show flV n d = 0 by unfold flV; rw [va]; rfl]
    rw [va] at VA
    clear va
    go_enter Tryd.func29, Tryd.ntmps29
    go_wp2_with fail
    go_at_call 12; refine (VA.out _).mono ?_; rintro e1 w1 ⟨rfl, f1⟩
    go_wp2
    go_ret
    exact ⟨rfl, f0.trans f1⟩
  · rw [show flV n d = n / d by unfold flV; rw [va]; rfl]
    have ha := okF_t va
    have a1 := ha.d1; have a2 := ha.d2; have a3 := ha.n1; have a4 := ha.n2
    rw [va] at VA
    have hdz : (d == 0) = false := by rw [beq_eq_false_iff_ne]; omega
    have hdI : (0 : Int) < d := by omega
    clear va ha
    by_cases hn : n < 0
    · have HE := Lib.hid (fl_neg a1 hn)
      have HF := Lib.hid (show (d - 1 - n).tdiv d = (d - 1 - n) / d from Int.tdiv_eq_ediv_of_nonneg (by omega))
      have HB := Lib.hid (show 0 ≤ (d - 1 - n) / d ∧ (d - 1 - n) / d ≤ d - 1 - n from ⟨Int.ediv_nonneg (by omega) (by omega), Int.ediv_le_self _ (by omega)⟩)
      go_enter Tryd.func29, Tryd.ntmps29
      go_wp2_with fail
      go_at_call 12; refine (VA.out _).mono ?_; rintro e1 w1 ⟨rfl, f1⟩
      replace p0 := p0.on f1
      have c00 := p0.c0
      have c01 := p0.c1
      obtain ⟨q, hq⟩ : ∃ q, (d - 1 - n) / d = q := ⟨_, rfl⟩
      have hb := HB.out
      rw [hq] at hb HF
      have hf := HF.out
      have hw : IntKind.i64.wrap ((d - 1 - n).tdiv d) = q := by rw [hf]; exact IntWalk.i64_in _ (by omega)
      go_wp2
      go_ret
      exact ⟨ret_int (by rw [← HE.out, HF.out]), f0.trans f1⟩
    · have hn' : 0 ≤ n := by omega
      have HB := Lib.hid (show 0 ≤ n / d ∧ n / d ≤ n from ⟨Int.ediv_nonneg (by omega) (by omega), Int.ediv_le_self _ (by omega)⟩)
      clear hn
      go_enter Tryd.func29, Tryd.ntmps29
      go_wp2_with fail
      go_at_call 12; refine (VA.out _).mono ?_; rintro e1 w1 ⟨rfl, f1⟩
      replace p0 := p0.on f1
      have c00 := p0.c0
      have c01 := p0.c1
      have hb := HB.out
      go_wp2
      go_ret
      exact ⟨rfl, f0.trans f1⟩
end Go.Proofs.YtdkmfhlmeildmaaDoor
