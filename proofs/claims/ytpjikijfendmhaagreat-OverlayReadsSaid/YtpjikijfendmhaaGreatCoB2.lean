
/-
  slices.IsSortedFunc of entries by column's order. Nothing that was there turns.
-/
import Derived.Test.YtpjikijfendmhaaGreatCoB
namespace Go.Proofs.YtpjikijfendmhaaGreat
open Go.RowKit

theorem sorJ_at {l : List Aj} (h : sorJ l = true) {i : Nat} (hi : i + 1 < l.length) : adjL l[i + 1] l[i] = false :=
  List.pairwise_iff_getElem.1 (sorJ_iff.1 h) i (i + 1) (by omega) hi (by omega)
set_option maxHeartbeats 6400000 in
set_option maxRecDepth 100000 in
theorem sorted_any (l : List Aj) (ao : Option Addr) (cap : Nat) (w : World) (hs : SlJ w ao l cap) :
    Calls Tryz.prog 71 #[.slice ao l.length cap, .func (.func 73) #[] #[]] w (FwB w (sorJ l)) := by
  have hl := hs.le
  have hm := hs.max
  unfold maxLen at hm
  have HS := Lib.hid hs
  obtain ⟨R, hR⟩ : ∃ R, R = sorJ l := ⟨_, rfl⟩
  rw [← hR]
  have HR := Lib.hid hR
  have H0 := Lib.hid (show sorJ (l.drop (l.length - 1)) = true from sorJ_end (by omega))
  clear hR hs
  go_enter Tryz.func71, Tryz.ntmps71
  go_wp2
  go_loopw [5] (fun iv wr => ∃ j : Nat, iv = .int .i64 ((j : Int) - 1) ∧ j ≤ l.length ∧ Hid (sorJ (l.drop (j - 1)) = true) ∧ Hid (Fuw w wr)) (fun iv _ => (RowKit.intOf iv + 1).toNat)
  case atStart => exact ⟨l.length, rfl, Nat.le_refl _, H0, Lib.hid (Fuw.refl _)⟩
  case round =>
    obtain ⟨j, rfl, hj, HQ, hf⟩ := hrel
    by_cases hlt : 1 < j
    · obtain ⟨k, rfl⟩ : ∃ k, j = k + 2 := ⟨j - 2, by omega⟩
      have e0 : ((k + 2 : Nat) : Int) - 1 = (k : Int) + 1 := by omega
      rw [e0]
      obtain ⟨b, o, rfl, ⟨-, -, -, x0, x1, x2⟩, -, -, -, y0, y1, y2⟩ := (slJ_on hf.out HS.out).get2 (show k < l.length by omega) (show k + 1 < l.length by omega)
      have HA := Lib.hid (sorJ_drop (show k + 1 < l.length by omega))
      have HB := Lib.hid (fun (h : sorJ l = true) => sorJ_at h (show k + 1 < l.length by omega))
      have HC := Lib.hid (fun w' => ordc_any l[k + 1] l[k] w')
      have HD := Lib.hid (adjc_lt l[k + 1] l[k])
      unfold adv at HC
      generalize l[k + 1] = y at *
      generalize l[k] = x at *
      obtain ⟨y0', y1', y2'⟩ := y
      obtain ⟨x0', x1', x2'⟩ := x
      simp only at x0 x1 x2 y0 y1 y2 HC
      have z5 : IntKind.i64.wrap (k : Int) = k := IntWalk.i64_in _ (by omega)
      have e1 : (k : Int) + 1 - 1 = k := by omega
      have e2 : ((k : Int) + 1).toNat = k + 1 := by omega
      have z1 : (k : Int) + 1 < (l.length : Int) := by omega
      have z2 : (k : Int) < (l.length : Int) := by omega
      have z3 : (0 : Int) < (k : Int) + 1 := by omega
      have z4 : (0 : Int) ≤ (k : Int) + 1 := by omega
      obtain ⟨q, hq⟩ : ∃ q, q = adjc (y0', y1', y2') (x0', x1', x2') := ⟨_, rfl⟩
      rw [← hq] at HC HD
      clear hq
      go_upto_region 4 with fail
      obtain ⟨S, hS⟩ : ∃ S : World → Prop, S = (fun w8 => w8.cell? ⟨b, o + (k + 1) * 3, none⟩ = some (.int .i64 y0') ∧ w8.cell? ⟨b, o + (k + 1) * 3 + 1, none⟩ = some (.int .i64 y1') ∧ w8.cell? ⟨b, o + (k + 1) * 3 + 2, none⟩ = some (.int .i64 y2') ∧ w8.cell? ⟨b, o + k * 3, none⟩ = some (.int .i64 x0') ∧ w8.cell? ⟨b, o + k * 3 + 1, none⟩ = some (.int .i64 x1') ∧ w8.cell? ⟨b, o + k * 3 + 2, none⟩ = some (.int .i64 x2')) := ⟨_, rfl⟩
      have HS4 := Lib.hid hS
      clear hS
      refine lst_start [10] S (by kernel_rfl) ?_
      have hS0 : S wr.drew := by rw [HS4.out]; exact ⟨y0, y1, y2, x0, x1, x2⟩
      refine takeP (i := 0) (d := some 13) (v := ?_) rfl rfl (by kernel_rfl) (by kernel_rfl) (by kernel_rfl) (by kernel_rfl) (by kernel_rfl) (fun _ _ _ h => h) (Or.inl ⟨by rfl, ?_⟩) (by first | exact Or.inr (by assumption) | exact Or.inl (by kernel_rfl)) ?_
      rotate_left
      · ((intro w8 _; go_simp); try with_reducible rfl)
      try simp only [Act.put]
      try simp only [List.setIfInBounds_toArray]
      try simp only [List.set_cons_succ]
      try simp only [List.set_cons_zero]
      refine takeP (i := 1) (d := some 14) (v := ?_) rfl rfl (by kernel_rfl) (by kernel_rfl) (by kernel_rfl) (by kernel_rfl) (by kernel_rfl) (fun _ _ _ h => h) (Or.inl ⟨by rfl, ?_⟩) (by first | exact Or.inr (by assumption) | exact Or.inl (by kernel_rfl)) ?_
      rotate_left
      · ((intro w8 _; go_simp); try with_reducible rfl)
      try simp only [Act.put]
      try simp only [List.setIfInBounds_toArray]
      try simp only [List.set_cons_succ]
      try simp only [List.set_cons_zero]
      refine takeP (i := 2) (d := some 15) (v := ?_) rfl rfl (by kernel_rfl) (by kernel_rfl) (by kernel_rfl) (by kernel_rfl) (by kernel_rfl) (fun _ _ _ h => h) (Or.inl ⟨by rfl, ?_⟩) (by first | exact Or.inr (by assumption) | exact Or.inl (by kernel_rfl)) ?_
      rotate_left
      · ((intro w8 _; go_simp); try with_reducible rfl)
      try simp only [Act.put]
      try simp only [List.setIfInBounds_toArray]
      try simp only [List.set_cons_succ]
      try simp only [List.set_cons_zero]
      refine takeP (i := 3) (d := some 16) (v := ?_) rfl rfl (by kernel_rfl) (by kernel_rfl) (by kernel_rfl) (by kernel_rfl) (by kernel_rfl) (fun _ _ _ h => h) (Or.inl ⟨by rfl, ?_⟩) (by first | exact Or.inr (by assumption) | exact Or.inl (by kernel_rfl)) ?_
      rotate_left
      · ((intro w8 _; go_simp); try with_reducible rfl)
      try simp only [Act.put]
      try simp only [List.setIfInBounds_toArray]
      try simp only [List.set_cons_succ]
      try simp only [List.set_cons_zero]
      refine takeL (i := 4) (d := some 17) (v := ?_) rfl rfl (by kernel_rfl) (by kernel_rfl) (by kernel_rfl) (by kernel_rfl) (by kernel_rfl) (fun _ _ _ h => h) (Or.inl ⟨by rfl, ?_⟩) (by assumption) ?_
      rotate_left
      · ((intro w8 hSw; rw [HS4.out] at hSw; obtain ⟨y1, y2, y3, y4, y5, y6⟩ := hSw; go_simp); try with_reducible rfl)
      try simp only [Act.put]
      try simp only [List.setIfInBounds_toArray]
      try simp only [List.set_cons_succ]
      try simp only [List.set_cons_zero]
      refine takeP (i := 5) (d := some 18) (v := ?_) rfl rfl (by kernel_rfl) (by kernel_rfl) (by kernel_rfl) (by kernel_rfl) (by kernel_rfl) (fun _ _ _ h => h) (Or.inl ⟨by rfl, ?_⟩) (by first | exact Or.inr (by assumption) | exact Or.inl (by kernel_rfl)) ?_
      rotate_left
      · ((intro w8 _; go_simp); try with_reducible rfl)
      try simp only [Act.put]
      try simp only [List.setIfInBounds_toArray]
      try simp only [List.set_cons_succ]
      try simp only [List.set_cons_zero]
      refine takeP (i := 6) (d := some 19) (v := ?_) rfl rfl (by kernel_rfl) (by kernel_rfl) (by kernel_rfl) (by kernel_rfl) (by kernel_rfl) (fun _ _ _ h => h) (Or.inl ⟨by rfl, ?_⟩) (by first | exact Or.inr (by assumption) | exact Or.inl (by kernel_rfl)) ?_
      rotate_left
      · ((intro w8 _; go_simp); try with_reducible rfl)
      try simp only [Act.put]
      try simp only [List.setIfInBounds_toArray]
      try simp only [List.set_cons_succ]
      try simp only [List.set_cons_zero]
      refine takeP (i := 7) (d := some 20) (v := ?_) rfl rfl (by kernel_rfl) (by kernel_rfl) (by kernel_rfl) (by kernel_rfl) (by kernel_rfl) (fun _ _ _ h => h) (Or.inl ⟨by rfl, ?_⟩) (by first | exact Or.inr (by assumption) | exact Or.inl (by kernel_rfl)) ?_
      rotate_left
      · ((intro w8 _; go_simp); try with_reducible rfl)
      try simp only [Act.put]
      try simp only [List.setIfInBounds_toArray]
      try simp only [List.set_cons_succ]
      try simp only [List.set_cons_zero]
      refine takeP (i := 8) (d := some 21) (v := ?_) rfl rfl (by kernel_rfl) (by kernel_rfl) (by kernel_rfl) (by kernel_rfl) (by kernel_rfl) (fun _ _ _ h => h) (Or.inl ⟨by rfl, ?_⟩) (by first | exact Or.inr (by assumption) | exact Or.inl (by kernel_rfl)) ?_
      rotate_left
      · ((intro w8 _; go_simp); try with_reducible rfl)
      try simp only [Act.put]
      try simp only [List.setIfInBounds_toArray]
      try simp only [List.set_cons_succ]
      try simp only [List.set_cons_zero]
      refine takeL (i := 9) (d := some 22) (v := ?_) rfl rfl (by kernel_rfl) (by kernel_rfl) (by kernel_rfl) (by kernel_rfl) (by kernel_rfl) (fun _ _ _ h => h) (Or.inl ⟨by rfl, ?_⟩) (by assumption) ?_
      rotate_left
      · ((intro w8 hSw; rw [HS4.out] at hSw; obtain ⟨y1, y2, y3, y4, y5, y6⟩ := hSw; go_simp); try with_reducible rfl)
      try simp only [Act.put]
      try simp only [List.setIfInBounds_toArray]
      try simp only [List.set_cons_succ]
      try simp only [List.set_cons_zero]
      refine outL (i := 10) rfl (by kernel_rfl) (by kernel_rfl) (fun K8 hK8 => ?_)
      go_simp
      go_at_call 73; refine (HC.out _).mono ?_; rintro e9 w9 ⟨rfl, f9⟩
      have HF := Lib.hid ((hf.out.trans (fuw_dr wr 1)).trans f9.w)
      refine hK8 _ _ ?_
      try simp only [Act.put]
      try simp only [List.setIfInBounds_toArray]
      try simp only [List.set_cons_succ]
      try simp only [List.set_cons_zero]
      refine takeP (i := 11) (d := some 24) (v := ?_) rfl rfl (by kernel_rfl) (by kernel_rfl) (by kernel_rfl) (by kernel_rfl) (by kernel_rfl) (fun _ _ _ h => h) (Or.inl ⟨by rfl, ?_⟩) (by first | exact Or.inr (by assumption) | exact Or.inl (by kernel_rfl)) ?_
      rotate_left
      · ((intro w8 _; go_simp); try with_reducible rfl)
      try simp only [Act.put]
      try simp only [List.setIfInBounds_toArray]
      try simp only [List.set_cons_succ]
      try simp only [List.set_cons_zero]
      refine lst_done (by kernel_rfl) ?_ _
      by_cases hz : q < 0
      · have HT := Lib.hid (show adjL (y0', y1', y2') (x0', x1', x2') = true by rw [← HD.out, decide_eq_true hz])
        have HZ := Lib.hid (show R = false by
          rw [Bool.eq_false_iff, HR.out]
          intro h
          have := HB.out h
          rw [HT.out] at this
          cases this)
        go_wp2
        go_ret
        exact ⟨ret_bool HZ.out.symm, HF.out⟩
      · have HT := Lib.hid (show adjL (y0', y1', y2') (x0', x1', x2') = false by rw [← HD.out, decide_eq_false hz])
        have HZ := Lib.hid (show sorJ (l.drop (k + 1 - 1)) = true by
          have := HQ.out
          rw [show k + 2 - 1 = k + 1 by omega] at this
          rw [show k + 1 - 1 = k by omega, HA.out, HT.out, this]; rfl)
        go_wp2
        go_roundw
        case rel => exact ⟨k + 1, by go_num, by omega, HZ, HF⟩
        case measure => simp [RowKit.intOf]; omega
    · have HZ := Lib.hid (show R = true by
        rw [HR.out]
        have := HQ.out
        rwa [show j - 1 = 0 by omega, List.drop_zero] at this)
      have hge : ¬ (0 : Int) < (j : Int) - 1 := by omega
      go_wp2
      go_ret
      exact ⟨ret_bool HZ.out.symm, hf.out⟩
end Go.Proofs.YtpjikijfendmhaaGreat
