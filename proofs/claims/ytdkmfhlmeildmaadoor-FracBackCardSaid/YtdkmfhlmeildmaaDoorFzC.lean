/-
  Package frac: Floor and Text. For every pair of ints (Text: where the table of powers of ten reads as laid); nothing that was there turns.
-/
import Derived.Test.YtdkmfhlmeildmaaDoorFzB
import Derived.Deep.RegionHeld3
namespace Go.Proofs.YtdkmfhlmeildmaaDoor
open Go.RowKit

theorem floor_t {N D : Int} (hD : 1 ≤ D) : (N.tmod D < 0 → N / D = N.tdiv D - 1) ∧ (¬ N.tmod D < 0 → N / D = N.tdiv D) := by
  have e := Int.mul_tdiv_add_tmod N D
  have b : N.tmod D < D ∧ -D < N.tmod D := by
    have k : (N.tmod D).natAbs = N.natAbs % D.natAbs := Int.natAbs_tmod ..
    have m := Nat.mod_lt N.natAbs (show 0 < D.natAbs by omega)
    omega
  generalize N.tmod D = M at *
  generalize N.tdiv D = T at *
  constructor
  · intro h
    rw [Int.ediv_eq_iff_of_pos (by omega), Int.sub_mul, Int.one_mul, Int.mul_comm T D]
    omega
  · intro h
    rw [Int.ediv_eq_iff_of_pos (by omega), Int.mul_comm T D]
    omega
theorem flV_oz (n d : Int) : flV n d = ozN n d / ozD n d := by
  unfold flV ozN ozD
  cases okF n d <;> rfl
set_option maxHeartbeats 800000 in
theorem nf_floor (n d : Int) (w : World) : Calls Tryd.prog 28 #[.agg #[.int .i64 n, .int .i64 d]] w (RetI w (flV n d)) := by
  obtain ⟨p0, f0⟩ := box1 w n d
  have CO := Lib.hid (fun w => orZero_any n d w)
  rw [flV_oz]
  have ho := (oz_ok n d).1
  generalize ozN n d = N at *
  generalize ozD n d = D at *
  have d1 := ho.d1; have d2 := ho.d2; have n1 := ho.n1; have n2 := ho.n2
  have F := floor_t (N := N) d1
  have q0 := Int.natAbs_tdiv_le_natAbs N D
  have q1 : -1000000000000000 ≤ N.tdiv D := by omega
  have q2 : N.tdiv D ≤ 1000000000000000 := by omega
  have hdz : (D == 0) = false := by rw [beq_eq_false_iff_ne]; omega
  have m0 : (N.tmod D).natAbs ≤ N.natAbs := by rw [Int.natAbs_tmod]; exact Nat.mod_le _ _
  have m1 : -1000000000000000 ≤ N.tmod D := by omega
  have m2 : N.tmod D ≤ 1000000000000000 := by omega
  obtain ⟨T, hT⟩ : ∃ T, N.tdiv D = T := ⟨_, rfl⟩
  obtain ⟨M, hM⟩ : ∃ M, N.tmod D = M := ⟨_, rfl⟩
  rw [hT] at q1 q2 F
  rw [hM] at m1 m2 F
  have hdI : 0 < D := by omega
  have c00 := p0.c0
  have c01 := p0.c1
  have z00 := p0.f0 0
  have z01 := p0.f0 1
  clear ho q0 m0
  by_cases h : M < 0
  · rw [F.1 h]
    clear F
    go_enter Tryd.func28, Tryd.ntmps28
    go_wp2_with fail
    go_at_call 48; refine (CO.out _).mono ?_; rintro e1 w1 ⟨rfl, f1⟩
    clear c00 c01 z00 z01
    replace p0 := p0.on f1
    replace f0 := f0.trans f1
    have c00 := p0.c0
    have c01 := p0.c1
    have z00 := p0.f0 0
    have z01 := p0.f0 1
    clear f1 CO
    go_upto_region 2 with fail
    have p3 := p0.put N D
    have f3 := fur_put f0 (Nat.le_refl _) (.int .i64 N) (.int .i64 D)
    clear c00 c01 z00 z01 p0 f0
    generalize (w1.setCell ⟨w.heap.size, 0, none⟩ (.int .i64 N)).setCell ⟨w.heap.size, 1, none⟩ (.int .i64 D) = v at *
    have c00 := p3.c0
    have c01 := p3.c1
    go_wp2
    go_ret
    exact ⟨rfl, f3⟩
  · rw [F.2 h]
    clear F
    go_enter Tryd.func28, Tryd.ntmps28
    go_wp2_with fail
    go_at_call 48; refine (CO.out _).mono ?_; rintro e1 w1 ⟨rfl, f1⟩
    clear c00 c01 z00 z01
    replace p0 := p0.on f1
    replace f0 := f0.trans f1
    have c00 := p0.c0
    have c01 := p0.c1
    have z00 := p0.f0 0
    have z01 := p0.f0 1
    clear f1 CO
    go_upto_region 2 with fail
    have p3 := p0.put N D
    have f3 := fur_put f0 (Nat.le_refl _) (.int .i64 N) (.int .i64 D)
    clear c00 c01 z00 z01 p0 f0
    generalize (w1.setCell ⟨w.heap.size, 0, none⟩ (.int .i64 N)).setCell ⟨w.heap.size, 1, none⟩ (.int .i64 D) = v at *
    have c00 := p3.c0
    have c01 := p3.c1
    go_wp2
    go_ret
    exact ⟨rfl, f3⟩

set_option maxHeartbeats 1600000 in
set_option maxRecDepth 100000 in
theorem nf_text (n d : Int) (w : World) (G : Good w) : Calls Tryd.prog 26 #[.agg #[.int .i64 n, .int .i64 d]] w (RetT w (texV n d)) := by
  obtain ⟨p0, f0⟩ := box1 w n d
  have VA := Lib.hid (fun w => nf_valid n d w)
  have GG := Lib.hid G
  cases va : okF n d
  · rw [show texV n d = ⟨#[]⟩ by unfold texV; rw [va]; rfl]
    rw [va] at VA
    clear va
    have c00 := p0.c0
    have c01 := p0.c1
    go_enter Tryd.func26, Tryd.ntmps26
    go_wp2_with fail
    go_at_call 11; refine (VA.out _).mono ?_; rintro e1 w1 ⟨rfl, f1⟩
    go_wp2
    go_ret
    exact ⟨rfl, f0.trans f1⟩
  · rw [show texV n d = fracTxt n d by unfold texV; rw [va]; rfl]
    have ha := okF_t va
    have a1 := ha.d1; have a2 := ha.d2; have a3 := ha.n1; have a4 := ha.n2
    rw [va] at VA
    have c00 := p0.c0
    have c01 := p0.c1
    clear va ha
    by_cases hd : d = 1
    · subst hd
      rw [show fracTxt n 1 = txt n by unfold fracTxt; rw [if_pos rfl]]
      go_enter Tryd.func26, Tryd.ntmps26
      go_wp2_with fail
      go_at_call 11; refine (VA.out _).mono ?_; rintro e1 w1 ⟨rfl, f1⟩
      clear c00 c01
      replace p0 := p0.on f1
      have c00 := p0.c0
      have c01 := p0.c1
      go_wp2_with fail
      go_at_call 53; refine (num_text _ (by omega) (by omega) _ (GG.out.on (f0.trans f1))).mono ?_; rintro e1 w2 ⟨rfl, f2⟩
      go_wp2
      go_ret
      exact ⟨rfl, (f0.trans f1).trans f2⟩
    · rw [show fracTxt n d = txt n ++ ⟨#[47]⟩ ++ txt d by unfold fracTxt; rw [if_neg hd]]
      have hdne : (d == 1) = false := by rw [beq_eq_false_iff_ne]; exact hd
      have z1 := txt_size n (by omega) (by omega)
      have z2 := txt_size d (by omega) (by omega)
      have z3 : ¬ (9223372036854775807 < (txt n).size + 1) := by omega
      have z4 : ¬ (9223372036854775807 < (txt n).size + 1 + (txt d).size) := by omega
      clear hd
      go_enter Tryd.func26, Tryd.ntmps26
      go_wp2_with fail
      go_at_call 11; refine (VA.out _).mono ?_; rintro e1 w1 ⟨rfl, f1⟩
      clear c00 c01
      replace p0 := p0.on f1
      replace f0 := f0.trans f1
      have c00 := p0.c0
      have c01 := p0.c1
      have G1 := Lib.hid (GG.out.on f0)
      go_wp2_with fail
      go_region_held3 (fun w' => Fur w1 w' ∧ w'.cell? ⟨w.heap.size, 0, none⟩ = some (.int .i64 n) ∧ w'.cell? ⟨w.heap.size, 1, none⟩ = some (.int .i64 d))
        (first
          | (refine ⟨Fur.drew (Fur.refl _), ?_, ?_⟩ <;> simp [*]; done)
          | go_keep
          | (refine ⟨Fur.trans ?_ (by assumption), cellOn (by assumption) ?_, cellOn (by assumption) ?_⟩ <;> simp [*]))
        (first
          | (go_at_call 53; refine (num_text _ ?_ ?_ _ (G1.out.on ?_)).mono ?_; omega; omega; (first | (simp [*]; done) | (exact Fur.drew (Fur.refl _)) | (simp only [*])); rintro e w4 ⟨rfl, f4⟩))
      have hS : Fur w1 w4 ∧ w4.cell? ⟨w.heap.size, 0, none⟩ = some (.int .i64 n) ∧ w4.cell? ⟨w.heap.size, 1, none⟩ = some (.int .i64 d) := by assumption
      have ff := f0.trans hS.1
      go_wp2
      go_ret
      exact ⟨rfl, ff⟩
end Go.Proofs.YtdkmfhlmeildmaaDoor
