
/-
  Package frac: Floor and Text. For every pair of ints (Text: where the table of powers of ten reads as laid); nothing that was there turns.
-/
import Derived.Test.YtieicceceggglaaGreatDoorFzA
import Derived.Test.YtieicceceggglaaGreatDoorNumT
import Derived.Deep.RegionHeld3
namespace Go.Proofs.YtieicceceggglaaGreatDoor
open Go.RowKit

set_option maxHeartbeats 1600000 in
set_option maxRecDepth 100000 in
theorem nf_text (n d : Int) (w : World) (G : Good w) : Calls Tryz.prog 79 #[.agg #[.int .i64 n, .int .i64 d]] w (RetT w (texV n d)) := by
  obtain ⟨p0, f0⟩ := box1 w n d
  have VA := Lib.hid (fun w => nf_valid n d w)
  have GG := Lib.hid G
  cases va : okF n d
  · rw [show texV n d = ⟨#[]⟩ by unfold texV; rw [va]; rfl]
    rw [va] at VA
    clear va
    have c00 := p0.c0
    have c01 := p0.c1
    go_enter Tryz.func79, Tryz.ntmps79
    go_wp2_with fail
    go_at_call 69; refine (VA.out _).mono ?_; rintro e1 w1 ⟨rfl, f1⟩
    go_wp2
    go_ret
    exact ⟨rfl, f0.trans f1⟩
  · rw [show texV n d = fracTxt n d by unfold texV; rw [va]; rfl]
    have ha := okF_t va
    have a1 := ha.d1; have a2 := ha.d2; have a3 := ha.n1; have a4 := ha.n2
    rw [va] at VA
    have c00 := p0.c0
    have c01 := p0.c1
    clear va ha
    by_cases hd : d = 1
    · subst hd
      rw [show fracTxt n 1 = txt n by unfold fracTxt; rw [if_pos rfl]]
      go_enter Tryz.func79, Tryz.ntmps79
      go_wp2_with fail
      go_at_call 69; refine (VA.out _).mono ?_; rintro e1 w1 ⟨rfl, f1⟩
      clear c00 c01
      replace p0 := p0.on f1
      have c00 := p0.c0
      have c01 := p0.c1
      go_wp2_with fail
      go_at_call 81; refine (num_text _ (by omega) (by omega) _ (GG.out.on (f0.trans f1))).mono ?_; rintro e1 w2 ⟨rfl, f2⟩
      go_wp2
      go_ret
      exact ⟨rfl, (f0.trans f1).trans f2⟩
    · rw [show fracTxt n d = txt n ++ ⟨#[47]⟩ ++ txt d by unfold fracTxt; rw [if_neg hd]]
      have hdne : (d == 1) = false := by rw [beq_eq_false_iff_ne]; exact hd
      have z1 := txt_size n (by omega) (by omega)
      have z2 := txt_size d (by omega) (by omega)
      have z3 : ¬ (9223372036854775807 < (txt n).size + 1) := by omega
      have z4 : ¬ (9223372036854775807 < (txt n).size + 1 + (txt d).size) := by omega
      clear hd
      go_enter Tryz.func79, Tryz.ntmps79
      go_wp2_with fail
      go_at_call 69; refine (VA.out _).mono ?_; rintro e1 w1 ⟨rfl, f1⟩
      clear c00 c01
      replace p0 := p0.on f1
      replace f0 := f0.trans f1
      have c00 := p0.c0
      have c01 := p0.c1
      have G1 := Lib.hid (GG.out.on f0)
      go_wp2_with fail
      go_region_held3 (fun w' => Fur w1 w' ∧ w'.cell? ⟨w.heap.size, 0, none⟩ = some (.int .i64 n) ∧ w'.cell? ⟨w.heap.size, 1, none⟩ = some (.int .i64 d))
        (first
          | (refine ⟨Fur.drew (Fur.refl _), ?_, ?_⟩ <;> simp [*]; done)
          | go_keep
          | (refine ⟨Fur.trans ?_ (by assumption), cellOn (by assumption) ?_, cellOn (by assumption) ?_⟩ <;> simp [*]))
        (first
          | (go_at_call 81; refine (num_text _ ?_ ?_ _ (G1.out.on ?_)).mono ?_; omega; omega; (first | (simp [*]; done) | (exact Fur.drew (Fur.refl _)) | (simp only [*])); rintro e w4 ⟨rfl, f4⟩))
      have hS : Fur w1 w4 ∧ w4.cell? ⟨w.heap.size, 0, none⟩ = some (.int .i64 n) ∧ w4.cell? ⟨w.heap.size, 1, none⟩ = some (.int .i64 d) := by assumption
      have ff := f0.trans hS.1
      go_wp2
      go_ret
      exact ⟨rfl, ff⟩
end Go.Proofs.YtieicceceggglaaGreatDoor
