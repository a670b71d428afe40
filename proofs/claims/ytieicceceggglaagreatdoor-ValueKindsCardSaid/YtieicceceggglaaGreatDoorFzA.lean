
/-
  Package frac: Valid, fraction, orZero and Of. For every two ints; nothing that was there turns.
-/
import Derived.Test.YtieicceceggglaaGreatDoorNumA
import Derived.Test.YtieicceceggglaaGreatDoorFracM
import Derived.Test.YtieicceceggglaaGreatDoorFrM
import Derived.Test.YtieicceceggglaaGreatDoorFrO
import Derived.Test.YtieicceceggglaaGreatDoorFrPut
import Derived.Test.YtieicceceggglaaGreatDoorFrMem
import Derived.Test.YtieicceceggglaaGreatDoorFrR
import Derived.Test.YtieicceceggglaaGreatDoorFrW
namespace Go.Proofs.YtieicceceggglaaGreatDoor
open Go.RowKit

theorem inB_dec (n : Int) : inB n = (decide (-1000000000000000 ≤ n) && decide (n ≤ 1000000000000000)) := rfl
theorem gcd_ok {n d : Int} (h : 0 < d) : (gcdV n d == 1) = okF n d := by
  have e : Int.gcd n d = Nat.gcd n.natAbs d.toNat := by rw [show d.toNat = d.natAbs by omega]; rfl
  cases hn : inB n
  · have k := inB_f hn
    unfold gcdV okF
    rw [if_neg (by rw [hn]; intro h; cases h.1)]
    have : (decide (-1000000000000000 ≤ n) && decide (n ≤ 1000000000000000)) = false := by rw [← inB_dec]; exact hn
    simp only [Bool.and_eq_false_iff, decide_eq_false_iff_not] at this
    rcases this with t | t <;> simp [t]
  · cases hd : inB d
    · have k := inB_f hd
      unfold gcdV okF
      rw [if_neg (by rw [hd]; intro h; cases h.2)]
      have t : ¬ d ≤ 1000000000000000 := by omega
      simp [t]
    · obtain ⟨a, b⟩ := inB_t hn
      obtain ⟨a', b'⟩ := inB_t hd
      unfold gcdV okF
      rw [if_pos ⟨hn, hd⟩, e, decide_eq_true a, decide_eq_true b, decide_eq_true b', decide_eq_true (show 1 ≤ d by omega)]
      simp only [Bool.true_and]
      rw [Bool.eq_iff_iff, beq_iff_eq, decide_eq_true_iff]
      omega
theorem nf_valid (n d : Int) (w : World) : Calls Tryz.prog 69 #[.agg #[.int .i64 n, .int .i64 d]] w (RetB w (okF n d)) := by
  obtain ⟨p0, f0⟩ := box1 w n d
  by_cases h : 0 < d
  · rw [← gcd_ok h]
    have CG := Lib.hid (fun w => num_gcd n d w)
    generalize gcdV n d = G at *
    have c00 := p0.c0
    have c01 := p0.c1
    go_enter Tryz.func69, Tryz.ntmps69
    go_wp2_with fail
    go_at_call 94; refine (CG.out _).mono ?_; rintro e1 w1 ⟨rfl, f1⟩
    go_wp2
    go_ret
    exact ⟨rfl, f0.trans f1⟩
  · have e : okF n d = false := by unfold okF; rw [decide_eq_false (show ¬ 1 ≤ d by omega)]; rfl
    rw [e]
    clear e
    have c00 := p0.c0
    have c01 := p0.c1
    go_enter Tryz.func69, Tryz.ntmps69
    go_wp2
    go_ret
    exact ⟨rfl, f0⟩

/-- A fraction. -/
def RetF (w : World) (n d : Int) (e : Ending) (w' : World) : Prop := e = .returned (.agg #[.int .i64 n, .int .i64 d]) ∧ Fur w w'
theorem f_ret {fn : Func} {p : Tmp} (hres : fn.results = #[.cell p 28]) {tmps : Array Value} {B : Nat} {h l : Int} {w W : World}
    (hp : tmps.getD p undef = .pointer (some ⟨B, 0, none⟩)) (k0 : W.cell? ⟨B, 0, none⟩ = some (.int .i64 h)) (k1 : W.cell? ⟨B, 1, none⟩ = some (.int .i64 l)) (hf : Fur w W) :
    bodyPost Tryz.prog fn (RetF w h l) Exit.ret { tmps := tmps, defers := [] } W := by
  refine bodyPost_ret (v := .agg #[.int .i64 h, .int .i64 l]) ?_ rfl ⟨rfl, hf⟩
  have e : (asAddr (.pointer (some ⟨B, 0, none⟩))).run Tryz.prog W = .ok ⟨B, 0, none⟩ W := by go_simp
  have L := load_frac _ _ _ _ k0 k1
  rw [results_cell hres, hp, e]
  simp only [Result.andThen]
  exact L
/-- What an argument counts for. -/
def ozN (n d : Int) : Int := if okF n d = true then n else 0
def ozD (n d : Int) : Int := if okF n d = true then d else 1
theorem oz_ok (n d : Int) : OkF (ozN n d) (ozD n d) ∧ fv (ozN n d) (ozD n d) = fz n d := by
  unfold ozN ozD
  cases h : okF n d
  · refine ⟨?_, ?_⟩
    · exact ok01
    · have k := fz_f h
      exact k
  · exact ⟨okF_t h, fz_t h⟩
set_option maxHeartbeats 800000 in
theorem orZero_any (n d : Int) (w : World) : Calls Tryz.prog 118 #[.agg #[.int .i64 n, .int .i64 d]] w (RetF w (ozN n d) (ozD n d)) := by
  obtain ⟨p0, p1, f0⟩ := box2 w n d 0 0
  have CV := Lib.hid (fun w => nf_valid n d w)
  unfold ozN ozD
  have c00 := p0.c0
  have c01 := p0.c1
  cases h : okF n d
  all_goals
    rw [h] at CV
    clear h
    go_enter Tryz.func118, Tryz.ntmps118
    go_wp2_with fail
    go_at_call 69; refine (CV.out _).mono ?_; rintro e1 w1 ⟨rfl, f1⟩
    clear c00 c01
    replace p0 := p0.on f1
    replace p1 := p1.on f1
    replace f0 := f0.trans f1
    have c00 := p0.c0
    have c01 := p0.c1
    have c10 := p1.c0
    have c11 := p1.c1
    have z10 := p1.f0 0
    have z11 := p1.f0 1
    clear f1
    go_wp2
    try simp only [Exit.inBlock, Exit.then]
    exact f_ret rfl rfl (frac_put w1 _ _ _ _ _ _ _ p1).1 (frac_put w1 _ _ _ _ _ _ _ p1).2 (fur_put f0 (by omega) _ _)
end Go.Proofs.YtieicceceggglaaGreatDoor
