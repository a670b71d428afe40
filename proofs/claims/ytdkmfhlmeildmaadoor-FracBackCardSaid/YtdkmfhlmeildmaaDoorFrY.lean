/-
  Package frac: wide numbers: gcd is the greatest common divisor with a divisor from 1 to 10^15, over the quotient by it where that is at most 10^15 in size. For every number of less than 2^100 in size. Nothing that was there turns.
-/
import Derived.Test.YtdkmfhlmeildmaaDoorFrX
namespace Go.Proofs.YtdkmfhlmeildmaaDoor
open Go.RowKit Go.Shelf

theorem hi_nat {T : Nat} (h : T < 340282366920938463463374607431768211456) : hiW (T : Int) = ((T / 18446744073709551616 : Nat) : Int) := by unfold hiW; omega
theorem lo_nat (T : Nat) : loW (T : Int) = ((T % 18446744073709551616 : Nat) : Int) := by unfold loW; omega
theorem rem_w (T D : Nat) (hT : T < 340282366920938463463374607431768211456) (d0 : 0 < D) (d1 : D < 18446744073709551616) (w : World) :
    Calls Tryd.prog 59 #[.int .u64 (hiW T), .int .u64 (loW T), .int .u64 D] w fun e w' => e = .returned (.int .u64 (T % D : Nat)) ∧ Fur w w' := by
  rw [hi_nat hT, lo_nat]
  have k := rem64_any (T / 18446744073709551616) (T % 18446744073709551616) D d0 (by omega) (by omega) d1 w
  rw [show T / 18446744073709551616 * 18446744073709551616 + T % 18446744073709551616 = T by omega] at k
  exact k
theorem div_w (T D : Nat) (hT : T < 340282366920938463463374607431768211456) (h : hiW T < D) (d1 : D < 18446744073709551616) (w : World) :
    Calls Tryd.prog 60 #[.int .u64 (hiW T), .int .u64 (loW T), .int .u64 D] w fun e w' => e = .returned (.tuple #[.int .u64 (T / D : Nat), .int .u64 (T % D : Nat)]) ∧ Fur w w' := by
  rw [hi_nat hT] at h ⊢
  rw [lo_nat]
  have k := div64_any (T / 18446744073709551616) (T % 18446744073709551616) D (by omega) (by omega) d1 w
  rw [show T / 18446744073709551616 * 18446744073709551616 + T % 18446744073709551616 = T by omega] at k
  exact k

theorem gcd_rem {T D : Nat} (d0 : 0 < D) (d1 : D ≤ 1000000000000000) : gcdV ((T % D : Nat) : Int) (D : Int) = ((Nat.gcd T D : Nat) : Int) := by
  have m := Nat.mod_lt T d0
  unfold gcdV
  rw [if_pos ⟨inB_mk (by omega) (by omega), inB_mk (by omega) (by omega)⟩]
  show ((Nat.gcd (T % D) D : Nat) : Int) = _
  rw [← Nat.gcd_rec, Nat.gcd_comm]
set_option maxHeartbeats 1600000 in
theorem wgcd_any (A : Int) (D : Nat) (l0 : -1000000000000000000000000000000000000 < A) (l1 : A < 1000000000000000000000000000000000000) (d0 : 0 < D) (d1 : D ≤ 1000000000000000) (w : World) :
    Calls Tryd.prog 39 #[.agg #[.int .u64 (hiW A), .int .u64 (loW A)], .int .i64 (D : Int)] w (RetI w ((Nat.gcd A.natAbs D : Nat) : Int)) := by
  obtain ⟨p0, f0⟩ := wbox1 w (hiW A) (loW A)
  have CA := Lib.hid (fun w => abs_any A l0 l1 w)
  have CR := Lib.hid (fun w => rem_w A.natAbs D (by omega) d0 (by omega) w)
  have CG := Lib.hid (fun w => num_gcd ((A.natAbs % D : Nat) : Int) (D : Int) w)
  rw [gcd_rem d0 d1] at CG
  have m := Nat.mod_lt A.natAbs d0
  have g1 : ((D : Nat) : Int) ≤ 1000000000000000 := by omega
  have g0 : (0 : Int) < D := by omega
  obtain ⟨R, hR⟩ : ∃ R, A.natAbs % D = R := ⟨_, rfl⟩
  rw [hR] at CR CG m
  have r1 : (R : Int) < 1000000000000000 := by omega
  clear hR d0 d1 m l0 l1
  have c00 := p0.c0
  have c01 := p0.c1
  generalize hiW A = ha at *
  generalize loW A = la at *
  generalize Nat.gcd A.natAbs D = G at *
  go_enter Tryd.func39, Tryd.ntmps39
  go_wp2_with fail
  go_at_call 58; refine (CA.out _).mono ?_; rintro e1 w1 ⟨rfl, f1⟩
  clear c00 c01 p0
  replace f0 := f0.trans f1
  clear f1
  go_wp2_with fail
  have f2 := f0.alloc (.cells #[.int .u64 (hiW (A.natAbs : Int)), .int .u64 (loW (A.natAbs : Int))] 43)
  generalize w1.alloc (.cells #[.int .u64 (hiW (A.natAbs : Int)), .int .u64 (loW (A.natAbs : Int))] 43) = v1 at *
  go_at_call 59; refine (CR.out _).mono ?_; rintro e1 w2 ⟨rfl, f3⟩
  go_wp2_with fail
  go_at_call 34; refine (CG.out _).mono ?_; rintro e1 w3 ⟨rfl, f4⟩
  go_wp2
  go_ret
  exact ⟨rfl, (f2.trans f3).trans f4⟩

/-- What over gives. -/
def ovB (A : Int) (D : Nat) : Bool := decide (A.natAbs / D ≤ 1000000000000000)
def ovV (A : Int) (D : Nat) : Int := if ovB A D = true then A.sign * ((A.natAbs / D : Nat) : Int) else 0
theorem sign_3 (A : Int) : A.sign = -1 ∨ A.sign = 0 ∨ A.sign = 1 := by
  rcases Int.lt_trichotomy A 0 with k | k | k
  · exact .inl (Int.sign_eq_neg_one_of_neg k)
  · exact .inr (.inl (by rw [k]; rfl))
  · exact .inr (.inr (Int.sign_eq_one_of_pos k))
theorem ov_big {A : Int} {D : Nat} (d0 : 0 < D) (h : (D : Int) ≤ hiW (A.natAbs : Int)) (hT : A.natAbs < 340282366920938463463374607431768211456) : 1000000000000000 < A.natAbs / D := by
  rw [hi_nat hT] at h
  have k : D ≤ A.natAbs / 18446744073709551616 := by omega
  have k2 : 1000000000000001 ≤ A.natAbs / D := by
    rw [Nat.le_div_iff_mul_le d0]
    have := Nat.mul_le_mul_left 18446744073709551616 k
    omega
  omega
set_option maxHeartbeats 1600000 in
theorem over_any (A : Int) (D : Nat) (l0 : -1000000000000000000000000000000000000 < A) (l1 : A < 1000000000000000000000000000000000000) (d0 : 0 < D) (d1 : D ≤ 1000000000000000) (w : World) :
    Calls Tryd.prog 40 #[.agg #[.int .u64 (hiW A), .int .u64 (loW A)], .int .i64 (D : Int)] w (RetIB w (ovV A D) (ovB A D)) := by
  obtain ⟨p0, f0⟩ := wbox1 w (hiW A) (loW A)
  have CA := Lib.hid (fun w => abs_any A l0 l1 w)
  have CS := Lib.hid (fun w => sign_any A l0 l1 w)
  have g1 : ((D : Nat) : Int) ≤ 1000000000000000 := by omega
  have g0 : (0 : Int) < D := by omega
  have hT : A.natAbs < 340282366920938463463374607431768211456 := by omega
  by_cases hb : (D : Int) ≤ hiW (A.natAbs : Int)
  · have kb := ov_big d0 hb hT
    have eB : ovB A D = false := by unfold ovB; rw [decide_eq_false_iff_not]; omega
    have eV : ovV A D = 0 := by unfold ovV; rw [eB]; rfl
    rw [eB, eV]
    clear eB eV kb d0 d1 hT l0 l1
    have c00 := p0.c0
    have c01 := p0.c1
    generalize hiW A = ha at *
    generalize loW A = la at *
    have ha0 := hiW_0 (A.natAbs : Int)
    have ha1 := hiW_1 (A.natAbs : Int)
    go_enter Tryd.func40, Tryd.ntmps40
    go_wp2_with fail
    go_at_call 58; refine (CA.out _).mono ?_; rintro e1 w1 ⟨rfl, f1⟩
    clear c00 c01 p0
    replace f0 := f0.trans f1
    clear f1
    go_wp2
    go_ret2
    exact ⟨rfl, f0.alloc _⟩
  · have CD := Lib.hid (fun w => div_w A.natAbs D hT (by omega) (by omega) w)
    have hb' : hiW (A.natAbs : Int) < (D : Int) := by omega
    obtain ⟨Q, hQ⟩ : ∃ Q, A.natAbs / D = Q := ⟨_, rfl⟩
    obtain ⟨R, hR⟩ : ∃ R, A.natAbs % D = R := ⟨_, rfl⟩
    rw [hQ, hR] at CD
    have ha0 := hiW_0 (A.natAbs : Int)
    have ha1 := hiW_1 (A.natAbs : Int)
    by_cases hq : Q ≤ 1000000000000000
    · have eB : ovB A D = true := by unfold ovB; rw [hQ, decide_eq_true_iff]; exact hq
      have eV : ovV A D = A.sign * (Q : Int) := by unfold ovV; rw [eB, hQ]; rfl
      rw [eB, eV]
      have q1 : (Q : Int) ≤ 1000000000000000 := by omega
      obtain ⟨V, hV⟩ : ∃ V, A.sign * (Q : Int) = V := ⟨_, rfl⟩
      have v0 : -1000000000000000 ≤ V ∧ V ≤ 1000000000000000 := by
        rcases sign_3 A with k | k | k <;> (rw [k] at hV; omega)
      obtain ⟨v1, v2⟩ := v0
      rw [hV]
      generalize A.sign = sg at *
      have q0 : 0 ≤ (Q : Int) := by omega
      clear eB eV d0 d1 hT l0 l1 hb hQ hR hq
      generalize (Q : Int) = q at *
      generalize (D : Int) = d at *
      have c00 := p0.c0
      have c01 := p0.c1
      go_enter Tryd.func40, Tryd.ntmps40
      go_wp2_with fail
      go_at_call 58; refine (CA.out _).mono ?_; rintro e1 w1 ⟨rfl, f1⟩
      clear c00 c01
      replace p0 := p0.on f1
      replace f0 := f0.trans f1
      clear f1 CA
      generalize hiW (A.natAbs : Int) = hc at *
      generalize loW (A.natAbs : Int) = lc at *
      go_wp2_with fail
      have f2 := (Fur.refl w1).alloc (.cells #[.int .u64 hc, .int .u64 lc] 43)
      replace p0 := p0.on f2
      replace f0 := f0.trans f2
      clear f2
      generalize w1.alloc (.cells #[.int .u64 hc, .int .u64 lc] 43) = v1 at *
      go_at_call 60; refine (CD.out _).mono ?_; rintro e1 w2 ⟨rfl, f3⟩
      replace p0 := p0.on f3
      replace f0 := f0.trans f3
      clear f3
      have c00 := p0.c0
      have c01 := p0.c1
      go_wp2_with fail
      go_at_call 49; refine (CS.out _).mono ?_; rintro e1 w3 ⟨rfl, f4⟩
      go_wp2
      go_ret2
      exact ⟨rfl, f0.trans f4⟩
    · have eB : ovB A D = false := by unfold ovB; rw [hQ, decide_eq_false_iff_not]; exact hq
      have eV : ovV A D = 0 := by unfold ovV; rw [eB]; rfl
      rw [eB, eV]
      have q1 : 1000000000000000 < (Q : Int) := by omega
      clear eB eV d0 d1 hT l0 l1 hb hQ hR hq CS
      generalize (Q : Int) = q at *
      generalize (D : Int) = d at *
      have c00 := p0.c0
      have c01 := p0.c1
      generalize hiW A = hha at *
      generalize loW A = lla at *
      go_enter Tryd.func40, Tryd.ntmps40
      go_wp2_with fail
      go_at_call 58; refine (CA.out _).mono ?_; rintro e1 w1 ⟨rfl, f1⟩
      clear c00 c01 p0
      replace f0 := f0.trans f1
      clear f1 CA
      generalize hiW (A.natAbs : Int) = hc at *
      generalize loW (A.natAbs : Int) = lc at *
      go_wp2_with fail
      have f2 := (Fur.refl w1).alloc (.cells #[.int .u64 hc, .int .u64 lc] 43)
      replace f0 := f0.trans f2
      clear f2
      generalize w1.alloc (.cells #[.int .u64 hc, .int .u64 lc] 43) = v1 at *
      go_at_call 60; refine (CD.out _).mono ?_; rintro e1 w2 ⟨rfl, f3⟩
      go_wp2
      go_ret2
      exact ⟨rfl, f0.trans f3⟩
end Go.Proofs.YtdkmfhlmeildmaaDoor
