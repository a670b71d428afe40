/-
  Package frac: Sub, Div and Cmp. Sub gives the fraction of the difference (the second numerator an int64), Div that of the quotient, Cmp compares the values, where a fraction that is not valid counts as 0. For every two pairs of ints; nothing that was there turns.
-/
import Derived.Test.YtdkmfhlmeildmaaDoorFzE
import Derived.Test.YtdkmfhlmeildmaaDoorFrL
import Derived.Test.YtdkmfhlmeildmaaDoorFrM
namespace Go.Proofs.YtdkmfhlmeildmaaDoor
open Go.RowKit

theorem neg_wrap {bn bd an ad : Int} (h0 : -9223372036854775808 ≤ bn) (h1 : bn ≤ 9223372036854775807) : addO an ad (IntKind.i64.wrap (-bn)) bd = subO an ad bn bd := by
  cases vb : okF bn bd
  · have k : okF (IntKind.i64.wrap (-bn)) bd = false := by
      cases e : okF (IntKind.i64.wrap (-bn)) bd
      · rfl
      · exfalso
        have o := okF_t e
        by_cases hm : bn = -9223372036854775808
        · subst hm
          have := o.n1
          revert this
          decide
        · have w : IntKind.i64.wrap (-bn) = -bn := IntWalk.i64_in (-bn) (by omega)
          rw [w] at o
          have o2 := o.neg
          rw [Int.neg_neg] at o2
          have := o2.b
          rw [vb] at this
          cases this
    rw [show addO an ad (IntKind.i64.wrap (-bn)) bd = none from op_fb k, show subO an ad bn bd = none from op_fb vb]
  · have o := okF_t vb
    have := o.n1; have := o.n2
    have w : IntKind.i64.wrap (-bn) = -bn := IntWalk.i64_in (-bn) (by omega)
    rw [w, sub_add vb]
set_option maxHeartbeats 800000 in
theorem nf_sub (an ad bn bd : Int) (h0 : -9223372036854775808 ≤ bn) (h1 : bn ≤ 9223372036854775807) (w : World) :
    Calls Tryd.prog 16 #[.agg #[.int .i64 an, .int .i64 ad], .agg #[.int .i64 bn, .int .i64 bd]] w (RetFB w (rN (subO an ad bn bd)) (rD (subO an ad bn bd)) (rB (subO an ad bn bd))) := by
  obtain ⟨p0, p1, p2, f0⟩ := box3 w an ad bn bd 0 0 23 rfl
  have CA := Lib.hid (fun w => nf_add an ad (IntKind.i64.wrap (-bn)) bd w)
  rw [neg_wrap h0 h1] at CA
  clear h0 h1
  obtain ⟨nb, hnb⟩ : ∃ nb, IntKind.i64.wrap (-bn) = nb := ⟨_, rfl⟩
  rw [hnb] at CA
  have hnb' : wrap64 (-bn) = nb := by rw [← hnb]; first | rfl | (unfold wrap64; rw [IntKind.wrap_i64]; done) | (unfold wrap64; rw [IntKind.wrap_i64]; omega)
  have c00 := p0.c0
  have c01 := p0.c1
  have c10 := p1.c0
  have c11 := p1.c1
  go_enter Tryd.func16, Tryd.ntmps16
  go_wp2_with fail
  go_at_call 14; refine (CA.out _).mono ?_; rintro e1 w1 ⟨rfl, f1⟩
  have p2' := p2.on f1
  have f04 := f0.trans f1
  clear c00 c01 c10 c11 p0 p1 p2 f0 f1
  have c20 := p2'.c0
  have c21 := p2'.c1
  have z20 := p2'.f0 0
  have z21 := p2'.f0 1
  go_wp2
  try simp only [Exit.inBlock, Exit.then]
  exact fr_ret_put rfl rfl rfl p2' f04 (by omega)

theorem of_inv {bn bd : Int} (vb : okF bn bd = true) (hn : bn ≠ 0) : rN (ofO bd bn) = bn.sign * bd ∧ rD (ofO bd bn) = (bn.natAbs : Int) ∧ rB (ofO bd bn) = true := by
  have o := okF_t vb
  have d1 := o.d1; have d2 := o.d2; have n1 := o.n1; have n2 := o.n2
  have co : (1 : Nat) = Nat.gcd bd.natAbs bn.natAbs := by
    have k := o.co
    rw [Nat.gcd_comm, show bd.natAbs = bd.toNat by omega, k]
  obtain ⟨u, v, hu, hv, r1, r2, r3, -⟩ := of_low (n := bd) (d := bn) (by omega) (by omega) n1 n2 hn co
  rw [r1, r2, r3]
  refine ⟨?_, by omega, rfl⟩
  rw [Int.mul_comm, hu]
  omega
theorem of_zero (bd : Int) : ofO bd 0 = none := if_neg (fun h => h.2.2.2.2 rfl)
set_option maxHeartbeats 1600000 in
theorem nf_div (an ad bn bd : Int) (w : World) :
    Calls Tryd.prog 20 #[.agg #[.int .i64 an, .int .i64 ad], .agg #[.int .i64 bn, .int .i64 bd]] w (RetFB w (rN (divO an ad bn bd)) (rD (divO an ad bn bd)) (rB (divO an ad bn bd))) := by
  obtain ⟨p0, p1, p2, f0⟩ := box3 w an ad bn bd 0 0 23 rfl
  have VB := Lib.hid (fun w => nf_valid bn bd w)
  have c10 := p1.c0
  have c11 := p1.c1
  cases vb : okF bn bd
  · rw [div_fb vb, r_n.1, r_n.2.1, r_n.2.2]
    rw [vb] at VB
    clear vb
    go_enter Tryd.func20, Tryd.ntmps20
    go_wp2_with fail
    go_at_call 11; refine (VB.out _).mono ?_; rintro e1 w1 ⟨rfl, f1⟩
    have p2' := p2.on f1
    have f04 := f0.trans f1
    clear p0 p1 p2 f0 f1 c10 c11
    have c20 := p2'.c0
    have c21 := p2'.c1
    have z20 := p2'.f0 0
    have z21 := p2'.f0 1
    go_wp2
    try simp only [Exit.inBlock, Exit.then]
    exact fr_ret_put rfl rfl rfl p2' f04 (by omega)
  have CI := Lib.hid (fun w => nf_of bd bn w)
  by_cases hn : bn = 0
  · subst hn
    rw [div_f0, r_n.1, r_n.2.1, r_n.2.2]
    rw [of_zero, r_n.1, r_n.2.1, r_n.2.2] at CI
    rw [vb] at VB
    clear vb
    go_enter Tryd.func20, Tryd.ntmps20
    go_wp2_with fail
    go_at_call 11; refine (VB.out _).mono ?_; rintro e1 w1 ⟨rfl, f1⟩
    clear c10 c11
    replace p1 := p1.on f1
    replace p2 := p2.on f1
    replace f0 := f0.trans f1
    have c10 := p1.c0
    have c11 := p1.c1
    go_wp2_with fail
    go_at_call 9; refine (CI.out _).mono ?_; rintro e1 w2 ⟨rfl, f2⟩
    clear c10 c11 p0 p1
    replace p2 := p2.on f2
    replace f0 := f0.trans f2
    clear f1 f2
    go_upto_region 4 with fail
    have f3 := (Fur.refl w2).alloc (.cells #[.int .i64 0, .int .i64 0] 23)
    have p2' := p2.on f3
    have f04 := f0.trans f3
    generalize w2.alloc (.cells #[.int .i64 0, .int .i64 0] 23) = w3 at *
    clear p2 f0
    have c20 := p2'.c0
    have c21 := p2'.c1
    have z20 := p2'.f0 0
    have z21 := p2'.f0 1
    go_wp2
    try simp only [Exit.inBlock, Exit.then]
    exact fr_ret_put rfl rfl rfl p2' f04 (by omega)
  obtain ⟨i1, i2, i3⟩ := of_inv vb hn
  rw [i1, i2, i3] at CI
  have CM := Lib.hid (fun w => nf_mul an ad (bn.sign * bd) (bn.natAbs : Int) w)
  rw [div_mul vb hn] at CM
  rw [vb] at VB
  clear vb hn i1 i2 i3
  generalize bn.sign * bd = un at *
  generalize (bn.natAbs : Int) = ud at *
  generalize rN (divO an ad bn bd) = rn at *
  generalize rD (divO an ad bn bd) = rd at *
  generalize rB (divO an ad bn bd) = rb at *
  go_enter Tryd.func20, Tryd.ntmps20
  go_wp2_with fail
  go_at_call 11; refine (VB.out _).mono ?_; rintro e1 w1 ⟨rfl, f1⟩
  clear c10 c11
  replace p0 := p0.on f1
  replace p1 := p1.on f1
  replace p2 := p2.on f1
  replace f0 := f0.trans f1
  have c10 := p1.c0
  have c11 := p1.c1
  go_wp2_with fail
  go_at_call 9; refine (CI.out _).mono ?_; rintro e1 w2 ⟨rfl, f2⟩
  clear c10 c11 p1
  replace p0 := p0.on f2
  replace p2 := p2.on f2
  replace f0 := f0.trans f2
  clear f1 f2
  go_upto_region 4 with fail
  obtain ⟨p3, f3⟩ := box1 w2 un ud
  replace p0 := p0.on f3
  replace p2 := p2.on f3
  replace f0 := f0.trans f3
  clear f3
  generalize w2.alloc (.cells #[.int .i64 un, .int .i64 ud] 23) = w3 at *
  have c00 := p0.c0
  have c01 := p0.c1
  have c30 := p3.c0
  have c31 := p3.c1
  go_wp2_with fail
  go_at_call 18; refine (CM.out _).mono ?_; rintro e1 w4 ⟨rfl, f4⟩
  have p2' := p2.on f4
  have f04 := f0.trans f4
  clear c00 c01 c30 c31 p0 p2 p3 f0 f4
  have c20 := p2'.c0
  have c21 := p2'.c1
  have z20 := p2'.f0 0
  have z21 := p2'.f0 1
  go_wp2
  try simp only [Exit.inBlock, Exit.then]
  exact fr_ret_put rfl rfl rfl p2' f04 (by omega)
end Go.Proofs.YtdkmfhlmeildmaaDoor
