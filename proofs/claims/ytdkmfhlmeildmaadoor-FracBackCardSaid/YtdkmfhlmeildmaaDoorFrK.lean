/-
  The reference of package frac: Mul and Sub give the fraction of the product and of the difference of two valid fractions and true, or no fraction and false. For every two pairs of ints; nothing that was there turns.
-/
import Derived.Test.YtdkmfhlmeildmaaDoorFrJ
namespace Go.Proofs.YtdkmfhlmeildmaaDoor
open Go.RowKit

theorem nat_div_le {a b : Nat} (h : a ≤ 1000000000000000) : a / b ≤ 1000000000000000 := Nat.le_trans (Nat.div_le_self _ _) h
theorem sg_mul (a b : Int) : a.sign * b.sign = 0 ∨ a.sign * b.sign = 1 ∨ a.sign * b.sign = -1 := by
  rcases sign_cases a with h | h | h <;> rcases sign_cases b with g | g | g <;> rw [h, g] <;> decide

theorem rmul_ok {an bn : Int} {AD BD : Nat} (ha : OkF an AD) (hb : OkF bn BD) (w : World) :
    Calls Tryd.prog 19 #[.agg #[.int .i64 an, .int .i64 (AD : Int)], .agg #[.int .i64 bn, .int .i64 (BD : Int)]] w (RetFB w (rN (mulO an AD bn BD)) (rD (mulO an AD bn BD)) (rB (mulO an AD bn BD))) := by
  have a1 := ha.d1; have a2 := ha.d2; have b1 := hb.d1; have b2 := hb.d2
  have an1 := ha.n1; have an2 := ha.n2; have bn1 := hb.n1; have bn2 := hb.n2
  obtain ⟨vn, vd⟩ := ha.v
  obtain ⟨un, ud⟩ := hb.v
  rw [Int.toNat_natCast] at vd ud
  obtain ⟨g, hg⟩ : ∃ g, g = Nat.gcd an.natAbs BD := ⟨_, rfl⟩
  obtain ⟨h, hh⟩ : ∃ h, h = Nat.gcd bn.natAbs AD := ⟨_, rfl⟩
  have g0 : 0 < g := by rw [hg]; exact Nat.gcd_pos_of_pos_right _ (by omega)
  have h0 : 0 < h := by rw [hh]; exact Nat.gcd_pos_of_pos_right _ (by omega)
  have gd : g ∣ an.natAbs := hg ▸ Nat.gcd_dvd_left ..
  have hd : h ∣ bn.natAbs := hh ▸ Nat.gcd_dvd_left ..
  have L := mul_low (fv an AD) (fv bn BD) g h (by rw [vn, ud]; exact hg) (by rw [un, vd]; exact hh)
  rw [vn, un, vd, ud] at L
  obtain ⟨l1, l2⟩ := L
  obtain ⟨x1, x2⟩ := ex_quot (t := an) (m := an.natAbs) (h := g) rfl rfl gd
  obtain ⟨y1, y2⟩ := ex_quot (t := bn) (m := bn.natAbs) (h := h) rfl rfl hd
  have l3 : (fv an AD * fv bn BD).num = an.sign * bn.sign * ((an.natAbs / g * (bn.natAbs / h) : Nat) : Int) := by
    rw [l1, x1, y1, Int.natCast_mul]
    simp only [Int.mul_assoc, Int.mul_left_comm]
  have l4 : (fv an AD * fv bn BD).num.natAbs = an.natAbs / g * (bn.natAbs / h) := by rw [l1, Int.natAbs_mul, x2, y2]
  have eA : mulO an AD bn BD = some (fv an AD * fv bn BD) := op_t ha.b hb.b
  rw [eA]
  refine rmul_core an bn AD BD g h (an.natAbs / g) (bn.natAbs / h) (AD / h) (BD / g) (an.sign * bn.sign) (an.sign * bn.sign * ((an.natAbs / g * (bn.natAbs / h) : Nat) : Int)) _ _ _ w ha.b hb.b g0 h0
    (Lib.hid fun w => by have k := rgcd_any an.natAbs BD (by omega) (by omega) w; rwa [← hg] at k)
    (Lib.hid fun w => by have k := rgcd_any bn.natAbs AD (by omega) (by omega) w; rwa [← hh] at k)
    an1 an2 bn1 bn2 (by omega) (by omega) (nat_div_le (by omega)) (nat_div_le (by omega)) (nat_div_le (by omega)) (nat_div_le (by omega))
    (Lib.hid rfl) (Lib.hid rfl) (Lib.hid rfl) (Lib.hid rfl) (Lib.hid ?_) (Lib.hid fun k1 => ?_) (Lib.hid fun k1 e1 => ?_) (Lib.hid fun k1 => ?_)
  · have k := sg_mul an bn
    exact IntWalk.i64_in _ (by omega)
  · generalize an.natAbs / g * (bn.natAbs / h) = z at k1
    rcases sg_mul an bn with k | k | k <;> rw [k]
    · rw [Int.zero_mul]; exact IntWalk.i64_in _ (by omega)
    · rw [Int.one_mul]; exact IntWalk.i64_in _ (by omega)
    · rw [Int.neg_one_mul]; exact IntWalk.i64_in _ (by omega)
  · have f : fit (fv an AD * fv bn BD) = true := by
      rw [fit_iff, l2, l4]
      exact ⟨k1, e1⟩
    obtain ⟨r1, r2, r3⟩ := r_t f
    exact ⟨by rw [r1, l3], by rw [r2, l2], r3⟩
  · have f : fit (fv an AD * fv bn BD) = false := by
      cases hf : fit (fv an AD * fv bn BD)
      · rfl
      · rw [fit_iff, l2, l4] at hf
        omega
    exact r_f f

set_option maxHeartbeats 1600000 in
theorem rmul_any (an ad bn bd : Int) (w : World) :
    Calls Tryd.prog 19 #[.agg #[.int .i64 an, .int .i64 ad], .agg #[.int .i64 bn, .int .i64 bd]] w (RetFB w (rN (mulO an ad bn bd)) (rD (mulO an ad bn bd)) (rB (mulO an ad bn bd))) := by
  cases va : okF an ad
  · rw [show mulO an ad bn bd = none from op_fa va, r_n.1, r_n.2.1, r_n.2.2]
    obtain ⟨p0, p1, p2, f0⟩ := box3 w an ad bn bd 0 0 23 rfl
    have VA := Lib.hid (fun w => rvalid_any an ad w)
    rw [va] at VA
    clear va
    go_enter Tryd.func19, Tryd.ntmps19
    go_wp2_with fail
    go_at_call 12; refine (VA.out _).mono ?_; rintro e1 w1 ⟨rfl, f1⟩
    have p2' := p2.on f1
    have f04 := f0.trans f1
    have c20 := p2'.c0
    have c21 := p2'.c1
    have z20 := p2'.f0 0
    have z21 := p2'.f0 1
    clear p0 p1 p2 f0 f1
    go_wp2
    try simp only [Exit.inBlock, Exit.then]
    exact fr_ret_put rfl rfl rfl p2' f04 (by omega)
  cases vb : okF bn bd
  · rw [show mulO an ad bn bd = none from op_fb vb, r_n.1, r_n.2.1, r_n.2.2]
    obtain ⟨p0, p1, p2, f0⟩ := box3 w an ad bn bd 0 0 23 rfl
    have VA := Lib.hid (fun w => rvalid_any an ad w)
    have VB := Lib.hid (fun w => rvalid_any bn bd w)
    rw [va] at VA
    rw [vb] at VB
    clear va vb
    go_enter Tryd.func19, Tryd.ntmps19
    go_wp2_with fail
    go_at_call 12; refine (VA.out _).mono ?_; rintro e1 w1 ⟨rfl, f1⟩
    replace p1 := p1.on f1
    replace p2 := p2.on f1
    replace f0 := f0.trans f1
    have c10 := p1.c0
    have c11 := p1.c1
    go_wp2_with fail
    go_at_call 12; refine (VB.out _).mono ?_; rintro e1 w2 ⟨rfl, f2⟩
    have p2' := p2.on f2
    have f04 := f0.trans f2
    clear c10 c11 p0 p1 p2 f0 f1 f2
    have c20 := p2'.c0
    have c21 := p2'.c1
    have z20 := p2'.f0 0
    have z21 := p2'.f0 1
    go_wp2
    try simp only [Exit.inBlock, Exit.then]
    exact fr_ret_put rfl rfl rfl p2' f04 (by omega)
  have ha := okF_t va
  have hb := okF_t vb
  obtain ⟨AD, rfl⟩ : ∃ AD : Nat, ad = (AD : Int) := ⟨ad.toNat, by have := ha.d1; omega⟩
  obtain ⟨BD, rfl⟩ : ∃ BD : Nat, bd = (BD : Int) := ⟨bd.toNat, by have := hb.d1; omega⟩
  exact rmul_ok ha hb w

theorem OkF.neg {n d : Int} (h : OkF n d) : OkF (-n) d := ⟨h.d1, h.d2, by have := h.n2; omega, by have := h.n1; omega, by rw [Int.natAbs_neg]; exact h.co⟩
theorem fv_neg (n d : Int) : fv (-n) d = -fv n d := by unfold fv; rw [Rat.neg_mkRat]
theorem sub_add {an ad bn bd : Int} (vb : okF bn bd = true) : addO an ad (-bn) bd = subO an ad bn bd := by
  have hb := okF_t vb
  unfold addO subO opO
  rw [hb.neg.b, vb, fv_neg]
  simp only [and_true, Rat.sub_eq_add_neg]

set_option maxHeartbeats 1600000 in
theorem rsub_any (an ad bn bd : Int) (w : World) :
    Calls Tryd.prog 17 #[.agg #[.int .i64 an, .int .i64 ad], .agg #[.int .i64 bn, .int .i64 bd]] w (RetFB w (rN (subO an ad bn bd)) (rD (subO an ad bn bd)) (rB (subO an ad bn bd))) := by
  obtain ⟨p0, p1, p2, f0⟩ := box3 w an ad bn bd 0 0 23 rfl
  have VB := Lib.hid (fun w => rvalid_any bn bd w)
  cases vb : okF bn bd
  · rw [show subO an ad bn bd = none from op_fb vb, r_n.1, r_n.2.1, r_n.2.2]
    rw [vb] at VB
    clear vb
    go_enter Tryd.func17, Tryd.ntmps17
    go_wp2_with fail
    go_at_call 12; refine (VB.out _).mono ?_; rintro e1 w1 ⟨rfl, f1⟩
    have p2' := p2.on f1
    have f04 := f0.trans f1
    have c20 := p2'.c0
    have c21 := p2'.c1
    have z20 := p2'.f0 0
    have z21 := p2'.f0 1
    clear p0 p1 p2 f0 f1
    go_wp2
    try simp only [Exit.inBlock, Exit.then]
    exact fr_ret_put rfl rfl rfl p2' f04 (by omega)
  · have CA := Lib.hid (fun w => radd_any an ad (-bn) bd w)
    rw [sub_add vb] at CA
    have hb := okF_t vb
    have b1 := hb.n1
    have b2 := hb.n2
    rw [vb] at VB
    generalize rN (subO an ad bn bd) = N at *
    generalize rD (subO an ad bn bd) = D at *
    generalize rB (subO an ad bn bd) = c at *
    clear vb hb
    go_enter Tryd.func17, Tryd.ntmps17
    go_wp2_with fail
    go_at_call 12; refine (VB.out _).mono ?_; rintro e1 w1 ⟨rfl, f1⟩
    replace p0 := p0.on f1
    replace p1 := p1.on f1
    replace p2 := p2.on f1
    replace f0 := f0.trans f1
    have c00 := p0.c0
    have c01 := p0.c1
    have c10 := p1.c0
    have c11 := p1.c1
    go_wp2_with fail
    go_at_call 15; refine (CA.out _).mono ?_; rintro e1 w2 ⟨rfl, f2⟩
    have p2' := p2.on f2
    have f04 := f0.trans f2
    clear c00 c01 c10 c11 p0 p1 p2 f0 f1 f2
    have c20 := p2'.c0
    have c21 := p2'.c1
    have z20 := p2'.f0 0
    have z21 := p2'.f0 1
    go_wp2
    try simp only [Exit.inBlock, Exit.then]
    exact fr_ret_put rfl rfl rfl p2' f04 (by omega)
end Go.Proofs.YtdkmfhlmeildmaaDoor
