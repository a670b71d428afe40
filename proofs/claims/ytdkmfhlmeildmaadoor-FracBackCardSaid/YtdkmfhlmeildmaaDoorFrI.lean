/-
  The reference of package frac: Add gives the fraction of the sum of two valid fractions and true, or no fraction and false. For every two pairs of ints; nothing that was there turns.
-/
import Derived.Test.YtdkmfhlmeildmaaDoorFrH
namespace Go.Proofs.YtdkmfhlmeildmaaDoor
open Go.RowKit

theorem sign_cases (t : Int) : t.sign = 0 ∨ t.sign = 1 ∨ t.sign = -1 := by
  rcases Int.lt_trichotomy t 0 with h | h | h
  · exact .inr (.inr (Int.sign_eq_neg_one_of_neg h))
  · subst h; exact .inl rfl
  · exact .inr (.inl (Int.sign_eq_one_of_pos h))
/-- The absolute value of an exact quotient. -/
theorem ex_quot {t : Int} {m h k : Nat} (hm : m = t.natAbs) (hk : k = m / h) (hd : h ∣ m) : t / (h : Int) = t.sign * (k : Int) ∧ (t / (h : Int)).natAbs = k := by
  obtain ⟨z, hz⟩ := hd
  have e : t = t.sign * (m : Int) := by rw [hm]; exact (Int.sign_mul_natAbs t).symm
  rcases Nat.eq_zero_or_pos h with h0 | h0
  · subst h0
    rw [Nat.zero_mul] at hz
    have k0 : k = 0 := by rw [hk, Nat.div_zero]
    have t0 : t = 0 := by omega
    rw [k0, t0]; simp
  · have kz : k = z := by rw [hk, hz, Nat.mul_div_cancel_left _ h0]
    have q : t / (h : Int) = t.sign * (k : Int) := by
      conv => lhs; rw [e, hz]
      rw [Int.natCast_mul, Int.mul_left_comm, Int.mul_ediv_cancel_left _ (by omega), kz]
    refine ⟨q, ?_⟩
    rcases sign_cases t with s | s | s
    · have t0 : t = 0 := Int.sign_eq_zero_iff_zero.1 s
      have m0 : m = 0 := by rw [hm, t0]; rfl
      have : k = 0 := by rw [hk, m0, Nat.zero_div]
      rw [q, s, this]; rfl
    · rw [q, s]; omega
    · rw [q, s]; omega

theorem sum_bd {an bn : Int} {Da Db : Nat} (ha1 : -1000000000000000 ≤ an) (ha2 : an ≤ 1000000000000000) (hb1 : -1000000000000000 ≤ bn) (hb2 : bn ≤ 1000000000000000) (hDa : Da ≤ 1000000000000000) (hDb : Db ≤ 1000000000000000) :
    an.natAbs * Db + bn.natAbs * Da < 1000 ^ 14 := by
  have a := Nat.mul_le_mul (show an.natAbs ≤ 1000000000000000 by omega) hDb
  have b := Nat.mul_le_mul (show bn.natAbs ≤ 1000000000000000 by omega) hDa
  have c : 1000000000000000 * 1000000000000000 + 1000000000000000 * 1000000000000000 < 1000 ^ 14 := by decide
  omega
/-- sum at two products with factors that are positive. -/
theorem rsum_at {an bn : Int} {Da Db : Nat} (ha1 : -1000000000000000 ≤ an) (ha2 : an ≤ 1000000000000000) (hb1 : -1000000000000000 ≤ bn) (hb2 : bn ≤ 1000000000000000) (hDa : Da ≤ 1000000000000000) (hDb : Db ≤ 1000000000000000) (pa : 0 < Da) (pb : 0 < Db)
    (ao bo : Option Addr) (x y : List Int) (ca cb : Nat) (w : World) (ha : IsS w ao x ca) (hb : IsS w bo y cb) (hx : Wide x (an.natAbs * Db)) (hy : Wide y (bn.natAbs * Da)) :
    Calls Tryd.prog 43 #[.int .i64 an.sign, .slice ao 14 ca, .int .i64 bn.sign, .slice bo 14 cb] w (RetIW w (an * (Db : Int) + bn * (Da : Int)).sign (an * (Db : Int) + bn * (Da : Int)).natAbs) := by
  have ea : (an * (Db : Int)).natAbs = an.natAbs * Db := by rw [Int.natAbs_mul, Int.natAbs_natCast]
  have eb : (bn * (Da : Int)).natAbs = bn.natAbs * Da := by rw [Int.natAbs_mul, Int.natAbs_natCast]
  have sa : (an * (Db : Int)).sign = an.sign := by rw [Int.sign_mul, Int.sign_eq_one_of_pos (show (0 : Int) < Db by omega), Int.mul_one]
  have sb : (bn * (Da : Int)).sign = bn.sign := by rw [Int.sign_mul, Int.sign_eq_one_of_pos (show (0 : Int) < Da by omega), Int.mul_one]
  have k := rsum_any (an * (Db : Int)) (bn * (Da : Int)) ao bo x y ca cb w ha hb (by rw [ea]; exact hx) (by rw [eb]; exact hy) (by rw [ea, eb]; exact sum_bd ha1 ha2 hb1 hb2 hDa hDb)
  rwa [sa, sb] at k

theorem radd_ok {an bn : Int} {AD BD : Nat} (ha : OkF an AD) (hb : OkF bn BD) (w : World) :
    Calls Tryd.prog 15 #[.agg #[.int .i64 an, .int .i64 (AD : Int)], .agg #[.int .i64 bn, .int .i64 (BD : Int)]] w (RetFB w (rN (addO an AD bn BD)) (rD (addO an AD bn BD)) (rB (addO an AD bn BD))) := by
  have a1 := ha.d1; have a2 := ha.d2; have b1 := hb.d1; have b2 := hb.d2
  obtain ⟨vn, vd⟩ := ha.v
  obtain ⟨un, ud⟩ := hb.v
  rw [Int.toNat_natCast] at vd ud
  obtain ⟨g, hg⟩ : ∃ g, g = Nat.gcd AD BD := ⟨_, rfl⟩
  have g0 : 0 < g := by rw [hg]; exact Nat.gcd_pos_of_pos_left _ (by omega)
  have gl : g ≤ AD := by rw [hg]; exact Nat.gcd_le_left _ (by omega)
  have gl2 : g ≤ BD := by rw [hg]; exact Nat.gcd_le_right _ (by omega)
  obtain ⟨T, hT⟩ : ∃ T : Int, T = an * ((BD / g : Nat) : Int) + bn * ((AD / g : Nat) : Int) := ⟨_, rfl⟩
  obtain ⟨h, hh⟩ : ∃ h, h = T.natAbs.gcd g := ⟨_, rfl⟩
  have h0 : 0 < h := by rw [hh]; exact Nat.gcd_pos_of_pos_right _ g0
  have hl : h ≤ g := by rw [hh]; exact Nat.gcd_le_right _ g0
  have hdv : h ∣ T.natAbs := hh ▸ Nat.gcd_dvd_left ..
  have L := add_low (fv an AD) (fv bn BD) g h T (by rw [vd, ud]; exact hg) (by rw [vn, vd, un, ud]; exact hT) hh
  rw [vd, ud] at L
  obtain ⟨l1, l2⟩ := L
  obtain ⟨x1, x2⟩ := ex_quot (t := T) (m := T.natAbs) (h := h) rfl rfl hdv
  have eA : addO an AD bn BD = some (fv an AD + fv bn BD) := op_t ha.b hb.b
  rw [eA]
  have hDa : AD / g ≤ 1000000000000000 := Nat.le_trans (Nat.div_le_self _ _) (by omega)
  have hDb : BD / g ≤ 1000000000000000 := Nat.le_trans (Nat.div_le_self _ _) (by omega)
  have CS := rsum_at (an := an) (bn := bn) (Da := AD / g) (Db := BD / g) ha.n1 ha.n2 hb.n1 hb.n2 hDa hDb (Nat.div_pos gl g0) (Nat.div_pos gl2 g0)
  rw [← hT] at CS
  refine radd_core an bn AD BD (AD / g) (BD / g) g T.natAbs (T.natAbs % g) h (T.natAbs / h) (BD / h) T.sign _ _ _ w ha.b hb.b g0 (by omega) h0 (by omega)
    (Lib.hid fun w => by have k := rgcd_any AD BD (by omega) (by omega) w; rwa [← hg] at k)
    (Lib.hid fun w => by
      have lt := Nat.mod_lt T.natAbs g0
      have k := rgcd_any g (T.natAbs % g) (by omega) (by omega) w
      rwa [Nat.gcd_comm, ← Nat.gcd_rec, Nat.gcd_comm, ← hh] at k)
    ha.n1 ha.n2 hb.n1 hb.n2 hDa hDb (by omega) (by omega) (Nat.le_trans (Nat.div_le_self _ _) (by omega)) (Lib.hid CS)
    (Lib.hid rfl) (Lib.hid rfl) (Lib.hid rfl) (Lib.hid rfl) (Lib.hid rfl) (sign_cases T) (Lib.hid fun s0 => ?_) (Lib.hid fun s0 k1 e1 => ?_) (Lib.hid fun s0 k1 => ?_)
  · have t0 : T = 0 := Int.sign_eq_zero_iff_zero.1 s0
    have z : fv an AD + fv bn BD = 0 := by
      rw [← Rat.num_eq_zero, l1, t0, Int.zero_ediv]
    rw [z]
    exact ⟨by decide, by decide, by decide⟩
  · have f : fit (fv an AD + fv bn BD) = true := by
      rw [fit_iff, l1, l2, x2]
      exact ⟨k1, e1⟩
    obtain ⟨r1, r2, r3⟩ := r_t f
    exact ⟨by rw [r1, l1, x1], by rw [r2, l2], r3⟩
  · have f : fit (fv an AD + fv bn BD) = false := by
      cases hf : fit (fv an AD + fv bn BD)
      · rfl
      · rw [fit_iff, l1, l2, x2] at hf
        omega
    exact r_f f

set_option maxHeartbeats 1600000 in
theorem radd_any (an ad bn bd : Int) (w : World) :
    Calls Tryd.prog 15 #[.agg #[.int .i64 an, .int .i64 ad], .agg #[.int .i64 bn, .int .i64 bd]] w (RetFB w (rN (addO an ad bn bd)) (rD (addO an ad bn bd)) (rB (addO an ad bn bd))) := by
  cases va : okF an ad
  · rw [show addO an ad bn bd = none from op_fa va, r_n.1, r_n.2.1, r_n.2.2]
    obtain ⟨p0, p1, p2, f0⟩ := box3 w an ad bn bd 0 0 23 rfl
    have VA := Lib.hid (fun w => rvalid_any an ad w)
    rw [va] at VA
    clear va
    go_enter Tryd.func15, Tryd.ntmps15
    go_wp2_with fail
    go_at_call 12; refine (VA.out _).mono ?_; rintro e1 w1 ⟨rfl, f1⟩
    have p2' := p2.on f1
    have f04 := f0.trans f1
    have c20 := p2'.c0
    have c21 := p2'.c1
    have z20 := p2'.f0 0
    have z21 := p2'.f0 1
    clear p0 p1 p2 f0 f1
    go_wp2
    try simp only [Exit.inBlock, Exit.then]
    exact fr_ret_put rfl rfl rfl p2' f04 (by omega)
  cases vb : okF bn bd
  · rw [show addO an ad bn bd = none from op_fb vb, r_n.1, r_n.2.1, r_n.2.2]
    obtain ⟨p0, p1, p2, f0⟩ := box3 w an ad bn bd 0 0 23 rfl
    have VA := Lib.hid (fun w => rvalid_any an ad w)
    have VB := Lib.hid (fun w => rvalid_any bn bd w)
    rw [va] at VA
    rw [vb] at VB
    clear va vb
    go_enter Tryd.func15, Tryd.ntmps15
    go_wp2_with fail
    go_at_call 12; refine (VA.out _).mono ?_; rintro e1 w1 ⟨rfl, f1⟩
    replace p1 := p1.on f1
    replace p2 := p2.on f1
    replace f0 := f0.trans f1
    have c10 := p1.c0
    have c11 := p1.c1
    go_wp2_with fail
    go_at_call 12; refine (VB.out _).mono ?_; rintro e1 w2 ⟨rfl, f2⟩
    have p2' := p2.on f2
    have f04 := f0.trans f2
    clear c10 c11 p0 p1 p2 f0 f1 f2
    have c20 := p2'.c0
    have c21 := p2'.c1
    have z20 := p2'.f0 0
    have z21 := p2'.f0 1
    go_wp2
    try simp only [Exit.inBlock, Exit.then]
    exact fr_ret_put rfl rfl rfl p2' f04 (by omega)
  have ha := okF_t va
  have hb := okF_t vb
  obtain ⟨AD, rfl⟩ : ∃ AD : Nat, ad = (AD : Int) := ⟨ad.toNat, by have := ha.d1; omega⟩
  obtain ⟨BD, rfl⟩ : ∃ BD : Nat, bd = (BD : Int) := ⟨bd.toNat, by have := hb.d1; omega⟩
  exact radd_ok ha hb w
end Go.Proofs.YtdkmfhlmeildmaaDoor
