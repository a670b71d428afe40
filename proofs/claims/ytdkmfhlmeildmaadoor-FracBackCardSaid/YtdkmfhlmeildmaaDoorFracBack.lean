/-
  FracBack gives true by the contracts of package frac.
-/
import Derived.Test.YtdkmfhlmeildmaaDoorFracOrd
import Derived.Test.YtdkmfhlmeildmaaDoorFracAlive
import Derived.Deep.Cut
import Derived.Deep.CutRange
namespace Go.Proofs.YtdkmfhlmeildmaaDoor
open Go.RowKit

theorem fl_ends {n d : Int} (hd : 1 ≤ d) : n / d * d ≤ n ∧ n < (n / d + 1) * d := by
  have e := Int.mul_ediv_add_emod n d
  have m0 := Int.emod_nonneg n (show d ≠ 0 by omega)
  have m1 := Int.emod_lt_of_pos n (show 0 < d by omega)
  rw [Int.add_mul, Int.one_mul, Int.mul_comm]
  omega
theorem fl_in {n d : Int} (h : OkF n d) : -1000000000000000 ≤ n / d ∧ n / d ≤ 1000000000000000 := by
  have d1 := h.d1; have n1 := h.n1; have n2 := h.n2
  constructor
  · have k : -1000000000000000 * d ≤ n := by
      have := Int.mul_le_mul_of_nonpos_left (show (-1000000000000000 : Int) ≤ 0 by decide) d1
      omega
    exact (Int.le_ediv_iff_mul_le (by omega)).2 k
  · have k : n < (1000000000000000 + 1) * d := by
      have := Int.mul_le_mul_of_nonneg_left d1 (show (0 : Int) ≤ 1000000000000000 + 1 by decide)
      omega
    have := (Int.ediv_lt_iff_lt_mul (by omega)).2 k
    omega
theorem of_one {z : Int} (h0 : -1000000000000000 ≤ z) (h1 : z ≤ 1000000000000000) : rN (ofO z 1) = z ∧ rD (ofO z 1) = 1 ∧ rB (ofO z 1) = true := by
  obtain ⟨u, v, hu, hv, r1, r2, r3, -⟩ := of_low (n := z) (d := 1) h0 h1 (by decide) (by decide) (by decide) (g := 1) (by rw [show (1 : Int).natAbs = 1 from rfl, Nat.gcd_one_right])
  rw [r1, r2, r3]
  have hv' : v = 1 := by rw [show (1 : Int).natAbs = 1 from rfl] at hv; omega
  have hu' : u = z := by rw [show (1 : Int).sign = 1 from rfl] at hu; omega
  subst hv' hu'
  exact ⟨rfl, rfl, rfl⟩
theorem okz_one {z : Int} (h0 : -1000000000000000 ≤ z) (h1 : z ≤ 1000000000000000) : OkF z ((1 : Nat) : Int) := ⟨by decide, by decide, h0, h1, Nat.gcd_one_right _⟩
theorem fl_lo {n d : Int} (h : okF n d = true) : cmpQ (fz (n / d) 1) (fz n d) ≤ 0 := by
  have o := okF_t h
  have d1 := o.d1
  obtain ⟨b0, b1⟩ := fl_in o
  have o1 := okz_one b0 b1
  obtain ⟨D, hD⟩ : ∃ D : Nat, d = (D : Int) := ⟨d.toNat, by omega⟩
  have e := (fl_ends (n := n) d1).1
  rw [fz_ok h]
  rw [fz_ok (show okF (n / d) 1 = true from o1.b)]
  generalize n / d = z at *
  subst hD
  have c := cmp_sign o1 o
  rw [show fv z 1 = fv z ((1 : Nat) : Int) from rfl, ← c]
  have k : z * (D : Int) + -n * ((1 : Nat) : Int) ≤ 0 := by
    rw [show ((1 : Nat) : Int) = 1 from rfl, Int.mul_one]; omega
  rcases Int.lt_or_eq_of_le k with t | t
  · rw [Int.sign_eq_neg_one_of_neg t]; decide
  · rw [t]; decide
theorem fl_hi {n d : Int} (h : okF n d = true) (hz : n / d + 1 ≤ 1000000000000000) : cmpQ (fz n d) (fz (n / d + 1) 1) < 0 := by
  have o := okF_t h
  have d1 := o.d1
  obtain ⟨b0, b1⟩ := fl_in o
  have o1 := okz_one (z := n / d + 1) (by omega) hz
  obtain ⟨D, hD⟩ : ∃ D : Nat, d = (D : Int) := ⟨d.toNat, by omega⟩
  have e := (fl_ends (n := n) d1).2
  rw [fz_ok h]
  rw [fz_ok (show okF (n / d + 1) 1 = true from o1.b)]
  generalize n / d + 1 = z at *
  subst hD
  have c := cmp_sign o o1
  rw [show fv z 1 = fv z ((1 : Nat) : Int) from rfl, ← c]
  have k : n * ((1 : Nat) : Int) + -z * (D : Int) < 0 := by
    rw [show ((1 : Nat) : Int) = 1 from rfl, Int.mul_one, Int.neg_mul]; omega
  rw [Int.sign_eq_neg_one_of_neg k]
  decide

set_option maxHeartbeats 8000000 in
set_option maxRecDepth 100000 in
theorem back_core (an ad N D z h1 h2 c1 c2 : Int) (s t : ByteArray) (B VA hb : Bool) (w : World) (G : Good w)
    (CP : Hid (∀ w : World, Good w → Calls Tryd.prog 24 #[.string s] w (RetFB w N D B)))
    (CT : Hid (B = true → ∀ w : World, Good w → Calls Tryd.prog 26 #[.agg #[.int .i64 N, .int .i64 D]] w (RetT w s)))
    (CV : Hid (∀ w : World, Calls Tryd.prog 11 #[.agg #[.int .i64 an, .int .i64 ad]] w (RetB w VA)))
    (CE : Hid (VA = false → ∀ w : World, Good w → Calls Tryd.prog 26 #[.agg #[.int .i64 an, .int .i64 ad]] w (RetT w ⟨#[]⟩)))
    (CZ : Hid (VA = false → ∀ w : World, Calls Tryd.prog 28 #[.agg #[.int .i64 an, .int .i64 ad]] w (RetI w 0)))
    (CX : Hid (VA = true → ∀ w : World, Good w → Calls Tryd.prog 26 #[.agg #[.int .i64 an, .int .i64 ad]] w (RetT w t)))
    (CQ : Hid (VA = true → ∀ w : World, Good w → Calls Tryd.prog 24 #[.string t] w (RetFB w an ad true)))
    (CF : Hid (VA = true → ∀ w : World, Calls Tryd.prog 28 #[.agg #[.int .i64 an, .int .i64 ad]] w (RetI w z)))
    (CL : Hid (VA = true → ∀ w : World, Calls Tryd.prog 9 #[.int .i64 z, .int .i64 1] w (RetFB w z 1 true)))
    (CH : Hid (VA = true → ∀ w : World, Calls Tryd.prog 9 #[.int .i64 (z + 1), .int .i64 1] w (RetFB w h1 h2 hb)))
    (HZ : Hid (VA = true → -1000000000000000 ≤ z ∧ z ≤ 1000000000000000))
    (D1 : Hid (VA = true → ∀ w : World, Calls Tryd.prog 22 #[.agg #[.int .i64 z, .int .i64 1], .agg #[.int .i64 an, .int .i64 ad]] w (RetI w c1)))
    (D2 : Hid (VA = true → hb = true → ∀ w : World, Calls Tryd.prog 22 #[.agg #[.int .i64 an, .int .i64 ad], .agg #[.int .i64 h1, .int .i64 h2]] w (RetI w c2)))
    (H1 : Hid (VA = true → c1 ≤ 0)) (H2 : Hid (VA = true → hb = true → c2 < 0)) :
    Calls Tryd.prog 8 #[.agg #[.int .i64 an, .int .i64 ad], .string s] w (RetB w true) := by
  have GG := Lib.hid G
  clear G
  obtain ⟨pa, f0⟩ := box1 w an ad
  go_enter Tryd.func8, Tryd.ntmps8
  go_wp2_with fail
  generalize w.alloc (.cells #[.int .i64 an, .int .i64 ad] 23) = v0 at *
  go_at_call 24; refine (CP.out _ (GG.out.on f0)).mono ?_; rintro e1 w1 ⟨rfl, h⟩
  replace pa := pa.on h
  replace f0 := f0.trans h
  clear h CP
  go_upto_region 2 with fail
  obtain ⟨px, h⟩ := box1 w1 N D
  replace pa := pa.on h
  replace f0 := f0.trans h
  clear h
  generalize w1.alloc (.cells #[.int .i64 N, .int .i64 D] 23) = v1 at *
  go_cut [25] from 19 to 24 (fun v wx => v = .bool false ∧ Fur v1 wx)
  case first =>
    clear CV CE CZ CX CQ CF CL CH HZ D1 D2 H1 H2 pa
    have x0 := px.c0
    have x1 := px.c1
    cases B
    · go_wp2_with fail
      go_meet
      exact ⟨rfl, Fur.refl _⟩
    · go_wp2_with fail
      go_at_call 26; refine (CT.out (by simp) _ (GG.out.on f0)).mono ?_; rintro e2 w2 ⟨rfl, h⟩
      go_wp2_with fail
      go_meet
      exact ⟨by first | rfl | simp, h⟩
  case rest =>
    obtain ⟨rfl, h⟩ := hcut
    replace pa := pa.on h
    replace f0 := f0.trans h
    clear h CT px
    have a0 := pa.c0
    have a1 := pa.c1
    go_wp2_with fail
    go_at_call 11; refine (CV.out _).mono ?_; rintro e2 w2 ⟨rfl, h⟩
    clear a0 a1 CV
    replace pa := pa.on h
    replace f0 := f0.trans h
    clear h
    cases VA
    · clear CX CQ CF CL CH HZ D1 D2 H1 H2
      have CE' := Lib.hid (CE.out (by simp))
      have CZ' := Lib.hid (CZ.out (by simp))
      clear CE CZ
      have a0 := pa.c0
      have a1 := pa.c1
      go_wp2_with fail
      go_at_call 26; refine (CE'.out _ (GG.out.on f0)).mono ?_; rintro e3 w3 ⟨rfl, h⟩
      clear a0 a1
      replace pa := pa.on h
      replace f0 := f0.trans h
      clear h
      have a0 := pa.c0
      have a1 := pa.c1
      go_wp2_with fail
      go_at_call 28; refine (CZ'.out _).mono ?_; rintro e4 w4 ⟨rfl, h⟩
      clear a0 a1 pa
      replace f0 := f0.trans h
      clear h
      go_wp2_with fail
      go_at_call 13; refine (lives_any _ (GG.out.on f0)).mono ?_; rintro e5 w5 ⟨rfl, h⟩
      go_wp2
      go_ret
      exact ⟨rfl, f0.trans h⟩
    have CX' := Lib.hid (CX.out (by simp))
    have CQ' := Lib.hid (CQ.out (by simp))
    have CF' := Lib.hid (CF.out (by simp))
    have CL' := Lib.hid (CL.out (by simp))
    have CH' := Lib.hid (CH.out (by simp))
    have D1' := Lib.hid (D1.out (by simp))
    have D2' := Lib.hid (D2.out (by simp))
    have H1' := Lib.hid (H1.out (by simp))
    have H2' := Lib.hid (H2.out (by simp))
    obtain ⟨z0, z1⟩ := HZ.out (by simp)
    clear CE CZ CX CQ CF CL CH HZ D1 D2 H1 H2
    have a0 := pa.c0
    have a1 := pa.c1
    go_wp2_with fail
    go_at_call 26; refine (CX'.out _ (GG.out.on f0)).mono ?_; rintro e3 w3 ⟨rfl, h⟩
    clear a0 a1 CX'
    replace pa := pa.on h
    replace f0 := f0.trans h
    clear h
    go_wp2_with fail
    go_at_call 24; refine (CQ'.out _ (GG.out.on f0)).mono ?_; rintro e4 w4 ⟨rfl, h⟩
    clear CQ'
    replace pa := pa.on h
    replace f0 := f0.trans h
    clear h
    go_upto_region 7 with fail
    obtain ⟨py, h⟩ := box1 w4 an ad
    replace pa := pa.on h
    replace f0 := f0.trans h
    clear h
    generalize w4.alloc (.cells #[.int .i64 an, .int .i64 ad] 23) = v4 at *
    have a0 := pa.c0
    have a1 := pa.c1
    have y0 := py.c0
    have y1 := py.c1
    go_wp2_with fail
    go_at_call 28; refine (CF'.out _).mono ?_; rintro e5 w5 ⟨rfl, h⟩
    clear a0 a1 y0 y1 py CF'
    replace pa := pa.on h
    replace f0 := f0.trans h
    clear h
    go_wp2_with fail
    go_at_call 9; refine (CL'.out _).mono ?_; rintro e6 w6 ⟨rfl, h⟩
    clear CL'
    replace pa := pa.on h
    replace f0 := f0.trans h
    clear h
    go_upto_region 11 with fail
    obtain ⟨pl, h⟩ := box1 w6 z 1
    replace pa := pa.on h
    replace f0 := f0.trans h
    clear h
    generalize w6.alloc (.cells #[.int .i64 z, .int .i64 1] 23) = v6 at *
    go_wp2_with fail
    go_at_call 9; refine (CH'.out _).mono ?_; rintro e7 w7 ⟨rfl, h⟩
    clear CH'
    replace pa := pa.on h
    replace pl := pl.on h
    replace f0 := f0.trans h
    clear h
    go_upto_region 12 with fail
    obtain ⟨ph, h⟩ := box1 w7 h1 h2
    replace pa := pa.on h
    replace pl := pl.on h
    replace f0 := f0.trans h
    clear h
    generalize w7.alloc (.cells #[.int .i64 h1, .int .i64 h2] 23) = v7 at *
    have a0 := pa.c0
    have a1 := pa.c1
    have l0 := pl.c0
    have l1 := pl.c1
    go_wp2_with fail
    go_at_call 22; refine (D1'.out _).mono ?_; rintro e8 w8 ⟨rfl, h⟩
    clear a0 a1 l0 l1 pl D1'
    replace pa := pa.on h
    replace ph := ph.on h
    replace f0 := f0.trans h
    clear h
    have q1 := H1'.out
    clear H1'
    cases hb
    · clear D2' H2' pa ph
      go_wp2_with fail
      go_at_call 13; refine (lives_any _ (GG.out.on f0)).mono ?_; rintro e9 w9 ⟨rfl, h⟩
      go_wp2
      go_ret
      exact ⟨by first | rfl | exact ret_bool (by simp; omega), f0.trans h⟩
    · have q2 := H2'.out (by simp)
      have D2'' := Lib.hid (D2'.out (by simp))
      clear D2' H2'
      have a0 := pa.c0
      have a1 := pa.c1
      have h0 := ph.c0
      have h1' := ph.c1
      go_wp2_with fail
      go_at_call 22; refine (D2''.out _).mono ?_; rintro e9 w9 ⟨rfl, h⟩
      clear a0 a1 h0 h1' pa ph D2''
      replace f0 := f0.trans h
      clear h
      go_wp2_with fail
      go_at_call 13; refine (lives_any _ (GG.out.on f0)).mono ?_; rintro e10 w10 ⟨rfl, h⟩
      go_wp2
      go_ret
      exact ⟨by first | rfl | exact ret_bool (by simp; omega), f0.trans h⟩
theorem tex_size (n d : Int) : (texV n d).size ≤ 281474976710656 := by
  unfold texV
  cases h : okF n d
  · exact Nat.zero_le _
  · have o := okF_t h
    have a1 := o.d1; have a2 := o.d2; have a3 := o.n1; have a4 := o.n2
    have z1 := txt_size n (by omega) (by omega)
    have z2 := txt_size d (by omega) (by omega)
    show (fracTxt n d).size ≤ _
    unfold fracTxt
    split
    · omega
    · rw [ByteArray.size_append, ByteArray.size_append]
      have : (⟨#[47]⟩ : ByteArray).size = 1 := rfl
      omega
theorem back_any (an ad : Int) (s : ByteArray) (hs : s.size ≤ 281474976710656) (w : World) (G : Good w) :
    Calls Tryd.prog 8 #[.agg #[.int .i64 an, .int .i64 ad], .string s] w (RetB w true) := by
  refine back_core an ad (prN s) (prD s) (flV an ad) (rN (ofO (flV an ad + 1) 1)) (rD (ofO (flV an ad + 1) 1)) (cmpQ (fz (flV an ad) 1) (fz an ad)) (cmpQ (fz an ad) (fz (rN (ofO (flV an ad + 1) 1)) (rD (ofO (flV an ad + 1) 1)))) s (texV an ad) (prB s) (okF an ad) (rB (ofO (flV an ad + 1) 1)) w G
    (Lib.hid fun w G => nf_parse s hs w G) (Lib.hid fun h w G => ?_) (Lib.hid fun w => nf_valid an ad w) (Lib.hid fun h w G => ?_) (Lib.hid fun h w => ?_)
    (Lib.hid fun h w G => nf_text an ad w G) (Lib.hid fun h w G => ?_) (Lib.hid fun h w => nf_floor an ad w) (Lib.hid fun h w => ?_) (Lib.hid fun h w => nf_of _ _ w) (Lib.hid fun h => ?_)
    (Lib.hid fun h w => nf_cmp _ _ _ _ w) (Lib.hid fun h k w => nf_cmp _ _ _ _ w) (Lib.hid fun h => ?_) (Lib.hid fun h k => ?_)
  · obtain ⟨o, e⟩ := pr_has h
    have k := nf_text (prN s) (prD s) w G
    have t : texV (prN s) (prD s) = s := by unfold texV; rw [if_pos o.b, e]
    rw [t] at k
    exact k
  · have k := nf_text an ad w G
    have t : texV an ad = ⟨#[]⟩ := by unfold texV; rw [h]; rfl
    rw [t] at k
    exact k
  · have k := nf_floor an ad w
    have t : flV an ad = 0 := by unfold flV; rw [h]; rfl
    rw [t] at k
    exact k
  · have k := nf_parse (texV an ad) (tex_size an ad) w G
    have e : texV an ad = fracTxt an ad := by unfold texV; rw [if_pos h]
    obtain ⟨r1, r2, r3⟩ := pr_of (s := texV an ad) ⟨okF_t h, e.symm⟩
    rw [r1, r2, r3] at k
    exact k
  · have b := fl_in (okF_t h)
    have e : flV an ad = an / ad := by unfold flV; rw [if_pos h]
    rw [e]
    have k := nf_of (an / ad) 1 w
    obtain ⟨r1, r2, r3⟩ := of_one b.1 b.2
    rw [r1, r2, r3] at k
    exact k
  · have e : flV an ad = an / ad := by unfold flV; rw [if_pos h]
    rw [e]
    exact fl_in (okF_t h)
  · have e : flV an ad = an / ad := by unfold flV; rw [if_pos h]
    rw [e]
    exact fl_lo h
  · have b := fl_in (okF_t h)
    have e : flV an ad = an / ad := by unfold flV; rw [if_pos h]
    rw [e] at k ⊢
    by_cases hz : an / ad + 1 ≤ 1000000000000000
    · obtain ⟨r1, r2, -⟩ := of_one (z := an / ad + 1) (by omega) hz
      rw [r1, r2]
      exact fl_hi h hz
    · rw [ofO_none (fun t => hz t.2.1)] at k
      cases k
end Go.Proofs.YtdkmfhlmeildmaaDoor
