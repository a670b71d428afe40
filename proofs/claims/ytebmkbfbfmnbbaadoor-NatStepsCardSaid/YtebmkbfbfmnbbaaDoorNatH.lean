/-
  Package nat: Pow gives the list of the power and true, or an empty list and false if it has more than 64 limbs or the exponent is negative. For every slice of int and every int; nothing that was there turns.
-/
import Derived.Test.YtebmkbfbfmnbbaaDoorNatF
import Derived.Test.YtebmkbfbfmnbbaaDoorNatPow
namespace Go.Proofs.YtebmkbfbfmnbbaaDoor
open Go.RowKit

/-- Ahead of a round: the power so far, the square, the exponent that is left. -/
structure PowAt (A K p s k : Nat) : Prop where
  lt : p < 1000000000 ^ 64
  pos : s = 0 ∨ 1 ≤ p
  val : p * s ^ k = A ^ K
/-- In the middle of a round: h is half of the exponent. -/
structure PowH (A K p s h : Nat) : Prop where
  lt : p < 1000000000 ^ 64
  pos : s = 0 ∨ 1 ≤ p
  val : p * (s * s) ^ h = A ^ K
theorem sq_pow (s h : Nat) : (s * s) ^ h = s ^ (2 * h) := by rw [Nat.pow_mul, Nat.pow_two]
theorem pow_odd {A K p s k : Nat} (h : PowAt A K p s k) (ho : k % 2 = 1) (hlt : p * s < 1000000000 ^ 64) : PowH A K (p * s) s (k / 2) := by
  refine ⟨hlt, ?_, ?_⟩
  · rcases h.pos with e | e
    · exact .inl e
    · rcases Nat.eq_zero_or_pos s with g | g
      · exact .inl g
      · exact .inr (Nat.mul_pos e g)
  · rw [← h.val, sq_pow, Nat.mul_assoc, ← Nat.pow_succ']
    congr 2
    omega
theorem pow_even {A K p s k : Nat} (h : PowAt A K p s k) (ho : k % 2 = 0) : PowH A K p s (k / 2) := by
  refine ⟨h.lt, h.pos, ?_⟩
  rw [← h.val, sq_pow]
  congr 2
  omega
theorem big_pos {s : Nat} {x : Nat} (h : 1000000000 ^ 64 ≤ x * s) : s ≠ 0 := by
  intro e
  rw [e, Nat.mul_zero] at h
  exact absurd (Nat.pow_pos (n := 64) (show 0 < 1000000000 by decide)) (Nat.not_lt.2 h)
theorem pow_odd_no {A K p s k : Nat} (h : PowAt A K p s k) (ho : k % 2 = 1) (hge : 1000000000 ^ 64 ≤ p * s) : 1000000000 ^ 64 ≤ A ^ K := by
  rw [← h.val]
  refine Nat.le_trans hge (Nat.mul_le_mul_left _ ?_)
  have hs := big_pos hge
  have g := Nat.pow_le_pow_right (show 0 < s by omega) (show 1 ≤ k by omega)
  rwa [Nat.pow_one] at g
theorem half_zero {A K p s : Nat} (h : PowH A K p s 0) : PowAt A K p s 0 := ⟨h.lt, h.pos, by rw [← h.val, Nat.pow_zero, Nat.pow_zero]⟩
theorem half_go {A K p s k : Nat} (h : PowH A K p s k) : PowAt A K p (s * s) k :=
  ⟨h.lt, by
    rcases h.pos with e | e
    · left; rw [e]
    · exact .inr e, h.val⟩
theorem half_no {A K p s k : Nat} (h : PowH A K p s k) (hk : 0 < k) (hge : 1000000000 ^ 64 ≤ s * s) : 1000000000 ^ 64 ≤ A ^ K := by
  have hs := big_pos hge
  have hp : 1 ≤ p := by
    rcases h.pos with e | e
    · exact absurd e hs
    · exact e
  rw [← h.val]
  have g := Nat.pow_le_pow_right (show 0 < s * s from Nat.mul_pos (by omega) (by omega)) hk
  rw [Nat.pow_one] at g
  exact Nat.le_trans hge (Nat.le_trans g (Nat.le_mul_of_pos_left _ hp))
theorem pow_end {A K p s : Nat} (h : PowAt A K p s 0) : lim p = bdL (lim (A ^ K)) ∧ true = bdB (lim (A ^ K)) := by
  have e : p = A ^ K := by rw [← h.val, Nat.pow_zero, Nat.mul_one]
  have k := bd_of h.lt
  rw [← e]
  exact ⟨k.1.symm, k.2.symm⟩
theorem npow_get (w : World) : Calls Tryd.prog 31 #[.int .i64 1] w (RetS w (lim 1)) := nat_of 1 (by decide) (by decide) w
theorem nmul_yes {a b : List Int} (hlt : nv a * nv b < 1000000000 ^ 64) (ao bo : Option Addr) (ca cb : Nat) (w : World) (ha : IsS w ao a ca) (hb : IsS w bo b cb) :
    Calls Tryd.prog 14 #[.slice ao a.length ca, .slice bo b.length cb] w (RetSB w (lim (nv a * nv b)) true) := by
  have k := nat_mul ao bo a b ca cb w ha hb
  rwa [(bd_of hlt).1, (bd_of hlt).2] at k
theorem nmul_no {a b : List Int} (hge : 1000000000 ^ 64 ≤ nv a * nv b) (ao bo : Option Addr) (ca cb : Nat) (w : World) (ha : IsS w ao a ca) (hb : IsS w bo b cb) :
    Calls Tryd.prog 14 #[.slice ao a.length ca, .slice bo b.length cb] w (RetSB w [] false) := by
  have k := nat_mul ao bo a b ca cb w ha hb
  rwa [(bd_no hge).1, (bd_no hge).2] at k

set_option maxHeartbeats 3200000 in
theorem nat_pow (ao : Option Addr) (a : List Int) (ca : Nat) (k : Int) (h0 : -9223372036854775808 ≤ k) (h1 : k ≤ 9223372036854775807) (w : World) (ha : IsS w ao a ca) :
    Calls Tryd.prog 25 #[.slice ao a.length ca, .int .i64 k] w (RetSB w (powL (nv a) k) (powB (nv a) k)) := by
  by_cases hk : k < 0
  · have e1 : powL (nv a) k = [] := by unfold powL; rw [if_pos hk]
    have e2 : powB (nv a) k = false := by unfold powB; rw [if_pos hk]
    rw [e1, e2]; clear e1 e2
    go_enter Tryd.func25, Tryd.ntmps25
    go_wp2
    go_ret2
    exact ⟨none, 0, rfl, IsS.empty _, Fur.refl _⟩
  obtain ⟨K, rfl⟩ : ∃ K : Nat, k = (K : Int) := ⟨k.toNat, by omega⟩
  have e1 : powL (nv a) K = bdL (lim (nv a ^ K)) := by unfold powL; rw [if_neg hk]; rfl
  have e2 : powB (nv a) K = bdB (lim (nv a ^ K)) := by unfold powB; rw [if_neg hk]; rfl
  rw [e1, e2]; clear e1 e2 hk
  have HB := Lib.hid (fun (h : 1000000000 ^ 64 ≤ nv a ^ K) => bd_no h)
  go_enter Tryd.func25, Tryd.ntmps25
  go_wp2_with fail
  go_at_call 31; refine (npow_get _).mono ?_; rintro e w1 ⟨po1, pc1, rfl, hp1, f1⟩
  go_wp2
  go_loopw [1, 6, 7] (fun kv pv sv wr => ∃ (kk p : Nat) (pl sl : List Int) (po so : Option Addr) (pc sc : Nat), kv = .int .i64 kk ∧ kk ≤ K ∧ pv = .slice po pl.length pc ∧ sv = .slice so sl.length sc ∧ IsS wr po pl pc ∧ IsS wr so sl sc ∧ Fur w wr ∧ Hid (pl = lim p ∧ PowAt (nv a) K p (nv sl) kk)) (fun kv _ _ _ => (RowKit.intOf kv).toNat)
  case atStart => exact ⟨K, 1, lim 1, a, po1, ao, pc1, ca, rfl, Nat.le_refl _, rfl, rfl, hp1, ha.on f1, f1, rfl, ⟨Nat.one_lt_pow (by decide) (by decide), .inr (Nat.le_refl _), Nat.one_mul _⟩⟩
  case round =>
    obtain ⟨kk, p, pl, sl, po, so, pc, sc, rfl, hkK, rfl, rfl, hpl, hsl, hf, HI⟩ := hrel
    clear hp1
    have HV := Lib.hid (show nv pl = p by rw [HI.out.1]; exact nv_lim HI.out.2.lt)
    by_cases hk0 : kk = 0
    · subst hk0
      have HE := Lib.hid (pow_end HI.out.2)
      have HP := Lib.hid HI.out.1
      go_wp2
      go_ret2
      exact retb_of (HE.out.1.symm.trans HP.out.symm) HE.out.2.symm ⟨_, _, rfl, hpl, hf⟩
    · have hkp : 0 < kk := by omega
      have hkp' : (0 : Int) < kk := by omega
      clear hk0
      by_cases hodd : kk % 2 = 1
      · have HO := Lib.hid hodd
        have ho : (((kk : Int) % 2) == 1) = true := by rw [beq_iff_eq]; omega
        clear hodd
        by_cases hov : p * nv sl < 1000000000 ^ 64
        · have HH := Lib.hid (pow_odd HI.out.2 HO.out hov)
          have HM := Lib.hid (show ∀ (po so : Option Addr) (pc sc : Nat) (w : World), IsS w po pl pc → IsS w so sl sc → Calls Tryd.prog 14 #[.slice po pl.length pc, .slice so sl.length sc] w (RetSB w (lim (p * nv sl)) true) from fun po so pc sc w g1 g2 => by
            have m := nmul_yes (a := pl) (b := sl) (by rw [HV.out]; exact hov) po so pc sc w g1 g2
            rwa [HV.out] at m)
          obtain ⟨p2, hp2⟩ : ∃ p2, p2 = p * nv sl := ⟨_, rfl⟩
          rw [← hp2] at HH HM
          obtain ⟨pl2, hpl2⟩ : ∃ pl2, pl2 = lim p2 := ⟨_, rfl⟩
          rw [← hpl2] at HM
          have HP2 := Lib.hid hpl2
          clear hov hp2 hpl2 HI HV
          go_wp2_with fail
          go_at_call 14; refine (HM.out _ _ _ _ _ hpl hsl).mono ?_; rintro e w4 ⟨po2, pc2, rfl, g2, f4⟩
          have g3 := hsl.on f4
          have hf4 := hf.trans f4
          clear ho hpl hsl HM
          by_cases hh : kk / 2 = 0
          · have HZ := Lib.hid (show PowAt (nv a) K p2 (nv sl) (kk / 2) from by
              have g := HH.out
              rw [hh] at g ⊢
              exact half_zero g)
            have hz : (kk : Int) / 2 ≤ 0 := by omega
            have HK := Lib.hid (show kk / 2 ≤ K by omega)
            clear hh HH
            go_wp2
            go_roundw
            case rel => exact ⟨kk / 2, p2, pl2, sl, po2, so, pc2, sc, (congrArg (Value.int .i64) (by omega)), HK.out, rfl, rfl, g2, g3, hf4, HP2.out, HZ.out⟩
            case measure => simp [RowKit.intOf]; omega
          · have hz : 0 < (kk : Int) / 2 := by omega
            have HHK := Lib.hid (show 0 < kk / 2 by omega)
            have HK := Lib.hid (show kk / 2 ≤ K by omega)
            clear hh
            by_cases hov : nv sl * nv sl < 1000000000 ^ 64
            · have HS := Lib.hid (show nv (lim (nv sl * nv sl)) = nv sl * nv sl from nv_lim hov)
              have HG := Lib.hid (half_go HH.out)
              have HM := Lib.hid (fun (so so2 : Option Addr) (sc sc2 : Nat) (w : World) (g1 : IsS w so sl sc) (g2 : IsS w so2 sl sc2) => nmul_yes (a := sl) (b := sl) hov so so2 sc sc2 w g1 g2)
              rw [← HS.out] at HG
              obtain ⟨sl2, hsl2⟩ : ∃ sl2, sl2 = lim (nv sl * nv sl) := ⟨_, rfl⟩
              rw [← hsl2] at HM HG
              clear hov hsl2 HH HS
              go_wp2_with fail
              go_at_call 14; refine (HM.out _ _ _ _ _ g3 g3).mono ?_; rintro e w5 ⟨so2, sc2, rfl, g5, f5⟩
              go_wp2
              go_roundw
              case rel => exact ⟨kk / 2, p2, pl2, sl2, po2, so2, pc2, sc2, (congrArg (Value.int .i64) (by omega)), HK.out, rfl, rfl, g2.on f5, g5, hf4.trans f5, HP2.out, HG.out⟩
              case measure => simp [RowKit.intOf]; omega
            · have HG := Lib.hid (HB.out (half_no HH.out HHK.out (Nat.le_of_not_lt hov)))
              have HM := Lib.hid (fun (so so2 : Option Addr) (sc sc2 : Nat) (w : World) (g1 : IsS w so sl sc) (g2 : IsS w so2 sl sc2) => nmul_no (a := sl) (b := sl) (Nat.le_of_not_lt hov) so so2 sc sc2 w g1 g2)
              clear hov HH
              go_wp2_with fail
              go_at_call 14; refine (HM.out _ _ _ _ _ g3 g3).mono ?_; rintro e w5 ⟨so2, sc2, rfl, g5, f5⟩
              go_wp2
              go_ret2
              exact retb_of HG.out.1 HG.out.2 ⟨none, 0, rfl, IsS.empty _, hf4.trans f5⟩
        · have HG := Lib.hid (HB.out (pow_odd_no HI.out.2 HO.out (Nat.le_of_not_lt hov)))
          have HM := Lib.hid (show ∀ (po so : Option Addr) (pc sc : Nat) (w : World), IsS w po pl pc → IsS w so sl sc → Calls Tryd.prog 14 #[.slice po pl.length pc, .slice so sl.length sc] w (RetSB w [] false) from fun po so pc sc w g1 g2 => nmul_no (a := pl) (b := sl) (by rw [HV.out]; exact Nat.le_of_not_lt hov) po so pc sc w g1 g2)
          clear hov HI HV
          go_wp2_with fail
          go_at_call 14; refine (HM.out _ _ _ _ _ hpl hsl).mono ?_; rintro e w4 ⟨po2, pc2, rfl, g2, f4⟩
          go_wp2
          go_ret2
          exact retb_of HG.out.1 HG.out.2 ⟨none, 0, rfl, IsS.empty _, hf.trans f4⟩
      · have ho : (((kk : Int) % 2) == 1) = false := by rw [beq_eq_false_iff_ne]; omega
        have HH := Lib.hid (pow_even HI.out.2 (by omega))
        have HP2 := Lib.hid HI.out.1
        clear hodd HI HV
        by_cases hh : kk / 2 = 0
        · have HZ := Lib.hid (show PowAt (nv a) K p (nv sl) (kk / 2) from by
            have g := HH.out
            rw [hh] at g ⊢
            exact half_zero g)
          have hz : (kk : Int) / 2 ≤ 0 := by omega
          have HK := Lib.hid (show kk / 2 ≤ K by omega)
          clear hh HH
          go_wp2
          go_roundw
          case rel => exact ⟨kk / 2, p, pl, sl, po, so, pc, sc, (congrArg (Value.int .i64) (by omega)), HK.out, rfl, rfl, hpl, hsl, hf, HP2.out, HZ.out⟩
          case measure => simp [RowKit.intOf]; omega
        · have hz : 0 < (kk : Int) / 2 := by omega
          have HHK := Lib.hid (show 0 < kk / 2 by omega)
          have HK := Lib.hid (show kk / 2 ≤ K by omega)
          clear hh
          by_cases hov : nv sl * nv sl < 1000000000 ^ 64
          · have HS := Lib.hid (show nv (lim (nv sl * nv sl)) = nv sl * nv sl from nv_lim hov)
            have HG := Lib.hid (half_go HH.out)
            have HM := Lib.hid (fun (so so2 : Option Addr) (sc sc2 : Nat) (w : World) (g1 : IsS w so sl sc) (g2 : IsS w so2 sl sc2) => nmul_yes (a := sl) (b := sl) hov so so2 sc sc2 w g1 g2)
            rw [← HS.out] at HG
            obtain ⟨sl2, hsl2⟩ : ∃ sl2, sl2 = lim (nv sl * nv sl) := ⟨_, rfl⟩
            rw [← hsl2] at HM HG
            clear hov hsl2 HH HS
            go_wp2_with fail
            go_at_call 14; refine (HM.out _ _ _ _ _ hsl hsl).mono ?_; rintro e w5 ⟨so2, sc2, rfl, g5, f5⟩
            go_wp2
            go_roundw
            case rel => exact ⟨kk / 2, p, pl, sl2, po, so2, pc, sc2, (congrArg (Value.int .i64) (by omega)), HK.out, rfl, rfl, hpl.on f5, g5, hf.trans f5, HP2.out, HG.out⟩
            case measure => simp [RowKit.intOf]; omega
          · have HG := Lib.hid (HB.out (half_no HH.out HHK.out (Nat.le_of_not_lt hov)))
            have HM := Lib.hid (fun (so so2 : Option Addr) (sc sc2 : Nat) (w : World) (g1 : IsS w so sl sc) (g2 : IsS w so2 sl sc2) => nmul_no (a := sl) (b := sl) (Nat.le_of_not_lt hov) so so2 sc sc2 w g1 g2)
            clear hov HH
            go_wp2_with fail
            go_at_call 14; refine (HM.out _ _ _ _ _ hsl hsl).mono ?_; rintro e w5 ⟨so2, sc2, rfl, g5, f5⟩
            go_wp2
            go_ret2
            exact retb_of HG.out.1 HG.out.2 ⟨none, 0, rfl, IsS.empty _, hf.trans f5⟩
end Go.Proofs.YtebmkbfbfmnbbaaDoor
