/-
  The reference's Mul and Pow give the list of the product and of the power and true, or an empty list and false if it has more than 64 limbs or the exponent is negative. For every slice of int and every int; nothing that was there turns.
-/
import Derived.Test.YtebmkbfbfmnbbaaDoorNatTimes
namespace Go.Proofs.YtebmkbfbfmnbbaaDoor
open Go.RowKit

set_option maxHeartbeats 800000 in
theorem mul_any (ao bo : Option Addr) (a b : List Int) (ca cb : Nat) (w : World) (ha : IsS w ao a ca) (hb : IsS w bo b cb) :
    Calls Tryd.prog 15 #[.slice ao a.length ca, .slice bo b.length cb] w (RetSB w (bdL (lim (nv a * nv b))) (bdB (lim (nv a * nv b)))) := by
  obtain ⟨x, hx⟩ := num_of a
  obtain ⟨y, hy⟩ := num_of b
  have ht : ∀ (ao1 : Option Addr) (c1 : Nat) (bo : Option Addr) (cb : Nat) (w : World), IsS w ao1 x c1 → IsS w bo y cb → Calls Tryd.prog 39 #[.slice ao1 x.length c1, .slice bo y.length cb] w (RetS w (lim (nv a * nv b))) := fun ao1 c1 bo cb w h1 h2 => by
    have k := times_any ao1 bo x y c1 cb w h1 h2 hx.digs hy.digs hx.len hy.len
    rwa [hx.val, hy.val] at k
  generalize lim (nv a * nv b) = z at ht
  have HT := Lib.hid ht
  clear ht
  go_enter Tryd.func15, Tryd.ntmps15
  go_wp2_with fail
  go_at_call 36; refine (num_get hx _ _ _ ha).mono ?_; rintro e w1 ⟨ao1, c1, rfl, h1, f1⟩
  go_wp2_with fail
  go_at_call 36; refine (num_get hy _ _ _ (hb.on f1)).mono ?_; rintro e w2 ⟨bo1, c2, rfl, h2, f2⟩
  go_wp2_with fail
  go_at_call 39; refine (HT.out _ _ _ _ _ (h1.on f2) h2).mono ?_; rintro e w3 ⟨ao3, c3, rfl, h3, f3⟩
  go_wp2_with fail
  go_at_call 38; refine (bounded_any _ _ _ _ h3).mono ?_; rintro e w4 ⟨ao4, c4, rfl, h4, f4⟩
  go_wp2
  go_ret2
  exact ⟨_, _, rfl, h4, ((f1.trans f2).trans f3).trans f4⟩

/-- The power: the list and whether there is one. -/
def powL (n : Nat) (k : Int) : List Int := if k < 0 then [] else bdL (lim (n ^ k.toNat))
def powB (n : Nat) (k : Int) : Bool := if k < 0 then false else bdB (lim (n ^ k.toNat))
theorem bd_of {n : Nat} (h : n < 1000000000 ^ 64) : bdL (lim n) = lim n ∧ bdB (lim n) = true := by
  have k := (len_lim n 64).2 h
  exact ⟨by unfold bdL; rw [if_pos k], by unfold bdB; exact decide_eq_true k⟩
theorem bd_no {n : Nat} (h : 1000000000 ^ 64 ≤ n) : bdL (lim n) = [] ∧ bdB (lim n) = false := by
  have k : ¬ (lim n).length ≤ 64 := fun k => by have := (len_lim n 64).1 k; omega
  exact ⟨by unfold bdL; rw [if_neg k], by unfold bdB; exact decide_eq_false k⟩
theorem pow_over {n i k : Nat} (hn : 1 ≤ n) (hik : i ≤ k) (h : 64 < (lim (n ^ i)).length) : bdL (lim (n ^ k)) = [] ∧ bdB (lim (n ^ k)) = false := by
  refine bd_no (Nat.le_trans ?_ (Nat.pow_le_pow_right hn hik))
  have g : ¬ n ^ i < 1000000000 ^ 64 := fun g => by have := (len_lim (n ^ i) 64).2 g; omega
  omega
theorem one_L : lim (1 : Int).toNat = [1] := by
  show lim 1 = [1]
  rw [lim_s (by decide), show 1 / 1000000000 = 0 by decide, lim_0]
  rfl
theorem one_get (w : World) : Calls Tryd.prog 32 #[.int .i64 1] w (RetS w [1]) := by
  have k := of_any 1 (by decide) (by decide) w
  rwa [one_L] at k

set_option maxHeartbeats 3200000 in
theorem pow_any (ao : Option Addr) (a : List Int) (ca : Nat) (k : Int) (h0 : -9223372036854775808 ≤ k) (h1 : k ≤ 9223372036854775807) (w : World) (ha : IsS w ao a ca) :
    Calls Tryd.prog 26 #[.slice ao a.length ca, .int .i64 k] w (RetSB w (powL (nv a) k) (powB (nv a) k)) := by
  obtain ⟨x, hx⟩ := num_of a
  have lx := hx.len
  by_cases hk : k < 0
  · have e1 : powL (nv a) k = [] := by unfold powL; rw [if_pos hk]
    have e2 : powB (nv a) k = false := by unfold powB; rw [if_pos hk]
    rw [e1, e2]; clear e1 e2
    go_enter Tryd.func26, Tryd.ntmps26
    go_wp2_with fail
    go_at_call 36; refine (num_get hx _ _ _ ha).mono ?_; rintro e w1 ⟨ao1, c1, rfl, h1, f1⟩
    go_wp2
    go_ret2
    exact ⟨none, 0, rfl, IsS.empty _, f1⟩
  obtain ⟨K, rfl⟩ : ∃ K : Nat, k = (K : Int) := ⟨k.toNat, by omega⟩
  have e1 : powL (nv a) K = bdL (lim (nv a ^ K)) := by unfold powL; rw [if_neg hk]; rfl
  have e2 : powB (nv a) K = bdB (lim (nv a ^ K)) := by unfold powB; rw [if_neg hk]; rfl
  rw [e1, e2]; clear e1 e2 hk
  by_cases hz : 0 < K ∧ x.length = 0
  · obtain ⟨hK, hl⟩ := hz
    have e0 : x = [] := List.length_eq_zero_iff.1 hl
    subst e0
    have hn : nv a = 0 := by rw [← hx.val]; rfl
    have e3 := bd_of (n := nv a ^ K) (by rw [hn, Nat.zero_pow hK]; exact Nat.pow_pos (by decide))
    have e4 : lim (nv a ^ K) = [] := by rw [hn, Nat.zero_pow hK, lim_0]
    rw [e3.1, e3.2, e4]; clear e3 e4 hl hn
    go_enter Tryd.func26, Tryd.ntmps26
    go_wp2_with fail
    go_at_call 36; refine (num_get hx _ _ _ ha).mono ?_; rintro e w1 ⟨ao1, c1, rfl, h1, f1⟩
    go_wp2
    go_ret2
    exact ⟨none, 0, rfl, IsS.empty _, f1⟩
  by_cases hu : x = [1]
  · subst hu
    have hn : nv a = 1 := by rw [← hx.val]; rfl
    have e3 := bd_of (n := nv a ^ K) (by rw [hn, Nat.one_pow]; exact Nat.one_lt_pow (by decide) (by decide))
    have e4 : lim (nv a ^ K) = [1] := by rw [hn, Nat.one_pow]; exact one_L
    rw [e3.1, e3.2, e4]; clear e3 e4 hz hn
    go_enter Tryd.func26, Tryd.ntmps26
    go_wp2_with fail
    go_at_call 36; refine (num_get hx _ _ _ ha).mono ?_; rintro e w1 ⟨ao1, c1, rfl, h1, f1⟩
    obtain ⟨b, off, rfl, _, c⟩ := h1.at_ (by decide)
    have hc := c 0 (by decide)
    have hc' : w1.cell? ⟨b, off, none⟩ = some (.int .i64 1) := hc
    clear c hc
    go_wp2
    all_goals
      go_ret2
      exact ⟨_, _, rfl, h1, f1⟩
  have HK := Lib.hid (show K = 0 ∨ 1 ≤ nv a by
    rcases Nat.eq_zero_or_pos K with g | g
    · exact .inl g
    · refine .inr ?_
      have g2 : nv a ≠ 0 := fun e => hz ⟨g, by have c := hx.can; rw [hx.val, e, lim_0] at c; rw [← c]; rfl⟩
      omega)
  have HL := Lib.hid (show ∀ (i : Nat) (o : List Int), o = lim (nv a ^ i) → lim (vl o * vl x) = lim (nv a ^ (i + 1)) from fun i o e => by
    rw [e, vl_lim, hx.val, Nat.pow_succ])
  have hcase : (((x.length : Int) == 1) = false) ∨ (((x.length : Int) == 1) = true ∧ 0 < x.length ∧ x.getD 0 0 ≠ 1) := by
    by_cases g : x.length = 1
    · refine .inr ⟨by rw [beq_iff_eq]; omega, by omega, fun e => hu ?_⟩
      obtain ⟨z, rfl⟩ := List.length_eq_one_iff.1 g
      have e' : z = 1 := e
      rw [e']
    · exact .inl (by rw [beq_eq_false_iff_ne]; omega)
  have hk0 : K = 0 ∨ (0 < K ∧ ((x.length : Int) == 0) = false) := by
    rcases Nat.eq_zero_or_pos K with g | g
    · exact .inl g
    · exact .inr ⟨g, by rw [beq_eq_false_iff_ne]; intro e; exact hz ⟨g, by omega⟩⟩
  clear hz hu
  rcases hk0 with hk0 | ⟨hk0, hk1⟩
  · subst hk0
    go_enter Tryd.func26, Tryd.ntmps26
    go_wp2_with fail
    go_at_call 36; refine (num_get hx _ _ _ ha).mono ?_; rintro e w1 ⟨ao1, c1, rfl, h1, f1⟩
    have ht : ∀ (ao3 : Option Addr) (o : List Int) (c3 : Nat) (wr : World), IsS wr ao3 o c3 → Fur w1 wr → Digs o → o.length ≤ 64 → Calls Tryd.prog 39 #[.slice ao3 o.length c3, .slice ao1 x.length c1] wr (RetS wr (lim (vl o * vl x))) := fun ao3 o c3 wr g1 g2 g3 g4 => times_any ao3 ao1 o x c3 c1 wr g1 (h1.on g2) g3 hx.digs g4 hx.len
    have HTI := Lib.hid ht
    clear ht
    rcases hcase with hc1 | ⟨hc1, hc2, hc3⟩
    rotate_left
    · obtain ⟨b, off, rfl, _, cc⟩ := h1.at_ hc2
      have hc4 : w1.cell? ⟨b, off, none⟩ = some (.int .i64 (x.getD 0 0)) := cc 0 hc2
      obtain ⟨z, hz⟩ : ∃ z, x.getD 0 0 = z := ⟨_, rfl⟩
      rw [hz] at hc3 hc4
      have hz1 : (z == 1) = false := by rw [beq_eq_false_iff_ne]; exact hc3
      clear cc hz hc3
      go_wp2_with fail
      go_at_call 32; refine (one_get _).mono ?_; rintro e w2 ⟨ao2, c2, rfl, h2, f2⟩
      go_wp2
      go_loopw [7, 8] (fun v ii wr => ∃ (i : Nat) (o : List Int) (ao3 : Option Addr) (c3 : Nat), ii = .int .i64 i ∧ i ≤ 0 ∧ v = .slice ao3 o.length c3 ∧ IsS wr ao3 o c3 ∧ Fur w2 wr ∧ Hid (o = lim (nv a ^ i)) ∧ o.length ≤ 64) (fun _ ii _ => 0 - (RowKit.intOf ii).toNat)
      case atStart => exact ⟨0, [1], ao2, c2, rfl, Nat.zero_le _, rfl, h2, Fur.refl _, (by show [1] = lim (nv a ^ 0); rw [Nat.pow_zero]; exact one_L.symm), by decide⟩
      case round =>
        obtain ⟨i, o, ao3, c3, rfl, hi, rfl, ho, hf, HO, hol⟩ := hrel
        by_cases hlt : i < 0
        · exact absurd hlt (Nat.not_lt_zero _)
        · have e : i = 0 := by omega
          subst e
          have HE := Lib.hid (show bdL (lim (nv a ^ 0)) = o ∧ bdB (lim (nv a ^ 0)) = true by
            rw [← HO.out]
            exact ⟨by unfold bdL; rw [if_pos hol], by unfold bdB; exact decide_eq_true hol⟩)
          clear hlt hi
          go_wp2
          go_ret2
          exact retb_of HE.out.1 HE.out.2 ⟨_, _, rfl, ho, (f1.trans f2).trans hf⟩
    · skip
      go_wp2_with fail
      go_at_call 32; refine (one_get _).mono ?_; rintro e w2 ⟨ao2, c2, rfl, h2, f2⟩
      go_wp2
      go_loopw [7, 8] (fun v ii wr => ∃ (i : Nat) (o : List Int) (ao3 : Option Addr) (c3 : Nat), ii = .int .i64 i ∧ i ≤ 0 ∧ v = .slice ao3 o.length c3 ∧ IsS wr ao3 o c3 ∧ Fur w2 wr ∧ Hid (o = lim (nv a ^ i)) ∧ o.length ≤ 64) (fun _ ii _ => 0 - (RowKit.intOf ii).toNat)
      case atStart => exact ⟨0, [1], ao2, c2, rfl, Nat.zero_le _, rfl, h2, Fur.refl _, (by show [1] = lim (nv a ^ 0); rw [Nat.pow_zero]; exact one_L.symm), by decide⟩
      case round =>
        obtain ⟨i, o, ao3, c3, rfl, hi, rfl, ho, hf, HO, hol⟩ := hrel
        by_cases hlt : i < 0
        · exact absurd hlt (Nat.not_lt_zero _)
        · have e : i = 0 := by omega
          subst e
          have HE := Lib.hid (show bdL (lim (nv a ^ 0)) = o ∧ bdB (lim (nv a ^ 0)) = true by
            rw [← HO.out]
            exact ⟨by unfold bdL; rw [if_pos hol], by unfold bdB; exact decide_eq_true hol⟩)
          clear hlt hi
          go_wp2
          go_ret2
          exact retb_of HE.out.1 HE.out.2 ⟨_, _, rfl, ho, (f1.trans f2).trans hf⟩
  · go_enter Tryd.func26, Tryd.ntmps26
    go_wp2_with fail
    go_at_call 36; refine (num_get hx _ _ _ ha).mono ?_; rintro e w1 ⟨ao1, c1, rfl, h1, f1⟩
    have ht : ∀ (ao3 : Option Addr) (o : List Int) (c3 : Nat) (wr : World), IsS wr ao3 o c3 → Fur w1 wr → Digs o → o.length ≤ 64 → Calls Tryd.prog 39 #[.slice ao3 o.length c3, .slice ao1 x.length c1] wr (RetS wr (lim (vl o * vl x))) := fun ao3 o c3 wr g1 g2 g3 g4 => times_any ao3 ao1 o x c3 c1 wr g1 (h1.on g2) g3 hx.digs g4 hx.len
    have HTI := Lib.hid ht
    clear ht
    rcases hcase with hc1 | ⟨hc1, hc2, hc3⟩
    rotate_left
    · obtain ⟨b, off, rfl, _, cc⟩ := h1.at_ hc2
      have hc4 : w1.cell? ⟨b, off, none⟩ = some (.int .i64 (x.getD 0 0)) := cc 0 hc2
      obtain ⟨z, hz⟩ : ∃ z, x.getD 0 0 = z := ⟨_, rfl⟩
      rw [hz] at hc3 hc4
      have hz1 : (z == 1) = false := by rw [beq_eq_false_iff_ne]; exact hc3
      clear cc hz hc3
      go_wp2_with fail
      go_at_call 32; refine (one_get _).mono ?_; rintro e w2 ⟨ao2, c2, rfl, h2, f2⟩
      go_wp2
      go_loopw [7, 8] (fun v ii wr => ∃ (i : Nat) (o : List Int) (ao3 : Option Addr) (c3 : Nat), ii = .int .i64 i ∧ i ≤ K ∧ v = .slice ao3 o.length c3 ∧ IsS wr ao3 o c3 ∧ Fur w2 wr ∧ Hid (o = lim (nv a ^ i)) ∧ o.length ≤ 64) (fun _ ii _ => K - (RowKit.intOf ii).toNat)
      case atStart => exact ⟨0, [1], ao2, c2, rfl, Nat.zero_le _, rfl, h2, Fur.refl _, (by show [1] = lim (nv a ^ 0); rw [Nat.pow_zero]; exact one_L.symm), by decide⟩
      case round =>
        obtain ⟨i, o, ao3, c3, rfl, hi, rfl, ho, hf, HO, hol⟩ := hrel
        by_cases hlt : i < K
        · have hT := HTI.out ao3 o c3 _ ho (f2.trans hf) (by rw [HO.out]; exact digs_lim _) hol
          rw [HL.out i o HO.out] at hT
          obtain ⟨z2, hz2⟩ : ∃ z2, lim (nv a ^ (i + 1)) = z2 := ⟨_, rfl⟩
          rw [hz2] at hT
          have HZ := Lib.hid hz2
          have HT2 := Lib.hid hT
          have hlt' : (i : Int) < K := by omega
          have hi2 : i + 1 ≤ K := by omega
          clear hT hz2
          go_wp2_with fail
          go_at_call 39; refine HT2.out.mono ?_; rintro e w5 ⟨ao5, c5, rfl, h5, f5⟩
          by_cases hbig : 64 < z2.length
          · have HP := Lib.hid (pow_over (n := nv a) (i := i + 1) (k := K) (by rcases HK.out with g | g <;> omega) hi2 (by rw [HZ.out]; exact hbig))
            have hmx : z2.length ≤ 9223372036854775807 := by have := h5.le; have := h5.max; unfold maxLen at this; omega
            go_wp2
            go_ret2
            exact retb_of HP.out.1 HP.out.2 ⟨none, 0, rfl, IsS.empty _, ((f1.trans f2).trans hf).trans f5⟩
          · have hsm : z2.length ≤ 64 := by omega
            clear hbig
            go_wp2
            go_roundw
            case rel => exact ⟨i + 1, z2, _, _, by go_num, hi2, rfl, h5, hf.trans f5, HZ.out.symm, hsm⟩
            case measure => simp [RowKit.intOf]; omega
        · have e : i = K := by omega
          subst e
          have HE := Lib.hid (show bdL (lim (nv a ^ i)) = o ∧ bdB (lim (nv a ^ i)) = true by
            rw [← HO.out]
            exact ⟨by unfold bdL; rw [if_pos hol], by unfold bdB; exact decide_eq_true hol⟩)
          clear hlt hi
          go_wp2
          go_ret2
          exact retb_of HE.out.1 HE.out.2 ⟨_, _, rfl, ho, (f1.trans f2).trans hf⟩
    · skip
      go_wp2_with fail
      go_at_call 32; refine (one_get _).mono ?_; rintro e w2 ⟨ao2, c2, rfl, h2, f2⟩
      go_wp2
      go_loopw [7, 8] (fun v ii wr => ∃ (i : Nat) (o : List Int) (ao3 : Option Addr) (c3 : Nat), ii = .int .i64 i ∧ i ≤ K ∧ v = .slice ao3 o.length c3 ∧ IsS wr ao3 o c3 ∧ Fur w2 wr ∧ Hid (o = lim (nv a ^ i)) ∧ o.length ≤ 64) (fun _ ii _ => K - (RowKit.intOf ii).toNat)
      case atStart => exact ⟨0, [1], ao2, c2, rfl, Nat.zero_le _, rfl, h2, Fur.refl _, (by show [1] = lim (nv a ^ 0); rw [Nat.pow_zero]; exact one_L.symm), by decide⟩
      case round =>
        obtain ⟨i, o, ao3, c3, rfl, hi, rfl, ho, hf, HO, hol⟩ := hrel
        by_cases hlt : i < K
        · have hT := HTI.out ao3 o c3 _ ho (f2.trans hf) (by rw [HO.out]; exact digs_lim _) hol
          rw [HL.out i o HO.out] at hT
          obtain ⟨z2, hz2⟩ : ∃ z2, lim (nv a ^ (i + 1)) = z2 := ⟨_, rfl⟩
          rw [hz2] at hT
          have HZ := Lib.hid hz2
          have HT2 := Lib.hid hT
          have hlt' : (i : Int) < K := by omega
          have hi2 : i + 1 ≤ K := by omega
          clear hT hz2
          go_wp2_with fail
          go_at_call 39; refine HT2.out.mono ?_; rintro e w5 ⟨ao5, c5, rfl, h5, f5⟩
          by_cases hbig : 64 < z2.length
          · have HP := Lib.hid (pow_over (n := nv a) (i := i + 1) (k := K) (by rcases HK.out with g | g <;> omega) hi2 (by rw [HZ.out]; exact hbig))
            have hmx : z2.length ≤ 9223372036854775807 := by have := h5.le; have := h5.max; unfold maxLen at this; omega
            go_wp2
            go_ret2
            exact retb_of HP.out.1 HP.out.2 ⟨none, 0, rfl, IsS.empty _, ((f1.trans f2).trans hf).trans f5⟩
          · have hsm : z2.length ≤ 64 := by omega
            clear hbig
            go_wp2
            go_roundw
            case rel => exact ⟨i + 1, z2, _, _, by go_num, hi2, rfl, h5, hf.trans f5, HZ.out.symm, hsm⟩
            case measure => simp [RowKit.intOf]; omega
        · have e : i = K := by omega
          subst e
          have HE := Lib.hid (show bdL (lim (nv a ^ i)) = o ∧ bdB (lim (nv a ^ i)) = true by
            rw [← HO.out]
            exact ⟨by unfold bdL; rw [if_pos hol], by unfold bdB; exact decide_eq_true hol⟩)
          clear hlt hi
          go_wp2
          go_ret2
          exact retb_of HE.out.1 HE.out.2 ⟨_, _, rfl, ho, (f1.trans f2).trans hf⟩
end Go.Proofs.YtebmkbfbfmnbbaaDoor
