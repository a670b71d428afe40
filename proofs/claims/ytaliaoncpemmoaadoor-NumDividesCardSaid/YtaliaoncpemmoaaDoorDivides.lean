/-
  For every two int values and every uint8 value, the statement NumDivides of package num returns true: the dividend is the divisor times the quotient plus the remainder, and Gcd is a common divisor which every common divisor divides. Conditions: the package-level variables that the row lists begin as the program's text lays them (the card ties them to the text).
-/
import Derived.Test.YtaliaoncpemmoaaDoorFrame
import Derived.Test.YtaliaoncpemmoaaDoorTie
import Derived.Test.YtaliaoncpemmoaaDoorCards
import Derived.SevenTiedAt
import Derived.BigGuardPart
import Derived.Deep.Cut
import Derived.Deep.CutRange
import Derived.Deep.DeepCutAuto
namespace Go.Proofs.YtaliaoncpemmoaaDoor
open Go.ChangeShapes Go.WideShapes Go.ChangeAt Go.RowKit

theorem tmod_facts (a : Int) {b : Int} (h0 : b ≠ 0) : ((0 ≤ a ∧ 0 ≤ a.tmod b ∧ a.tmod b ≤ a) ∨ (a < 0 ∧ a.tmod b ≤ 0 ∧ a ≤ a.tmod b)) ∧ a.tmod b < absV b ∧ -(a.tmod b) < absV b := by
  have hb := absV_nat b
  by_cases h : 0 ≤ a
  · have e : a.tmod b = a % b := Int.tmod_eq_emod_of_nonneg h
    have h1 := Int.emod_nonneg a h0
    have h2 := Int.emod_lt a h0
    have h3 : (a.tmod b).natAbs ≤ a.natAbs := by rw [Int.natAbs_tmod]; exact Nat.mod_le _ _
    omega
  · have e : a.tmod b = -((-a).tmod b) := by rw [Int.neg_tmod, Int.neg_neg]
    have e' : (-a).tmod b = (-a) % b := Int.tmod_eq_emod_of_nonneg (by omega)
    have h1 := Int.emod_nonneg (-a) h0
    have h2 := Int.emod_lt (-a) h0
    have h3 : (a.tmod b).natAbs ≤ a.natAbs := by rw [Int.natAbs_tmod]; exact Nat.mod_le _ _
    omega
theorem quo_mul (a b : Int) : a.tdiv b * b + a.tmod b = a := by rw [Int.tmod_def, Int.mul_comm]; omega

theorem gcdV_comm (a b : Int) : gcdV b a = gcdV a b := by
  unfold gcdV
  by_cases h : inB a = true ∧ inB b = true
  · rw [if_pos h, if_pos h.symm, Int.gcd_comm]
  · rw [if_neg h, if_neg fun k => h k.symm]
theorem gcdV_in {a b : Int} (ha : inB a = true) (hb : inB b = true) : gcdV a b = (Int.gcd a b : Int) := by unfold gcdV; rw [if_pos ⟨ha, hb⟩]
theorem dvd_no {a k : Int} (h : ¬ k ∣ a) : (a.tmod k != 0) = true ∧ (a % k != 0) = true := by
  refine ⟨?_, ?_⟩
  · rw [bne_iff_ne]; exact fun e => h (Int.dvd_of_tmod_eq_zero e)
  · rw [bne_iff_ne]; exact fun e => h (Int.dvd_of_emod_eq_zero e)
theorem dvd_yes {a k : Int} (h : k ∣ a) : a.tmod k = 0 ∧ a % k = 0 := ⟨Int.tmod_eq_zero_of_dvd h, Int.emod_eq_zero_of_dvd h⟩

/-- What is asked of the last test: the divisors. -/
structure Ends (a b g k : Int) : Prop where
  g0 : 1 ≤ g
  g1 : g ≤ 1000000000000000
  ga : g ∣ a
  gb : g ∣ b
  k0 : 1 ≤ k
  k1 : k ≤ 256
  kg : k ∣ a → k ∣ b → k ∣ g

theorem ends_of {a b d : Int} (a0 : -1000000000000000 ≤ a) (a1 : a ≤ 1000000000000000) (b0 : -1000000000000000 ≤ b) (b1 : b ≤ 1000000000000000) (h : a ≠ 0 ∨ b ≠ 0) (d0 : 0 ≤ d) (d1 : d ≤ 255) : Ends a b (Int.gcd a b) (d + 1) := by
  have hp : 0 < Int.gcd a b := Nat.pos_of_ne_zero fun e => by rw [Int.gcd_eq_zero_iff] at e; omega
  have hd : ((Int.gcd a b : Nat) : Int) ∣ a := Int.gcd_dvd_left ..
  have he : ((Int.gcd a b : Nat) : Int) ∣ b := Int.gcd_dvd_right ..
  refine ⟨by omega, ?_, hd, he, by omega, by omega, fun x y => Int.dvd_coe_gcd x y⟩
  rcases h with h | h
  · have := Int.le_of_dvd (show 0 < absV a by have := absV_pos h; omega) (by rw [absV_nat]; exact Int.dvd_natAbs.2 hd)
    have := absV_le a0 a1
    omega
  · have := Int.le_of_dvd (show 0 < absV b by have := absV_pos h; omega) (by rw [absV_nat]; exact Int.dvd_natAbs.2 he)
    have := absV_le b0 b1
    omega

set_option maxRecDepth 100000 in
theorem divides_no (a b d : Int) (h : inB a = false ∨ inB b = false) {w0 w : World} (O : On w0 w) :
    Calls Tryd.prog 7 #[.int .i64 a, .int .i64 b, .int .u8 d] w fun e w' => e = .returned (.bool true) ∧ On w0 w' := by
  have e1 : dvB a b = false := by rcases h with h | h <;> simp [dvB, h]
  have e2 : gcdV a b = 0 := by rcases h with h | h <;> simp [gcdV, h]
  cases ha : inB a
  · clear h
    go_enter Tryd.func7, Tryd.ntmps7
    go_upto_region 5 with (first
        | (go_at_call 22; refine (in_any _ _).mono ?_; rintro e w' ⟨rfl, rfl⟩)
        | (go_at_call 12; refine (div_any _ _ _).mono ?_; rintro e w' ⟨rfl, rfl⟩)
        | (go_at_call 13; refine (mod_any _ _ _).mono ?_; rintro e w' ⟨rfl, rfl⟩)
        | (go_at_call 20; refine (gcd_on _ _ (by assumption)).mono ?_; rintro e w' ⟨rfl, O⟩)
        | (go_at_call 24; refine (alive_on (by assumption)).mono ?_; rintro e w' ⟨rfl, O⟩))
    simp only [List.append_eq, List.cons_append, List.nil_append]
    go_wp2_with (first
        | (go_at_call 22; refine (in_any _ _).mono ?_; rintro e w' ⟨rfl, rfl⟩)
        | (go_at_call 12; refine (div_any _ _ _).mono ?_; rintro e w' ⟨rfl, rfl⟩)
        | (go_at_call 13; refine (mod_any _ _ _).mono ?_; rintro e w' ⟨rfl, rfl⟩)
        | (go_at_call 20; refine (gcd_on _ _ (by assumption)).mono ?_; rintro e w' ⟨rfl, O⟩)
        | (go_at_call 24; refine (alive_on (by assumption)).mono ?_; rintro e w' ⟨rfl, O⟩))
    go_ret
    exact ⟨rfl, by assumption⟩
  · have hb : inB b = false := by rcases h with h | h <;> simp_all
    clear h
    go_enter Tryd.func7, Tryd.ntmps7
    go_upto_region 5 with (first
        | (go_at_call 22; refine (in_any _ _).mono ?_; rintro e w' ⟨rfl, rfl⟩)
        | (go_at_call 12; refine (div_any _ _ _).mono ?_; rintro e w' ⟨rfl, rfl⟩)
        | (go_at_call 13; refine (mod_any _ _ _).mono ?_; rintro e w' ⟨rfl, rfl⟩)
        | (go_at_call 20; refine (gcd_on _ _ (by assumption)).mono ?_; rintro e w' ⟨rfl, O⟩)
        | (go_at_call 24; refine (alive_on (by assumption)).mono ?_; rintro e w' ⟨rfl, O⟩))
    simp only [List.append_eq, List.cons_append, List.nil_append]
    go_wp2_with (first
        | (go_at_call 22; refine (in_any _ _).mono ?_; rintro e w' ⟨rfl, rfl⟩)
        | (go_at_call 12; refine (div_any _ _ _).mono ?_; rintro e w' ⟨rfl, rfl⟩)
        | (go_at_call 13; refine (mod_any _ _ _).mono ?_; rintro e w' ⟨rfl, rfl⟩)
        | (go_at_call 20; refine (gcd_on _ _ (by assumption)).mono ?_; rintro e w' ⟨rfl, O⟩)
        | (go_at_call 24; refine (alive_on (by assumption)).mono ?_; rintro e w' ⟨rfl, O⟩))
    go_ret
    exact ⟨rfl, by assumption⟩

set_option maxHeartbeats 4000000 in
set_option maxRecDepth 100000 in
theorem divides_zero (a d : Int) (ha : inB a = true) (d0 : 0 ≤ d) (d1 : d ≤ 255) {w0 w : World} (O : On w0 w) :
    Calls Tryd.prog 7 #[.int .i64 a, .int .i64 0, .int .u8 d] w fun e w' => e = .returned (.bool true) ∧ On w0 w' := by
  obtain ⟨a0, a1⟩ := inB_t ha
  have hb : inB 0 = true := by decide
  have e1 : dvB a 0 = false := by simp [dvB]
  by_cases h0 : a = 0
  · subst h0
    have e2 : gcdV 0 0 = 0 := by decide
    go_enter Tryd.func7, Tryd.ntmps7
    go_upto_region 5 with (first
        | (go_at_call 22; refine (in_any _ _).mono ?_; rintro e w' ⟨rfl, rfl⟩)
        | (go_at_call 12; refine (div_any _ _ _).mono ?_; rintro e w' ⟨rfl, rfl⟩)
        | (go_at_call 13; refine (mod_any _ _ _).mono ?_; rintro e w' ⟨rfl, rfl⟩)
        | (go_at_call 20; refine (gcd_on _ _ (by assumption)).mono ?_; rintro e w' ⟨rfl, O⟩)
        | (go_at_call 24; refine (alive_on (by assumption)).mono ?_; rintro e w' ⟨rfl, O⟩))
    simp only [List.append_eq, List.cons_append, List.nil_append]
    go_wp2_with (first
        | (go_at_call 22; refine (in_any _ _).mono ?_; rintro e w' ⟨rfl, rfl⟩)
        | (go_at_call 12; refine (div_any _ _ _).mono ?_; rintro e w' ⟨rfl, rfl⟩)
        | (go_at_call 13; refine (mod_any _ _ _).mono ?_; rintro e w' ⟨rfl, rfl⟩)
        | (go_at_call 20; refine (gcd_on _ _ (by assumption)).mono ?_; rintro e w' ⟨rfl, O⟩)
        | (go_at_call 24; refine (alive_on (by assumption)).mono ?_; rintro e w' ⟨rfl, O⟩))
    go_ret
    exact ⟨rfl, by assumption⟩
  · have E := ends_of (b := 0) a0 a1 (by decide) (by decide) (.inl h0) d0 d1
    have hg := gcdV_in ha hb
    have hg' := (gcdV_comm a 0).trans hg
    generalize ((Int.gcd a 0 : Nat) : Int) = g at E hg hg'
    generalize hk : d + 1 = k at E
    obtain ⟨g0, g1, ga, gb, k0, k1, kg⟩ := E
    obtain ⟨x1, x2⟩ := dvd_yes ga
    obtain ⟨x3, x4⟩ := dvd_yes gb
    have gn : (g == 0) = false := by simp; omega
    obtain ⟨y1, y2⟩ := tmod_bd (b := k) a0 a1
    have z1 := Int.emod_nonneg a (show k ≠ 0 by omega)
    have z2 := Int.emod_lt_of_pos a (show 0 < k by omega)
    clear ga gb
    by_cases ka : k ∣ a
    · obtain ⟨u1, u2⟩ := dvd_yes ka
      obtain ⟨u3, u4⟩ := dvd_yes (kg ka (Int.dvd_zero k))
      clear kg ka z1 z2 y1 y2
      go_enter Tryd.func7, Tryd.ntmps7
      go_upto_region 5 with (first
          | (go_at_call 22; refine (in_any _ _).mono ?_; rintro e w' ⟨rfl, rfl⟩)
          | (go_at_call 12; refine (div_any _ _ _).mono ?_; rintro e w' ⟨rfl, rfl⟩)
          | (go_at_call 13; refine (mod_any _ _ _).mono ?_; rintro e w' ⟨rfl, rfl⟩)
          | (go_at_call 20; refine (gcd_on _ _ (by assumption)).mono ?_; rintro e w' ⟨rfl, O⟩)
          | (go_at_call 24; refine (alive_on (by assumption)).mono ?_; rintro e w' ⟨rfl, O⟩))
      simp only [List.append_eq, List.cons_append, List.nil_append]
      go_wp2_with (first
          | (go_at_call 22; refine (in_any _ _).mono ?_; rintro e w' ⟨rfl, rfl⟩)
          | (go_at_call 12; refine (div_any _ _ _).mono ?_; rintro e w' ⟨rfl, rfl⟩)
          | (go_at_call 13; refine (mod_any _ _ _).mono ?_; rintro e w' ⟨rfl, rfl⟩)
          | (go_at_call 20; refine (gcd_on _ _ (by assumption)).mono ?_; rintro e w' ⟨rfl, O⟩)
          | (go_at_call 24; refine (alive_on (by assumption)).mono ?_; rintro e w' ⟨rfl, O⟩))
      go_ret
      exact ⟨rfl, by assumption⟩
    · obtain ⟨u1, u2⟩ := dvd_no ka
      clear kg ka
      go_enter Tryd.func7, Tryd.ntmps7
      go_upto_region 5 with (first
          | (go_at_call 22; refine (in_any _ _).mono ?_; rintro e w' ⟨rfl, rfl⟩)
          | (go_at_call 12; refine (div_any _ _ _).mono ?_; rintro e w' ⟨rfl, rfl⟩)
          | (go_at_call 13; refine (mod_any _ _ _).mono ?_; rintro e w' ⟨rfl, rfl⟩)
          | (go_at_call 20; refine (gcd_on _ _ (by assumption)).mono ?_; rintro e w' ⟨rfl, O⟩)
          | (go_at_call 24; refine (alive_on (by assumption)).mono ?_; rintro e w' ⟨rfl, O⟩))
      simp only [List.append_eq, List.cons_append, List.nil_append]
      go_wp2_with (first
          | (go_at_call 22; refine (in_any _ _).mono ?_; rintro e w' ⟨rfl, rfl⟩)
          | (go_at_call 12; refine (div_any _ _ _).mono ?_; rintro e w' ⟨rfl, rfl⟩)
          | (go_at_call 13; refine (mod_any _ _ _).mono ?_; rintro e w' ⟨rfl, rfl⟩)
          | (go_at_call 20; refine (gcd_on _ _ (by assumption)).mono ?_; rintro e w' ⟨rfl, O⟩)
          | (go_at_call 24; refine (alive_on (by assumption)).mono ?_; rintro e w' ⟨rfl, O⟩))
      go_ret
      exact ⟨rfl, by assumption⟩

set_option maxHeartbeats 4000000 in
set_option maxRecDepth 100000 in
theorem divides_walk (a b d : Int) (d0 : 0 ≤ d) (d1 : d ≤ 255) {w0 w : World} (O : On w0 w) :
    Calls Tryd.prog 7 #[.int .i64 a, .int .i64 b, .int .u8 d] w fun e w' => e = .returned (.bool true) ∧ On w0 w' := by
  cases ha : inB a
  · exact divides_no a b d (.inl ha) O
  cases hb : inB b
  · exact divides_no a b d (.inr hb) O
  by_cases h0 : b = 0
  · subst h0; exact divides_zero a d ha d0 d1 O
  obtain ⟨a0, a1⟩ := inB_t ha
  obtain ⟨b0, b1⟩ := inB_t hb
  have e0 : (b != 0) = true := by simpa using h0
  have e1 : dvB a b = true := by simp [dvB, ha, hb, h0]
  have E := ends_of a0 a1 b0 b1 (.inr h0) d0 d1
  have hg := gcdV_in ha hb
  have hg' := (gcdV_comm a b).trans hg
  have hq : divV a b = a.tdiv b := by simp [divV, e1]
  have hr : modV a b = a.tmod b := by simp [modV, e1]
  obtain ⟨t1, t2, t3⟩ := tmod_facts a h0
  have qm := quo_mul a b
  generalize a.tdiv b = q at hq qm
  generalize a.tmod b = r at hr qm t1 t2 t3
  have m1 : -1000000000000000 ≤ q * b := by omega
  have m2 : q * b ≤ 1000000000000000 := by omega
  have hs : r < 0 ∧ a < 0 ∨ r = 0 ∨ 0 < r ∧ 0 < a := by omega
  have r0 : -1000000000000000 ≤ r := by omega
  have r1 : r ≤ 1000000000000000 := by omega
  generalize ((Int.gcd a b : Nat) : Int) = g at E hg hg'
  generalize hk : d + 1 = k at E
  obtain ⟨g0, g1, ga, gb, k0, k1, kg⟩ := E
  obtain ⟨x1, x2⟩ := dvd_yes ga
  obtain ⟨x3, x4⟩ := dvd_yes gb
  have gn : (g == 0) = false := by simp; omega
  have y := tmod_bd (b := k) a0 a1
  have y' := tmod_bd (b := k) b0 b1
  have z1 := Int.emod_nonneg a (show k ≠ 0 by omega)
  have z2 := Int.emod_lt_of_pos a (show 0 < k by omega)
  have z3 := Int.emod_nonneg b (show k ≠ 0 by omega)
  have z4 := Int.emod_lt_of_pos b (show 0 < k by omega)
  clear ga gb t1
  have ba : absV b = b ∧ 0 < b ∨ absV b = -b ∧ b < 0 := by unfold absV; split <;> omega
  have rb : 0 < b ∧ r < b ∧ -r < b ∨ b < 0 ∧ r < -b ∧ -r < -b := by omega
  clear ba t2 t3
  have kd : (k ∣ a ∧ k ∣ b ∧ k ∣ g) ∨ (k ∣ a ∧ ¬ k ∣ b) ∨ ¬ k ∣ a := by
    by_cases ka : k ∣ a
    · by_cases kb : k ∣ b
      · exact .inl ⟨ka, kb, kg ka kb⟩
      · exact .inr (.inl ⟨ka, kb⟩)
    · exact .inr (.inr ka)
  clear kg
  obtain ⟨y1, y2⟩ := y
  obtain ⟨y3, y4⟩ := y'
  go_enter Tryd.func7, Tryd.ntmps7
  go_upto_region 5 with (first
    | (go_at_call 22; refine (in_any _ _).mono ?_; rintro e w' ⟨rfl, rfl⟩)
    | (go_at_call 12; refine (div_any _ _ _).mono ?_; rintro e w' ⟨rfl, rfl⟩)
    | (go_at_call 13; refine (mod_any _ _ _).mono ?_; rintro e w' ⟨rfl, rfl⟩)
    | (go_at_call 20; refine (gcd_on _ _ (by assumption)).mono ?_; rintro e w' ⟨rfl, O⟩)
    | (go_at_call 24; refine (alive_on (by assumption)).mono ?_; rintro e w' ⟨rfl, O⟩))
  simp only [List.append_eq, List.cons_append, List.nil_append]
  go_cut [123] from 42 to 123 (fun s wx => s = .bool false ∧ wx = w)
  case first =>
    clear kd x1 x2 x3 x4 z1 z2 z3 z4 y1 y2 y3 y4
    rcases rb with ⟨rb1, rb2, rb3⟩ | ⟨rb1, rb2, rb3⟩ <;>
    rcases hs with ⟨hs1, hs2⟩ | rfl | ⟨hs1, hs2⟩
    all_goals
      go_wp2
      all_goals first | (exfalso; omega) | (go_meet; first | exact ⟨rfl, rfl⟩ | exact ⟨congrArg Value.bool (decide_eq_false (by omega)), rfl⟩)
  case rest =>
    obtain ⟨rfl, rfl⟩ := hcut
    clear rb hs qm m1 m2 r0 r1 hq hr
    rcases kd with ⟨ka, kb, kc⟩ | ⟨ka, kb⟩ | ka
    · obtain ⟨u1, u2⟩ := dvd_yes ka
      obtain ⟨u3, u4⟩ := dvd_yes kb
      obtain ⟨u5, u6⟩ := dvd_yes kc
      clear ka kb kc z1 z2 z3 z4 y1 y2 y3 y4
      go_wp2_with (first
    | (go_at_call 22; refine (in_any _ _).mono ?_; rintro e w' ⟨rfl, rfl⟩)
    | (go_at_call 12; refine (div_any _ _ _).mono ?_; rintro e w' ⟨rfl, rfl⟩)
    | (go_at_call 13; refine (mod_any _ _ _).mono ?_; rintro e w' ⟨rfl, rfl⟩)
    | (go_at_call 20; refine (gcd_on _ _ (by assumption)).mono ?_; rintro e w' ⟨rfl, O⟩)
    | (go_at_call 24; refine (alive_on (by assumption)).mono ?_; rintro e w' ⟨rfl, O⟩))
      go_ret
      exact ⟨rfl, by assumption⟩
    · obtain ⟨u1, u2⟩ := dvd_yes ka
      obtain ⟨u3, u4⟩ := dvd_no kb
      clear ka kb z1 z2 y1 y2
      go_wp2_with (first
    | (go_at_call 22; refine (in_any _ _).mono ?_; rintro e w' ⟨rfl, rfl⟩)
    | (go_at_call 12; refine (div_any _ _ _).mono ?_; rintro e w' ⟨rfl, rfl⟩)
    | (go_at_call 13; refine (mod_any _ _ _).mono ?_; rintro e w' ⟨rfl, rfl⟩)
    | (go_at_call 20; refine (gcd_on _ _ (by assumption)).mono ?_; rintro e w' ⟨rfl, O⟩)
    | (go_at_call 24; refine (alive_on (by assumption)).mono ?_; rintro e w' ⟨rfl, O⟩))
      go_ret
      exact ⟨rfl, by assumption⟩
    · obtain ⟨u1, u2⟩ := dvd_no ka
      clear ka
      go_wp2_with (first
    | (go_at_call 22; refine (in_any _ _).mono ?_; rintro e w' ⟨rfl, rfl⟩)
    | (go_at_call 12; refine (div_any _ _ _).mono ?_; rintro e w' ⟨rfl, rfl⟩)
    | (go_at_call 13; refine (mod_any _ _ _).mono ?_; rintro e w' ⟨rfl, rfl⟩)
    | (go_at_call 20; refine (gcd_on _ _ (by assumption)).mono ?_; rintro e w' ⟨rfl, O⟩)
    | (go_at_call 24; refine (alive_on (by assumption)).mono ?_; rintro e w' ⟨rfl, O⟩))
      go_ret
      exact ⟨rfl, by assumption⟩

set_option maxRecDepth 100000 in
theorem divides_lifted (os : Os) (started : os.Started) (H : Type) (enc : TypeId × Value → H) :
    ReturnsInHanded {} Tryd.checked os 7 .any (fun w args => (Rows.numDividesSpec.pre enc Tryd.prog Tryd.f7 [] false w args ∧ laidMetH Tryd.prog laid5 w) ∧ sizedMet enc Tryd.prog Tryd.f7 (OpenSpec.ofChange Rows.numDividesSpec) false w args)
      (Rows.numDividesSpec.post enc Tryd.prog Tryd.f7 false true false false) := by
  refine returnsInHanded_of_change_and (C := Tryd.checked) (X := fun w _ => laidMetH Tryd.prog laid5 w) (fun _ _ _ hh h => h.of_heap hh) own started (by kernel_rfl) Tryd.func7
    (ChangeSpec.witness_shaped (enc := enc) (C := Tryd.checked) (os := os) (X := fun w _ => laidMetH Tryd.prog laid5 w) false (World.doorLaid Tryd.prog 200 os) #[.int .i64 0, .int .i64 0, .int .u8 0] 8 rfl (World.shaped_of_RefB (by kernel_rfl) (by kernel_rfl)) (by kernel_rfl) (by kernel_rfl) (by kernel_rfl) (door_met os _)) ?_
  intro W base args ds gs before hval0 hW _ hsz0 hL _
  have hval : ∀ (j : Nat) t v, Tryd.f7.params[j]? = some t → args[j]? = some v → Value.okWide Tryd.prog W .any base t v := hval0
  have hW' := hW
  obtain ⟨p, q, hA0, hV, rfl, hfz, hnd⟩ := hW
  have hA : DataW.TrodAll enc Tryd.prog W 0 (fun _ => true) true Tryd.f7.params.toList args.toList ds p := hA0
  rw [Tryd.params7] at hA hval
  obtain ⟨v0, v1, v2, d0, d1, d2, p0, p1, p2, rfl, rfl, rfl, h0, h1, h2⟩ := trodAll_three hA
  obtain ⟨rfl, rfl⟩ := trodVars_none hV
  obtain ⟨a0, rfl, rfl, rfl, w0⟩ := open_int Tryd.underlying3 (hval 0 3 v0 rfl rfl) h0
  obtain ⟨a1, rfl, rfl, rfl, w1⟩ := open_int Tryd.underlying3 (hval 1 3 v1 rfl rfl) h1
  obtain ⟨a2, rfl, rfl, rfl, w2⟩ := open_int Tryd.underlying5 (hval 2 5 v2 rfl rfl) h2
  clear hA0 hval0 hsz0
  simp only [List.append_nil] at hW'
  obtain ⟨d0, d1⟩ : 0 ≤ a2 ∧ a2 ≤ 255 := by
    have h := w2
    simp [Lit.wf, IntKind.min, IntKind.max, IntKind.signed, IntKind.bits] at h
    omega
  refine (divides_walk a0 a1 a2 d0 d1 (on_of_laid hL)).mono fun e W' ⟨he, ho⟩ => ?_
  subst he
  refine ⟨_, rfl, _, _, _, [], [], [], hW', ?_, ?_, rfl, ho.fur.frame _, fun h => by cases h⟩
  · exact trodAll_mk1 (shut_bool Tryd.underlying4 _)
  · exact trodAll_mk3 (shut_int Tryd.underlying3 w0) (shut_int Tryd.underlying3 w1) (shut_int Tryd.underlying5 w2)

theorem divides_holds : Rows.NumDividesSaid :=
  OpenClaim.holds_of_wide 7 Tryd.f7 rfl rfl rfl rfl rfl rfl rfl ⟨rfl, rfl, rfl, rfl, rfl⟩ rfl rfl rfl rfl rfl (by kernel_rfl) Tryd.func7 (by kernel_rfl)
    (of_decide_eq_true (by kernel_rfl)) (by unfold Func.isWrapper; first | (rw [if_pos (by decide +kernel)]; kernel_rfl) | (rw [if_neg (by decide +kernel)]; exact ⟨rfl, rfl⟩))
    (fun os started H enc _ => divides_lifted os started H enc)

theorem divides_card : Rows.NumDividesCardSaid :=
  Claim7.holds_tied_plain_at .later [] [.data, .data, .data, .sentinel, .sentinel] true (true, "68108fffc9f785294467bb6c57ac81075387d13f177f201189d60eba6e4b5e7f") true
    divides_holds (fun _ h => by cases h) (by kernel_rfl) (fun _ h => by cases h) numDivides_row_tie rfl ⟨rfl, rfl⟩ (by kernel_rfl) rfl
    (fun f fn hf hfn => by
      obtain rfl : f = 7 := Option.some.inj ((show Tryd.prog.funcNamed "graphdb/graphdblaw01.NumDivides" = some 7 by kernel_rfl).symm.trans hf) |>.symm
      obtain rfl : fn = Tryd.f7 := (Option.some.inj (Tryd.func7.symm.trans hfn)).symm
      exact ⟨by kernel_rfl, fun j t ht => by
        rw [Tryd.params7] at ht
        have hm : t ∈ [3, 3, 5] := by simpa using Array.mem_of_getElem? ht
        have hall : ([3, 3, 5].all fun u => !Tryd.prog.wantsStandIn u) = true := by kernel_rfl
        exact (show Tryd.prog.wantsStandIn t = false by simpa using List.all_eq_true.1 hall t hm)⟩)
    (by kernel_rfl)
#print axioms divides_card
end Go.Proofs.YtaliaoncpemmoaaDoor
