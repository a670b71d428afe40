/-
  For every two int values, the statement NumRange of package num returns true: results are rejected exactly if they are out of range. Conditions: the package-level variables that the row lists begin as the program's text lays them (the card ties them to the text).
-/
import Derived.Test.YtaliaoncpemmoaaDoorFrame
import Derived.Test.YtaliaoncpemmoaaDoorTie
import Derived.Test.YtaliaoncpemmoaaDoorCards
import Derived.SevenTiedAt
namespace Go.Proofs.YtaliaoncpemmoaaDoor
open Go.ChangeShapes Go.WideShapes Go.ChangeAt Go.RowKit

theorem quo_pos {a : Int} (h : 0 < a) : (1000000000000000 : Int).tdiv a = 1000000000000000 / absV a := by
  have e : absV a = a := by unfold absV; rw [if_neg (by omega)]
  rw [e, Int.tdiv_eq_ediv_of_nonneg (by decide)]
theorem quo_neg {a : Int} (h : a < 0) : (1000000000000000 : Int).tdiv a = -(1000000000000000 / absV a) := by
  have e : absV a = -a := by unfold absV; rw [if_pos h]
  rw [e, ← Int.tdiv_eq_ediv_of_nonneg (by decide), Int.tdiv_neg, Int.neg_neg]
theorem quo_ge {a : Int} (h0 : a ≠ 0) (a0 : -1000000000000000 ≤ a) (a1 : a ≤ 1000000000000000) : 1 ≤ 1000000000000000 / absV a ∧ 1000000000000000 / absV a ≤ 1000000000000000 := by
  have p1 := absV_pos h0
  have p2 := absV_le a0 a1
  refine ⟨(Int.le_ediv_iff_mul_le (by omega)).2 (by omega), ?_⟩
  exact Int.le_trans (Int.ediv_le_self _ (by decide)) (by decide)

set_option maxRecDepth 100000 in
theorem range_no (a b : Int) (h : inB a = false ∨ inB b = false) {w0 w : World} (O : On w0 w) :
    Calls Tryd.prog 8 #[.int .i64 a, .int .i64 b] w fun e w' => e = .returned (.bool true) ∧ On w0 w' := by
  have e1 : addB a b = false := by rcases h with h | h <;> simp [addB, h]
  have e2 : subB a b = false := by rcases h with h | h <;> simp [subB, h]
  have e3 : mulB a b = false := by rcases h with h | h <;> simp [mulB, h]
  cases ha : inB a
  · clear h
    go_enter Tryd.func8, Tryd.ntmps8
    go_wp2_with (first
        | (go_at_call 22; refine (in_any _ _).mono ?_; rintro e w' ⟨rfl, rfl⟩)
        | (go_at_call 9; refine (add_any _ _ _).mono ?_; rintro e w' ⟨rfl, rfl⟩)
        | (go_at_call 10; refine (sub_any _ _ _).mono ?_; rintro e w' ⟨rfl, rfl⟩)
        | (go_at_call 11; refine (mul_any _ _ _).mono ?_; rintro e w' ⟨rfl, rfl⟩)
        | (go_at_call 24; refine (alive_on (by assumption)).mono ?_; rintro e w' ⟨rfl, O⟩))
    go_ret
    exact ⟨rfl, by assumption⟩
  · have hb : inB b = false := by rcases h with h | h <;> simp_all
    clear h
    go_enter Tryd.func8, Tryd.ntmps8
    go_wp2_with (first
        | (go_at_call 22; refine (in_any _ _).mono ?_; rintro e w' ⟨rfl, rfl⟩)
        | (go_at_call 9; refine (add_any _ _ _).mono ?_; rintro e w' ⟨rfl, rfl⟩)
        | (go_at_call 10; refine (sub_any _ _ _).mono ?_; rintro e w' ⟨rfl, rfl⟩)
        | (go_at_call 11; refine (mul_any _ _ _).mono ?_; rintro e w' ⟨rfl, rfl⟩)
        | (go_at_call 24; refine (alive_on (by assumption)).mono ?_; rintro e w' ⟨rfl, O⟩))
    go_ret
    exact ⟨rfl, by assumption⟩

set_option maxRecDepth 100000 in
theorem range_walk (a b : Int) {w0 w : World} (O : On w0 w) :
    Calls Tryd.prog 8 #[.int .i64 a, .int .i64 b] w fun e w' => e = .returned (.bool true) ∧ On w0 w' := by
  cases ha : inB a
  · exact range_no a b (.inl ha) O
  cases hb : inB b
  · exact range_no a b (.inr hb) O
  obtain ⟨a0, a1⟩ := inB_t ha
  obtain ⟨b0, b1⟩ := inB_t hb
  have e1 : addB a b = inB (a + b) := by simp [addB, ha, hb]
  have e2 : subB a b = inB (a - b) := by simp [subB, ha, hb]
  by_cases h0 : a = 0
  · subst h0
    have e3 : mulB 0 b = true := by simp only [mulB, ha, hb, Int.zero_mul]; decide
    have e4 : mulV 0 b = 0 := by simp [mulV]
    go_enter Tryd.func8, Tryd.ntmps8
    go_wp2_with (first
        | (go_at_call 22; refine (in_any _ _).mono ?_; rintro e w' ⟨rfl, rfl⟩)
        | (go_at_call 9; refine (add_any _ _ _).mono ?_; rintro e w' ⟨rfl, rfl⟩)
        | (go_at_call 10; refine (sub_any _ _ _).mono ?_; rintro e w' ⟨rfl, rfl⟩)
        | (go_at_call 11; refine (mul_any _ _ _).mono ?_; rintro e w' ⟨rfl, rfl⟩)
        | (go_at_call 24; refine (alive_on (by assumption)).mono ?_; rintro e w' ⟨rfl, O⟩))
    go_ret
    exact ⟨rfl, by assumption⟩
  have n1 : (a == 0) = false := by simpa using h0
  by_cases k0 : b = 0
  · subst k0
    have e3 : mulB a 0 = true := by simp only [mulB, ha, hb, Int.mul_zero]; decide
    have e4 : mulV a 0 = 0 := by simp [mulV]
    go_enter Tryd.func8, Tryd.ntmps8
    go_wp2_with (first
        | (go_at_call 22; refine (in_any _ _).mono ?_; rintro e w' ⟨rfl, rfl⟩)
        | (go_at_call 9; refine (add_any _ _ _).mono ?_; rintro e w' ⟨rfl, rfl⟩)
        | (go_at_call 10; refine (sub_any _ _ _).mono ?_; rintro e w' ⟨rfl, rfl⟩)
        | (go_at_call 11; refine (mul_any _ _ _).mono ?_; rintro e w' ⟨rfl, rfl⟩)
        | (go_at_call 24; refine (alive_on (by assumption)).mono ?_; rintro e w' ⟨rfl, O⟩))
    go_ret
    exact ⟨rfl, by assumption⟩
  have n2 : (b == 0) = false := by simpa using k0
  have p1 := absV_pos h0
  have p2 := absV_le a0 a1
  have q1 := absV_0 b
  have q2 := absV_le b0 b1
  by_cases h : absV b ≤ 1000000000000000 / absV a
  · obtain ⟨m0, m1⟩ := mul_fit h0 h
    have e3 : mulB a b = true := by simp only [mulB, ha, hb, inB_mk m0 m1]; decide
    have e4 : mulV a b = a * b := by simp [mulV, e3]
    have e5 : inB (a * b) = true := inB_mk m0 m1
    have e6 : (a * b).tdiv a = b := Int.mul_tdiv_cancel_left _ h0
    have e7 : (a * b).tmod a = 0 := Int.mul_tmod_right _ _
    clear p1 p2 q1 q2 h
    go_enter Tryd.func8, Tryd.ntmps8
    go_wp2_with (first
        | (go_at_call 22; refine (in_any _ _).mono ?_; rintro e w' ⟨rfl, rfl⟩)
        | (go_at_call 9; refine (add_any _ _ _).mono ?_; rintro e w' ⟨rfl, rfl⟩)
        | (go_at_call 10; refine (sub_any _ _ _).mono ?_; rintro e w' ⟨rfl, rfl⟩)
        | (go_at_call 11; refine (mul_any _ _ _).mono ?_; rintro e w' ⟨rfl, rfl⟩)
        | (go_at_call 24; refine (alive_on (by assumption)).mono ?_; rintro e w' ⟨rfl, O⟩))
    go_ret
    exact ⟨rfl, by assumption⟩
  · have hm := mul_fat (b := b) h0 (by omega)
    have e3 : mulB a b = false := by simp only [mulB, ha, hb, inB_no hm]; decide
    have e4 : mulV a b = 0 := by simp [mulV, e3]
    obtain ⟨r1, r2⟩ := quo_ge h0 a0 a1
    have hs : b < -(1000000000000000 / absV a) ∨ 1000000000000000 / absV a < b := by
      have := absV_nat b
      have h' : 1000000000000000 / absV a < absV b := by omega
      omega
    obtain ⟨z, hz⟩ : ∃ z, z = 1000000000000000 / absV a := ⟨_, rfl⟩
    rw [← hz] at r1 r2 hs
    clear p1 p2 q1 q2 h hm
    by_cases s : 0 < a
    · have e5 : (1000000000000000 : Int).tdiv a = z := by rw [hz]; exact quo_pos s
      have e6 : (1000000000000000 : Int) / a = z := by rw [← e5, Int.tdiv_eq_ediv_of_nonneg (by decide)]
      have HZ := Lib.hid hz; clear hz
      by_cases u : z < b
      · clear hs
        go_enter Tryd.func8, Tryd.ntmps8
        go_wp2_with (first
            | (go_at_call 22; refine (in_any _ _).mono ?_; rintro e w' ⟨rfl, rfl⟩)
            | (go_at_call 9; refine (add_any _ _ _).mono ?_; rintro e w' ⟨rfl, rfl⟩)
            | (go_at_call 10; refine (sub_any _ _ _).mono ?_; rintro e w' ⟨rfl, rfl⟩)
            | (go_at_call 11; refine (mul_any _ _ _).mono ?_; rintro e w' ⟨rfl, rfl⟩)
            | (go_at_call 24; refine (alive_on (by assumption)).mono ?_; rintro e w' ⟨rfl, O⟩))
        go_ret
        exact ⟨rfl, by assumption⟩
      · have u' : b < -z := by omega
        clear hs
        go_enter Tryd.func8, Tryd.ntmps8
        go_wp2_with (first
            | (go_at_call 22; refine (in_any _ _).mono ?_; rintro e w' ⟨rfl, rfl⟩)
            | (go_at_call 9; refine (add_any _ _ _).mono ?_; rintro e w' ⟨rfl, rfl⟩)
            | (go_at_call 10; refine (sub_any _ _ _).mono ?_; rintro e w' ⟨rfl, rfl⟩)
            | (go_at_call 11; refine (mul_any _ _ _).mono ?_; rintro e w' ⟨rfl, rfl⟩)
            | (go_at_call 24; refine (alive_on (by assumption)).mono ?_; rintro e w' ⟨rfl, O⟩))
        go_ret
        exact ⟨rfl, by assumption⟩
    · have s' : a < 0 := by omega
      have e5 : (1000000000000000 : Int).tdiv a = -z := by rw [hz]; exact quo_neg s'
      have HZ := Lib.hid hz; clear hz
      by_cases u : z < b
      · clear hs
        go_enter Tryd.func8, Tryd.ntmps8
        go_wp2_with (first
            | (go_at_call 22; refine (in_any _ _).mono ?_; rintro e w' ⟨rfl, rfl⟩)
            | (go_at_call 9; refine (add_any _ _ _).mono ?_; rintro e w' ⟨rfl, rfl⟩)
            | (go_at_call 10; refine (sub_any _ _ _).mono ?_; rintro e w' ⟨rfl, rfl⟩)
            | (go_at_call 11; refine (mul_any _ _ _).mono ?_; rintro e w' ⟨rfl, rfl⟩)
            | (go_at_call 24; refine (alive_on (by assumption)).mono ?_; rintro e w' ⟨rfl, O⟩))
        go_ret
        exact ⟨rfl, by assumption⟩
      · have u' : b < -z := by omega
        clear hs
        go_enter Tryd.func8, Tryd.ntmps8
        go_wp2_with (first
            | (go_at_call 22; refine (in_any _ _).mono ?_; rintro e w' ⟨rfl, rfl⟩)
            | (go_at_call 9; refine (add_any _ _ _).mono ?_; rintro e w' ⟨rfl, rfl⟩)
            | (go_at_call 10; refine (sub_any _ _ _).mono ?_; rintro e w' ⟨rfl, rfl⟩)
            | (go_at_call 11; refine (mul_any _ _ _).mono ?_; rintro e w' ⟨rfl, rfl⟩)
            | (go_at_call 24; refine (alive_on (by assumption)).mono ?_; rintro e w' ⟨rfl, O⟩))
        go_ret
        exact ⟨rfl, by assumption⟩

set_option maxRecDepth 100000 in
theorem range_lifted (os : Os) (started : os.Started) (H : Type) (enc : TypeId × Value → H) :
    ReturnsInHanded {} Tryd.checked os 8 .any (fun w args => (Rows.numRangeSpec.pre enc Tryd.prog Tryd.f8 [] false w args ∧ laidMetH Tryd.prog laid5 w) ∧ sizedMet enc Tryd.prog Tryd.f8 (OpenSpec.ofChange Rows.numRangeSpec) false w args)
      (Rows.numRangeSpec.post enc Tryd.prog Tryd.f8 false true false false) := by
  refine returnsInHanded_of_change_and (C := Tryd.checked) (X := fun w _ => laidMetH Tryd.prog laid5 w) (fun _ _ _ hh h => h.of_heap hh) own started (by kernel_rfl) Tryd.func8
    (ChangeSpec.witness_shaped (enc := enc) (C := Tryd.checked) (os := os) (X := fun w _ => laidMetH Tryd.prog laid5 w) false (World.doorLaid Tryd.prog 200 os) #[.int .i64 0, .int .i64 0] 8 rfl (World.shaped_of_RefB (by kernel_rfl) (by kernel_rfl)) (by kernel_rfl) (by kernel_rfl) (by kernel_rfl) (door_met os _)) ?_
  intro W base args ds gs before hval0 hW _ hsz0 hL _
  have hval : ∀ (j : Nat) t v, Tryd.f8.params[j]? = some t → args[j]? = some v → Value.okWide Tryd.prog W .any base t v := hval0
  have hW' := hW
  obtain ⟨p, q, hA0, hV, rfl, hfz, hnd⟩ := hW
  have hA : DataW.TrodAll enc Tryd.prog W 0 (fun _ => true) true Tryd.f8.params.toList args.toList ds p := hA0
  rw [Tryd.params8] at hA hval
  obtain ⟨v0, v1, d0, d1, p0, p1, rfl, rfl, rfl, h0, h1⟩ := trodAll_two hA
  obtain ⟨rfl, rfl⟩ := trodVars_none hV
  obtain ⟨a0, rfl, rfl, rfl, w0⟩ := open_int Tryd.underlying3 (hval 0 3 v0 rfl rfl) h0
  obtain ⟨a1, rfl, rfl, rfl, w1⟩ := open_int Tryd.underlying3 (hval 1 3 v1 rfl rfl) h1
  clear hA0 hval0 hsz0
  simp only [List.append_nil] at hW'
  refine (range_walk a0 a1 (on_of_laid hL)).mono fun e W' ⟨he, ho⟩ => ?_
  subst he
  refine ⟨_, rfl, _, _, _, [], [], [], hW', ?_, ?_, rfl, ho.fur.frame _, fun h => by cases h⟩
  · exact trodAll_mk1 (shut_bool Tryd.underlying4 _)
  · exact trodAll_mk2 (shut_int Tryd.underlying3 w0) (shut_int Tryd.underlying3 w1)

theorem range_holds : Rows.NumRangeSaid :=
  OpenClaim.holds_of_wide 8 Tryd.f8 rfl rfl rfl rfl rfl rfl rfl ⟨rfl, rfl, rfl, rfl, rfl⟩ rfl rfl rfl rfl rfl (by kernel_rfl) Tryd.func8 (by kernel_rfl)
    (of_decide_eq_true (by kernel_rfl)) (by unfold Func.isWrapper; first | (rw [if_pos (by decide +kernel)]; kernel_rfl) | (rw [if_neg (by decide +kernel)]; exact ⟨rfl, rfl⟩))
    (fun os started H enc _ => range_lifted os started H enc)

theorem range_card : Rows.NumRangeCardSaid :=
  Claim7.holds_tied_plain_at .later [] [.data, .data, .data, .sentinel, .sentinel] true (true, "68108fffc9f785294467bb6c57ac81075387d13f177f201189d60eba6e4b5e7f") true
    range_holds (fun _ h => by cases h) (by kernel_rfl) (fun _ h => by cases h) numRange_row_tie rfl ⟨rfl, rfl⟩ (by kernel_rfl) rfl
    (fun f fn hf hfn => by
      obtain rfl : f = 8 := Option.some.inj ((show Tryd.prog.funcNamed "graphdb/graphdblaw01.NumRange" = some 8 by kernel_rfl).symm.trans hf) |>.symm
      obtain rfl : fn = Tryd.f8 := (Option.some.inj (Tryd.func8.symm.trans hfn)).symm
      exact ⟨by kernel_rfl, fun j t ht => by
        rw [Tryd.params8] at ht
        have hm : t ∈ [3, 3] := by simpa using Array.mem_of_getElem? ht
        have hall : ([3, 3].all fun u => !Tryd.prog.wantsStandIn u) = true := by kernel_rfl
        exact (show Tryd.prog.wantsStandIn t = false by simpa using List.all_eq_true.1 hall t hm)⟩)
    (by kernel_rfl)
#print axioms range_card
end Go.Proofs.YtaliaoncpemmoaaDoor
