/-
  For every three int values, the statement NumRing of package num returns true: Add and Mul commute, associate and distribute as far as the results are in range, and Sub inverts Add. Conditions: the package-level variables that the row lists begin as the program's text lays them (the card ties them to the text).
-/
import Derived.Test.YtaliaoncpemmoaaDoorFrame
import Derived.Test.YtaliaoncpemmoaaDoorTie
import Derived.Test.YtaliaoncpemmoaaDoorCards
import Derived.SevenTiedAt
namespace Go.Proofs.YtaliaoncpemmoaaDoor
open Go.ChangeShapes Go.WideShapes Go.ChangeAt Go.RowKit

theorem addB_t {a b : Int} (h : addB a b = true) : inB a = true ∧ inB b = true ∧ inB (a + b) = true ∧ addV a b = a + b := by
  have k := h
  simp only [addB, Bool.and_eq_true] at h
  exact ⟨h.1.1, h.1.2, h.2, by simp [addV, k]⟩
theorem mulB_t {a b : Int} (h : mulB a b = true) : inB a = true ∧ inB b = true ∧ inB (a * b) = true ∧ mulV a b = a * b := by
  have k := h
  simp only [mulB, Bool.and_eq_true] at h
  exact ⟨h.1.1, h.1.2, h.2, by simp [mulV, k]⟩
theorem addB_comm (a b : Int) : addB b a = addB a b := by unfold addB; rw [Int.add_comm b a, Bool.and_comm (inB b) (inB a)]
theorem addV_comm (a b : Int) : addV b a = addV a b := by unfold addV; rw [addB_comm, Int.add_comm b a]
theorem mulB_comm (a b : Int) : mulB b a = mulB a b := by unfold mulB; rw [Int.mul_comm b a, Bool.and_comm (inB b) (inB a)]
theorem mulV_comm (a b : Int) : mulV b a = mulV a b := by unfold mulV; rw [mulB_comm, Int.mul_comm b a]
theorem sub_add {a b : Int} (h : addB a b = true) : subB (addV a b) b = true ∧ subV (addV a b) b = a := by
  obtain ⟨ha, hb, hc, hv⟩ := addB_t h
  have e : a + b - b = a := by omega
  have k : subB (addV a b) b = true := by simp [subB, hv, hc, hb, e, ha]
  exact ⟨k, by unfold subV; rw [if_pos k, hv, e]⟩

/-- The first chain of tests ends at one of five places. -/
theorem chain1 (a b c : Int) : mulB a b = false ∨ (mulB a b = true ∧ mulB (mulV a b) c = false) ∨ (mulB a b = true ∧ mulB (mulV a b) c = true ∧ mulB b c = false) ∨ (mulB a b = true ∧ mulB (mulV a b) c = true ∧ mulB b c = true ∧ mulB a (mulV b c) = false)
    ∨ (mulB a b = true ∧ mulB (mulV a b) c = true ∧ mulB b c = true ∧ mulB a (mulV b c) = true ∧ (mulV (mulV a b) c != mulV a (mulV b c)) = false) := by
  cases h1 : mulB a b
  · exact .inl rfl
  cases h2 : mulB (mulV a b) c
  · exact .inr (.inl ⟨rfl, rfl⟩)
  cases h3 : mulB b c
  · exact .inr (.inr (.inl ⟨rfl, rfl, rfl⟩))
  cases h4 : mulB a (mulV b c)
  · exact .inr (.inr (.inr (.inl ⟨rfl, rfl, rfl, rfl⟩)))
  refine .inr (.inr (.inr (.inr ⟨rfl, rfl, rfl, rfl, ?_⟩)))
  have e1 := (mulB_t h1).2.2.2
  have e2 := (mulB_t h2).2.2.2
  have e3 := (mulB_t h3).2.2.2
  have e4 := (mulB_t h4).2.2.2
  rw [e2, e4, e1, e3, Int.mul_assoc]
  simp
/-- The second chain of tests, behind a known answer of its fourth. -/
theorem chain2 (a b c : Int) : addB a b = false ∨ (addB a b = true ∧ mulB (addV a b) c = false) ∨ (addB a b = true ∧ mulB (addV a b) c = true ∧ mulB a c = false) ∨ (addB a b = true ∧ mulB (addV a b) c = true ∧ mulB a c = true ∧ mulB b c = false)
    ∨ (addB a b = true ∧ mulB (addV a b) c = true ∧ mulB a c = true ∧ mulB b c = true ∧ addB (mulV a c) (mulV b c) = false)
    ∨ (addB a b = true ∧ mulB (addV a b) c = true ∧ mulB a c = true ∧ mulB b c = true ∧ addB (mulV a c) (mulV b c) = true ∧ (mulV (addV a b) c != addV (mulV a c) (mulV b c)) = false) := by
  cases h1 : addB a b
  · exact .inl rfl
  cases h2 : mulB (addV a b) c
  · exact .inr (.inl ⟨rfl, rfl⟩)
  cases h3 : mulB a c
  · exact .inr (.inr (.inl ⟨rfl, rfl, rfl⟩))
  cases h4 : mulB b c
  · exact .inr (.inr (.inr (.inl ⟨rfl, rfl, rfl, rfl⟩)))
  cases h5 : addB (mulV a c) (mulV b c)
  · exact .inr (.inr (.inr (.inr (.inl ⟨rfl, rfl, rfl, rfl, rfl⟩))))
  refine .inr (.inr (.inr (.inr (.inr ⟨rfl, rfl, rfl, rfl, rfl, ?_⟩))))
  have e1 := (addB_t h1).2.2.2
  have e2 := (mulB_t h2).2.2.2
  have e3 := (mulB_t h3).2.2.2
  have e4 := (mulB_t h4).2.2.2
  have e5 := (addB_t h5).2.2.2
  rw [e2, e5, e1, e3, e4, Int.add_mul]
  simp

set_option maxHeartbeats 8000000 in
set_option maxRecDepth 100000 in
theorem ring_walk (a b c : Int) {w0 w : World} (O : On w0 w) :
    Calls Tryd.prog 6 #[.int .i64 a, .int .i64 b, .int .i64 c] w fun e w' => e = .returned (.bool true) ∧ On w0 w' := by
  have c1 := addB_comm a b
  have c2 := addV_comm a b
  have c3 := mulB_comm a b
  have c4 := mulV_comm a b
  have s1 : addB a b = true → subB (addV a b) b = true := fun h => (sub_add h).1
  have s2 : addB a b = true → (subV (addV a b) b != a) = false := fun h => by rw [(sub_add h).2]; simp
  rcases chain1 a b c with h1 | ⟨h1, h2⟩ | ⟨h1, h2, h3⟩ | ⟨h1, h2, h3, h4⟩ | ⟨h1, h2, h3, h4, h5⟩ <;>
  rcases chain2 a b c with k1 | ⟨k1, k2⟩ | ⟨k1, k2, k3⟩ | ⟨k1, k2, k3, k4⟩ | ⟨k1, k2, k3, k4, k5⟩ | ⟨k1, k2, k3, k4, k5, k6⟩
  all_goals first
    | exact absurd (h3.symm.trans k4) (by decide)
    | (first | (have t1 := s1 k1; have t2 := s2 k1; clear s1 s2) | clear s1 s2
       go_enter Tryd.func6, Tryd.ntmps6
       go_wp2_with (first
        | (go_at_call 9; refine (add_any _ _ _).mono ?_; rintro e w' ⟨rfl, rfl⟩)
        | (go_at_call 10; refine (sub_any _ _ _).mono ?_; rintro e w' ⟨rfl, rfl⟩)
        | (go_at_call 11; refine (mul_any _ _ _).mono ?_; rintro e w' ⟨rfl, rfl⟩)
        | (go_at_call 24; refine (alive_on (by assumption)).mono ?_; rintro e w' ⟨rfl, O⟩))
       go_ret
       exact ⟨rfl, by assumption⟩)

set_option maxRecDepth 100000 in
theorem ring_lifted (os : Os) (started : os.Started) (H : Type) (enc : TypeId × Value → H) :
    ReturnsInHanded {} Tryd.checked os 6 .any (fun w args => (Rows.numRingSpec.pre enc Tryd.prog Tryd.f6 [] false w args ∧ laidMetH Tryd.prog laid5 w) ∧ sizedMet enc Tryd.prog Tryd.f6 (OpenSpec.ofChange Rows.numRingSpec) false w args)
      (Rows.numRingSpec.post enc Tryd.prog Tryd.f6 false true false false) := by
  refine returnsInHanded_of_change_and (C := Tryd.checked) (X := fun w _ => laidMetH Tryd.prog laid5 w) (fun _ _ _ hh h => h.of_heap hh) own started (by kernel_rfl) Tryd.func6
    (ChangeSpec.witness_shaped (enc := enc) (C := Tryd.checked) (os := os) (X := fun w _ => laidMetH Tryd.prog laid5 w) false (World.doorLaid Tryd.prog 200 os) #[.int .i64 0, .int .i64 0, .int .i64 0] 8 rfl (World.shaped_of_RefB (by kernel_rfl) (by kernel_rfl)) (by kernel_rfl) (by kernel_rfl) (by kernel_rfl) (door_met os _)) ?_
  intro W base args ds gs before hval0 hW _ hsz0 hL _
  have hval : ∀ (j : Nat) t v, Tryd.f6.params[j]? = some t → args[j]? = some v → Value.okWide Tryd.prog W .any base t v := hval0
  have hW' := hW
  obtain ⟨p, q, hA0, hV, rfl, hfz, hnd⟩ := hW
  have hA : DataW.TrodAll enc Tryd.prog W 0 (fun _ => true) true Tryd.f6.params.toList args.toList ds p := hA0
  rw [Tryd.params6] at hA hval
  obtain ⟨v0, v1, v2, d0, d1, d2, p0, p1, p2, rfl, rfl, rfl, h0, h1, h2⟩ := trodAll_three hA
  obtain ⟨rfl, rfl⟩ := trodVars_none hV
  obtain ⟨a0, rfl, rfl, rfl, w0⟩ := open_int Tryd.underlying3 (hval 0 3 v0 rfl rfl) h0
  obtain ⟨a1, rfl, rfl, rfl, w1⟩ := open_int Tryd.underlying3 (hval 1 3 v1 rfl rfl) h1
  obtain ⟨a2, rfl, rfl, rfl, w2⟩ := open_int Tryd.underlying3 (hval 2 3 v2 rfl rfl) h2
  clear hA0 hval0 hsz0
  simp only [List.append_nil] at hW'
  refine (ring_walk a0 a1 a2 (on_of_laid hL)).mono fun e W' ⟨he, ho⟩ => ?_
  subst he
  refine ⟨_, rfl, _, _, _, [], [], [], hW', ?_, ?_, rfl, ho.fur.frame _, fun h => by cases h⟩
  · exact trodAll_mk1 (shut_bool Tryd.underlying4 _)
  · exact trodAll_mk3 (shut_int Tryd.underlying3 w0) (shut_int Tryd.underlying3 w1) (shut_int Tryd.underlying3 w2)

theorem ring_holds : Rows.NumRingSaid :=
  OpenClaim.holds_of_wide 6 Tryd.f6 rfl rfl rfl rfl rfl rfl rfl ⟨rfl, rfl, rfl, rfl, rfl⟩ rfl rfl rfl rfl rfl (by kernel_rfl) Tryd.func6 (by kernel_rfl)
    (of_decide_eq_true (by kernel_rfl)) (by unfold Func.isWrapper; first | (rw [if_pos (by decide +kernel)]; kernel_rfl) | (rw [if_neg (by decide +kernel)]; exact ⟨rfl, rfl⟩))
    (fun os started H enc _ => ring_lifted os started H enc)

theorem ring_card : Rows.NumRingCardSaid :=
  Claim7.holds_tied_plain_at .later [] [.data, .data, .data, .sentinel, .sentinel] true (true, "68108fffc9f785294467bb6c57ac81075387d13f177f201189d60eba6e4b5e7f") true
    ring_holds (fun _ h => by cases h) (by kernel_rfl) (fun _ h => by cases h) numRing_row_tie rfl ⟨rfl, rfl⟩ (by kernel_rfl) rfl
    (fun f fn hf hfn => by
      obtain rfl : f = 6 := Option.some.inj ((show Tryd.prog.funcNamed "graphdb/graphdblaw01.NumRing" = some 6 by kernel_rfl).symm.trans hf) |>.symm
      obtain rfl : fn = Tryd.f6 := (Option.some.inj (Tryd.func6.symm.trans hfn)).symm
      exact ⟨by kernel_rfl, fun j t ht => by
        rw [Tryd.params6] at ht
        have hm : t ∈ [3, 3, 3] := by simpa using Array.mem_of_getElem? ht
        have hall : ([3, 3, 3].all fun u => !Tryd.prog.wantsStandIn u) = true := by kernel_rfl
        exact (show Tryd.prog.wantsStandIn t = false by simpa using List.all_eq_true.1 hall t hm)⟩)
    (by kernel_rfl)
#print axioms ring_card
end Go.Proofs.YtaliaoncpemmoaaDoor
