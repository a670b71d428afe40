/-
  For every int value and every string, the statement NumText of package num returns true: Text and Parse agree with the reference (strings of at most 100 bytes; longer ones are passed over by the statement itself). Conditions: the package-level variables that the row lists begin as the program's text lays them (the card ties them to the text).
-/
import Derived.Test.YtaliaoncpemmoaaDoorFrame
import Derived.Test.YtaliaoncpemmoaaDoorTie
import Derived.Test.YtaliaoncpemmoaaDoorCards
import Derived.SevenTiedAt
import Derived.Test.YtaliaoncpemmoaaDoorRefParse
namespace Go.Proofs.YtaliaoncpemmoaaDoor
open Go.ChangeShapes Go.WideShapes Go.ChangeAt Go.RowKit
open Go.ChangeMaps (open_string shut_string)

theorem rtext_on (n : Int) (h0 : -9223372036854775808 ≤ n) (h1 : n ≤ 9223372036854775807) {w0 w : World} (O : On w0 w) :
    Calls Tryd.prog 28 #[.int .i64 n] w fun e w' => e = .returned (.string (txt n)) ∧ On w0 w' :=
  (rtext_any n h0 h1 w).mono fun _ _ ⟨he, hf⟩ => ⟨he, O.on hf⟩
theorem rparse_on (s : ByteArray) (hs : s.size ≤ maxLen) {w0 w : World} (O : On w0 w) :
    Calls Tryd.prog 26 #[.string s] w fun e w' => e = .returned (.tuple #[.int .i64 (parV s), .bool (parB s)]) ∧ On w0 w' :=
  (rparse_any s hs w).mono fun _ _ ⟨he, hf⟩ => ⟨he, O.on hf⟩

set_option maxRecDepth 100000 in
theorem text_walk (n : Int) (h0 : -9223372036854775808 ≤ n) (h1 : n ≤ 9223372036854775807) (s : ByteArray) (hs : s.size ≤ maxLen) {w0 w : World} (O : On w0 w) :
    Calls Tryd.prog 4 #[.int .i64 n, .string s] w fun e w' => e = .returned (.bool true) ∧ On w0 w' := by
  have hs' : s.size ≤ 9223372036854775807 := by unfold maxLen at hs; omega
  by_cases hl : s.size ≤ 100
  · have hl2 : s.size ≤ 281474976710656 := by omega
    go_enter Tryd.func4, Tryd.ntmps4
    go_wp2_with (first
        | (go_at_call 25; refine (parse_on _ (by assumption) (by assumption)).mono ?_; rintro e w' ⟨rfl, O⟩)
        | (go_at_call 26; refine (rparse_on _ (by assumption) (by assumption)).mono ?_; rintro e w' ⟨rfl, O⟩)
        | (go_at_call 27; refine (text_on _ (by assumption) (by assumption) (by assumption)).mono ?_; rintro e w' ⟨rfl, O⟩)
        | (go_at_call 28; refine (rtext_on _ (by assumption) (by assumption) (by assumption)).mono ?_; rintro e w' ⟨rfl, O⟩)
        | (go_at_call 19; refine (same_any _ _ _).mono ?_; rintro e w' ⟨rfl, rfl⟩)
        | (go_at_call 24; refine (alive_on (by assumption)).mono ?_; rintro e w' ⟨rfl, O⟩))
    go_ret
    exact ⟨rfl, by assumption⟩
  · have hl' : 100 < s.size := by omega
    clear hl
    go_enter Tryd.func4, Tryd.ntmps4
    go_wp2_with (first
        | (go_at_call 25; refine (parse_on _ (by assumption) (by assumption)).mono ?_; rintro e w' ⟨rfl, O⟩)
        | (go_at_call 26; refine (rparse_on _ (by assumption) (by assumption)).mono ?_; rintro e w' ⟨rfl, O⟩)
        | (go_at_call 27; refine (text_on _ (by assumption) (by assumption) (by assumption)).mono ?_; rintro e w' ⟨rfl, O⟩)
        | (go_at_call 28; refine (rtext_on _ (by assumption) (by assumption) (by assumption)).mono ?_; rintro e w' ⟨rfl, O⟩)
        | (go_at_call 19; refine (same_any _ _ _).mono ?_; rintro e w' ⟨rfl, rfl⟩)
        | (go_at_call 24; refine (alive_on (by assumption)).mono ?_; rintro e w' ⟨rfl, O⟩))
    go_ret
    exact ⟨rfl, by assumption⟩

set_option maxRecDepth 100000 in
theorem text_lifted (os : Os) (started : os.Started) (H : Type) (enc : TypeId × Value → H) :
    ReturnsInHanded {} Tryd.checked os 4 .any (fun w args => (Rows.numTextSpec.pre enc Tryd.prog Tryd.f4 [] false w args ∧ laidMetH Tryd.prog laid5 w) ∧ sizedMet enc Tryd.prog Tryd.f4 (OpenSpec.ofChange Rows.numTextSpec) false w args)
      (Rows.numTextSpec.post enc Tryd.prog Tryd.f4 false true false false) := by
  refine returnsInHanded_of_change_and (C := Tryd.checked) (X := fun w _ => laidMetH Tryd.prog laid5 w) (fun _ _ _ hh h => h.of_heap hh) own started (by kernel_rfl) Tryd.func4
    (ChangeSpec.witness_shaped (enc := enc) (C := Tryd.checked) (os := os) (X := fun w _ => laidMetH Tryd.prog laid5 w) false (World.doorLaid Tryd.prog 200 os) #[.int .i64 0, .string ⟨#[]⟩] 8 rfl (World.shaped_of_RefB (by kernel_rfl) (by kernel_rfl)) (by kernel_rfl) (by kernel_rfl) (by kernel_rfl) (door_met os _)) ?_
  intro W base args ds gs before hval0 hW _ hsz0 hL _
  have hval : ∀ (j : Nat) t v, Tryd.f4.params[j]? = some t → args[j]? = some v → Value.okWide Tryd.prog W .any base t v := hval0
  have hW' := hW
  obtain ⟨p, q, hA0, hV, rfl, hfz, hnd⟩ := hW
  have hA : DataW.TrodAll enc Tryd.prog W 0 (fun _ => true) true Tryd.f4.params.toList args.toList ds p := hA0
  rw [Tryd.params4] at hA hval
  obtain ⟨v0, v1, d0, d1, p0, p1, rfl, rfl, rfl, h0, h1⟩ := trodAll_two hA
  obtain ⟨rfl, rfl⟩ := trodVars_none hV
  obtain ⟨a0, rfl, rfl, rfl, w0⟩ := open_int Tryd.underlying3 (hval 0 3 v0 rfl rfl) h0
  obtain ⟨a1, rfl, rfl, rfl, w1⟩ := open_string Tryd.underlying9 (hval 1 9 v1 rfl rfl) h1
  clear hA0 hval0 hsz0
  simp only [List.append_nil] at hW'
  obtain ⟨b0, b1⟩ : -9223372036854775808 ≤ a0 ∧ a0 ≤ 9223372036854775807 := by
    have h := w0
    simp [Lit.wf, IntKind.min, IntKind.max, IntKind.signed, IntKind.bits] at h
    omega
  refine (text_walk a0 b0 b1 a1 w1 (on_of_laid hL)).mono fun e W' ⟨he, ho⟩ => ?_
  subst he
  refine ⟨_, rfl, _, _, _, [], [], [], hW', ?_, ?_, rfl, ho.fur.frame _, fun h => by cases h⟩
  · exact trodAll_mk1 (shut_bool Tryd.underlying4 _)
  · exact trodAll_mk2 (shut_int Tryd.underlying3 w0) (shut_string Tryd.underlying9 w1)

theorem text_holds : Rows.NumTextSaid :=
  OpenClaim.holds_of_wide 4 Tryd.f4 rfl rfl rfl rfl rfl rfl rfl ⟨rfl, rfl, rfl, rfl, rfl⟩ rfl rfl rfl rfl rfl (by kernel_rfl) Tryd.func4 (by kernel_rfl)
    (of_decide_eq_true (by kernel_rfl)) (by unfold Func.isWrapper; first | (rw [if_pos (by decide +kernel)]; kernel_rfl) | (rw [if_neg (by decide +kernel)]; exact ⟨rfl, rfl⟩))
    (fun os started H enc _ => text_lifted os started H enc)

theorem text_card : Rows.NumTextCardSaid :=
  Claim7.holds_tied_plain_at .later [] [.data, .data, .data, .sentinel, .sentinel] true (true, "68108fffc9f785294467bb6c57ac81075387d13f177f201189d60eba6e4b5e7f") true
    text_holds (fun _ h => by cases h) (by kernel_rfl) (fun _ h => by cases h) numText_row_tie rfl ⟨rfl, rfl⟩ (by kernel_rfl) rfl
    (fun f fn hf hfn => by
      obtain rfl : f = 4 := Option.some.inj ((show Tryd.prog.funcNamed "graphdb/graphdblaw01.NumText" = some 4 by kernel_rfl).symm.trans hf) |>.symm
      obtain rfl : fn = Tryd.f4 := (Option.some.inj (Tryd.func4.symm.trans hfn)).symm
      exact ⟨by kernel_rfl, fun j t ht => by
        rw [Tryd.params4] at ht
        have hm : t ∈ [3, 9] := by simpa using Array.mem_of_getElem? ht
        have hall : ([3, 9].all fun u => !Tryd.prog.wantsStandIn u) = true := by kernel_rfl
        exact (show Tryd.prog.wantsStandIn t = false by simpa using List.all_eq_true.1 hall t hm)⟩)
    (by kernel_rfl)
#print axioms text_card
end Go.Proofs.YtaliaoncpemmoaaDoor
