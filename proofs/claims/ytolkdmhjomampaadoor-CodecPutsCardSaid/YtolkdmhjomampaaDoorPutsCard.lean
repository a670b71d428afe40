/-
  For every int, every string and every value, the statement CodecPuts of package codec returns true, and each argument reads behind the call as it read before. Condition: the package-level variable that the row lists begins as the program's text lays it (the card ties it to the text).
-/
import Derived.Test.YtolkdmhjomampaaDoorMwP
import Derived.Test.YtolkdmhjomampaaDoorCdF
import Derived.Test.YtolkdmhjomampaaDoorCdL
import Derived.Test.YtolkdmhjomampaaDoorVOpen
import Derived.Test.YtolkdmhjomampaaDoorTie
import Derived.Test.YtolkdmhjomampaaDoorCards
import Derived.SevenTiedAt
import Derived.ChangeMaps5
namespace Go.Proofs.YtolkdmhjomampaaDoor
open Go.ChangeShapes Go.WideShapes Go.ChangeAt Go.RowKit
open Go.ChangeMaps (open_string shut_string)

set_option maxRecDepth 100000 in
theorem puts_lifted (os : Os) (started : os.Started) (H : Type) (enc : TypeId × Value → H) :
    ReturnsInHanded {} Tryd.checked os 3 .any (fun w args => (Rows.codecPutsSpec.pre enc Tryd.prog Tryd.f3 [] false w args ∧ laidMetH Tryd.prog laidC w) ∧ sizedMet enc Tryd.prog Tryd.f3 (OpenSpec.ofChange Rows.codecPutsSpec) false w args)
      (Rows.codecPutsSpec.post enc Tryd.prog Tryd.f3 false true false false) := by
  refine returnsInHanded_of_calls own started (by kernel_rfl)
    (ChangeSpec.witness_shaped (enc := enc) (C := Tryd.checked) (os := os) (X := fun w _ => laidMetH Tryd.prog laidC w) false (World.laidAll Tryd.prog os laidC) #[.int .i64 0, .string ⟨#[]⟩, .agg #[.int .i64 0, .int .i64 0, .int .i64 0, .string ⟨#[]⟩, .slice none 0 0]] 8 (World.laidAll_os _ _ _) (World.shaped_of_ZipB (by kernel_rfl) (by kernel_rfl)) (by kernel_rfl) (by kernel_rfl) (by kernel_rfl) (lay_met os _)) ?_
  intro w tape i _ hsh _ hok hpre _
  obtain ⟨-, -, -, fn', hfn', -, -, -, -, hval0⟩ := hok
  obtain rfl : fn' = Tryd.f3 := Option.some.inj (hfn'.symm.trans Tryd.func3)
  obtain ⟨⟨⟨ds, gs, before, hw, -⟩, hx⟩, hz⟩ := hpre
  have hW0 := DataW.Whole.of_heap (w' := w.forCall tape i) (by rfl) hw
  have hL : laidMetH Tryd.prog laidC (w.forCall tape i) := hx.of_heap (by rfl)
  have GD := good5_of hL
  have hval : ∀ (j : Nat) t v, Tryd.f3.params[j]? = some t → i.args[j]? = some v → Value.okWide Tryd.prog (w.forCall tape i) .any w.heap.size t v := hval0
  clear hw hz hval0
  generalize w.forCall tape i = W at *
  generalize i.args = args at *
  have hW' := hW0
  obtain ⟨p, q, hA0, hV, rfl, -, -⟩ := hW0
  have hA : DataW.TrodAll enc Tryd.prog W 0 (fun _ => true) true Tryd.f3.params.toList args.toList ds p := hA0
  rw [Tryd.params3] at hA hval
  obtain ⟨v0, v1, v2, d0, d1, d2, p0, p1, p2, hargs, rfl, rfl, h0, h1, h2⟩ := trodAll_three hA
  obtain rfl : args = #[v0, v1, v2] := by cases args; simpa using hargs
  obtain ⟨rfl, rfl⟩ := trodVars_none hV
  obtain ⟨n0, rfl, rfl, rfl, w0⟩ := open_int Tryd.underlying3 (hval 0 3 v0 rfl rfl) h0
  have e0 := i64_of w0
  obtain ⟨s1, rfl, rfl, rfl, w1⟩ := open_string Tryd.underlying9 (hval 1 9 v1 rfl rfl) h1
  have hz1 : s1.size ≤ 9223372036854775807 := by
    have := w1
    unfold maxLen at this
    omega
  have k2 := h2
  obtain ⟨x2, a2, c2, rfl, hi2, hs2⟩ := open_val (hval 2 24 v2 rfl rfl) h2
  clear hA0 hL hsh
  simp only [List.append_nil] at hW'
  refine (puts_any W n0 e0.1 e0.2 s1 x2 a2 c2 hi2 hs2 GD live_any hz1).mono fun e W' ⟨he, hb⟩ => ?_
  subst he
  refine ChangeSpec.post_blind ?_
  have hlt := hW'.lt
  refine ⟨_, _, _, [], _, [], hW', ?_, trodAll_mk3 (shut_int Tryd.underlying3 w0) (shut_string Tryd.underlying9 w1) (Below.trod laidOut (by kernel_rfl) (of_decide_eq_true (by kernel_rfl)) k2 hb (fun x hx => by simpa using hlt x (by simp [hx]))), rfl, hb.frame _, fun h => by cases h⟩
  exact trodAll_mk1 (shut_bool Tryd.underlying4 _)

theorem puts_holds : Rows.CodecPutsSaid :=
  OpenClaim.holds_of_wide 3 Tryd.f3 rfl rfl rfl rfl rfl rfl rfl ⟨rfl, rfl, rfl, rfl, rfl⟩ rfl rfl rfl rfl rfl (by kernel_rfl) Tryd.func3 (by kernel_rfl)
    (of_decide_eq_true (by kernel_rfl)) (by unfold Func.isWrapper; first | (rw [if_pos (by decide +kernel)]; kernel_rfl) | (rw [if_neg (by decide +kernel)]; exact ⟨rfl, rfl⟩))
    (fun os started H enc _ => puts_lifted os started H enc)

theorem puts_card : Rows.CodecPutsCardSaid :=
  Claim7.holds_tied_plain_at .later [] [.data] true (true, "9eed08f3c1be7a5792646cef7c42aa241200b8ded78418bdd98dfa8da65bc35c") false
    puts_holds (fun _ h => by cases h) (by kernel_rfl) (fun _ h => by cases h) codecPuts_row_tie rfl ⟨rfl, rfl⟩ (by kernel_rfl) rfl
    (fun f fn hf hfn => by
      obtain rfl : f = 3 := Option.some.inj ((show Tryd.prog.funcNamed "graphdb/graphdblaw05.CodecPuts" = some 3 by kernel_rfl).symm.trans hf) |>.symm
      obtain rfl : fn = Tryd.f3 := (Option.some.inj (Tryd.func3.symm.trans hfn)).symm
      exact ⟨by kernel_rfl, fun j t ht => by
        rw [Tryd.params3] at ht
        have hm : t ∈ [3, 9, 24] := by simpa using Array.mem_of_getElem? ht
        have hall : ([3, 9, 24].all fun u => !Tryd.prog.wantsStandIn u) = true := by kernel_rfl
        exact (show Tryd.prog.wantsStandIn t = false by simpa using List.all_eq_true.1 hall t hm)⟩)
    (by kernel_rfl)
#print axioms puts_card
end Go.Proofs.YtolkdmhjomampaaDoor
