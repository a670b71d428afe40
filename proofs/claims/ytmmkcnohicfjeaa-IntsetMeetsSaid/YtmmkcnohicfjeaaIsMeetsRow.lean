/-
  For every input, the statement IntsetMeets of package intset returns true, and each argument reads behind the call as it read before. No condition.
-/
import Derived.Test.YtmmkcnohicfjeaaIsMeets
import Derived.Test.YtmmkcnohicfjeaaIsOpen
import Derived.Deep.Matrix
namespace Go.Proofs.Ytmmkcnohicfjeaa
open Go.ChangeShapes Go.WideShapes Go.ChangeAt Go.RowKit

theorem cellsS : Try.prog.cellsOf 22 = 1 := by kernel_rfl
theorem rows_get (f : Nat → List Int) (n r : Nat) (h : r < n) : ((List.range n).map f).getD r [] = f r := by simp [List.getD, h]
theorem open_rows {H : Type} {enc : TypeId × Value → H} {W : World} {v : Value} {base : Nat} {d : DataW H} {p : List MemPlace} (hv : Value.okWide Try.prog W .any base 32 v)
    (h : DataW.Trod enc Try.prog W 0 (fun _ => true) true 32 v d p) : ∃ (a0 : Option Addr) (ls : List (List Int)) (cap : Nat), v = .slice a0 ls.length cap ∧ IsSS W a0 ls cap := by
  obtain ⟨a0, l, cap, rfl⟩ := okWide_slice Try.underlying32 hv
  obtain ⟨fuel, hf⟩ := h
  rcases Go.Deep.open_int_rows Try.underlying32 Try.underlying22 Try.underlying3 cellsS cellsI hf with ⟨hcs, _⟩ | ⟨a, len', cap', A, L, C, Z, hcs, _, hl, hm, _, hr⟩
  · simp [Value.cells] at hcs
    obtain ⟨rfl, rfl, rfl⟩ := hcs
    exact ⟨none, [], 0, rfl, Nat.le_refl _, Nat.zero_le _, fun _ => rfl, fun hp => absurd hp (by decide)⟩
  · simp [Value.cells] at hcs
    obtain ⟨rfl, rfl, rfl⟩ := hcs
    have hlen : ((List.range l).map fun r => (Z r).take (L r)).length = l := by simp
    refine ⟨some a, (List.range l).map fun r => (Z r).take (L r), cap, by rw [hlen], by rw [hlen]; exact hl, hm, (fun e => by cases e), fun hp => ?_⟩
    rw [hlen] at hp
    obtain ⟨h0, _⟩ := hr 0 (by omega)
    obtain ⟨b, off, spot⟩ := a
    have hspot : spot = none := by simpa [Addr.add] using World.cell?_spot h0
    subst hspot
    refine ⟨b, off, rfl, ?_, fun j hj => ?_⟩
    · rw [Go.WideShapes.add_plain] at h0
      simpa using World.block_lt_of_cell? W _ h0
    · rw [hlen] at hj
      obtain ⟨k0, k1, k2, k3, _, k5, k6⟩ := hr j (by omega)
      rw [rows_get _ _ _ hj]
      have hzl : ((Z j).take (L j)).length = L j := by rw [List.length_take]; omega
      rw [Go.WideShapes.add_plain] at k0
      refine ⟨A j, C j, by rw [hzl]; exact k0, by omega, k2, k5, fun hq => ?_⟩
      rw [hzl] at hq
      cases hA : A j with
      | none => have := k5 hA; omega
      | some a' =>
        obtain ⟨_, hc⟩ := k6 a' hA
        obtain ⟨b', off', rfl, hc'⟩ := ints_at (zs := Z j) (fun i hi => hc i (by omega)) (by omega)
        refine ⟨b', off', rfl, ?_, fun i hi => ?_⟩
        · have k := hc' 0 (by omega)
          simpa using World.block_lt_of_cell? W _ k
        · rw [hzl] at hi
          rw [hc' i (by omega)]
          simp [List.getD, hi]

set_option maxRecDepth 100000 in
theorem meets_lifted (os : Os) (started : os.Started) (H : Type) (enc : TypeId × Value → H) :
    ReturnsInHanded {} Try.checked os 5 .any (Rows.intsetMeetsSpec.pre6 enc Try.prog Try.f5 Rows.intsetMeetsRow.domain false) (Rows.intsetMeetsSpec.post enc Try.prog Try.f5 false true false false) := by
  refine returnsInHanded_of_change (C := Try.checked) own started (by kernel_rfl) Try.func5
    (ChangeSpec.witness6 (enc := enc) (C := Try.checked) false ⟨#[], #[.slice none 0 0], []⟩ 8 (by kernel_rfl) (by kernel_rfl) (by kernel_rfl) (by kernel_rfl)) ?_
  intro W base args ds gs before hval0 hW hcnd _
  have hval : ∀ (j : Nat) t v, Try.f5.params[j]? = some t → args[j]? = some v → Value.okWide Try.prog W .any base t v := hval0
  have hW' := hW
  obtain ⟨p, q, hA0, hV, rfl, hfz, hnd⟩ := hW
  have hA : DataW.TrodAll enc Try.prog W 0 (fun _ => true) true Try.f5.params.toList args.toList ds p := hA0
  rw [Try.params5] at hA hval
  obtain ⟨v0, d0, rfl, rfl, h0⟩ := trodAll_one hA
  obtain ⟨rfl, rfl⟩ := trodVars_none hV
  have k0 := h0
  obtain ⟨a0, z0, c0, rfl, s0⟩ := open_rows (hval 0 32 v0 rfl rfl) h0
  clear hA0 hval0
  simp only [List.append_nil] at hW'
  have hlt : ∀ x ∈ p, x.block < W.heap.size := fun x hx => by simpa using hW'.lt x hx
  refine (meets_walk a0 z0 c0 W s0).mono fun e W' ⟨he, hf⟩ => ?_
  subst he
  refine ⟨_, rfl, _, _, _, [], _, [], hW', ?_, trodAll_mk1 (Below.trod laidOut (by kernel_rfl) (of_decide_eq_true (by kernel_rfl)) k0 hf (fun x hx => hlt x hx)), rfl, hf.frame _, fun h => by cases h⟩
  exact trodAll_mk1 (shut_bool Try.underlying4 _)

theorem meets_holds : Rows.IntsetMeetsSaid :=
  OpenClaim.holds_of_wide 5 Try.f5 rfl rfl rfl rfl rfl rfl rfl ⟨rfl, rfl, rfl, rfl, rfl⟩ rfl rfl rfl rfl rfl (by kernel_rfl) Try.func5 (by kernel_rfl)
    (of_decide_eq_true (by kernel_rfl)) (by unfold Func.isWrapper; first | (rw [if_pos (by decide +kernel)]; kernel_rfl) | (rw [if_neg (by decide +kernel)]; exact ⟨rfl, rfl⟩))
    (fun os started H enc _ => meets_lifted os started H enc)
#print axioms meets_holds
end Go.Proofs.Ytmmkcnohicfjeaa
