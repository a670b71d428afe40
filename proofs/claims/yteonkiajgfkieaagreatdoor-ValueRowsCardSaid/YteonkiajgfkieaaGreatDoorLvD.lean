/-
  Package value: validList, given what validWithin answers of each element. Nothing that was there turns.
-/
import Derived.Test.YteonkiajgfkieaaGreatDoorLvC
namespace Go.Proofs.YteonkiajgfkieaaGreatDoor
open Go.RowKit

theorem okVs_drop (m : Nat) (l : List Vl) (i : Nat) (h : i < l.length) : okVs m (l.drop i) = (okV m l[i] && okVs m (l.drop (i + 1))) := by
  rw [List.drop_eq_getElem_cons h]; rfl
/-- What validWithin answers where so many more lists may be nested. -/
def LVP (m : Nat) : Prop := ∀ (x : Vl) (ao : Option Addr) (cap : Nat) (w : World), Vin x → SlV w ao x.ll cap → Calls Tryz.prog 38 #[vlv x ao cap, .int .i64 (m : Int)] w (RetB w (okV m x))
theorem lvlist_0 (l : List Vl) (ao : Option Addr) (cap : Nat) (w : World) : Calls Tryz.prog 58 #[.slice ao l.length cap, .int .i64 0] w (RetB w false) := by
  go_enter Tryz.func58, Tryz.ntmps58
  go_wp2
  go_ret
  exact ⟨rfl, Fur.refl _⟩

set_option maxHeartbeats 3200000 in
theorem lvlist_any (m : Nat) (hm : m < 1000) (hv : LVP m) (l : List Vl) (ao : Option Addr) (cap : Nat) (w : World) (hs : SlV w ao l cap) :
    Calls Tryz.prog 58 #[.slice ao l.length cap, .int .i64 ((m : Int) + 1)] w (RetB w (decide (l.length ≤ 64) && okVs m l)) := by
  have HV := Lib.hid hv
  have HS := Lib.hid hs
  have hl := hs.le
  have hx := hs.max
  unfold maxLen at hx
  have g0 : (((m : Int) + 1) == 0) = false := by rw [beq_eq_false_iff_ne]; omega
  clear hv hs
  by_cases h64 : l.length ≤ 64
  rotate_left
  · have h64' : (64 : Int) < l.length := by omega
    rw [decide_eq_false h64]
    clear h64
    go_enter Tryz.func58, Tryz.ntmps58
    go_wp2
    go_ret
    exact ⟨rfl, Fur.refl _⟩
  · rw [decide_eq_true h64, Bool.true_and]
    have h64' : ¬ (64 : Int) < l.length := by omega
    go_enter Tryz.func58, Tryz.ntmps58
    go_wp2
    go_loopw [16] (fun iv wr => ∃ i : Nat, iv = .int .i64 i ∧ i ≤ l.length ∧ Hid (okVs m l = okVs m (l.drop i)) ∧ Fur w wr) (fun iv _ => l.length - (RowKit.intOf iv).toNat)
    case atStart => exact ⟨0, rfl, Nat.zero_le _, rfl, Fur.refl _⟩
    case round =>
      obtain ⟨i, rfl, hi, HN, hf⟩ := hrel
      by_cases hlt : i < l.length
      · obtain ⟨b, o, rfl, hc⟩ := (HS.out.on hf).get hlt
        have hA := okVs_drop m l i hlt
        obtain ⟨hy, c0, c1, c2, c3, ao', cap', c4, hs2⟩ := VC_of hc
        obtain ⟨p0, f0⟩ := bx1 wr l[i] ao' cap'
        have HC := Lib.hid (fun w' (hf' : Fur wr w') => HV.out l[i] ao' cap' w' hy (hs2.on hf'))
        have wm : IntKind.i64.wrap (m : Int) = (m : Int) := IntWalk.i64_in (m : Int) (by omega)
        unfold vlv at HC
        have HA := Lib.hid hA
        clear hc hs2 hy hA
        generalize l[i] = y at *
        generalize okV m y = q at *
        go_wp2_with fail
        go_at_call 38
        refine (HC.out _ f0).mono ?_; rintro e1 w1 ⟨rfl, f1⟩
        replace f1 := f0.trans f1
        cases q
        · have HE := Lib.hid (show okVs m l = false by rw [HN.out, HA.out]; rfl)
          go_wp2
          go_ret
          exact ⟨ret_bool HE.out.symm, hf.trans f1⟩
        · have HE := Lib.hid (show okVs m l = okVs m (l.drop (i + 1)) by rw [HN.out, HA.out, Bool.true_and])
          go_wp2
          go_roundw
          case rel => exact ⟨i + 1, by go_num, by omega, HE.out, hf.trans f1⟩
          case measure => simp [RowKit.intOf]; omega
      · have HE := Lib.hid (show okVs m l = true by rw [HN.out, List.drop_of_length_le (by omega)]; rfl)
        go_wp2
        go_ret
        exact ⟨ret_bool HE.out.symm, hf⟩
end Go.Proofs.YteonkiajgfkieaaGreatDoor
