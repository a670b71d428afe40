/-
  The reference of package value: list: which values may be the elements of a list, given what valid answers of each. Nothing that was there turns.
-/
import Derived.Test.YtcadeijloobbmaaGreatRvD
namespace Go.Proofs.YtcadeijloobbmaaGreat
open Go.RowKit

/-- What valid answers where so many more lists may be nested. -/
def VP (m : Nat) : Prop := ∀ (x : Vl) (ao : Option Addr) (cap : Nat) (w : World), Vin x → SlV w ao x.ll cap → Calls Tryz.prog 112 #[vlv x ao cap, .int .i64 (m : Int)] w (RetB w (okV m x))

set_option maxHeartbeats 3200000 in
theorem rlist_any (m : Nat) (hm : m < 1000) (hv : VP m) (l : List Vl) (ao : Option Addr) (cap : Nat) (w : World) (hs : SlV w ao l cap) :
    Calls Tryz.prog 139 #[.slice ao l.length cap, .int .i64 ((m + 1 : Nat) : Int)] w (RetB w (decide (l.length ≤ 64) && okVs m l)) := by
  have HV := Lib.hid hv
  have HS := Lib.hid hs
  have hl := hs.le
  have hx := hs.max
  unfold maxLen at hx
  clear hv hs
  by_cases h64 : l.length ≤ 64
  rotate_left
  · have h64' : 64 < l.length := by omega
    rw [decide_eq_false h64]
    clear h64
    go_enter Tryz.func139, Tryz.ntmps139
    go_wp2
    go_ret
    exact ⟨rfl, Fur.refl _⟩
  · rw [decide_eq_true h64, Bool.true_and]
    go_enter Tryz.func139, Tryz.ntmps139
    go_wp2
    go_loopw [5] (fun iv wr => ∃ i : Nat, iv = .int .i64 i ∧ i ≤ l.length ∧ Hid (okVs m l = okVs m (l.drop i)) ∧ Fur w wr) (fun iv _ => l.length - (RowKit.intOf iv).toNat)
    case atStart => exact ⟨0, rfl, Nat.zero_le _, rfl, Fur.refl _⟩
    case round =>
      obtain ⟨i, rfl, hi, HN, hf⟩ := hrel
      by_cases hlt : i < l.length
      · obtain ⟨b, o, rfl, hc⟩ := (HS.out.on hf).get hlt
        have hA := okVs_drop m l i hlt
        obtain ⟨hy, c0, c1, c2, c3, ao', cap', c4, hs2⟩ := VC_of hc
        have HC := Lib.hid (HV.out l[i] ao' cap' wr hy hs2)
        unfold vlv at HC
        have HA := Lib.hid hA
        clear hc hs2 hy hA
        generalize l[i] = y at *
        generalize okV m y = q at *
        go_wp2_with fail
        go_at_call 112
        refine (HC.out).mono ?_; rintro e1 w1 ⟨rfl, f1⟩
        cases q
        · have HE := Lib.hid (show okVs m l = false by rw [HN.out, HA.out]; rfl)
          go_wp2
          go_ret
          exact ⟨ret_bool HE.out.symm, hf.trans f1⟩
        · have HE := Lib.hid (show okVs m l = okVs m (l.drop (i + 1)) by rw [HN.out, HA.out, Bool.true_and])
          go_wp2
          go_roundw
          case rel => exact ⟨i + 1, by go_num, by omega, HE.out, hf.trans f1⟩
          case measure => simp [RowKit.intOf]; omega
      · have HE := Lib.hid (show okVs m l = true by rw [HN.out, List.drop_of_length_le (by omega)]; rfl)
        go_wp2
        go_ret
        exact ⟨ret_bool HE.out.symm, hf⟩
end Go.Proofs.YtcadeijloobbmaaGreat
