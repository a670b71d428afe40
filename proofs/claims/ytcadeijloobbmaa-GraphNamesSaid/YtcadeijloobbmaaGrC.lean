/-
  Package graph: which strings increase; the keys of properties; which values can be stored. Nothing that was there turns.
-/
import Derived.Test.YtcadeijloobbmaaGrB
import Derived.Laws.Cover1
import Derived.Laws.MakeOwn
namespace Go.Proofs.Ytcadeijloobbmaa
open Go.RowKit

/-- A bool; nothing that was there has turned. -/
def FwB (w : World) (b : Bool) (e : Ending) (w' : World) : Prop := e = .returned (.bool b) ∧ Fuw w w'
def FwI (w : World) (n : Int) (e : Ending) (w' : World) : Prop := e = .returned (.int .i64 n) ∧ Fuw w w'

set_option maxHeartbeats 1600000 in
set_option maxRecDepth 100000 in
theorem incr_any (l : List (List UInt8)) (ao : Option Addr) (cap : Nat) (w : World) (hs : SlS w ao l cap) : Calls Try.prog 100 #[.slice ao l.length cap] w (FwB w (risV l)) := by
  have hl := hs.len
  have HS := Lib.hid hs
  clear hs
  go_enter Try.func100, Try.ntmps100
  go_wp2
  go_loopw [3] (fun iv wr => ∃ i : Nat, iv = .int .i64 ((i : Int) + 1) ∧ i ≤ l.length ∧ Hid (risV l = risV (l.drop i)) ∧ Fuw w wr) (fun iv _ => l.length - (RowKit.intOf iv).toNat)
  case atStart => exact ⟨0, rfl, Nat.zero_le _, rfl, Fuw.refl _⟩
  case round =>
    obtain ⟨i, rfl, hi, HN, hf⟩ := hrel
    by_cases hlt : i + 1 < l.length
    · obtain ⟨b, o, rfl, ⟨-, c0⟩, -, c1⟩ := (slS_on hf HS.out).get2 (show i < l.length by omega) hlt
      have hA := ris_step l i hlt
      have HC := Lib.hid (HN.out.trans hA)
      rw [Nat.mul_one] at c0 c1
      have k1 : IntKind.i64.wrap ((i : Int) + 1 - 1) = (i : Int) := by rw [Int.add_sub_cancel]; exact IntWalk.i64_in _ (by omega)
      have k2 : ((i : Int) + 1).toNat = i + 1 := by omega
      have k3 : (0 : Int) ≤ (i : Int) + 1 := by omega
      have k4 : (i : Int) + 1 < (l.length : Int) := by omega
      clear hA HN
      generalize l[i] = s at *
      generalize l[i + 1] = t at *
      cases hb : Op.bytesLess (bs s).toList (bs t).toList with
      | true =>
        have HD := Lib.hid (show risV l = risV (l.drop (i + 1)) by rw [HC.out, ← bs_data s, ← bs_data t, ← toL, ← toL, hb]; rfl)
        go_wp2
        go_quiet (fail)
        clear k1 k2
        go_wp2
        go_roundw
        case rel => exact ⟨i + 1, by go_num, by omega, HD.out, hf.trans (fuw_dr _ _)⟩
        case measure => simp [RowKit.intOf]; omega
      | false =>
        have HD := Lib.hid (show risV l = false by rw [HC.out, ← bs_data s, ← bs_data t, ← toL, ← toL, hb]; rfl)
        go_wp2
        go_quiet (fail)
        clear k1 k2
        go_wp2
        go_ret
        exact ⟨ret_bool HD.out.symm, hf.trans (fuw_dr _ _)⟩
    · have HD := Lib.hid (show risV l = true by rw [HN.out, ris_end _ _ (by omega)])
      clear HN
      go_wp2
      go_ret
      exact ⟨ret_bool HD.out.symm, hf⟩
end Go.Proofs.Ytcadeijloobbmaa
