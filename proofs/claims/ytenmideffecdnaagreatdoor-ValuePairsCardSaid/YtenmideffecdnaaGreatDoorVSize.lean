/-
  Plain mathematics of values: a value within the statements' budget has a text of less than a million bytes. No program is walked here.
-/
import Derived.Test.YtenmideffecdnaaGreatDoorGi
import Derived.Test.YtenmideffecdnaaGreatDoorLvM
namespace Go.Proofs.YtenmideffecdnaaGreatDoor
open Go.RowKit

/-- Within the statements' budget. -/
def lite (l : List Vl) : Bool := decide (0 ≤ ligV [l] 300)
/-- A slice of one row. -/
theorem rs1 (w : World) (l : List Vl) (ao : Option Addr) (cap : Nat) (hs : SlV w ao l cap) :
    RsV (w.alloc (.cells #[.slice ao l.length cap] 36)) (some ⟨w.heap.size, 0, none⟩) [l] 1 ∧ Fur w (w.alloc (.cells #[.slice ao l.length cap] 36)) := by
  have hh : (w.alloc (.cells #[.slice ao l.length cap] 36)).heap[w.heap.size]? = some (.cells #[.slice ao l.length cap] 36 (0, 0)) := by
    show (w.heap.push _)[w.heap.size]? = _
    rw [Array.getElem?_push, if_pos rfl]
  have hf : Fur w (w.alloc (.cells #[.slice ao l.length cap] 36)) := (Fur.refl w).alloc _
  refine ⟨⟨Nat.le_refl _, by unfold maxLen; decide, (fun h => by cases h), fun _ => ⟨w.heap.size, 0, rfl, fun j hj => ?_⟩⟩, hf⟩
  have : j = 0 := by simp at hj; omega
  subst this
  exact ⟨ao, cap, by unfold World.cell?; rw [hh]; rfl, hs.on hf⟩
theorem lsmall_any (l : List Vl) (ao : Option Addr) (cap : Nat) (w : World) (hs : SlV w ao l cap) : Calls Tryz.prog 7 #[.slice ao l.length cap] w (RetB w (lite l)) := by
  obtain ⟨h, f0⟩ := rs1 w l ao cap hs
  have HL := Lib.hid (rlight_any [l] 300 (by decide) (by decide) _ _ _ h)
  clear h hs
  unfold lite
  generalize decide (0 ≤ ligV [l] 300) = q at *
  go_enter Tryz.func7, Tryz.ntmps7
  go_wp2_with fail
  go_at_call 25; refine (HL.out).mono ?_; rintro e1 w1 ⟨rfl, f1⟩
  go_wp2
  go_ret
  exact ⟨rfl, f0.trans f1⟩
end Go.Proofs.YtenmideffecdnaaGreatDoor
