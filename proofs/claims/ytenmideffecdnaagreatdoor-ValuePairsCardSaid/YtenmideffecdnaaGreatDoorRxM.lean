/-
  Weak frames for the reference's contracts: nothing that was there turns (the count of draws is left open). No program is walked here.
-/
import Derived.Test.YtenmideffecdnaaGreatDoorLvO
import Derived.Test.YtenmideffecdnaaGreatDoorGe
namespace Go.Proofs.YtenmideffecdnaaGreatDoor
open Go.RowKit

/-- A wide number. -/
def RwW (w : World) (n : Nat) (e : Ending) (w' : World) : Prop := ∃ zs ao cap, Wide zs n ∧ e = .returned (.slice ao 14 cap) ∧ IsS w' ao zs cap ∧ Fuw w w'
theorem IsS.onw {w w' : World} {ao : Option Addr} {zs : List Int} {cap : Nat} (h : IsS w ao zs cap) (hf : Fuw w w') : IsS w' ao zs cap :=
  ⟨h.le, h.max, h.nil, fun hp => by
    obtain ⟨b, off, e, hb, hc⟩ := h.at_ hp
    exact ⟨b, off, e, Nat.lt_of_lt_of_le hb hf.size, fun j hj => (Below.cell hf (p := ⟨b, off + j, none⟩) hb).trans (hc j hj)⟩⟩
theorem Box.onw {W W' : World} {B : Nat} {n d : Int} (h : Box W B n d) (hf : Fuw W W') : Box W' B n d := by
  have k := h.lt
  unfold Box at *
  rw [Below.block hf B k]; exact h
theorem fuw_set {w w1 : World} {g j : Nat} {u : Value} (hf : Fuw w w1) (hg : w.heap.size ≤ g) : Fuw w (w1.setCell ⟨g, j, none⟩ u) := Below.setCell hf hg u
theorem fuw_drewN (w : World) (n : Nat) : Fuw w (w.drewN n) := (fur_drewN w n).b
theorem fuw_put {w W : World} {B : Nat} (hf : Fuw w W) (hB : w.heap.size ≤ B) (u v : Value) : Fuw w ((W.setCell ⟨B, 0, none⟩ u).setCell ⟨B, 1, none⟩ v) := fuw_set (fuw_set hf hB) hB
theorem bx1w (w : World) (x : Vl) (ao : Option Addr) (cap : Nat) :
    Bx (w.alloc (.cells #[.int .i64 x.kd, .int .i64 x.nn, .int .i64 x.dd, .string (bs x.ss), .slice ao x.ll.length cap] 24)) w.heap.size x ao cap ∧ Fuw w (w.alloc (.cells #[.int .i64 x.kd, .int .i64 x.nn, .int .i64 x.dd, .string (bs x.ss), .slice ao x.ll.length cap] 24)) :=
  ⟨(bx1 w x ao cap).1, (bx1 w x ao cap).2.b⟩
end Go.Proofs.YtenmideffecdnaaGreatDoor
