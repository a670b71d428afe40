/-
  The reference of package value: Order of every two values in memory, by induction. Nothing that was there turns.
-/
import Derived.Test.YtenmideffecdnaaGreatDoorRvO
namespace Go.Proofs.YtenmideffecdnaaGreatDoor
open Go.RowKit

theorem rorder_by (x : Vl) (hO : ∀ z, z ∈ x.ll → OP z) : OP x := fun y ao bo ca cb w hi hi' hs hs' => by
  cases hp : okX x <;> cases hq : okX y
  · rw [ordV_inv hp hq]; exact rorder_ff x y ao bo ca cb w hi hi' hs hs' hp hq hO
  · rw [ordV_ft hp hq]; exact rorder_ft x y ao bo ca cb w hi hi' hs hs' hp hq
  · rw [ordV_tf hp hq]; exact rorder_tf x y ao bo ca cb w hi hi' hs hs' hp hq
  · exact rorder_tt x y ao bo ca cb w hi hi' hs hs' hp hq hO
mutual
theorem rorder_all : ∀ x : Vl, OP x
  | .mk k n d s l => rorder_by (.mk k n d s l) (fun z hz => rorder_list l z hz)
theorem rorder_list : ∀ l : List Vl, ∀ z, z ∈ l → OP z
  | [], _, h => by cases h
  | x :: r, z, h => (List.mem_cons.1 h).elim (fun e => e ▸ rorder_all x) (fun e => rorder_list r z e)
end
end Go.Proofs.YtenmideffecdnaaGreatDoor
