/-
  For every slice of int and every int, the law NatPows of package nat returns true: Pow agrees with the reference (at most 80 limbs; longer ones are passed over by the law itself). The walk alone; in any world; nothing that was there turns. Condition: in the world at the call the listed variable reads as laid (Good).
-/
import Derived.Test.YtebmkbfbfmnbbaaDoorNatAlive
namespace Go.Proofs.YtebmkbfbfmnbbaaDoor
open Go.RowKit

set_option maxHeartbeats 1600000 in
set_option maxRecDepth 100000 in
theorem pows_walk (ao : Option Addr) (a : List Int) (ca : Nat) (k : Int) (h0 : -9223372036854775808 ≤ k) (h1 : k ≤ 9223372036854775807) (w : World) (ha : IsS w ao a ca) (GD : Good w) :
    Calls Tryd.prog 4 #[.slice ao a.length ca, .int .i64 k] w (RetB w true) := by
  have F := Fur.refl w
  have hmax : a.length ≤ 9223372036854775807 := by have := ha.le; have := ha.max; unfold maxLen at this; omega
  by_cases hsh : a.length ≤ 80
  · skip
    have k1 := fun (w : World) (ao : Option Addr) (ca : Nat) (g : IsS w ao a ca) => nat_pow ao a ca k h0 h1 w g
    have k2 := fun (w : World) (ao : Option Addr) (ca : Nat) (g : IsS w ao a ca) => pow_any ao a ca k h0 h1 w g
    generalize powL (nv a) k = S1 at k1 k2
    generalize powB (nv a) k = B1 at k1 k2
    have A1 := Lib.hid k1
    have A2 := Lib.hid k2
    clear k1 k2
    go_enter Tryd.func4, Tryd.ntmps4
    go_wp2_with fail
    go_at_call 25; refine (A1.out _ _ _ ha).mono ?_; rintro e w1 ⟨p1, q1, rfl, hs, g1⟩
    replace F := F.trans g1
    replace ha := ha.on g1
    clear g1
    go_wp2_with fail
    go_at_call 26; refine (A2.out _ _ _ ha).mono ?_; rintro e w2 ⟨p2, q2, rfl, ht, g2⟩
    replace F := F.trans g2
    replace ha := ha.on g2
    replace hs := hs.on g2
    clear g2
    go_wp2_with fail
    go_at_call 18; refine (same_refl _ _ _ _ _ _ hs ht).mono ?_; rintro e w3 ⟨rfl, g3⟩
    replace F := F.trans g3
    replace ha := ha.on g3
    replace hs := hs.on g3
    replace ht := ht.on g3
    clear g3
    clear hs ht
    go_wp2_with fail
    go_at_call 11; refine (alive_any _ (GD.on F)).mono ?_; rintro e w4 ⟨rfl, g4⟩
    replace F := F.trans g4
    replace ha := ha.on g4
    clear g4
    go_wp2
    go_ret
    exact ⟨rfl, F⟩
  · have hsh' : 80 < a.length := by omega
    clear hsh
    go_enter Tryd.func4, Tryd.ntmps4
    go_wp2_with fail
    go_at_call 11; refine (alive_any _ (GD.on F)).mono ?_; rintro e w1 ⟨rfl, g1⟩
    replace F := F.trans g1
    replace ha := ha.on g1
    clear g1
    go_wp2
    go_ret
    exact ⟨rfl, F⟩
end Go.Proofs.YtebmkbfbfmnbbaaDoor
