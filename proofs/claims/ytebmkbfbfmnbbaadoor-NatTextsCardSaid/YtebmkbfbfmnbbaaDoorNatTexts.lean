/-
  For every slice of int, every int and every string, the law NatTexts of package nat returns true: Of, Text and Parse agree with the reference (at most 80 limbs and 700 bytes; longer ones are passed over by the law itself). The walk alone; in any world; nothing that was there turns. Condition: in the world at the call the listed variable reads as laid (Good).
-/
import Derived.Test.YtebmkbfbfmnbbaaDoorNatAlive
namespace Go.Proofs.YtebmkbfbfmnbbaaDoor
open Go.RowKit

set_option maxHeartbeats 3200000 in
set_option maxRecDepth 100000 in
theorem texts_walk (ao : Option Addr) (a : List Int) (ca : Nat) (k : Int) (h0 : -9223372036854775808 ≤ k) (h1 : k ≤ 9223372036854775807) (s : ByteArray) (hs : s.size ≤ maxLen) (w : World) (ha : IsS w ao a ca) (GD : Good w) :
    Calls Tryd.prog 5 #[.slice ao a.length ca, .int .i64 k, .string s] w (RetB w true) := by
  have F := Fur.refl w
  have hmax : a.length ≤ 9223372036854775807 := by have := ha.le; have := ha.max; unfold maxLen at this; omega
  have hmx2 : s.size ≤ 9223372036854775807 := by unfold maxLen at hs; omega
  by_cases hsh : a.length ≤ 80 ∧ s.size ≤ 700
  · obtain ⟨sa, sb⟩ := hsh
    have k1 := fun (w : World) => nat_parse s hs w
    have k2 := fun (w : World) => parse_any s hs w
    generalize parL s.data.toList = S1 at k1 k2
    generalize parB s.data.toList = B1 at k1 k2
    have A1 := Lib.hid k1
    have A2 := Lib.hid k2
    clear k1 k2
    have k1 := fun (w : World) (ao : Option Addr) (ca : Nat) (g : IsS w ao a ca) (gd : Good w) => nat_text ao a ca w g gd
    have k2 := fun (w : World) (ao : Option Addr) (ca : Nat) (g : IsS w ao a ca) => text_any ao a ca w g
    generalize natTxt (nv a) = X1 at k1 k2
    have T1 := Lib.hid k1
    have T2 := Lib.hid k2
    clear k1 k2
    have k1 := fun (w : World) => nat_of k h0 h1 w
    have k2 := fun (w : World) => of_any k h0 h1 w
    generalize lim k.toNat = S2 at k1 k2
    have O1 := Lib.hid k1
    have O2 := Lib.hid k2
    clear k1 k2
    go_enter Tryd.func5, Tryd.ntmps5
    go_wp2_with fail
    go_at_call 27; refine (A1.out _).mono ?_; rintro e w1 ⟨p1, q1, rfl, hs1, g1⟩
    replace F := F.trans g1
    replace ha := ha.on g1
    clear g1
    go_wp2_with fail
    go_at_call 28; refine (A2.out _).mono ?_; rintro e w2 ⟨p2, q2, rfl, ht1, g2⟩
    replace F := F.trans g2
    replace ha := ha.on g2
    replace hs1 := hs1.on g2
    clear g2
    go_wp2_with fail
    go_at_call 18; refine (same_refl _ _ _ _ _ _ hs1 ht1).mono ?_; rintro e w3 ⟨rfl, g3⟩
    replace F := F.trans g3
    replace ha := ha.on g3
    replace hs1 := hs1.on g3
    replace ht1 := ht1.on g3
    clear g3
    clear hs1 ht1
    go_wp2_with fail
    go_at_call 29; refine (T1.out _ _ _ ha (GD.on F)).mono ?_; rintro e w4 ⟨rfl, g4⟩
    replace F := F.trans g4
    replace ha := ha.on g4
    clear g4
    go_wp2_with fail
    go_at_call 30; refine (T2.out _ _ _ ha).mono ?_; rintro e w5 ⟨rfl, g5⟩
    replace F := F.trans g5
    replace ha := ha.on g5
    clear g5
    go_wp2_with fail
    go_at_call 31; refine (O1.out _).mono ?_; rintro e w6 ⟨p6, q6, rfl, hs1, g6⟩
    replace F := F.trans g6
    replace ha := ha.on g6
    clear g6
    go_wp2_with fail
    go_at_call 32; refine (O2.out _).mono ?_; rintro e w7 ⟨p7, q7, rfl, ht1, g7⟩
    replace F := F.trans g7
    replace ha := ha.on g7
    replace hs1 := hs1.on g7
    clear g7
    go_wp2_with fail
    go_at_call 18; refine (same_refl _ _ _ _ _ _ hs1 ht1).mono ?_; rintro e w8 ⟨rfl, g8⟩
    replace F := F.trans g8
    replace ha := ha.on g8
    replace hs1 := hs1.on g8
    replace ht1 := ht1.on g8
    clear g8
    clear hs1 ht1
    go_wp2_with fail
    go_at_call 11; refine (alive_any _ (GD.on F)).mono ?_; rintro e w9 ⟨rfl, g9⟩
    replace F := F.trans g9
    replace ha := ha.on g9
    clear g9
    go_wp2
    go_ret
    exact ⟨rfl, F⟩
  · have hor : 80 < a.length ∨ (a.length ≤ 80 ∧ 700 < s.size) := by omega
    clear hsh
    rcases hor with g | ⟨g, g2⟩
    · go_enter Tryd.func5, Tryd.ntmps5
      go_wp2_with fail
      go_at_call 11; refine (alive_any _ (GD.on F)).mono ?_; rintro e w1 ⟨rfl, g1⟩
      replace F := F.trans g1
      replace ha := ha.on g1
      clear g1
      go_wp2
      go_ret
      exact ⟨rfl, F⟩
    · go_enter Tryd.func5, Tryd.ntmps5
      go_wp2_with fail
      go_at_call 11; refine (alive_any _ (GD.on F)).mono ?_; rintro e w1 ⟨rfl, g1⟩
      replace F := F.trans g1
      replace ha := ha.on g1
      clear g1
      go_wp2
      go_ret
      exact ⟨rfl, F⟩
end Go.Proofs.YtebmkbfbfmnbbaaDoor
