/-
  For every two slices of int, the law NatTells of package nat returns true: Valid, Small, Add, Sub, Mul and Cmp agree with the reference (at most 80 limbs; longer ones are passed over by the law itself). The walk alone; in any world; nothing that was there turns. Condition: in the world at the call the listed variable reads as laid (Good).
-/
import Derived.Test.YtebmkbfbfmnbbaaDoorNatAlive
namespace Go.Proofs.YtebmkbfbfmnbbaaDoor
open Go.RowKit

theorem short_t (ao bo : Option Addr) (a b : List Int) (ca cb : Nat) (w : World) (ha : a.length ≤ 80) (hb : b.length ≤ 80) :
    Calls Tryd.prog 10 #[.slice ao a.length ca, .slice bo b.length cb] w fun e w' => e = .returned (.bool true) ∧ w = w' := by
  go_enter Tryd.func10, Tryd.ntmps10
  go_wp2
  go_ret
  exact ⟨ret_bool (decide_eq_true (by omega)), rfl⟩
theorem short_f (ao bo : Option Addr) (a b : List Int) (ca cb : Nat) (w : World) (ha : a.length ≤ maxLen) (hb : b.length ≤ maxLen) (h : ¬ (a.length ≤ 80 ∧ b.length ≤ 80)) :
    Calls Tryd.prog 10 #[.slice ao a.length ca, .slice bo b.length cb] w fun e w' => e = .returned (.bool false) ∧ w = w' := by
  unfold maxLen at ha hb
  by_cases h1 : a.length ≤ 80
  · have h2 : 80 < b.length := by omega
    clear h
    go_enter Tryd.func10, Tryd.ntmps10
    go_wp2
    go_ret
    exact ⟨ret_bool (decide_eq_false (by omega)), rfl⟩
  · have h2 : 80 < a.length := by omega
    clear h h1
    go_enter Tryd.func10, Tryd.ntmps10
    go_wp2
    go_ret
    exact ⟨rfl, rfl⟩

set_option maxHeartbeats 3200000 in
set_option maxRecDepth 100000 in
theorem tells_walk (ao bo : Option Addr) (a b : List Int) (ca cb : Nat) (w : World) (ha : IsS w ao a ca) (hb : IsS w bo b cb) (GD : Good w) :
    Calls Tryd.prog 3 #[.slice ao a.length ca, .slice bo b.length cb] w (RetB w true) := by
  have F := Fur.refl w
  by_cases hsh : a.length ≤ 80 ∧ b.length ≤ 80
  · obtain ⟨sa, sb⟩ := hsh
    have k1 := fun (w : World) (ao bo : Option Addr) (ca cb : Nat) (h1 : IsS w ao a ca) (h2 : IsS w bo b cb) => nat_add ao bo a b ca cb w h1 h2
    have k2 := fun (w : World) (ao bo : Option Addr) (ca cb : Nat) (h1 : IsS w ao a ca) (h2 : IsS w bo b cb) => add_any ao bo a b ca cb w h1 h2
    generalize bdL (lim (nv a + nv b)) = S1 at k1 k2
    generalize bdB (lim (nv a + nv b)) = B1 at k1 k2
    have A1 := Lib.hid k1
    have A2 := Lib.hid k2
    clear k1 k2
    have k1 := fun (w : World) (ao bo : Option Addr) (ca cb : Nat) (h1 : IsS w ao a ca) (h2 : IsS w bo b cb) => nat_mul ao bo a b ca cb w h1 h2
    have k2 := fun (w : World) (ao bo : Option Addr) (ca cb : Nat) (h1 : IsS w ao a ca) (h2 : IsS w bo b cb) => mul_any ao bo a b ca cb w h1 h2
    generalize bdL (lim (nv a * nv b)) = S2 at k1 k2
    generalize bdB (lim (nv a * nv b)) = B2 at k1 k2
    have M1 := Lib.hid k1
    have M2 := Lib.hid k2
    clear k1 k2
    have k1 := fun (w : World) (ao : Option Addr) (ca : Nat) (h1 : IsS w ao a ca) => nat_small ao a ca w h1
    have k2 := fun (w : World) (ao : Option Addr) (ca : Nat) (h1 : IsS w ao a ca) => small_any ao a ca w h1
    generalize smallV (nv a) = V1 at k1 k2
    generalize smallB (nv a) = B3 at k1 k2
    have D1 := Lib.hid k1
    have D2 := Lib.hid k2
    clear k1 k2
    have k1 := fun (w : World) (ao bo : Option Addr) (ca cb : Nat) (h1 : IsS w ao a ca) (h2 : IsS w bo b cb) => nat_sub ao bo a b ca cb w h1 h2
    have k2 := fun (w : World) (ao bo : Option Addr) (ca cb : Nat) (h1 : IsS w ao a ca) (h2 : IsS w bo b cb) => sub_any ao bo a b ca cb w h1 h2
    generalize lim (nv a - nv b) = S3 at k1 k2
    have U1 := Lib.hid k1
    have U2 := Lib.hid k2
    clear k1 k2
    have k1 := fun (w : World) (ao bo : Option Addr) (ca cb : Nat) (h1 : IsS w ao a ca) (h2 : IsS w bo b cb) => nat_cmp ao bo a b ca cb w h1 h2
    have k2 := fun (w : World) (ao bo : Option Addr) (ca cb : Nat) (h1 : IsS w ao a ca) (h2 : IsS w bo b cb) => cmp_any ao bo a b ca cb w h1 h2
    generalize cmpV (nv a) (nv b) = V2 at k1 k2
    have C1 := Lib.hid k1
    have C2 := Lib.hid k2
    clear k1 k2
    have k1 := fun (w : World) (ao : Option Addr) (ca : Nat) (h1 : IsS w ao a ca) => nat_valid ao a ca w h1
    have k2 := fun (w : World) (ao : Option Addr) (ca : Nat) (h1 : IsS w ao a ca) => valid_any ao a ca w h1
    generalize okL a = B4 at k1 k2
    have O1 := Lib.hid k1
    have O2 := Lib.hid k2
    clear k1 k2
    go_enter Tryd.func3, Tryd.ntmps3
    go_wp2_with fail
    go_at_call 10; refine (short_t _ _ _ _ _ _ _ sa sb).mono ?_; rintro e w0 ⟨rfl, rfl⟩
    go_wp2_with fail
    go_at_call 12; refine (A1.out _ _ _ _ _ ha hb).mono ?_; rintro e w1 ⟨p1, q1, rfl, hs, g1⟩
    replace F := F.trans g1
    replace ha := ha.on g1
    replace hb := hb.on g1
    clear g1
    go_wp2_with fail
    go_at_call 13; refine (A2.out _ _ _ _ _ ha hb).mono ?_; rintro e w2 ⟨p2, q2, rfl, ht, g2⟩
    replace F := F.trans g2
    replace ha := ha.on g2
    replace hb := hb.on g2
    replace hs := hs.on g2
    clear g2
    go_wp2_with fail
    go_at_call 14; refine (M1.out _ _ _ _ _ ha hb).mono ?_; rintro e w3 ⟨p3, q3, rfl, hp, g3⟩
    replace F := F.trans g3
    replace ha := ha.on g3
    replace hb := hb.on g3
    replace hs := hs.on g3
    replace ht := ht.on g3
    clear g3
    go_wp2_with fail
    go_at_call 15; refine (M2.out _ _ _ _ _ ha hb).mono ?_; rintro e w4 ⟨p4, q4, rfl, hq, g4⟩
    replace F := F.trans g4
    replace ha := ha.on g4
    replace hb := hb.on g4
    replace hs := hs.on g4
    replace ht := ht.on g4
    replace hp := hp.on g4
    clear g4
    go_wp2_with fail
    go_at_call 16; refine (D1.out _ _ _ ha).mono ?_; rintro e w5 ⟨rfl, g5⟩
    replace F := F.trans g5
    replace ha := ha.on g5
    replace hb := hb.on g5
    replace hs := hs.on g5
    replace ht := ht.on g5
    replace hp := hp.on g5
    replace hq := hq.on g5
    clear g5
    go_wp2_with fail
    go_at_call 17; refine (D2.out _ _ _ ha).mono ?_; rintro e w6 ⟨rfl, g6⟩
    replace F := F.trans g6
    replace ha := ha.on g6
    replace hb := hb.on g6
    replace hs := hs.on g6
    replace ht := ht.on g6
    replace hp := hp.on g6
    replace hq := hq.on g6
    clear g6
    go_wp2_with fail
    go_at_call 18; refine (same_refl _ _ _ _ _ _ hs ht).mono ?_; rintro e w7 ⟨rfl, g7⟩
    replace F := F.trans g7
    replace ha := ha.on g7
    replace hb := hb.on g7
    replace hs := hs.on g7
    replace ht := ht.on g7
    replace hp := hp.on g7
    replace hq := hq.on g7
    clear g7
    clear hs ht
    go_wp2_with fail
    go_at_call 18; refine (same_refl _ _ _ _ _ _ hp hq).mono ?_; rintro e w8 ⟨rfl, g8⟩
    replace F := F.trans g8
    replace ha := ha.on g8
    replace hb := hb.on g8
    replace hp := hp.on g8
    replace hq := hq.on g8
    clear g8
    clear hp hq
    go_wp2_with fail
    go_at_call 19; refine (U1.out _ _ _ _ _ ha hb).mono ?_; rintro e w9 ⟨p9, q9, rfl, hs, g9⟩
    replace F := F.trans g9
    replace ha := ha.on g9
    replace hb := hb.on g9
    clear g9
    go_wp2_with fail
    go_at_call 20; refine (U2.out _ _ _ _ _ ha hb).mono ?_; rintro e w10 ⟨p10, q10, rfl, ht, g10⟩
    replace F := F.trans g10
    replace ha := ha.on g10
    replace hb := hb.on g10
    replace hs := hs.on g10
    clear g10
    go_wp2_with fail
    go_at_call 18; refine (same_refl _ _ _ _ _ _ hs ht).mono ?_; rintro e w11 ⟨rfl, g11⟩
    replace F := F.trans g11
    replace ha := ha.on g11
    replace hb := hb.on g11
    replace hs := hs.on g11
    replace ht := ht.on g11
    clear g11
    clear hs ht
    go_wp2_with fail
    go_at_call 21; refine (C1.out _ _ _ _ _ ha hb).mono ?_; rintro e w12 ⟨rfl, g12⟩
    replace F := F.trans g12
    replace ha := ha.on g12
    replace hb := hb.on g12
    clear g12
    go_wp2_with fail
    go_at_call 22; refine (C2.out _ _ _ _ _ ha hb).mono ?_; rintro e w13 ⟨rfl, g13⟩
    replace F := F.trans g13
    replace ha := ha.on g13
    replace hb := hb.on g13
    clear g13
    go_wp2_with fail
    go_at_call 23; refine (O1.out _ _ _ ha).mono ?_; rintro e w14 ⟨rfl, g14⟩
    replace F := F.trans g14
    replace ha := ha.on g14
    replace hb := hb.on g14
    clear g14
    go_wp2_with fail
    go_at_call 24; refine (O2.out _ _ _ ha).mono ?_; rintro e w99 ⟨rfl, rfl⟩
    go_wp2_with fail
    go_at_call 11; refine (alive_any _ (GD.on F)).mono ?_; rintro e w15 ⟨rfl, g15⟩
    replace F := F.trans g15
    replace ha := ha.on g15
    replace hb := hb.on g15
    clear g15
    go_wp2
    go_ret
    exact ⟨rfl, F⟩
  · go_enter Tryd.func3, Tryd.ntmps3
    go_wp2_with fail
    go_at_call 10; refine (short_f _ _ _ _ _ _ _ (Nat.le_trans ha.le ha.max) (Nat.le_trans hb.le hb.max) hsh).mono ?_; rintro e w0 ⟨rfl, rfl⟩
    go_wp2_with fail
    go_at_call 11; refine (alive_any _ (GD.on F)).mono ?_; rintro e w1 ⟨rfl, g1⟩
    replace F := F.trans g1
    replace ha := ha.on g1
    replace hb := hb.on g1
    clear g1
    go_wp2
    go_ret
    exact ⟨rfl, F⟩
end Go.Proofs.YtebmkbfbfmnbbaaDoor
