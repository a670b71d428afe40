/-
  For every three slices of int, the law NatRing of package nat returns true: addition and multiplication of valid numbers commute and distribute where they are defined, and subtraction inverts addition. The walk alone; in any world; nothing that was there turns. Condition: in the world at the call the listed variable reads as laid (Good).
-/
import Derived.Test.YtebmkbfbfmnbbaaDoorNatLawM
namespace Go.Proofs.YtebmkbfbfmnbbaaDoor
open Go.RowKit

set_option maxHeartbeats 6400000 in
set_option maxRecDepth 100000 in
theorem ring_walk (ao bo co : Option Addr) (a b c : List Int) (ca cb cc : Nat) (w : World) (ha : IsS w ao a ca) (hb : IsS w bo b cb) (hc : IsS w co c cc) (GD : Good w) :
    Calls Tryd.prog 6 #[.slice ao a.length ca, .slice bo b.length cb, .slice co c.length cc] w (RetB w true) := by
  have F := Fur.refl w
  have kva := fun (w : World) (ao : Option Addr) (ca : Nat) (h : IsS w ao a ca) => valid_any ao a ca w h
  have kvb := fun (w : World) (ao : Option Addr) (ca : Nat) (h : IsS w ao b ca) => valid_any ao b ca w h
  have kvc := fun (w : World) (ao : Option Addr) (ca : Nat) (h : IsS w ao c ca) => valid_any ao c ca w h
  cases va : okL a
  · rw [va] at kva
    have KVa := Lib.hid kva
    clear kva kvb kvc
    go_enter Tryd.func6, Tryd.ntmps6
    go_wp2_with fail
    go_at_call 24; refine (KVa.out _ _ _ ha).mono ?_; rintro e w9ha ⟨rfl, rfl⟩
    go_wp2_with fail
    go_at_call 11; refine (alive_any _ (GD.on F)).mono ?_; rintro e w1 ⟨rfl, g1⟩
    replace F := F.trans g1
    replace ha := ha.on g1
    replace hb := hb.on g1
    replace hc := hc.on g1
    clear g1
    go_wp2
    go_ret
    exact ⟨rfl, F⟩
  cases vb : okL b
  · rw [va] at kva
    have KVa := Lib.hid kva
    rw [vb] at kvb
    have KVb := Lib.hid kvb
    clear kva kvb kvc
    go_enter Tryd.func6, Tryd.ntmps6
    go_wp2_with fail
    go_at_call 24; refine (KVa.out _ _ _ ha).mono ?_; rintro e w9ha ⟨rfl, rfl⟩
    go_wp2_with fail
    go_at_call 24; refine (KVb.out _ _ _ hb).mono ?_; rintro e w9hb ⟨rfl, rfl⟩
    go_wp2_with fail
    go_at_call 11; refine (alive_any _ (GD.on F)).mono ?_; rintro e w1 ⟨rfl, g1⟩
    replace F := F.trans g1
    replace ha := ha.on g1
    replace hb := hb.on g1
    replace hc := hc.on g1
    clear g1
    go_wp2
    go_ret
    exact ⟨rfl, F⟩
  cases vc : okL c
  · rw [va] at kva
    have KVa := Lib.hid kva
    rw [vb] at kvb
    have KVb := Lib.hid kvb
    rw [vc] at kvc
    have KVc := Lib.hid kvc
    clear kva kvb kvc
    go_enter Tryd.func6, Tryd.ntmps6
    go_wp2_with fail
    go_at_call 24; refine (KVa.out _ _ _ ha).mono ?_; rintro e w9ha ⟨rfl, rfl⟩
    go_wp2_with fail
    go_at_call 24; refine (KVb.out _ _ _ hb).mono ?_; rintro e w9hb ⟨rfl, rfl⟩
    go_wp2_with fail
    go_at_call 24; refine (KVc.out _ _ _ hc).mono ?_; rintro e w9hc ⟨rfl, rfl⟩
    go_wp2_with fail
    go_at_call 11; refine (alive_any _ (GD.on F)).mono ?_; rintro e w1 ⟨rfl, g1⟩
    replace F := F.trans g1
    replace ha := ha.on g1
    replace hb := hb.on g1
    replace hc := hc.on g1
    clear g1
    go_wp2
    go_ret
    exact ⟨rfl, F⟩
  rw [va] at kva
  rw [vb] at kvb
  rw [vc] at kvc
  have KVa := Lib.hid kva
  have KVb := Lib.hid kvb
  have KVc := Lib.hid kvc
  clear kva kvb kvc
  have ea := lim_nv va
  have k1 := fun (w : World) (ao bo : Option Addr) (ca cb : Nat) (h1 : IsS w ao a ca) (h2 : IsS w bo b cb) => nat_add ao bo a b ca cb w h1 h2
  have k2 := fun (w : World) (ao bo : Option Addr) (ca cb : Nat) (h1 : IsS w ao b ca) (h2 : IsS w bo a cb) => nat_add ao bo b a ca cb w h1 h2
  simp only [Nat.add_comm (nv b) (nv a)] at k2
  have k3 := fun (w : World) (ao bo : Option Addr) (ca cb : Nat) (h1 : IsS w ao a ca) (h2 : IsS w bo b cb) => nat_mul ao bo a b ca cb w h1 h2
  have k4 := fun (w : World) (ao bo : Option Addr) (ca cb : Nat) (h1 : IsS w ao b ca) (h2 : IsS w bo a cb) => nat_mul ao bo b a ca cb w h1 h2
  simp only [Nat.mul_comm (nv b) (nv a)] at k4
  generalize hP : bdL (lim (nv a * nv b)) = P at k3 k4
  generalize hG : bdB (lim (nv a * nv b)) = G at k3 k4
  generalize hS : bdL (lim (nv a + nv b)) = S at k1 k2
  generalize hO : bdB (lim (nv a + nv b)) = O at k1 k2
  have k6 := fun (w : World) (ao bo : Option Addr) (ca cb : Nat) (h1 : IsS w ao S ca) (h2 : IsS w bo c cb) => nat_mul ao bo S c ca cb w h1 h2
  have k7 := fun (w : World) (ao bo : Option Addr) (ca cb : Nat) (h1 : IsS w ao a ca) (h2 : IsS w bo c cb) => nat_mul ao bo a c ca cb w h1 h2
  have k8 := fun (w : World) (ao bo : Option Addr) (ca cb : Nat) (h1 : IsS w ao b ca) (h2 : IsS w bo c cb) => nat_mul ao bo b c ca cb w h1 h2
  generalize hV : bdL (lim (nv a * nv c)) = V at k7
  generalize hV2 : bdB (lim (nv a * nv c)) = V2 at k7
  generalize hW : bdL (lim (nv b * nv c)) = Wl at k8
  generalize hW2 : bdB (lim (nv b * nv c)) = W2 at k8
  have k9 := fun (w : World) (ao bo : Option Addr) (ca cb : Nat) (h1 : IsS w ao V ca) (h2 : IsS w bo Wl cb) => nat_add ao bo V Wl ca cb w h1 h2
  have K1 := Lib.hid k1; have K2 := Lib.hid k2; have K3 := Lib.hid k3; have K4 := Lib.hid k4; have K7 := Lib.hid k7; have K8 := Lib.hid k8
  clear k1 k2 k3 k4 k7 k8
  have HO := Lib.hid hO; have HV2 := Lib.hid hV2; have HW2 := Lib.hid hW2
  clear hP hG hO hV2 hW2
  cases O
  · clear va vb vc
    clear hS hV hW ea
    generalize bdL (lim (nv S * nv c)) = U at k6
    generalize bdB (lim (nv S * nv c)) = U2 at k6
    generalize bdL (lim (nv V + nv Wl)) = X at k9
    generalize bdB (lim (nv V + nv Wl)) = X2 at k9
    have K6 := Lib.hid k6; have K9 := Lib.hid k9
    clear k6 k9
    go_enter Tryd.func6, Tryd.ntmps6
    go_wp2_with fail
    go_at_call 24; refine (KVa.out _ _ _ ha).mono ?_; rintro e w9ha ⟨rfl, rfl⟩
    go_wp2_with fail
    go_at_call 24; refine (KVb.out _ _ _ hb).mono ?_; rintro e w9hb ⟨rfl, rfl⟩
    go_wp2_with fail
    go_at_call 24; refine (KVc.out _ _ _ hc).mono ?_; rintro e w9hc ⟨rfl, rfl⟩
    go_wp2_with fail
    go_at_call 12; refine (K1.out _ _ _ _ _ ha hb).mono ?_; rintro e w1 ⟨p1, q1, rfl, hs, g1⟩
    replace F := F.trans g1
    replace ha := ha.on g1
    replace hb := hb.on g1
    replace hc := hc.on g1
    clear g1
    go_wp2_with fail
    go_at_call 12; refine (K2.out _ _ _ _ _ hb ha).mono ?_; rintro e w2 ⟨p2, q2, rfl, ht, g2⟩
    replace F := F.trans g2
    replace ha := ha.on g2
    replace hb := hb.on g2
    replace hc := hc.on g2
    replace hs := hs.on g2
    clear g2
    go_wp2_with fail
    go_at_call 14; refine (K3.out _ _ _ _ _ ha hb).mono ?_; rintro e w3 ⟨p3, q3, rfl, hp, g3⟩
    replace F := F.trans g3
    replace ha := ha.on g3
    replace hb := hb.on g3
    replace hc := hc.on g3
    replace hs := hs.on g3
    replace ht := ht.on g3
    clear g3
    go_wp2_with fail
    go_at_call 14; refine (K4.out _ _ _ _ _ hb ha).mono ?_; rintro e w4 ⟨p4, q4, rfl, hq, g4⟩
    replace F := F.trans g4
    replace ha := ha.on g4
    replace hb := hb.on g4
    replace hc := hc.on g4
    replace hs := hs.on g4
    replace ht := ht.on g4
    replace hp := hp.on g4
    clear g4
    go_wp2_with fail
    go_at_call 18; refine (same_refl _ _ _ _ _ _ hs ht).mono ?_; rintro e w5 ⟨rfl, g5⟩
    replace F := F.trans g5
    replace ha := ha.on g5
    replace hb := hb.on g5
    replace hc := hc.on g5
    replace hs := hs.on g5
    replace ht := ht.on g5
    replace hp := hp.on g5
    replace hq := hq.on g5
    clear g5
    clear ht
    go_wp2_with fail
    go_at_call 18; refine (same_refl _ _ _ _ _ _ hp hq).mono ?_; rintro e w6 ⟨rfl, g6⟩
    replace F := F.trans g6
    replace ha := ha.on g6
    replace hb := hb.on g6
    replace hc := hc.on g6
    replace hs := hs.on g6
    replace hp := hp.on g6
    replace hq := hq.on g6
    clear g6
    clear hp hq
    go_wp2_with fail
    go_at_call 14; refine (K6.out _ _ _ _ _ hs hc).mono ?_; rintro e w7 ⟨p7, q7, rfl, hu, g7⟩
    replace F := F.trans g7
    replace ha := ha.on g7
    replace hb := hb.on g7
    replace hc := hc.on g7
    replace hs := hs.on g7
    clear g7
    go_wp2_with fail
    go_at_call 14; refine (K7.out _ _ _ _ _ ha hc).mono ?_; rintro e w8 ⟨p8, q8, rfl, hv, g8⟩
    replace F := F.trans g8
    replace ha := ha.on g8
    replace hb := hb.on g8
    replace hc := hc.on g8
    replace hs := hs.on g8
    replace hu := hu.on g8
    clear g8
    go_wp2_with fail
    go_at_call 14; refine (K8.out _ _ _ _ _ hb hc).mono ?_; rintro e w9 ⟨p9, q9, rfl, hw, g9⟩
    replace F := F.trans g9
    replace ha := ha.on g9
    replace hb := hb.on g9
    replace hc := hc.on g9
    replace hs := hs.on g9
    replace hu := hu.on g9
    replace hv := hv.on g9
    clear g9
    go_wp2_with fail
    go_at_call 12; refine (K9.out _ _ _ _ _ hv hw).mono ?_; rintro e w10 ⟨p10, q10, rfl, hx, g10⟩
    replace F := F.trans g10
    replace ha := ha.on g10
    replace hb := hb.on g10
    replace hc := hc.on g10
    replace hs := hs.on g10
    replace hu := hu.on g10
    replace hv := hv.on g10
    replace hw := hw.on g10
    clear g10
    go_wp2_with fail
    go_at_call 11; refine (alive_any _ (GD.on F)).mono ?_; rintro e w11 ⟨rfl, g11⟩
    replace F := F.trans g11
    replace ha := ha.on g11
    replace hb := hb.on g11
    replace hc := hc.on g11
    replace hs := hs.on g11
    replace hu := hu.on g11
    replace hv := hv.on g11
    replace hw := hw.on g11
    replace hx := hx.on g11
    clear g11
    go_wp2
    go_ret
    exact ⟨rfl, F⟩
  have k5 := fun (w : World) (ao bo : Option Addr) (ca cb : Nat) (h1 : IsS w ao S ca) (h2 : IsS w bo b cb) => nat_sub ao bo S b ca cb w h1 h2
  have hnS : nv S = nv a + nv b := by rw [← hS]; exact nv_bd HO.out
  simp only [hnS, Nat.add_sub_cancel, ea] at k5
  have K5 := Lib.hid k5
  clear k5
  cases V2
  · have HN := Lib.hid hnS
    clear va vb vc hnS
    clear hS hV hW ea
    generalize bdL (lim (nv S * nv c)) = U at k6
    generalize bdB (lim (nv S * nv c)) = U2 at k6
    generalize bdL (lim (nv V + nv Wl)) = X at k9
    generalize bdB (lim (nv V + nv Wl)) = X2 at k9
    have K6 := Lib.hid k6; have K9 := Lib.hid k9
    clear k6 k9
    go_enter Tryd.func6, Tryd.ntmps6
    go_wp2_with fail
    go_at_call 24; refine (KVa.out _ _ _ ha).mono ?_; rintro e w9ha ⟨rfl, rfl⟩
    go_wp2_with fail
    go_at_call 24; refine (KVb.out _ _ _ hb).mono ?_; rintro e w9hb ⟨rfl, rfl⟩
    go_wp2_with fail
    go_at_call 24; refine (KVc.out _ _ _ hc).mono ?_; rintro e w9hc ⟨rfl, rfl⟩
    go_wp2_with fail
    go_at_call 12; refine (K1.out _ _ _ _ _ ha hb).mono ?_; rintro e w1 ⟨p1, q1, rfl, hs, g1⟩
    replace F := F.trans g1
    replace ha := ha.on g1
    replace hb := hb.on g1
    replace hc := hc.on g1
    clear g1
    go_wp2_with fail
    go_at_call 12; refine (K2.out _ _ _ _ _ hb ha).mono ?_; rintro e w2 ⟨p2, q2, rfl, ht, g2⟩
    replace F := F.trans g2
    replace ha := ha.on g2
    replace hb := hb.on g2
    replace hc := hc.on g2
    replace hs := hs.on g2
    clear g2
    go_wp2_with fail
    go_at_call 14; refine (K3.out _ _ _ _ _ ha hb).mono ?_; rintro e w3 ⟨p3, q3, rfl, hp, g3⟩
    replace F := F.trans g3
    replace ha := ha.on g3
    replace hb := hb.on g3
    replace hc := hc.on g3
    replace hs := hs.on g3
    replace ht := ht.on g3
    clear g3
    go_wp2_with fail
    go_at_call 14; refine (K4.out _ _ _ _ _ hb ha).mono ?_; rintro e w4 ⟨p4, q4, rfl, hq, g4⟩
    replace F := F.trans g4
    replace ha := ha.on g4
    replace hb := hb.on g4
    replace hc := hc.on g4
    replace hs := hs.on g4
    replace ht := ht.on g4
    replace hp := hp.on g4
    clear g4
    go_wp2_with fail
    go_at_call 18; refine (same_refl _ _ _ _ _ _ hs ht).mono ?_; rintro e w5 ⟨rfl, g5⟩
    replace F := F.trans g5
    replace ha := ha.on g5
    replace hb := hb.on g5
    replace hc := hc.on g5
    replace hs := hs.on g5
    replace ht := ht.on g5
    replace hp := hp.on g5
    replace hq := hq.on g5
    clear g5
    clear ht
    go_wp2_with fail
    go_at_call 18; refine (same_refl _ _ _ _ _ _ hp hq).mono ?_; rintro e w6 ⟨rfl, g6⟩
    replace F := F.trans g6
    replace ha := ha.on g6
    replace hb := hb.on g6
    replace hc := hc.on g6
    replace hs := hs.on g6
    replace hp := hp.on g6
    replace hq := hq.on g6
    clear g6
    clear hp hq
    go_wp2_with fail
    go_at_call 19; refine (K5.out _ _ _ _ _ hs hb).mono ?_; rintro e w7 ⟨p7, q7, rfl, hd, g7⟩
    replace F := F.trans g7
    replace ha := ha.on g7
    replace hb := hb.on g7
    replace hc := hc.on g7
    replace hs := hs.on g7
    clear g7
    go_wp2_with fail
    go_at_call 18; refine (same_refl _ _ _ _ _ _ hd ha).mono ?_; rintro e w8 ⟨rfl, g8⟩
    replace F := F.trans g8
    replace ha := ha.on g8
    replace hb := hb.on g8
    replace hc := hc.on g8
    replace hs := hs.on g8
    replace hd := hd.on g8
    clear g8
    clear hd
    go_wp2_with fail
    go_at_call 14; refine (K6.out _ _ _ _ _ hs hc).mono ?_; rintro e w9 ⟨p9, q9, rfl, hu, g9⟩
    replace F := F.trans g9
    replace ha := ha.on g9
    replace hb := hb.on g9
    replace hc := hc.on g9
    replace hs := hs.on g9
    clear g9
    go_wp2_with fail
    go_at_call 14; refine (K7.out _ _ _ _ _ ha hc).mono ?_; rintro e w10 ⟨p10, q10, rfl, hv, g10⟩
    replace F := F.trans g10
    replace ha := ha.on g10
    replace hb := hb.on g10
    replace hc := hc.on g10
    replace hs := hs.on g10
    replace hu := hu.on g10
    clear g10
    go_wp2_with fail
    go_at_call 14; refine (K8.out _ _ _ _ _ hb hc).mono ?_; rintro e w11 ⟨p11, q11, rfl, hw, g11⟩
    replace F := F.trans g11
    replace ha := ha.on g11
    replace hb := hb.on g11
    replace hc := hc.on g11
    replace hs := hs.on g11
    replace hu := hu.on g11
    replace hv := hv.on g11
    clear g11
    go_wp2_with fail
    go_at_call 12; refine (K9.out _ _ _ _ _ hv hw).mono ?_; rintro e w12 ⟨p12, q12, rfl, hx, g12⟩
    replace F := F.trans g12
    replace ha := ha.on g12
    replace hb := hb.on g12
    replace hc := hc.on g12
    replace hs := hs.on g12
    replace hu := hu.on g12
    replace hv := hv.on g12
    replace hw := hw.on g12
    clear g12
    go_wp2_with fail
    go_at_call 11; refine (alive_any _ (GD.on F)).mono ?_; rintro e w13 ⟨rfl, g13⟩
    replace F := F.trans g13
    replace ha := ha.on g13
    replace hb := hb.on g13
    replace hc := hc.on g13
    replace hs := hs.on g13
    replace hu := hu.on g13
    replace hv := hv.on g13
    replace hw := hw.on g13
    replace hx := hx.on g13
    clear g13
    go_wp2
    go_ret
    exact ⟨rfl, F⟩
  cases W2
  · have HN := Lib.hid hnS
    clear va vb vc hnS
    clear hS hV hW ea
    generalize bdL (lim (nv S * nv c)) = U at k6
    generalize bdB (lim (nv S * nv c)) = U2 at k6
    generalize bdL (lim (nv V + nv Wl)) = X at k9
    generalize bdB (lim (nv V + nv Wl)) = X2 at k9
    have K6 := Lib.hid k6; have K9 := Lib.hid k9
    clear k6 k9
    go_enter Tryd.func6, Tryd.ntmps6
    go_wp2_with fail
    go_at_call 24; refine (KVa.out _ _ _ ha).mono ?_; rintro e w9ha ⟨rfl, rfl⟩
    go_wp2_with fail
    go_at_call 24; refine (KVb.out _ _ _ hb).mono ?_; rintro e w9hb ⟨rfl, rfl⟩
    go_wp2_with fail
    go_at_call 24; refine (KVc.out _ _ _ hc).mono ?_; rintro e w9hc ⟨rfl, rfl⟩
    go_wp2_with fail
    go_at_call 12; refine (K1.out _ _ _ _ _ ha hb).mono ?_; rintro e w1 ⟨p1, q1, rfl, hs, g1⟩
    replace F := F.trans g1
    replace ha := ha.on g1
    replace hb := hb.on g1
    replace hc := hc.on g1
    clear g1
    go_wp2_with fail
    go_at_call 12; refine (K2.out _ _ _ _ _ hb ha).mono ?_; rintro e w2 ⟨p2, q2, rfl, ht, g2⟩
    replace F := F.trans g2
    replace ha := ha.on g2
    replace hb := hb.on g2
    replace hc := hc.on g2
    replace hs := hs.on g2
    clear g2
    go_wp2_with fail
    go_at_call 14; refine (K3.out _ _ _ _ _ ha hb).mono ?_; rintro e w3 ⟨p3, q3, rfl, hp, g3⟩
    replace F := F.trans g3
    replace ha := ha.on g3
    replace hb := hb.on g3
    replace hc := hc.on g3
    replace hs := hs.on g3
    replace ht := ht.on g3
    clear g3
    go_wp2_with fail
    go_at_call 14; refine (K4.out _ _ _ _ _ hb ha).mono ?_; rintro e w4 ⟨p4, q4, rfl, hq, g4⟩
    replace F := F.trans g4
    replace ha := ha.on g4
    replace hb := hb.on g4
    replace hc := hc.on g4
    replace hs := hs.on g4
    replace ht := ht.on g4
    replace hp := hp.on g4
    clear g4
    go_wp2_with fail
    go_at_call 18; refine (same_refl _ _ _ _ _ _ hs ht).mono ?_; rintro e w5 ⟨rfl, g5⟩
    replace F := F.trans g5
    replace ha := ha.on g5
    replace hb := hb.on g5
    replace hc := hc.on g5
    replace hs := hs.on g5
    replace ht := ht.on g5
    replace hp := hp.on g5
    replace hq := hq.on g5
    clear g5
    clear ht
    go_wp2_with fail
    go_at_call 18; refine (same_refl _ _ _ _ _ _ hp hq).mono ?_; rintro e w6 ⟨rfl, g6⟩
    replace F := F.trans g6
    replace ha := ha.on g6
    replace hb := hb.on g6
    replace hc := hc.on g6
    replace hs := hs.on g6
    replace hp := hp.on g6
    replace hq := hq.on g6
    clear g6
    clear hp hq
    go_wp2_with fail
    go_at_call 19; refine (K5.out _ _ _ _ _ hs hb).mono ?_; rintro e w7 ⟨p7, q7, rfl, hd, g7⟩
    replace F := F.trans g7
    replace ha := ha.on g7
    replace hb := hb.on g7
    replace hc := hc.on g7
    replace hs := hs.on g7
    clear g7
    go_wp2_with fail
    go_at_call 18; refine (same_refl _ _ _ _ _ _ hd ha).mono ?_; rintro e w8 ⟨rfl, g8⟩
    replace F := F.trans g8
    replace ha := ha.on g8
    replace hb := hb.on g8
    replace hc := hc.on g8
    replace hs := hs.on g8
    replace hd := hd.on g8
    clear g8
    clear hd
    go_wp2_with fail
    go_at_call 14; refine (K6.out _ _ _ _ _ hs hc).mono ?_; rintro e w9 ⟨p9, q9, rfl, hu, g9⟩
    replace F := F.trans g9
    replace ha := ha.on g9
    replace hb := hb.on g9
    replace hc := hc.on g9
    replace hs := hs.on g9
    clear g9
    go_wp2_with fail
    go_at_call 14; refine (K7.out _ _ _ _ _ ha hc).mono ?_; rintro e w10 ⟨p10, q10, rfl, hv, g10⟩
    replace F := F.trans g10
    replace ha := ha.on g10
    replace hb := hb.on g10
    replace hc := hc.on g10
    replace hs := hs.on g10
    replace hu := hu.on g10
    clear g10
    go_wp2_with fail
    go_at_call 14; refine (K8.out _ _ _ _ _ hb hc).mono ?_; rintro e w11 ⟨p11, q11, rfl, hw, g11⟩
    replace F := F.trans g11
    replace ha := ha.on g11
    replace hb := hb.on g11
    replace hc := hc.on g11
    replace hs := hs.on g11
    replace hu := hu.on g11
    replace hv := hv.on g11
    clear g11
    go_wp2_with fail
    go_at_call 12; refine (K9.out _ _ _ _ _ hv hw).mono ?_; rintro e w12 ⟨p12, q12, rfl, hx, g12⟩
    replace F := F.trans g12
    replace ha := ha.on g12
    replace hb := hb.on g12
    replace hc := hc.on g12
    replace hs := hs.on g12
    replace hu := hu.on g12
    replace hv := hv.on g12
    replace hw := hw.on g12
    clear g12
    go_wp2_with fail
    go_at_call 11; refine (alive_any _ (GD.on F)).mono ?_; rintro e w13 ⟨rfl, g13⟩
    replace F := F.trans g13
    replace ha := ha.on g13
    replace hb := hb.on g13
    replace hc := hc.on g13
    replace hs := hs.on g13
    replace hu := hu.on g13
    replace hv := hv.on g13
    replace hw := hw.on g13
    replace hx := hx.on g13
    clear g13
    go_wp2
    go_ret
    exact ⟨rfl, F⟩
  have hnV : nv V = nv a * nv c := by rw [← hV]; exact nv_bd HV2.out
  have hnW : nv Wl = nv b * nv c := by rw [← hW]; exact nv_bd HW2.out
  simp only [hnV, hnW, ← Nat.add_mul] at k9
  simp only [hnS] at k6
  clear va vb vc hnS hnV hnW hS hV hW ea
  generalize bdL (lim ((nv a + nv b) * nv c)) = U at k6 k9
  generalize bdB (lim ((nv a + nv b) * nv c)) = U2 at k6 k9
  have K6 := Lib.hid k6; have K9 := Lib.hid k9
  clear k6 k9
  cases U2
  · go_enter Tryd.func6, Tryd.ntmps6
    go_wp2_with fail
    go_at_call 24; refine (KVa.out _ _ _ ha).mono ?_; rintro e w9ha ⟨rfl, rfl⟩
    go_wp2_with fail
    go_at_call 24; refine (KVb.out _ _ _ hb).mono ?_; rintro e w9hb ⟨rfl, rfl⟩
    go_wp2_with fail
    go_at_call 24; refine (KVc.out _ _ _ hc).mono ?_; rintro e w9hc ⟨rfl, rfl⟩
    go_wp2_with fail
    go_at_call 12; refine (K1.out _ _ _ _ _ ha hb).mono ?_; rintro e w1 ⟨p1, q1, rfl, hs, g1⟩
    replace F := F.trans g1
    replace ha := ha.on g1
    replace hb := hb.on g1
    replace hc := hc.on g1
    clear g1
    go_wp2_with fail
    go_at_call 12; refine (K2.out _ _ _ _ _ hb ha).mono ?_; rintro e w2 ⟨p2, q2, rfl, ht, g2⟩
    replace F := F.trans g2
    replace ha := ha.on g2
    replace hb := hb.on g2
    replace hc := hc.on g2
    replace hs := hs.on g2
    clear g2
    go_wp2_with fail
    go_at_call 14; refine (K3.out _ _ _ _ _ ha hb).mono ?_; rintro e w3 ⟨p3, q3, rfl, hp, g3⟩
    replace F := F.trans g3
    replace ha := ha.on g3
    replace hb := hb.on g3
    replace hc := hc.on g3
    replace hs := hs.on g3
    replace ht := ht.on g3
    clear g3
    go_wp2_with fail
    go_at_call 14; refine (K4.out _ _ _ _ _ hb ha).mono ?_; rintro e w4 ⟨p4, q4, rfl, hq, g4⟩
    replace F := F.trans g4
    replace ha := ha.on g4
    replace hb := hb.on g4
    replace hc := hc.on g4
    replace hs := hs.on g4
    replace ht := ht.on g4
    replace hp := hp.on g4
    clear g4
    go_wp2_with fail
    go_at_call 18; refine (same_refl _ _ _ _ _ _ hs ht).mono ?_; rintro e w5 ⟨rfl, g5⟩
    replace F := F.trans g5
    replace ha := ha.on g5
    replace hb := hb.on g5
    replace hc := hc.on g5
    replace hs := hs.on g5
    replace ht := ht.on g5
    replace hp := hp.on g5
    replace hq := hq.on g5
    clear g5
    clear ht
    go_wp2_with fail
    go_at_call 18; refine (same_refl _ _ _ _ _ _ hp hq).mono ?_; rintro e w6 ⟨rfl, g6⟩
    replace F := F.trans g6
    replace ha := ha.on g6
    replace hb := hb.on g6
    replace hc := hc.on g6
    replace hs := hs.on g6
    replace hp := hp.on g6
    replace hq := hq.on g6
    clear g6
    clear hp hq
    go_wp2_with fail
    go_at_call 19; refine (K5.out _ _ _ _ _ hs hb).mono ?_; rintro e w7 ⟨p7, q7, rfl, hd, g7⟩
    replace F := F.trans g7
    replace ha := ha.on g7
    replace hb := hb.on g7
    replace hc := hc.on g7
    replace hs := hs.on g7
    clear g7
    go_wp2_with fail
    go_at_call 18; refine (same_refl _ _ _ _ _ _ hd ha).mono ?_; rintro e w8 ⟨rfl, g8⟩
    replace F := F.trans g8
    replace ha := ha.on g8
    replace hb := hb.on g8
    replace hc := hc.on g8
    replace hs := hs.on g8
    replace hd := hd.on g8
    clear g8
    clear hd
    go_wp2_with fail
    go_at_call 14; refine (K6.out _ _ _ _ _ hs hc).mono ?_; rintro e w9 ⟨p9, q9, rfl, hu, g9⟩
    replace F := F.trans g9
    replace ha := ha.on g9
    replace hb := hb.on g9
    replace hc := hc.on g9
    replace hs := hs.on g9
    clear g9
    go_wp2_with fail
    go_at_call 14; refine (K7.out _ _ _ _ _ ha hc).mono ?_; rintro e w10 ⟨p10, q10, rfl, hv, g10⟩
    replace F := F.trans g10
    replace ha := ha.on g10
    replace hb := hb.on g10
    replace hc := hc.on g10
    replace hs := hs.on g10
    replace hu := hu.on g10
    clear g10
    go_wp2_with fail
    go_at_call 14; refine (K8.out _ _ _ _ _ hb hc).mono ?_; rintro e w11 ⟨p11, q11, rfl, hw, g11⟩
    replace F := F.trans g11
    replace ha := ha.on g11
    replace hb := hb.on g11
    replace hc := hc.on g11
    replace hs := hs.on g11
    replace hu := hu.on g11
    replace hv := hv.on g11
    clear g11
    go_wp2_with fail
    go_at_call 12; refine (K9.out _ _ _ _ _ hv hw).mono ?_; rintro e w12 ⟨p12, q12, rfl, hx, g12⟩
    replace F := F.trans g12
    replace ha := ha.on g12
    replace hb := hb.on g12
    replace hc := hc.on g12
    replace hs := hs.on g12
    replace hu := hu.on g12
    replace hv := hv.on g12
    replace hw := hw.on g12
    clear g12
    go_wp2_with fail
    go_at_call 11; refine (alive_any _ (GD.on F)).mono ?_; rintro e w13 ⟨rfl, g13⟩
    replace F := F.trans g13
    replace ha := ha.on g13
    replace hb := hb.on g13
    replace hc := hc.on g13
    replace hs := hs.on g13
    replace hu := hu.on g13
    replace hv := hv.on g13
    replace hw := hw.on g13
    replace hx := hx.on g13
    clear g13
    go_wp2
    go_ret
    exact ⟨rfl, F⟩
  · go_enter Tryd.func6, Tryd.ntmps6
    go_wp2_with fail
    go_at_call 24; refine (KVa.out _ _ _ ha).mono ?_; rintro e w9ha ⟨rfl, rfl⟩
    go_wp2_with fail
    go_at_call 24; refine (KVb.out _ _ _ hb).mono ?_; rintro e w9hb ⟨rfl, rfl⟩
    go_wp2_with fail
    go_at_call 24; refine (KVc.out _ _ _ hc).mono ?_; rintro e w9hc ⟨rfl, rfl⟩
    go_wp2_with fail
    go_at_call 12; refine (K1.out _ _ _ _ _ ha hb).mono ?_; rintro e w1 ⟨p1, q1, rfl, hs, g1⟩
    replace F := F.trans g1
    replace ha := ha.on g1
    replace hb := hb.on g1
    replace hc := hc.on g1
    clear g1
    go_wp2_with fail
    go_at_call 12; refine (K2.out _ _ _ _ _ hb ha).mono ?_; rintro e w2 ⟨p2, q2, rfl, ht, g2⟩
    replace F := F.trans g2
    replace ha := ha.on g2
    replace hb := hb.on g2
    replace hc := hc.on g2
    replace hs := hs.on g2
    clear g2
    go_wp2_with fail
    go_at_call 14; refine (K3.out _ _ _ _ _ ha hb).mono ?_; rintro e w3 ⟨p3, q3, rfl, hp, g3⟩
    replace F := F.trans g3
    replace ha := ha.on g3
    replace hb := hb.on g3
    replace hc := hc.on g3
    replace hs := hs.on g3
    replace ht := ht.on g3
    clear g3
    go_wp2_with fail
    go_at_call 14; refine (K4.out _ _ _ _ _ hb ha).mono ?_; rintro e w4 ⟨p4, q4, rfl, hq, g4⟩
    replace F := F.trans g4
    replace ha := ha.on g4
    replace hb := hb.on g4
    replace hc := hc.on g4
    replace hs := hs.on g4
    replace ht := ht.on g4
    replace hp := hp.on g4
    clear g4
    go_wp2_with fail
    go_at_call 18; refine (same_refl _ _ _ _ _ _ hs ht).mono ?_; rintro e w5 ⟨rfl, g5⟩
    replace F := F.trans g5
    replace ha := ha.on g5
    replace hb := hb.on g5
    replace hc := hc.on g5
    replace hs := hs.on g5
    replace ht := ht.on g5
    replace hp := hp.on g5
    replace hq := hq.on g5
    clear g5
    clear ht
    go_wp2_with fail
    go_at_call 18; refine (same_refl _ _ _ _ _ _ hp hq).mono ?_; rintro e w6 ⟨rfl, g6⟩
    replace F := F.trans g6
    replace ha := ha.on g6
    replace hb := hb.on g6
    replace hc := hc.on g6
    replace hs := hs.on g6
    replace hp := hp.on g6
    replace hq := hq.on g6
    clear g6
    clear hp hq
    go_wp2_with fail
    go_at_call 19; refine (K5.out _ _ _ _ _ hs hb).mono ?_; rintro e w7 ⟨p7, q7, rfl, hd, g7⟩
    replace F := F.trans g7
    replace ha := ha.on g7
    replace hb := hb.on g7
    replace hc := hc.on g7
    replace hs := hs.on g7
    clear g7
    go_wp2_with fail
    go_at_call 18; refine (same_refl _ _ _ _ _ _ hd ha).mono ?_; rintro e w8 ⟨rfl, g8⟩
    replace F := F.trans g8
    replace ha := ha.on g8
    replace hb := hb.on g8
    replace hc := hc.on g8
    replace hs := hs.on g8
    replace hd := hd.on g8
    clear g8
    clear hd
    go_wp2_with fail
    go_at_call 14; refine (K6.out _ _ _ _ _ hs hc).mono ?_; rintro e w9 ⟨p9, q9, rfl, hu, g9⟩
    replace F := F.trans g9
    replace ha := ha.on g9
    replace hb := hb.on g9
    replace hc := hc.on g9
    replace hs := hs.on g9
    clear g9
    go_wp2_with fail
    go_at_call 14; refine (K7.out _ _ _ _ _ ha hc).mono ?_; rintro e w10 ⟨p10, q10, rfl, hv, g10⟩
    replace F := F.trans g10
    replace ha := ha.on g10
    replace hb := hb.on g10
    replace hc := hc.on g10
    replace hs := hs.on g10
    replace hu := hu.on g10
    clear g10
    go_wp2_with fail
    go_at_call 14; refine (K8.out _ _ _ _ _ hb hc).mono ?_; rintro e w11 ⟨p11, q11, rfl, hw, g11⟩
    replace F := F.trans g11
    replace ha := ha.on g11
    replace hb := hb.on g11
    replace hc := hc.on g11
    replace hs := hs.on g11
    replace hu := hu.on g11
    replace hv := hv.on g11
    clear g11
    go_wp2_with fail
    go_at_call 12; refine (K9.out _ _ _ _ _ hv hw).mono ?_; rintro e w12 ⟨p12, q12, rfl, hx, g12⟩
    replace F := F.trans g12
    replace ha := ha.on g12
    replace hb := hb.on g12
    replace hc := hc.on g12
    replace hs := hs.on g12
    replace hu := hu.on g12
    replace hv := hv.on g12
    replace hw := hw.on g12
    clear g12
    go_wp2_with fail
    go_at_call 18; refine (same_refl _ _ _ _ _ _ hu hx).mono ?_; rintro e w13 ⟨rfl, g13⟩
    replace F := F.trans g13
    replace ha := ha.on g13
    replace hb := hb.on g13
    replace hc := hc.on g13
    replace hs := hs.on g13
    replace hu := hu.on g13
    replace hv := hv.on g13
    replace hw := hw.on g13
    replace hx := hx.on g13
    clear g13
    go_wp2_with fail
    go_at_call 11; refine (alive_any _ (GD.on F)).mono ?_; rintro e w14 ⟨rfl, g14⟩
    replace F := F.trans g14
    replace ha := ha.on g14
    replace hb := hb.on g14
    replace hc := hc.on g14
    replace hs := hs.on g14
    replace hu := hu.on g14
    replace hv := hv.on g14
    replace hw := hw.on g14
    replace hx := hx.on g14
    clear g14
    go_wp2
    go_ret
    exact ⟨rfl, F⟩
end Go.Proofs.YtebmkbfbfmnbbaaDoor
