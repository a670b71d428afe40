/-
  For every three slices of int, the law NatOrders of package nat returns true: Cmp is a total order of valid numbers that agrees with subtraction and addition. The walk alone; in any world; nothing that was there turns. Condition: in the world at the call the listed variable reads as laid (Good).
-/
import Derived.Test.YtebmkbfbfmnbbaaDoorNatLawM
namespace Go.Proofs.YtebmkbfbfmnbbaaDoor
open Go.RowKit

theorem cmpV_add (a b c : Nat) : cmpV (a + c) (b + c) = cmpV a b := by
  rcases Nat.lt_trichotomy a b with h | h | h
  · rw [cmpV_lt h, cmpV_lt (by omega)]
  · rw [cmpV_eq h, cmpV_eq (by omega)]
  · rw [cmpV_gt h, cmpV_gt (by omega)]
theorem cmpV_le {a b : Nat} (h : a ≤ b) : cmpV a b ≤ 0 := by
  rcases Nat.lt_or_eq_of_le h with g | g
  · rw [cmpV_lt g]; decide
  · rw [cmpV_eq g]; exact Int.le_refl _

set_option maxHeartbeats 12800000 in
set_option maxRecDepth 100000 in
theorem orders_walk (ao bo co : Option Addr) (a b c : List Int) (ca cb cc : Nat) (w : World) (ha : IsS w ao a ca) (hb : IsS w bo b cb) (hc : IsS w co c cc) (GD : Good w) :
    Calls Tryd.prog 7 #[.slice ao a.length ca, .slice bo b.length cb, .slice co c.length cc] w (RetB w true) := by
  have F := Fur.refl w
  have kva := fun (w : World) (ao : Option Addr) (ca : Nat) (h : IsS w ao a ca) => valid_any ao a ca w h
  have kvb := fun (w : World) (ao : Option Addr) (ca : Nat) (h : IsS w ao b ca) => valid_any ao b ca w h
  have kvc := fun (w : World) (ao : Option Addr) (ca : Nat) (h : IsS w ao c ca) => valid_any ao c ca w h
  cases va : okL a
  · rw [va] at kva
    have KVa := Lib.hid kva
    clear kva kvb kvc
    go_enter Tryd.func7, Tryd.ntmps7
    go_wp2_with fail
    go_at_call 24; refine (KVa.out _ _ _ ha).mono ?_; rintro e w9ha ⟨rfl, rfl⟩
    go_wp2_with fail
    go_at_call 11; refine (alive_any _ (GD.on F)).mono ?_; rintro e w1 ⟨rfl, g1⟩
    replace F := F.trans g1
    replace ha := ha.on g1
    replace hb := hb.on g1
    replace hc := hc.on g1
    clear g1
    go_wp2
    go_ret
    exact ⟨rfl, F⟩
  cases vb : okL b
  · rw [va] at kva
    have KVa := Lib.hid kva
    rw [vb] at kvb
    have KVb := Lib.hid kvb
    clear kva kvb kvc
    go_enter Tryd.func7, Tryd.ntmps7
    go_wp2_with fail
    go_at_call 24; refine (KVa.out _ _ _ ha).mono ?_; rintro e w9ha ⟨rfl, rfl⟩
    go_wp2_with fail
    go_at_call 24; refine (KVb.out _ _ _ hb).mono ?_; rintro e w9hb ⟨rfl, rfl⟩
    go_wp2_with fail
    go_at_call 11; refine (alive_any _ (GD.on F)).mono ?_; rintro e w1 ⟨rfl, g1⟩
    replace F := F.trans g1
    replace ha := ha.on g1
    replace hb := hb.on g1
    replace hc := hc.on g1
    clear g1
    go_wp2
    go_ret
    exact ⟨rfl, F⟩
  cases vc : okL c
  · rw [va] at kva
    have KVa := Lib.hid kva
    rw [vb] at kvb
    have KVb := Lib.hid kvb
    rw [vc] at kvc
    have KVc := Lib.hid kvc
    clear kva kvb kvc
    go_enter Tryd.func7, Tryd.ntmps7
    go_wp2_with fail
    go_at_call 24; refine (KVa.out _ _ _ ha).mono ?_; rintro e w9ha ⟨rfl, rfl⟩
    go_wp2_with fail
    go_at_call 24; refine (KVb.out _ _ _ hb).mono ?_; rintro e w9hb ⟨rfl, rfl⟩
    go_wp2_with fail
    go_at_call 24; refine (KVc.out _ _ _ hc).mono ?_; rintro e w9hc ⟨rfl, rfl⟩
    go_wp2_with fail
    go_at_call 11; refine (alive_any _ (GD.on F)).mono ?_; rintro e w1 ⟨rfl, g1⟩
    replace F := F.trans g1
    replace ha := ha.on g1
    replace hb := hb.on g1
    replace hc := hc.on g1
    clear g1
    go_wp2
    go_ret
    exact ⟨rfl, F⟩
  rw [va] at kva
  rw [vb] at kvb
  rw [vc] at kvc
  have KVa := Lib.hid kva
  have KVb := Lib.hid kvb
  have KVc := Lib.hid kvc
  clear kva kvb kvc
  have hinj := nv_inj va vb
  have k1 := fun (w : World) (ao bo : Option Addr) (ca cb : Nat) (h1 : IsS w ao a ca) (h2 : IsS w bo b cb) => nat_cmp ao bo a b ca cb w h1 h2
  have k2 := fun (w : World) (ao bo : Option Addr) (ca cb : Nat) (h1 : IsS w ao b ca) (h2 : IsS w bo a cb) => nat_cmp ao bo b a ca cb w h1 h2
  have ks := fun (w : World) (ao bo : Option Addr) (ca cb : Nat) (h1 : IsS w ao a ca) (h2 : IsS w bo b cb) => same_any ao bo a b ca cb w h1 h2
  have k3 := fun (w : World) (ao bo : Option Addr) (ca cb : Nat) (h1 : IsS w ao b ca) (h2 : IsS w bo a cb) => nat_sub ao bo b a ca cb w h1 h2
  have k4 := fun (w : World) (ao bo : Option Addr) (ca cb : Nat) (h1 : IsS w ao b ca) (h2 : IsS w bo c cb) => nat_cmp ao bo b c ca cb w h1 h2
  have k5 := fun (w : World) (ao bo : Option Addr) (ca cb : Nat) (h1 : IsS w ao a ca) (h2 : IsS w bo c cb) => nat_cmp ao bo a c ca cb w h1 h2
  have k6 := fun (w : World) (ao bo : Option Addr) (ca cb : Nat) (h1 : IsS w ao a ca) (h2 : IsS w bo c cb) => nat_add ao bo a c ca cb w h1 h2
  have k7 := fun (w : World) (ao bo : Option Addr) (ca cb : Nat) (h1 : IsS w ao b ca) (h2 : IsS w bo c cb) => nat_add ao bo b c ca cb w h1 h2
  generalize hX : bdL (lim (nv a + nv c)) = X at k6
  generalize hO : bdB (lim (nv a + nv c)) = O1 at k6
  generalize hY : bdL (lim (nv b + nv c)) = Y at k7
  generalize hO2 : bdB (lim (nv b + nv c)) = O2 at k7
  have k8 := fun (w : World) (ao bo : Option Addr) (ca cb : Nat) (h1 : IsS w ao X ca) (h2 : IsS w bo Y cb) => nat_cmp ao bo X Y ca cb w h1 h2
  have hk8 : O1 = true → O2 = true → cmpV (nv X) (nv Y) = cmpV (nv a) (nv b) := fun e1 e2 => by
    rw [← hX, ← hY, nv_bd (by rw [hO, e1]), nv_bd (by rw [hO2, e2]), cmpV_add]
  have K6 := Lib.hid k6; have K7 := Lib.hid k7
  clear k6 k7 hX hO hY hO2 va vb vc
  rcases Nat.lt_trichotomy (nv a) (nv b) with h | h | h
  · have hs : decide (a = b) = false := decide_eq_false (fun e => by have := hinj.2 e; omega)
    simp only [cmpV_lt h] at k1
    simp only [cmpV_gt h] at k2
    simp only [hs] at ks
    have hk9 : cmpV (nv a) (nv b) = -1 := cmpV_lt h
    have hD : 0 < (lim (nv b - nv a)).length := lim_pos.2 (by omega)
    have hD2 : (lim (nv b - nv a)).length ≤ 64 := (len_lim _ 64).2 (by have := nv_lt b; omega)
    generalize lim (nv b - nv a) = D at k3 hD hD2
    have K1 := Lib.hid k1; have K2 := Lib.hid k2; have KS := Lib.hid ks; have K3 := Lib.hid k3
    clear k1 k2 ks k3 hinj
    clear hs
    by_cases hbc : nv b ≤ nv c
    · have q1 := cmpV_le hbc
      have q2 := cmpV_le (show nv a ≤ nv c by omega)
      clear hbc h
      generalize cmpV (nv b) (nv c) = Q1 at k4 q1
      generalize cmpV (nv a) (nv c) = Q2 at k5 q2
      have K4 := Lib.hid k4; have K5 := Lib.hid k5
      clear k4 k5
      cases O1
      · go_enter Tryd.func7, Tryd.ntmps7
        go_wp2_with fail
        go_at_call 24; refine (KVa.out _ _ _ ha).mono ?_; rintro e w9ha ⟨rfl, rfl⟩
        go_wp2_with fail
        go_at_call 24; refine (KVb.out _ _ _ hb).mono ?_; rintro e w9hb ⟨rfl, rfl⟩
        go_wp2_with fail
        go_at_call 24; refine (KVc.out _ _ _ hc).mono ?_; rintro e w9hc ⟨rfl, rfl⟩
        go_wp2_with fail
        go_at_call 21; refine (K1.out _ _ _ _ _ ha hb).mono ?_; rintro e w1 ⟨rfl, g1⟩
        replace F := F.trans g1
        replace ha := ha.on g1
        replace hb := hb.on g1
        replace hc := hc.on g1
        clear g1
        go_wp2_with fail
        go_at_call 21; refine (K2.out _ _ _ _ _ hb ha).mono ?_; rintro e w2 ⟨rfl, g2⟩
        replace F := F.trans g2
        replace ha := ha.on g2
        replace hb := hb.on g2
        replace hc := hc.on g2
        clear g2
        go_wp2_with fail
        go_at_call 18; refine (KS.out _ _ _ _ _ ha hb).mono ?_; rintro e w3 ⟨rfl, g3⟩
        replace F := F.trans g3
        replace ha := ha.on g3
        replace hb := hb.on g3
        replace hc := hc.on g3
        clear g3
        go_wp2_with fail
        go_at_call 19; refine (K3.out _ _ _ _ _ hb ha).mono ?_; rintro e w4 ⟨p4, q4, rfl, hd, g4⟩
        replace F := F.trans g4
        replace ha := ha.on g4
        replace hb := hb.on g4
        replace hc := hc.on g4
        clear g4
        clear hd
        go_wp2_with fail
        go_at_call 21; refine (K4.out _ _ _ _ _ hb hc).mono ?_; rintro e w5 ⟨rfl, g5⟩
        replace F := F.trans g5
        replace ha := ha.on g5
        replace hb := hb.on g5
        replace hc := hc.on g5
        clear g5
        go_wp2_with fail
        go_at_call 21; refine (K5.out _ _ _ _ _ ha hc).mono ?_; rintro e w6 ⟨rfl, g6⟩
        replace F := F.trans g6
        replace ha := ha.on g6
        replace hb := hb.on g6
        replace hc := hc.on g6
        clear g6
        go_wp2_with fail
        go_at_call 12; refine (K6.out _ _ _ _ _ ha hc).mono ?_; rintro e w7 ⟨p7, q7, rfl, hx, g7⟩
        replace F := F.trans g7
        replace ha := ha.on g7
        replace hb := hb.on g7
        replace hc := hc.on g7
        clear g7
        go_wp2_with fail
        go_at_call 12; refine (K7.out _ _ _ _ _ hb hc).mono ?_; rintro e w8 ⟨p8, q8, rfl, hy, g8⟩
        replace F := F.trans g8
        replace ha := ha.on g8
        replace hb := hb.on g8
        replace hc := hc.on g8
        replace hx := hx.on g8
        clear g8
        go_wp2_with fail
        go_at_call 11; refine (alive_any _ (GD.on F)).mono ?_; rintro e w9 ⟨rfl, g9⟩
        replace F := F.trans g9
        replace ha := ha.on g9
        replace hb := hb.on g9
        replace hc := hc.on g9
        replace hx := hx.on g9
        replace hy := hy.on g9
        clear g9
        go_wp2
        go_ret
        exact ⟨rfl, F⟩
      · cases O2
        · go_enter Tryd.func7, Tryd.ntmps7
          go_wp2_with fail
          go_at_call 24; refine (KVa.out _ _ _ ha).mono ?_; rintro e w9ha ⟨rfl, rfl⟩
          go_wp2_with fail
          go_at_call 24; refine (KVb.out _ _ _ hb).mono ?_; rintro e w9hb ⟨rfl, rfl⟩
          go_wp2_with fail
          go_at_call 24; refine (KVc.out _ _ _ hc).mono ?_; rintro e w9hc ⟨rfl, rfl⟩
          go_wp2_with fail
          go_at_call 21; refine (K1.out _ _ _ _ _ ha hb).mono ?_; rintro e w1 ⟨rfl, g1⟩
          replace F := F.trans g1
          replace ha := ha.on g1
          replace hb := hb.on g1
          replace hc := hc.on g1
          clear g1
          go_wp2_with fail
          go_at_call 21; refine (K2.out _ _ _ _ _ hb ha).mono ?_; rintro e w2 ⟨rfl, g2⟩
          replace F := F.trans g2
          replace ha := ha.on g2
          replace hb := hb.on g2
          replace hc := hc.on g2
          clear g2
          go_wp2_with fail
          go_at_call 18; refine (KS.out _ _ _ _ _ ha hb).mono ?_; rintro e w3 ⟨rfl, g3⟩
          replace F := F.trans g3
          replace ha := ha.on g3
          replace hb := hb.on g3
          replace hc := hc.on g3
          clear g3
          go_wp2_with fail
          go_at_call 19; refine (K3.out _ _ _ _ _ hb ha).mono ?_; rintro e w4 ⟨p4, q4, rfl, hd, g4⟩
          replace F := F.trans g4
          replace ha := ha.on g4
          replace hb := hb.on g4
          replace hc := hc.on g4
          clear g4
          clear hd
          go_wp2_with fail
          go_at_call 21; refine (K4.out _ _ _ _ _ hb hc).mono ?_; rintro e w5 ⟨rfl, g5⟩
          replace F := F.trans g5
          replace ha := ha.on g5
          replace hb := hb.on g5
          replace hc := hc.on g5
          clear g5
          go_wp2_with fail
          go_at_call 21; refine (K5.out _ _ _ _ _ ha hc).mono ?_; rintro e w6 ⟨rfl, g6⟩
          replace F := F.trans g6
          replace ha := ha.on g6
          replace hb := hb.on g6
          replace hc := hc.on g6
          clear g6
          go_wp2_with fail
          go_at_call 12; refine (K6.out _ _ _ _ _ ha hc).mono ?_; rintro e w7 ⟨p7, q7, rfl, hx, g7⟩
          replace F := F.trans g7
          replace ha := ha.on g7
          replace hb := hb.on g7
          replace hc := hc.on g7
          clear g7
          go_wp2_with fail
          go_at_call 12; refine (K7.out _ _ _ _ _ hb hc).mono ?_; rintro e w8 ⟨p8, q8, rfl, hy, g8⟩
          replace F := F.trans g8
          replace ha := ha.on g8
          replace hb := hb.on g8
          replace hc := hc.on g8
          replace hx := hx.on g8
          clear g8
          go_wp2_with fail
          go_at_call 11; refine (alive_any _ (GD.on F)).mono ?_; rintro e w9 ⟨rfl, g9⟩
          replace F := F.trans g9
          replace ha := ha.on g9
          replace hb := hb.on g9
          replace hc := hc.on g9
          replace hx := hx.on g9
          replace hy := hy.on g9
          clear g9
          go_wp2
          go_ret
          exact ⟨rfl, F⟩
        · simp only [(hk8 rfl rfl).trans hk9] at k8
          have K8 := Lib.hid k8
          clear k8 hk8 hk9
          go_enter Tryd.func7, Tryd.ntmps7
          go_wp2_with fail
          go_at_call 24; refine (KVa.out _ _ _ ha).mono ?_; rintro e w9ha ⟨rfl, rfl⟩
          go_wp2_with fail
          go_at_call 24; refine (KVb.out _ _ _ hb).mono ?_; rintro e w9hb ⟨rfl, rfl⟩
          go_wp2_with fail
          go_at_call 24; refine (KVc.out _ _ _ hc).mono ?_; rintro e w9hc ⟨rfl, rfl⟩
          go_wp2_with fail
          go_at_call 21; refine (K1.out _ _ _ _ _ ha hb).mono ?_; rintro e w1 ⟨rfl, g1⟩
          replace F := F.trans g1
          replace ha := ha.on g1
          replace hb := hb.on g1
          replace hc := hc.on g1
          clear g1
          go_wp2_with fail
          go_at_call 21; refine (K2.out _ _ _ _ _ hb ha).mono ?_; rintro e w2 ⟨rfl, g2⟩
          replace F := F.trans g2
          replace ha := ha.on g2
          replace hb := hb.on g2
          replace hc := hc.on g2
          clear g2
          go_wp2_with fail
          go_at_call 18; refine (KS.out _ _ _ _ _ ha hb).mono ?_; rintro e w3 ⟨rfl, g3⟩
          replace F := F.trans g3
          replace ha := ha.on g3
          replace hb := hb.on g3
          replace hc := hc.on g3
          clear g3
          go_wp2_with fail
          go_at_call 19; refine (K3.out _ _ _ _ _ hb ha).mono ?_; rintro e w4 ⟨p4, q4, rfl, hd, g4⟩
          replace F := F.trans g4
          replace ha := ha.on g4
          replace hb := hb.on g4
          replace hc := hc.on g4
          clear g4
          clear hd
          go_wp2_with fail
          go_at_call 21; refine (K4.out _ _ _ _ _ hb hc).mono ?_; rintro e w5 ⟨rfl, g5⟩
          replace F := F.trans g5
          replace ha := ha.on g5
          replace hb := hb.on g5
          replace hc := hc.on g5
          clear g5
          go_wp2_with fail
          go_at_call 21; refine (K5.out _ _ _ _ _ ha hc).mono ?_; rintro e w6 ⟨rfl, g6⟩
          replace F := F.trans g6
          replace ha := ha.on g6
          replace hb := hb.on g6
          replace hc := hc.on g6
          clear g6
          go_wp2_with fail
          go_at_call 12; refine (K6.out _ _ _ _ _ ha hc).mono ?_; rintro e w7 ⟨p7, q7, rfl, hx, g7⟩
          replace F := F.trans g7
          replace ha := ha.on g7
          replace hb := hb.on g7
          replace hc := hc.on g7
          clear g7
          go_wp2_with fail
          go_at_call 12; refine (K7.out _ _ _ _ _ hb hc).mono ?_; rintro e w8 ⟨p8, q8, rfl, hy, g8⟩
          replace F := F.trans g8
          replace ha := ha.on g8
          replace hb := hb.on g8
          replace hc := hc.on g8
          replace hx := hx.on g8
          clear g8
          go_wp2_with fail
          go_at_call 21; refine (K8.out _ _ _ _ _ hx hy).mono ?_; rintro e w9 ⟨rfl, g9⟩
          replace F := F.trans g9
          replace ha := ha.on g9
          replace hb := hb.on g9
          replace hc := hc.on g9
          replace hx := hx.on g9
          replace hy := hy.on g9
          clear g9
          go_wp2_with fail
          go_at_call 11; refine (alive_any _ (GD.on F)).mono ?_; rintro e w10 ⟨rfl, g10⟩
          replace F := F.trans g10
          replace ha := ha.on g10
          replace hb := hb.on g10
          replace hc := hc.on g10
          replace hx := hx.on g10
          replace hy := hy.on g10
          clear g10
          go_wp2
          go_ret
          exact ⟨rfl, F⟩
    · simp only [cmpV_gt (show nv c < nv b by omega)] at k4
      clear hbc h
      have K4 := Lib.hid k4
      clear k4 k5
      cases O1
      · go_enter Tryd.func7, Tryd.ntmps7
        go_wp2_with fail
        go_at_call 24; refine (KVa.out _ _ _ ha).mono ?_; rintro e w9ha ⟨rfl, rfl⟩
        go_wp2_with fail
        go_at_call 24; refine (KVb.out _ _ _ hb).mono ?_; rintro e w9hb ⟨rfl, rfl⟩
        go_wp2_with fail
        go_at_call 24; refine (KVc.out _ _ _ hc).mono ?_; rintro e w9hc ⟨rfl, rfl⟩
        go_wp2_with fail
        go_at_call 21; refine (K1.out _ _ _ _ _ ha hb).mono ?_; rintro e w1 ⟨rfl, g1⟩
        replace F := F.trans g1
        replace ha := ha.on g1
        replace hb := hb.on g1
        replace hc := hc.on g1
        clear g1
        go_wp2_with fail
        go_at_call 21; refine (K2.out _ _ _ _ _ hb ha).mono ?_; rintro e w2 ⟨rfl, g2⟩
        replace F := F.trans g2
        replace ha := ha.on g2
        replace hb := hb.on g2
        replace hc := hc.on g2
        clear g2
        go_wp2_with fail
        go_at_call 18; refine (KS.out _ _ _ _ _ ha hb).mono ?_; rintro e w3 ⟨rfl, g3⟩
        replace F := F.trans g3
        replace ha := ha.on g3
        replace hb := hb.on g3
        replace hc := hc.on g3
        clear g3
        go_wp2_with fail
        go_at_call 19; refine (K3.out _ _ _ _ _ hb ha).mono ?_; rintro e w4 ⟨p4, q4, rfl, hd, g4⟩
        replace F := F.trans g4
        replace ha := ha.on g4
        replace hb := hb.on g4
        replace hc := hc.on g4
        clear g4
        clear hd
        go_wp2_with fail
        go_at_call 21; refine (K4.out _ _ _ _ _ hb hc).mono ?_; rintro e w5 ⟨rfl, g5⟩
        replace F := F.trans g5
        replace ha := ha.on g5
        replace hb := hb.on g5
        replace hc := hc.on g5
        clear g5
        go_wp2_with fail
        go_at_call 12; refine (K6.out _ _ _ _ _ ha hc).mono ?_; rintro e w6 ⟨p6, q6, rfl, hx, g6⟩
        replace F := F.trans g6
        replace ha := ha.on g6
        replace hb := hb.on g6
        replace hc := hc.on g6
        clear g6
        go_wp2_with fail
        go_at_call 12; refine (K7.out _ _ _ _ _ hb hc).mono ?_; rintro e w7 ⟨p7, q7, rfl, hy, g7⟩
        replace F := F.trans g7
        replace ha := ha.on g7
        replace hb := hb.on g7
        replace hc := hc.on g7
        replace hx := hx.on g7
        clear g7
        go_wp2_with fail
        go_at_call 11; refine (alive_any _ (GD.on F)).mono ?_; rintro e w8 ⟨rfl, g8⟩
        replace F := F.trans g8
        replace ha := ha.on g8
        replace hb := hb.on g8
        replace hc := hc.on g8
        replace hx := hx.on g8
        replace hy := hy.on g8
        clear g8
        go_wp2
        go_ret
        exact ⟨rfl, F⟩
      · cases O2
        · go_enter Tryd.func7, Tryd.ntmps7
          go_wp2_with fail
          go_at_call 24; refine (KVa.out _ _ _ ha).mono ?_; rintro e w9ha ⟨rfl, rfl⟩
          go_wp2_with fail
          go_at_call 24; refine (KVb.out _ _ _ hb).mono ?_; rintro e w9hb ⟨rfl, rfl⟩
          go_wp2_with fail
          go_at_call 24; refine (KVc.out _ _ _ hc).mono ?_; rintro e w9hc ⟨rfl, rfl⟩
          go_wp2_with fail
          go_at_call 21; refine (K1.out _ _ _ _ _ ha hb).mono ?_; rintro e w1 ⟨rfl, g1⟩
          replace F := F.trans g1
          replace ha := ha.on g1
          replace hb := hb.on g1
          replace hc := hc.on g1
          clear g1
          go_wp2_with fail
          go_at_call 21; refine (K2.out _ _ _ _ _ hb ha).mono ?_; rintro e w2 ⟨rfl, g2⟩
          replace F := F.trans g2
          replace ha := ha.on g2
          replace hb := hb.on g2
          replace hc := hc.on g2
          clear g2
          go_wp2_with fail
          go_at_call 18; refine (KS.out _ _ _ _ _ ha hb).mono ?_; rintro e w3 ⟨rfl, g3⟩
          replace F := F.trans g3
          replace ha := ha.on g3
          replace hb := hb.on g3
          replace hc := hc.on g3
          clear g3
          go_wp2_with fail
          go_at_call 19; refine (K3.out _ _ _ _ _ hb ha).mono ?_; rintro e w4 ⟨p4, q4, rfl, hd, g4⟩
          replace F := F.trans g4
          replace ha := ha.on g4
          replace hb := hb.on g4
          replace hc := hc.on g4
          clear g4
          clear hd
          go_wp2_with fail
          go_at_call 21; refine (K4.out _ _ _ _ _ hb hc).mono ?_; rintro e w5 ⟨rfl, g5⟩
          replace F := F.trans g5
          replace ha := ha.on g5
          replace hb := hb.on g5
          replace hc := hc.on g5
          clear g5
          go_wp2_with fail
          go_at_call 12; refine (K6.out _ _ _ _ _ ha hc).mono ?_; rintro e w6 ⟨p6, q6, rfl, hx, g6⟩
          replace F := F.trans g6
          replace ha := ha.on g6
          replace hb := hb.on g6
          replace hc := hc.on g6
          clear g6
          go_wp2_with fail
          go_at_call 12; refine (K7.out _ _ _ _ _ hb hc).mono ?_; rintro e w7 ⟨p7, q7, rfl, hy, g7⟩
          replace F := F.trans g7
          replace ha := ha.on g7
          replace hb := hb.on g7
          replace hc := hc.on g7
          replace hx := hx.on g7
          clear g7
          go_wp2_with fail
          go_at_call 11; refine (alive_any _ (GD.on F)).mono ?_; rintro e w8 ⟨rfl, g8⟩
          replace F := F.trans g8
          replace ha := ha.on g8
          replace hb := hb.on g8
          replace hc := hc.on g8
          replace hx := hx.on g8
          replace hy := hy.on g8
          clear g8
          go_wp2
          go_ret
          exact ⟨rfl, F⟩
        · simp only [(hk8 rfl rfl).trans hk9] at k8
          have K8 := Lib.hid k8
          clear k8 hk8 hk9
          go_enter Tryd.func7, Tryd.ntmps7
          go_wp2_with fail
          go_at_call 24; refine (KVa.out _ _ _ ha).mono ?_; rintro e w9ha ⟨rfl, rfl⟩
          go_wp2_with fail
          go_at_call 24; refine (KVb.out _ _ _ hb).mono ?_; rintro e w9hb ⟨rfl, rfl⟩
          go_wp2_with fail
          go_at_call 24; refine (KVc.out _ _ _ hc).mono ?_; rintro e w9hc ⟨rfl, rfl⟩
          go_wp2_with fail
          go_at_call 21; refine (K1.out _ _ _ _ _ ha hb).mono ?_; rintro e w1 ⟨rfl, g1⟩
          replace F := F.trans g1
          replace ha := ha.on g1
          replace hb := hb.on g1
          replace hc := hc.on g1
          clear g1
          go_wp2_with fail
          go_at_call 21; refine (K2.out _ _ _ _ _ hb ha).mono ?_; rintro e w2 ⟨rfl, g2⟩
          replace F := F.trans g2
          replace ha := ha.on g2
          replace hb := hb.on g2
          replace hc := hc.on g2
          clear g2
          go_wp2_with fail
          go_at_call 18; refine (KS.out _ _ _ _ _ ha hb).mono ?_; rintro e w3 ⟨rfl, g3⟩
          replace F := F.trans g3
          replace ha := ha.on g3
          replace hb := hb.on g3
          replace hc := hc.on g3
          clear g3
          go_wp2_with fail
          go_at_call 19; refine (K3.out _ _ _ _ _ hb ha).mono ?_; rintro e w4 ⟨p4, q4, rfl, hd, g4⟩
          replace F := F.trans g4
          replace ha := ha.on g4
          replace hb := hb.on g4
          replace hc := hc.on g4
          clear g4
          clear hd
          go_wp2_with fail
          go_at_call 21; refine (K4.out _ _ _ _ _ hb hc).mono ?_; rintro e w5 ⟨rfl, g5⟩
          replace F := F.trans g5
          replace ha := ha.on g5
          replace hb := hb.on g5
          replace hc := hc.on g5
          clear g5
          go_wp2_with fail
          go_at_call 12; refine (K6.out _ _ _ _ _ ha hc).mono ?_; rintro e w6 ⟨p6, q6, rfl, hx, g6⟩
          replace F := F.trans g6
          replace ha := ha.on g6
          replace hb := hb.on g6
          replace hc := hc.on g6
          clear g6
          go_wp2_with fail
          go_at_call 12; refine (K7.out _ _ _ _ _ hb hc).mono ?_; rintro e w7 ⟨p7, q7, rfl, hy, g7⟩
          replace F := F.trans g7
          replace ha := ha.on g7
          replace hb := hb.on g7
          replace hc := hc.on g7
          replace hx := hx.on g7
          clear g7
          go_wp2_with fail
          go_at_call 21; refine (K8.out _ _ _ _ _ hx hy).mono ?_; rintro e w8 ⟨rfl, g8⟩
          replace F := F.trans g8
          replace ha := ha.on g8
          replace hb := hb.on g8
          replace hc := hc.on g8
          replace hx := hx.on g8
          replace hy := hy.on g8
          clear g8
          go_wp2_with fail
          go_at_call 11; refine (alive_any _ (GD.on F)).mono ?_; rintro e w9 ⟨rfl, g9⟩
          replace F := F.trans g9
          replace ha := ha.on g9
          replace hb := hb.on g9
          replace hc := hc.on g9
          replace hx := hx.on g9
          replace hy := hy.on g9
          clear g9
          go_wp2
          go_ret
          exact ⟨rfl, F⟩
  · have hs : decide (a = b) = true := decide_eq_true (hinj.1 h)
    simp only [cmpV_eq h] at k1
    simp only [cmpV_eq h.symm] at k2
    simp only [hs] at ks
    have hk9 : cmpV (nv a) (nv b) = 0 := cmpV_eq h
    have hD : lim (nv b - nv a) = [] := by rw [show nv b - nv a = 0 by omega, lim_0]
    simp only [hD] at k3
    clear hD
    have K1 := Lib.hid k1; have K2 := Lib.hid k2; have KS := Lib.hid ks; have K3 := Lib.hid k3
    clear k1 k2 ks k3 hinj
    clear hs
    by_cases hbc : nv b ≤ nv c
    · have q1 := cmpV_le hbc
      have q2 := cmpV_le (show nv a ≤ nv c by omega)
      clear hbc h
      generalize cmpV (nv b) (nv c) = Q1 at k4 q1
      generalize cmpV (nv a) (nv c) = Q2 at k5 q2
      have K4 := Lib.hid k4; have K5 := Lib.hid k5
      clear k4 k5
      cases O1
      · go_enter Tryd.func7, Tryd.ntmps7
        go_wp2_with fail
        go_at_call 24; refine (KVa.out _ _ _ ha).mono ?_; rintro e w9ha ⟨rfl, rfl⟩
        go_wp2_with fail
        go_at_call 24; refine (KVb.out _ _ _ hb).mono ?_; rintro e w9hb ⟨rfl, rfl⟩
        go_wp2_with fail
        go_at_call 24; refine (KVc.out _ _ _ hc).mono ?_; rintro e w9hc ⟨rfl, rfl⟩
        go_wp2_with fail
        go_at_call 21; refine (K1.out _ _ _ _ _ ha hb).mono ?_; rintro e w1 ⟨rfl, g1⟩
        replace F := F.trans g1
        replace ha := ha.on g1
        replace hb := hb.on g1
        replace hc := hc.on g1
        clear g1
        go_wp2_with fail
        go_at_call 21; refine (K2.out _ _ _ _ _ hb ha).mono ?_; rintro e w2 ⟨rfl, g2⟩
        replace F := F.trans g2
        replace ha := ha.on g2
        replace hb := hb.on g2
        replace hc := hc.on g2
        clear g2
        go_wp2_with fail
        go_at_call 18; refine (KS.out _ _ _ _ _ ha hb).mono ?_; rintro e w3 ⟨rfl, g3⟩
        replace F := F.trans g3
        replace ha := ha.on g3
        replace hb := hb.on g3
        replace hc := hc.on g3
        clear g3
        go_wp2_with fail
        go_at_call 19; refine (K3.out _ _ _ _ _ hb ha).mono ?_; rintro e w4 ⟨p4, q4, rfl, hd, g4⟩
        replace F := F.trans g4
        replace ha := ha.on g4
        replace hb := hb.on g4
        replace hc := hc.on g4
        clear g4
        clear hd
        go_wp2_with fail
        go_at_call 21; refine (K4.out _ _ _ _ _ hb hc).mono ?_; rintro e w5 ⟨rfl, g5⟩
        replace F := F.trans g5
        replace ha := ha.on g5
        replace hb := hb.on g5
        replace hc := hc.on g5
        clear g5
        go_wp2_with fail
        go_at_call 21; refine (K5.out _ _ _ _ _ ha hc).mono ?_; rintro e w6 ⟨rfl, g6⟩
        replace F := F.trans g6
        replace ha := ha.on g6
        replace hb := hb.on g6
        replace hc := hc.on g6
        clear g6
        go_wp2_with fail
        go_at_call 12; refine (K6.out _ _ _ _ _ ha hc).mono ?_; rintro e w7 ⟨p7, q7, rfl, hx, g7⟩
        replace F := F.trans g7
        replace ha := ha.on g7
        replace hb := hb.on g7
        replace hc := hc.on g7
        clear g7
        go_wp2_with fail
        go_at_call 12; refine (K7.out _ _ _ _ _ hb hc).mono ?_; rintro e w8 ⟨p8, q8, rfl, hy, g8⟩
        replace F := F.trans g8
        replace ha := ha.on g8
        replace hb := hb.on g8
        replace hc := hc.on g8
        replace hx := hx.on g8
        clear g8
        go_wp2_with fail
        go_at_call 11; refine (alive_any _ (GD.on F)).mono ?_; rintro e w9 ⟨rfl, g9⟩
        replace F := F.trans g9
        replace ha := ha.on g9
        replace hb := hb.on g9
        replace hc := hc.on g9
        replace hx := hx.on g9
        replace hy := hy.on g9
        clear g9
        go_wp2
        go_ret
        exact ⟨rfl, F⟩
      · cases O2
        · go_enter Tryd.func7, Tryd.ntmps7
          go_wp2_with fail
          go_at_call 24; refine (KVa.out _ _ _ ha).mono ?_; rintro e w9ha ⟨rfl, rfl⟩
          go_wp2_with fail
          go_at_call 24; refine (KVb.out _ _ _ hb).mono ?_; rintro e w9hb ⟨rfl, rfl⟩
          go_wp2_with fail
          go_at_call 24; refine (KVc.out _ _ _ hc).mono ?_; rintro e w9hc ⟨rfl, rfl⟩
          go_wp2_with fail
          go_at_call 21; refine (K1.out _ _ _ _ _ ha hb).mono ?_; rintro e w1 ⟨rfl, g1⟩
          replace F := F.trans g1
          replace ha := ha.on g1
          replace hb := hb.on g1
          replace hc := hc.on g1
          clear g1
          go_wp2_with fail
          go_at_call 21; refine (K2.out _ _ _ _ _ hb ha).mono ?_; rintro e w2 ⟨rfl, g2⟩
          replace F := F.trans g2
          replace ha := ha.on g2
          replace hb := hb.on g2
          replace hc := hc.on g2
          clear g2
          go_wp2_with fail
          go_at_call 18; refine (KS.out _ _ _ _ _ ha hb).mono ?_; rintro e w3 ⟨rfl, g3⟩
          replace F := F.trans g3
          replace ha := ha.on g3
          replace hb := hb.on g3
          replace hc := hc.on g3
          clear g3
          go_wp2_with fail
          go_at_call 19; refine (K3.out _ _ _ _ _ hb ha).mono ?_; rintro e w4 ⟨p4, q4, rfl, hd, g4⟩
          replace F := F.trans g4
          replace ha := ha.on g4
          replace hb := hb.on g4
          replace hc := hc.on g4
          clear g4
          clear hd
          go_wp2_with fail
          go_at_call 21; refine (K4.out _ _ _ _ _ hb hc).mono ?_; rintro e w5 ⟨rfl, g5⟩
          replace F := F.trans g5
          replace ha := ha.on g5
          replace hb := hb.on g5
          replace hc := hc.on g5
          clear g5
          go_wp2_with fail
          go_at_call 21; refine (K5.out _ _ _ _ _ ha hc).mono ?_; rintro e w6 ⟨rfl, g6⟩
          replace F := F.trans g6
          replace ha := ha.on g6
          replace hb := hb.on g6
          replace hc := hc.on g6
          clear g6
          go_wp2_with fail
          go_at_call 12; refine (K6.out _ _ _ _ _ ha hc).mono ?_; rintro e w7 ⟨p7, q7, rfl, hx, g7⟩
          replace F := F.trans g7
          replace ha := ha.on g7
          replace hb := hb.on g7
          replace hc := hc.on g7
          clear g7
          go_wp2_with fail
          go_at_call 12; refine (K7.out _ _ _ _ _ hb hc).mono ?_; rintro e w8 ⟨p8, q8, rfl, hy, g8⟩
          replace F := F.trans g8
          replace ha := ha.on g8
          replace hb := hb.on g8
          replace hc := hc.on g8
          replace hx := hx.on g8
          clear g8
          go_wp2_with fail
          go_at_call 11; refine (alive_any _ (GD.on F)).mono ?_; rintro e w9 ⟨rfl, g9⟩
          replace F := F.trans g9
          replace ha := ha.on g9
          replace hb := hb.on g9
          replace hc := hc.on g9
          replace hx := hx.on g9
          replace hy := hy.on g9
          clear g9
          go_wp2
          go_ret
          exact ⟨rfl, F⟩
        · simp only [(hk8 rfl rfl).trans hk9] at k8
          have K8 := Lib.hid k8
          clear k8 hk8 hk9
          go_enter Tryd.func7, Tryd.ntmps7
          go_wp2_with fail
          go_at_call 24; refine (KVa.out _ _ _ ha).mono ?_; rintro e w9ha ⟨rfl, rfl⟩
          go_wp2_with fail
          go_at_call 24; refine (KVb.out _ _ _ hb).mono ?_; rintro e w9hb ⟨rfl, rfl⟩
          go_wp2_with fail
          go_at_call 24; refine (KVc.out _ _ _ hc).mono ?_; rintro e w9hc ⟨rfl, rfl⟩
          go_wp2_with fail
          go_at_call 21; refine (K1.out _ _ _ _ _ ha hb).mono ?_; rintro e w1 ⟨rfl, g1⟩
          replace F := F.trans g1
          replace ha := ha.on g1
          replace hb := hb.on g1
          replace hc := hc.on g1
          clear g1
          go_wp2_with fail
          go_at_call 21; refine (K2.out _ _ _ _ _ hb ha).mono ?_; rintro e w2 ⟨rfl, g2⟩
          replace F := F.trans g2
          replace ha := ha.on g2
          replace hb := hb.on g2
          replace hc := hc.on g2
          clear g2
          go_wp2_with fail
          go_at_call 18; refine (KS.out _ _ _ _ _ ha hb).mono ?_; rintro e w3 ⟨rfl, g3⟩
          replace F := F.trans g3
          replace ha := ha.on g3
          replace hb := hb.on g3
          replace hc := hc.on g3
          clear g3
          go_wp2_with fail
          go_at_call 19; refine (K3.out _ _ _ _ _ hb ha).mono ?_; rintro e w4 ⟨p4, q4, rfl, hd, g4⟩
          replace F := F.trans g4
          replace ha := ha.on g4
          replace hb := hb.on g4
          replace hc := hc.on g4
          clear g4
          clear hd
          go_wp2_with fail
          go_at_call 21; refine (K4.out _ _ _ _ _ hb hc).mono ?_; rintro e w5 ⟨rfl, g5⟩
          replace F := F.trans g5
          replace ha := ha.on g5
          replace hb := hb.on g5
          replace hc := hc.on g5
          clear g5
          go_wp2_with fail
          go_at_call 21; refine (K5.out _ _ _ _ _ ha hc).mono ?_; rintro e w6 ⟨rfl, g6⟩
          replace F := F.trans g6
          replace ha := ha.on g6
          replace hb := hb.on g6
          replace hc := hc.on g6
          clear g6
          go_wp2_with fail
          go_at_call 12; refine (K6.out _ _ _ _ _ ha hc).mono ?_; rintro e w7 ⟨p7, q7, rfl, hx, g7⟩
          replace F := F.trans g7
          replace ha := ha.on g7
          replace hb := hb.on g7
          replace hc := hc.on g7
          clear g7
          go_wp2_with fail
          go_at_call 12; refine (K7.out _ _ _ _ _ hb hc).mono ?_; rintro e w8 ⟨p8, q8, rfl, hy, g8⟩
          replace F := F.trans g8
          replace ha := ha.on g8
          replace hb := hb.on g8
          replace hc := hc.on g8
          replace hx := hx.on g8
          clear g8
          go_wp2_with fail
          go_at_call 21; refine (K8.out _ _ _ _ _ hx hy).mono ?_; rintro e w9 ⟨rfl, g9⟩
          replace F := F.trans g9
          replace ha := ha.on g9
          replace hb := hb.on g9
          replace hc := hc.on g9
          replace hx := hx.on g9
          replace hy := hy.on g9
          clear g9
          go_wp2_with fail
          go_at_call 11; refine (alive_any _ (GD.on F)).mono ?_; rintro e w10 ⟨rfl, g10⟩
          replace F := F.trans g10
          replace ha := ha.on g10
          replace hb := hb.on g10
          replace hc := hc.on g10
          replace hx := hx.on g10
          replace hy := hy.on g10
          clear g10
          go_wp2
          go_ret
          exact ⟨rfl, F⟩
    · simp only [cmpV_gt (show nv c < nv b by omega)] at k4
      clear hbc h
      have K4 := Lib.hid k4
      clear k4 k5
      cases O1
      · go_enter Tryd.func7, Tryd.ntmps7
        go_wp2_with fail
        go_at_call 24; refine (KVa.out _ _ _ ha).mono ?_; rintro e w9ha ⟨rfl, rfl⟩
        go_wp2_with fail
        go_at_call 24; refine (KVb.out _ _ _ hb).mono ?_; rintro e w9hb ⟨rfl, rfl⟩
        go_wp2_with fail
        go_at_call 24; refine (KVc.out _ _ _ hc).mono ?_; rintro e w9hc ⟨rfl, rfl⟩
        go_wp2_with fail
        go_at_call 21; refine (K1.out _ _ _ _ _ ha hb).mono ?_; rintro e w1 ⟨rfl, g1⟩
        replace F := F.trans g1
        replace ha := ha.on g1
        replace hb := hb.on g1
        replace hc := hc.on g1
        clear g1
        go_wp2_with fail
        go_at_call 21; refine (K2.out _ _ _ _ _ hb ha).mono ?_; rintro e w2 ⟨rfl, g2⟩
        replace F := F.trans g2
        replace ha := ha.on g2
        replace hb := hb.on g2
        replace hc := hc.on g2
        clear g2
        go_wp2_with fail
        go_at_call 18; refine (KS.out _ _ _ _ _ ha hb).mono ?_; rintro e w3 ⟨rfl, g3⟩
        replace F := F.trans g3
        replace ha := ha.on g3
        replace hb := hb.on g3
        replace hc := hc.on g3
        clear g3
        go_wp2_with fail
        go_at_call 19; refine (K3.out _ _ _ _ _ hb ha).mono ?_; rintro e w4 ⟨p4, q4, rfl, hd, g4⟩
        replace F := F.trans g4
        replace ha := ha.on g4
        replace hb := hb.on g4
        replace hc := hc.on g4
        clear g4
        clear hd
        go_wp2_with fail
        go_at_call 21; refine (K4.out _ _ _ _ _ hb hc).mono ?_; rintro e w5 ⟨rfl, g5⟩
        replace F := F.trans g5
        replace ha := ha.on g5
        replace hb := hb.on g5
        replace hc := hc.on g5
        clear g5
        go_wp2_with fail
        go_at_call 12; refine (K6.out _ _ _ _ _ ha hc).mono ?_; rintro e w6 ⟨p6, q6, rfl, hx, g6⟩
        replace F := F.trans g6
        replace ha := ha.on g6
        replace hb := hb.on g6
        replace hc := hc.on g6
        clear g6
        go_wp2_with fail
        go_at_call 12; refine (K7.out _ _ _ _ _ hb hc).mono ?_; rintro e w7 ⟨p7, q7, rfl, hy, g7⟩
        replace F := F.trans g7
        replace ha := ha.on g7
        replace hb := hb.on g7
        replace hc := hc.on g7
        replace hx := hx.on g7
        clear g7
        go_wp2_with fail
        go_at_call 11; refine (alive_any _ (GD.on F)).mono ?_; rintro e w8 ⟨rfl, g8⟩
        replace F := F.trans g8
        replace ha := ha.on g8
        replace hb := hb.on g8
        replace hc := hc.on g8
        replace hx := hx.on g8
        replace hy := hy.on g8
        clear g8
        go_wp2
        go_ret
        exact ⟨rfl, F⟩
      · cases O2
        · go_enter Tryd.func7, Tryd.ntmps7
          go_wp2_with fail
          go_at_call 24; refine (KVa.out _ _ _ ha).mono ?_; rintro e w9ha ⟨rfl, rfl⟩
          go_wp2_with fail
          go_at_call 24; refine (KVb.out _ _ _ hb).mono ?_; rintro e w9hb ⟨rfl, rfl⟩
          go_wp2_with fail
          go_at_call 24; refine (KVc.out _ _ _ hc).mono ?_; rintro e w9hc ⟨rfl, rfl⟩
          go_wp2_with fail
          go_at_call 21; refine (K1.out _ _ _ _ _ ha hb).mono ?_; rintro e w1 ⟨rfl, g1⟩
          replace F := F.trans g1
          replace ha := ha.on g1
          replace hb := hb.on g1
          replace hc := hc.on g1
          clear g1
          go_wp2_with fail
          go_at_call 21; refine (K2.out _ _ _ _ _ hb ha).mono ?_; rintro e w2 ⟨rfl, g2⟩
          replace F := F.trans g2
          replace ha := ha.on g2
          replace hb := hb.on g2
          replace hc := hc.on g2
          clear g2
          go_wp2_with fail
          go_at_call 18; refine (KS.out _ _ _ _ _ ha hb).mono ?_; rintro e w3 ⟨rfl, g3⟩
          replace F := F.trans g3
          replace ha := ha.on g3
          replace hb := hb.on g3
          replace hc := hc.on g3
          clear g3
          go_wp2_with fail
          go_at_call 19; refine (K3.out _ _ _ _ _ hb ha).mono ?_; rintro e w4 ⟨p4, q4, rfl, hd, g4⟩
          replace F := F.trans g4
          replace ha := ha.on g4
          replace hb := hb.on g4
          replace hc := hc.on g4
          clear g4
          clear hd
          go_wp2_with fail
          go_at_call 21; refine (K4.out _ _ _ _ _ hb hc).mono ?_; rintro e w5 ⟨rfl, g5⟩
          replace F := F.trans g5
          replace ha := ha.on g5
          replace hb := hb.on g5
          replace hc := hc.on g5
          clear g5
          go_wp2_with fail
          go_at_call 12; refine (K6.out _ _ _ _ _ ha hc).mono ?_; rintro e w6 ⟨p6, q6, rfl, hx, g6⟩
          replace F := F.trans g6
          replace ha := ha.on g6
          replace hb := hb.on g6
          replace hc := hc.on g6
          clear g6
          go_wp2_with fail
          go_at_call 12; refine (K7.out _ _ _ _ _ hb hc).mono ?_; rintro e w7 ⟨p7, q7, rfl, hy, g7⟩
          replace F := F.trans g7
          replace ha := ha.on g7
          replace hb := hb.on g7
          replace hc := hc.on g7
          replace hx := hx.on g7
          clear g7
          go_wp2_with fail
          go_at_call 11; refine (alive_any _ (GD.on F)).mono ?_; rintro e w8 ⟨rfl, g8⟩
          replace F := F.trans g8
          replace ha := ha.on g8
          replace hb := hb.on g8
          replace hc := hc.on g8
          replace hx := hx.on g8
          replace hy := hy.on g8
          clear g8
          go_wp2
          go_ret
          exact ⟨rfl, F⟩
        · simp only [(hk8 rfl rfl).trans hk9] at k8
          have K8 := Lib.hid k8
          clear k8 hk8 hk9
          go_enter Tryd.func7, Tryd.ntmps7
          go_wp2_with fail
          go_at_call 24; refine (KVa.out _ _ _ ha).mono ?_; rintro e w9ha ⟨rfl, rfl⟩
          go_wp2_with fail
          go_at_call 24; refine (KVb.out _ _ _ hb).mono ?_; rintro e w9hb ⟨rfl, rfl⟩
          go_wp2_with fail
          go_at_call 24; refine (KVc.out _ _ _ hc).mono ?_; rintro e w9hc ⟨rfl, rfl⟩
          go_wp2_with fail
          go_at_call 21; refine (K1.out _ _ _ _ _ ha hb).mono ?_; rintro e w1 ⟨rfl, g1⟩
          replace F := F.trans g1
          replace ha := ha.on g1
          replace hb := hb.on g1
          replace hc := hc.on g1
          clear g1
          go_wp2_with fail
          go_at_call 21; refine (K2.out _ _ _ _ _ hb ha).mono ?_; rintro e w2 ⟨rfl, g2⟩
          replace F := F.trans g2
          replace ha := ha.on g2
          replace hb := hb.on g2
          replace hc := hc.on g2
          clear g2
          go_wp2_with fail
          go_at_call 18; refine (KS.out _ _ _ _ _ ha hb).mono ?_; rintro e w3 ⟨rfl, g3⟩
          replace F := F.trans g3
          replace ha := ha.on g3
          replace hb := hb.on g3
          replace hc := hc.on g3
          clear g3
          go_wp2_with fail
          go_at_call 19; refine (K3.out _ _ _ _ _ hb ha).mono ?_; rintro e w4 ⟨p4, q4, rfl, hd, g4⟩
          replace F := F.trans g4
          replace ha := ha.on g4
          replace hb := hb.on g4
          replace hc := hc.on g4
          clear g4
          clear hd
          go_wp2_with fail
          go_at_call 21; refine (K4.out _ _ _ _ _ hb hc).mono ?_; rintro e w5 ⟨rfl, g5⟩
          replace F := F.trans g5
          replace ha := ha.on g5
          replace hb := hb.on g5
          replace hc := hc.on g5
          clear g5
          go_wp2_with fail
          go_at_call 12; refine (K6.out _ _ _ _ _ ha hc).mono ?_; rintro e w6 ⟨p6, q6, rfl, hx, g6⟩
          replace F := F.trans g6
          replace ha := ha.on g6
          replace hb := hb.on g6
          replace hc := hc.on g6
          clear g6
          go_wp2_with fail
          go_at_call 12; refine (K7.out _ _ _ _ _ hb hc).mono ?_; rintro e w7 ⟨p7, q7, rfl, hy, g7⟩
          replace F := F.trans g7
          replace ha := ha.on g7
          replace hb := hb.on g7
          replace hc := hc.on g7
          replace hx := hx.on g7
          clear g7
          go_wp2_with fail
          go_at_call 21; refine (K8.out _ _ _ _ _ hx hy).mono ?_; rintro e w8 ⟨rfl, g8⟩
          replace F := F.trans g8
          replace ha := ha.on g8
          replace hb := hb.on g8
          replace hc := hc.on g8
          replace hx := hx.on g8
          replace hy := hy.on g8
          clear g8
          go_wp2_with fail
          go_at_call 11; refine (alive_any _ (GD.on F)).mono ?_; rintro e w9 ⟨rfl, g9⟩
          replace F := F.trans g9
          replace ha := ha.on g9
          replace hb := hb.on g9
          replace hc := hc.on g9
          replace hx := hx.on g9
          replace hy := hy.on g9
          clear g9
          go_wp2
          go_ret
          exact ⟨rfl, F⟩
  · have hs : decide (a = b) = false := decide_eq_false (fun e => by have := hinj.2 e; omega)
    simp only [cmpV_gt h] at k1
    simp only [cmpV_lt h] at k2
    simp only [hs] at ks
    have hk9 : cmpV (nv a) (nv b) = 1 := cmpV_gt h
    have hD : lim (nv b - nv a) = [] := by rw [show nv b - nv a = 0 by omega, lim_0]
    simp only [hD] at k3
    clear hD
    have K1 := Lib.hid k1; have K2 := Lib.hid k2; have KS := Lib.hid ks; have K3 := Lib.hid k3
    clear k1 k2 ks k3 hinj
    clear hs
    clear k4 k5 h
    cases O1
    · go_enter Tryd.func7, Tryd.ntmps7
      go_wp2_with fail
      go_at_call 24; refine (KVa.out _ _ _ ha).mono ?_; rintro e w9ha ⟨rfl, rfl⟩
      go_wp2_with fail
      go_at_call 24; refine (KVb.out _ _ _ hb).mono ?_; rintro e w9hb ⟨rfl, rfl⟩
      go_wp2_with fail
      go_at_call 24; refine (KVc.out _ _ _ hc).mono ?_; rintro e w9hc ⟨rfl, rfl⟩
      go_wp2_with fail
      go_at_call 21; refine (K1.out _ _ _ _ _ ha hb).mono ?_; rintro e w1 ⟨rfl, g1⟩
      replace F := F.trans g1
      replace ha := ha.on g1
      replace hb := hb.on g1
      replace hc := hc.on g1
      clear g1
      go_wp2_with fail
      go_at_call 21; refine (K2.out _ _ _ _ _ hb ha).mono ?_; rintro e w2 ⟨rfl, g2⟩
      replace F := F.trans g2
      replace ha := ha.on g2
      replace hb := hb.on g2
      replace hc := hc.on g2
      clear g2
      go_wp2_with fail
      go_at_call 18; refine (KS.out _ _ _ _ _ ha hb).mono ?_; rintro e w3 ⟨rfl, g3⟩
      replace F := F.trans g3
      replace ha := ha.on g3
      replace hb := hb.on g3
      replace hc := hc.on g3
      clear g3
      go_wp2_with fail
      go_at_call 19; refine (K3.out _ _ _ _ _ hb ha).mono ?_; rintro e w4 ⟨p4, q4, rfl, hd, g4⟩
      replace F := F.trans g4
      replace ha := ha.on g4
      replace hb := hb.on g4
      replace hc := hc.on g4
      clear g4
      clear hd
      go_wp2_with fail
      go_at_call 12; refine (K6.out _ _ _ _ _ ha hc).mono ?_; rintro e w5 ⟨p5, q5, rfl, hx, g5⟩
      replace F := F.trans g5
      replace ha := ha.on g5
      replace hb := hb.on g5
      replace hc := hc.on g5
      clear g5
      go_wp2_with fail
      go_at_call 12; refine (K7.out _ _ _ _ _ hb hc).mono ?_; rintro e w6 ⟨p6, q6, rfl, hy, g6⟩
      replace F := F.trans g6
      replace ha := ha.on g6
      replace hb := hb.on g6
      replace hc := hc.on g6
      replace hx := hx.on g6
      clear g6
      go_wp2_with fail
      go_at_call 11; refine (alive_any _ (GD.on F)).mono ?_; rintro e w7 ⟨rfl, g7⟩
      replace F := F.trans g7
      replace ha := ha.on g7
      replace hb := hb.on g7
      replace hc := hc.on g7
      replace hx := hx.on g7
      replace hy := hy.on g7
      clear g7
      go_wp2
      go_ret
      exact ⟨rfl, F⟩
    · cases O2
      · go_enter Tryd.func7, Tryd.ntmps7
        go_wp2_with fail
        go_at_call 24; refine (KVa.out _ _ _ ha).mono ?_; rintro e w9ha ⟨rfl, rfl⟩
        go_wp2_with fail
        go_at_call 24; refine (KVb.out _ _ _ hb).mono ?_; rintro e w9hb ⟨rfl, rfl⟩
        go_wp2_with fail
        go_at_call 24; refine (KVc.out _ _ _ hc).mono ?_; rintro e w9hc ⟨rfl, rfl⟩
        go_wp2_with fail
        go_at_call 21; refine (K1.out _ _ _ _ _ ha hb).mono ?_; rintro e w1 ⟨rfl, g1⟩
        replace F := F.trans g1
        replace ha := ha.on g1
        replace hb := hb.on g1
        replace hc := hc.on g1
        clear g1
        go_wp2_with fail
        go_at_call 21; refine (K2.out _ _ _ _ _ hb ha).mono ?_; rintro e w2 ⟨rfl, g2⟩
        replace F := F.trans g2
        replace ha := ha.on g2
        replace hb := hb.on g2
        replace hc := hc.on g2
        clear g2
        go_wp2_with fail
        go_at_call 18; refine (KS.out _ _ _ _ _ ha hb).mono ?_; rintro e w3 ⟨rfl, g3⟩
        replace F := F.trans g3
        replace ha := ha.on g3
        replace hb := hb.on g3
        replace hc := hc.on g3
        clear g3
        go_wp2_with fail
        go_at_call 19; refine (K3.out _ _ _ _ _ hb ha).mono ?_; rintro e w4 ⟨p4, q4, rfl, hd, g4⟩
        replace F := F.trans g4
        replace ha := ha.on g4
        replace hb := hb.on g4
        replace hc := hc.on g4
        clear g4
        clear hd
        go_wp2_with fail
        go_at_call 12; refine (K6.out _ _ _ _ _ ha hc).mono ?_; rintro e w5 ⟨p5, q5, rfl, hx, g5⟩
        replace F := F.trans g5
        replace ha := ha.on g5
        replace hb := hb.on g5
        replace hc := hc.on g5
        clear g5
        go_wp2_with fail
        go_at_call 12; refine (K7.out _ _ _ _ _ hb hc).mono ?_; rintro e w6 ⟨p6, q6, rfl, hy, g6⟩
        replace F := F.trans g6
        replace ha := ha.on g6
        replace hb := hb.on g6
        replace hc := hc.on g6
        replace hx := hx.on g6
        clear g6
        go_wp2_with fail
        go_at_call 11; refine (alive_any _ (GD.on F)).mono ?_; rintro e w7 ⟨rfl, g7⟩
        replace F := F.trans g7
        replace ha := ha.on g7
        replace hb := hb.on g7
        replace hc := hc.on g7
        replace hx := hx.on g7
        replace hy := hy.on g7
        clear g7
        go_wp2
        go_ret
        exact ⟨rfl, F⟩
      · simp only [(hk8 rfl rfl).trans hk9] at k8
        have K8 := Lib.hid k8
        clear k8 hk8 hk9
        go_enter Tryd.func7, Tryd.ntmps7
        go_wp2_with fail
        go_at_call 24; refine (KVa.out _ _ _ ha).mono ?_; rintro e w9ha ⟨rfl, rfl⟩
        go_wp2_with fail
        go_at_call 24; refine (KVb.out _ _ _ hb).mono ?_; rintro e w9hb ⟨rfl, rfl⟩
        go_wp2_with fail
        go_at_call 24; refine (KVc.out _ _ _ hc).mono ?_; rintro e w9hc ⟨rfl, rfl⟩
        go_wp2_with fail
        go_at_call 21; refine (K1.out _ _ _ _ _ ha hb).mono ?_; rintro e w1 ⟨rfl, g1⟩
        replace F := F.trans g1
        replace ha := ha.on g1
        replace hb := hb.on g1
        replace hc := hc.on g1
        clear g1
        go_wp2_with fail
        go_at_call 21; refine (K2.out _ _ _ _ _ hb ha).mono ?_; rintro e w2 ⟨rfl, g2⟩
        replace F := F.trans g2
        replace ha := ha.on g2
        replace hb := hb.on g2
        replace hc := hc.on g2
        clear g2
        go_wp2_with fail
        go_at_call 18; refine (KS.out _ _ _ _ _ ha hb).mono ?_; rintro e w3 ⟨rfl, g3⟩
        replace F := F.trans g3
        replace ha := ha.on g3
        replace hb := hb.on g3
        replace hc := hc.on g3
        clear g3
        go_wp2_with fail
        go_at_call 19; refine (K3.out _ _ _ _ _ hb ha).mono ?_; rintro e w4 ⟨p4, q4, rfl, hd, g4⟩
        replace F := F.trans g4
        replace ha := ha.on g4
        replace hb := hb.on g4
        replace hc := hc.on g4
        clear g4
        clear hd
        go_wp2_with fail
        go_at_call 12; refine (K6.out _ _ _ _ _ ha hc).mono ?_; rintro e w5 ⟨p5, q5, rfl, hx, g5⟩
        replace F := F.trans g5
        replace ha := ha.on g5
        replace hb := hb.on g5
        replace hc := hc.on g5
        clear g5
        go_wp2_with fail
        go_at_call 12; refine (K7.out _ _ _ _ _ hb hc).mono ?_; rintro e w6 ⟨p6, q6, rfl, hy, g6⟩
        replace F := F.trans g6
        replace ha := ha.on g6
        replace hb := hb.on g6
        replace hc := hc.on g6
        replace hx := hx.on g6
        clear g6
        go_wp2_with fail
        go_at_call 21; refine (K8.out _ _ _ _ _ hx hy).mono ?_; rintro e w7 ⟨rfl, g7⟩
        replace F := F.trans g7
        replace ha := ha.on g7
        replace hb := hb.on g7
        replace hc := hc.on g7
        replace hx := hx.on g7
        replace hy := hy.on g7
        clear g7
        go_wp2_with fail
        go_at_call 11; refine (alive_any _ (GD.on F)).mono ?_; rintro e w8 ⟨rfl, g8⟩
        replace F := F.trans g8
        replace ha := ha.on g8
        replace hb := hb.on g8
        replace hc := hc.on g8
        replace hx := hx.on g8
        replace hy := hy.on g8
        clear g8
        go_wp2
        go_ret
        exact ⟨rfl, F⟩
end Go.Proofs.YtebmkbfbfmnbbaaDoor
