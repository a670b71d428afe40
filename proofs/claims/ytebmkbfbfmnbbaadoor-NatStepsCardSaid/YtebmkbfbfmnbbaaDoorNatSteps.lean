/-
  For every slice of int and every int, the law NatSteps of package nat returns true: a power with the next exponent is the power times the base (valid bases, exponents from 0 to 700; others are passed over by the law itself). The walk alone; in any world; nothing that was there turns. Condition: in the world at the call the listed variable reads as laid (Good).
-/
import Derived.Test.YtebmkbfbfmnbbaaDoorNatLawM
namespace Go.Proofs.YtebmkbfbfmnbbaaDoor
open Go.RowKit

theorem pow_up {A K : Nat} (h : bdB (lim (A ^ K)) = false) : bdB (lim (A ^ (K + 1))) = false := by
  have g : 1000000000 ^ 64 ≤ A ^ K := by
    rcases Nat.lt_or_ge (A ^ K) (1000000000 ^ 64) with g | g
    · rw [bdB_mk g] at h; cases h
    · exact g
  have hA : 1 ≤ A := by
    rcases Nat.eq_zero_or_pos A with e | e
    · exfalso
      rw [e] at g
      rcases Nat.eq_zero_or_pos K with e2 | e2
      · rw [e2, Nat.pow_zero] at g
        exact absurd g (Nat.not_le.2 (Nat.one_lt_pow (by decide) (by decide)))
      · rw [Nat.zero_pow e2] at g
        exact absurd g (Nat.not_le.2 (Nat.pow_pos (by decide)))
    · exact e
  exact (bd_no (Nat.le_trans g (Nat.pow_le_pow_right hA (Nat.le_succ K)))).2
theorem powL_at (A K : Nat) : powL A (K : Int) = bdL (lim (A ^ K)) ∧ powB A (K : Int) = bdB (lim (A ^ K)) := by
  constructor
  · unfold powL; rw [if_neg (by omega)]; rfl
  · unfold powB; rw [if_neg (by omega)]; rfl
theorem powL_next (A K : Nat) : powL A ((K : Int) + 1) = bdL (lim (A ^ (K + 1))) ∧ powB A ((K : Int) + 1) = bdB (lim (A ^ (K + 1))) := by
  have e : (K : Int) + 1 = ((K + 1 : Nat) : Int) := by omega
  rw [e]
  exact powL_at A (K + 1)

set_option maxHeartbeats 3200000 in
set_option maxRecDepth 100000 in
theorem steps_walk (ao : Option Addr) (a : List Int) (ca : Nat) (k : Int) (h0 : -9223372036854775808 ≤ k) (h1 : k ≤ 9223372036854775807) (w : World) (ha : IsS w ao a ca) (GD : Good w) :
    Calls Tryd.prog 8 #[.slice ao a.length ca, .int .i64 k] w (RetB w true) := by
  have F := Fur.refl w
  have kva := fun (w : World) (ao : Option Addr) (ca : Nat) (h : IsS w ao a ca) => valid_any ao a ca w h
  cases va : okL a
  · rw [va] at kva
    have KVa := Lib.hid kva
    clear kva va
    go_enter Tryd.func8, Tryd.ntmps8
    go_wp2_with fail
    go_at_call 24; refine (KVa.out _ _ _ ha).mono ?_; rintro e w9ha ⟨rfl, rfl⟩
    go_wp2_with fail
    go_at_call 11; refine (alive_any _ (GD.on F)).mono ?_; rintro e w1 ⟨rfl, g1⟩
    replace F := F.trans g1
    replace ha := ha.on g1
    clear g1
    go_wp2
    go_ret
    exact ⟨rfl, F⟩
  by_cases hk : k < 0
  · rw [va] at kva
    have KVa := Lib.hid kva
    clear kva va
    go_enter Tryd.func8, Tryd.ntmps8
    go_wp2_with fail
    go_at_call 24; refine (KVa.out _ _ _ ha).mono ?_; rintro e w9ha ⟨rfl, rfl⟩
    go_wp2_with fail
    go_at_call 11; refine (alive_any _ (GD.on F)).mono ?_; rintro e w1 ⟨rfl, g1⟩
    replace F := F.trans g1
    replace ha := ha.on g1
    clear g1
    go_wp2
    go_ret
    exact ⟨rfl, F⟩
  by_cases hk7 : 700 < k
  · have hk' : 0 ≤ k := by omega
    clear hk
    rw [va] at kva
    have KVa := Lib.hid kva
    clear kva va
    go_enter Tryd.func8, Tryd.ntmps8
    go_wp2_with fail
    go_at_call 24; refine (KVa.out _ _ _ ha).mono ?_; rintro e w9ha ⟨rfl, rfl⟩
    go_wp2_with fail
    go_at_call 11; refine (alive_any _ (GD.on F)).mono ?_; rintro e w1 ⟨rfl, g1⟩
    replace F := F.trans g1
    replace ha := ha.on g1
    clear g1
    go_wp2
    go_ret
    exact ⟨rfl, F⟩
  obtain ⟨K, rfl⟩ : ∃ K : Nat, k = (K : Int) := ⟨k.toNat, by omega⟩
  have hK : (K : Int) ≤ 700 := by omega
  rw [va] at kva
  have KVa := Lib.hid kva
  clear kva va hk hk7
  have k1 := fun (w : World) (ao : Option Addr) (ca : Nat) (g : IsS w ao a ca) => nat_pow ao a ca (K : Int) h0 h1 w g
  have k2 := fun (w : World) (ao : Option Addr) (ca : Nat) (g : IsS w ao a ca) => nat_pow ao a ca ((K : Int) + 1) (by omega) (by omega) w g
  simp only [(powL_at (nv a) K).1, (powL_at (nv a) K).2] at k1
  simp only [(powL_next (nv a) K).1, (powL_next (nv a) K).2] at k2
  cases hO : bdB (lim (nv a ^ K))
  · simp only [hO] at k1
    simp only [pow_up hO] at k2
    generalize bdL (lim (nv a ^ K)) = X at k1
    generalize bdL (lim (nv a ^ (K + 1))) = Y at k2
    have K1 := Lib.hid k1; have K2 := Lib.hid k2
    clear k1 k2 hO
    go_enter Tryd.func8, Tryd.ntmps8
    go_wp2_with fail
    go_at_call 24; refine (KVa.out _ _ _ ha).mono ?_; rintro e w9ha ⟨rfl, rfl⟩
    go_wp2_with fail
    go_at_call 25; refine (K1.out _ _ _ ha).mono ?_; rintro e w1 ⟨p1, q1, rfl, hx, g1⟩
    replace F := F.trans g1
    replace ha := ha.on g1
    clear g1
    go_wp2_with fail
    go_at_call 25; refine (K2.out _ _ _ ha).mono ?_; rintro e w2 ⟨p2, q2, rfl, hy, g2⟩
    replace F := F.trans g2
    replace ha := ha.on g2
    replace hx := hx.on g2
    clear g2
    go_wp2_with fail
    go_at_call 11; refine (alive_any _ (GD.on F)).mono ?_; rintro e w3 ⟨rfl, g3⟩
    replace F := F.trans g3
    replace ha := ha.on g3
    replace hx := hx.on g3
    replace hy := hy.on g3
    clear g3
    go_wp2
    go_ret
    exact ⟨rfl, F⟩
  · have hn := nv_bd hO
    simp only [hO] at k1
    generalize bdL (lim (nv a ^ K)) = X at k1 hn
    have k3 := fun (w : World) (ao bo : Option Addr) (ca cb : Nat) (h1 : IsS w ao X ca) (h2 : IsS w bo a cb) => nat_mul ao bo X a ca cb w h1 h2
    simp only [hn, ← Nat.pow_succ] at k3
    generalize bdL (lim (nv a ^ (K + 1))) = Y at k2 k3
    generalize bdB (lim (nv a ^ (K + 1))) = Y2 at k2 k3
    have K1 := Lib.hid k1; have K2 := Lib.hid k2; have K3 := Lib.hid k3
    clear k1 k2 k3 hO hn
    go_enter Tryd.func8, Tryd.ntmps8
    go_wp2_with fail
    go_at_call 24; refine (KVa.out _ _ _ ha).mono ?_; rintro e w9ha ⟨rfl, rfl⟩
    go_wp2_with fail
    go_at_call 25; refine (K1.out _ _ _ ha).mono ?_; rintro e w1 ⟨p1, q1, rfl, hx, g1⟩
    replace F := F.trans g1
    replace ha := ha.on g1
    clear g1
    go_wp2_with fail
    go_at_call 25; refine (K2.out _ _ _ ha).mono ?_; rintro e w2 ⟨p2, q2, rfl, hy, g2⟩
    replace F := F.trans g2
    replace ha := ha.on g2
    replace hx := hx.on g2
    clear g2
    go_wp2_with fail
    go_at_call 14; refine (K3.out _ _ _ _ _ hx ha).mono ?_; rintro e w3 ⟨p3, q3, rfl, hz, g3⟩
    replace F := F.trans g3
    replace ha := ha.on g3
    replace hx := hx.on g3
    replace hy := hy.on g3
    clear g3
    go_wp2_with fail
    go_at_call 18; refine (same_refl _ _ _ _ _ _ hy hz).mono ?_; rintro e w4 ⟨rfl, g4⟩
    replace F := F.trans g4
    replace ha := ha.on g4
    replace hx := hx.on g4
    replace hy := hy.on g4
    replace hz := hz.on g4
    clear g4
    go_wp2_with fail
    go_at_call 11; refine (alive_any _ (GD.on F)).mono ?_; rintro e w5 ⟨rfl, g5⟩
    replace F := F.trans g5
    replace ha := ha.on g5
    replace hx := hx.on g5
    replace hy := hy.on g5
    replace hz := hz.on g5
    clear g5
    go_wp2
    go_ret
    exact ⟨rfl, F⟩
end Go.Proofs.YtebmkbfbfmnbbaaDoor
