/-
  For every slice of int, every int and every string, the law NatBack of package nat returns true: Parse inverts Text, Text inverts Parse, and Small inverts Of (valid numbers, strings of at most 700 bytes; others are passed over by the law itself). The walk alone; in any world; nothing that was there turns. Condition: in the world at the call the listed variable reads as laid (Good).
-/
import Derived.Test.YtebmkbfbfmnbbaaDoorNatLawM
namespace Go.Proofs.YtebmkbfbfmnbbaaDoor
open Go.RowKit

theorem dec_len : ∀ (k n : Nat), n < 10 ^ (k + 1) → (Lib.decDigits n).length ≤ k + 1
  | 0, n, h => by rw [Lib.decDigits_one (by simpa using h)]; exact Nat.le_refl _
  | k + 1, n, h => by
    rw [Lib.decDigits]
    split
    · simp
    · rw [List.length_append, List.length_singleton]
      have := dec_len k (n / 10) (by rw [Nat.pow_succ] at h; omega)
      omega
theorem dec_lim (e : Nat) (he : 9 * 64 = e) {n : Nat} (h : n < 1000000000 ^ 64) : (Lib.decDigits n).length ≤ e := by
  rw [pow9, he] at h
  obtain ⟨k, rfl⟩ : ∃ k, e = k + 1 := ⟨e - 1, by omega⟩
  exact dec_len k n h
theorem dv_lim (e : Nat) (he : 9 * 64 = e) {l : List UInt8} (h : AllD l) (hl : l.length ≤ e) : dv l < 1000000000 ^ 64 := by
  rw [pow9, he]
  exact Nat.lt_of_lt_of_le (dv_lt h) (Nat.pow_le_pow_right (by decide) hl)
theorem txt_list (n : Nat) : (natTxt n).data.toList = Lib.decDigits n := by unfold natTxt; simp
theorem txt_size {n : Nat} (h : n < 1000000000 ^ 64) : (natTxt n).size ≤ 576 := by
  have k := dec_lim 576 rfl h
  rw [← txt_list] at k
  have e : (natTxt n).data.toList.length = (natTxt n).size := Array.length_toList
  omega
theorem fits_txt {n : Nat} (h : n < 1000000000 ^ 64) : Fits (natTxt n).data.toList := by
  rw [txt_list]
  refine ⟨dec_ne n, dec_lim 576 rfl h, fun g => ?_, allD_dec n⟩
  have e := dec_head n g.2
  rw [e, Lib.decDigits_one (by decide)] at g
  exact absurd g.1 (by decide)
theorem par_txt {n : Nat} (h : n < 1000000000 ^ 64) : parL (natTxt n).data.toList = lim n ∧ parB (natTxt n).data.toList = true := by
  have k := par_t (fits_txt h)
  rw [txt_list, dv_dec] at k
  rw [txt_list]
  exact k
theorem par_back {s : ByteArray} (h : parB s.data.toList = true) : okL (parL s.data.toList) = true ∧ natTxt (nv (parL s.data.toList)) = s := by
  classical
  have hf : Fits s.data.toList := by
    unfold parB at h
    exact of_decide_eq_true h
  have hv := dv_lim 576 rfl hf.2.2.2 hf.2.1
  rw [(par_t hf).1]
  refine ⟨okL_lim hv, ?_⟩
  rw [nv_lim hv]
  apply ByteArray.ext
  apply Array.toList_inj.1
  rw [txt_list, dec_of hf.2.2.2 hf.1 hf.2.2.1]

set_option maxHeartbeats 6400000 in
set_option maxRecDepth 100000 in
theorem back_walk (ao : Option Addr) (a : List Int) (ca : Nat) (n : Int) (h0 : -9223372036854775808 ≤ n) (h1 : n ≤ 9223372036854775807) (s : ByteArray) (hs : s.size ≤ maxLen) (w : World) (ha : IsS w ao a ca) (GD : Good w) :
    Calls Tryd.prog 9 #[.slice ao a.length ca, .int .i64 n, .string s] w (RetB w true) := by
  have F := Fur.refl w
  have hmx2 : s.size ≤ 9223372036854775807 := by unfold maxLen at hs; omega
  have kva := fun (w : World) (ao : Option Addr) (ca : Nat) (h : IsS w ao a ca) => valid_any ao a ca w h
  cases va : okL a
  · rw [va] at kva
    have KVa := Lib.hid kva
    clear kva va
    go_enter Tryd.func9, Tryd.ntmps9
    go_wp2_with fail
    go_at_call 24; refine (KVa.out _ _ _ ha).mono ?_; rintro e w9ha ⟨rfl, rfl⟩
    go_wp2_with fail
    go_at_call 11; refine (alive_any _ (GD.on F)).mono ?_; rintro e w1 ⟨rfl, g1⟩
    replace F := F.trans g1
    replace ha := ha.on g1
    clear g1
    go_wp2
    go_ret
    exact ⟨rfl, F⟩
  by_cases hl : 700 < s.size
  · rw [va] at kva
    have KVa := Lib.hid kva
    clear kva va
    go_enter Tryd.func9, Tryd.ntmps9
    go_wp2_with fail
    go_at_call 24; refine (KVa.out _ _ _ ha).mono ?_; rintro e w9ha ⟨rfl, rfl⟩
    go_wp2_with fail
    go_at_call 11; refine (alive_any _ (GD.on F)).mono ?_; rintro e w1 ⟨rfl, g1⟩
    replace F := F.trans g1
    replace ha := ha.on g1
    clear g1
    go_wp2
    go_ret
    exact ⟨rfl, F⟩
  have hl' : s.size ≤ 700 := by omega
  have hA := nv_lt a
  have k1 := fun (w : World) (ao : Option Addr) (ca : Nat) (g : IsS w ao a ca) (gd : Good w) => nat_text ao a ca w g gd
  have k2 := fun (w : World) => nat_parse (natTxt (nv a)) (by have := txt_size hA; unfold maxLen; omega) w
  simp only [(par_txt hA).1, (par_txt hA).2, lim_nv va] at k2
  generalize natTxt (nv a) = T at k1 k2
  have k3 := fun (w : World) => nat_parse s hs w
  have k4 := fun (w : World) => nat_of n h0 h1 w
  have hN3 : n.toNat < 1000000000 ^ 3 := by
    have e : (1000000000 : Nat) ^ 3 = 1000000000000000000000000000 := by decide
    omega
  have hN : n.toNat < 1000000000 ^ 64 := Nat.lt_of_lt_of_le hN3 (Nat.pow_le_pow_right (by decide) (by decide))
  have hnl := nv_lim hN
  generalize lim n.toNat = O at k4 hnl
  have k5 := fun (w : World) (ao : Option Addr) (ca : Nat) (g : IsS w ao O ca) => nat_small ao O ca w g
  have e1 : smallV n.toNat = ((n.toNat : Nat) : Int) := by unfold smallV; rw [if_pos (by omega)]
  have e2 : smallB n.toNat = true := decide_eq_true (by omega)
  simp only [hnl, e1, e2] at k5
  obtain ⟨m, hm⟩ : ∃ m : Int, ((n.toNat : Nat) : Int) = m := ⟨_, rfl⟩
  simp only [hm] at k5
  have hm2 : (n < 0 ∧ m = 0) ∨ (n = 0 ∧ m = 0) ∨ (0 < n ∧ m = n) := by omega
  have K1 := Lib.hid k1; have K2 := Lib.hid k2; have K4 := Lib.hid k4; have K5 := Lib.hid k5
  have hback := par_back (s := s)
  generalize parL s.data.toList = Y at k3 hback
  generalize parB s.data.toList = Y2 at k3 hback
  have K3 := Lib.hid k3
  clear k1 k2 k3 k4 k5 e1 e2 hN hN3 hnl hA hm hl
  rw [va] at kva
  have KVa := Lib.hid kva
  clear kva va
  cases Y2
  · clear hback
    rcases hm2 with ⟨hn, rfl⟩ | ⟨rfl, rfl⟩ | ⟨hn, rfl⟩
    · have hmx3 : max n 0 = 0 := by omega
      go_enter Tryd.func9, Tryd.ntmps9
      go_wp2_with fail
      go_at_call 24; refine (KVa.out _ _ _ ha).mono ?_; rintro e w9ha ⟨rfl, rfl⟩
      go_wp2_with fail
      go_at_call 29; refine (K1.out _ _ _ ha (GD.on F)).mono ?_; rintro e w1 ⟨rfl, g1⟩
      replace F := F.trans g1
      replace ha := ha.on g1
      clear g1
      go_wp2_with fail
      go_at_call 27; refine (K2.out _).mono ?_; rintro e w2 ⟨p2, q2, rfl, hx, g2⟩
      replace F := F.trans g2
      replace ha := ha.on g2
      clear g2
      go_wp2_with fail
      go_at_call 27; refine (K3.out _).mono ?_; rintro e w3 ⟨p3, q3, rfl, hy, g3⟩
      replace F := F.trans g3
      replace ha := ha.on g3
      replace hx := hx.on g3
      clear g3
      go_wp2_with fail
      go_at_call 31; refine (K4.out _).mono ?_; rintro e w4 ⟨p4, q4, rfl, hz, g4⟩
      replace F := F.trans g4
      replace ha := ha.on g4
      replace hx := hx.on g4
      replace hy := hy.on g4
      clear g4
      go_wp2_with fail
      go_at_call 16; refine (K5.out _ _ _ hz).mono ?_; rintro e w5 ⟨rfl, g5⟩
      replace F := F.trans g5
      replace ha := ha.on g5
      replace hx := hx.on g5
      replace hy := hy.on g5
      replace hz := hz.on g5
      clear g5
      go_wp2_with fail
      go_at_call 18; refine (same_refl _ _ _ _ _ _ hx ha).mono ?_; rintro e w6 ⟨rfl, g6⟩
      replace F := F.trans g6
      replace ha := ha.on g6
      replace hx := hx.on g6
      replace hy := hy.on g6
      replace hz := hz.on g6
      clear g6
      go_wp2_with fail
      go_at_call 11; refine (alive_any _ (GD.on F)).mono ?_; rintro e w7 ⟨rfl, g7⟩
      replace F := F.trans g7
      replace ha := ha.on g7
      replace hx := hx.on g7
      replace hy := hy.on g7
      replace hz := hz.on g7
      clear g7
      go_wp2
      go_ret
      exact ⟨rfl, F⟩
    · go_enter Tryd.func9, Tryd.ntmps9
      go_wp2_with fail
      go_at_call 24; refine (KVa.out _ _ _ ha).mono ?_; rintro e w9ha ⟨rfl, rfl⟩
      go_wp2_with fail
      go_at_call 29; refine (K1.out _ _ _ ha (GD.on F)).mono ?_; rintro e w1 ⟨rfl, g1⟩
      replace F := F.trans g1
      replace ha := ha.on g1
      clear g1
      go_wp2_with fail
      go_at_call 27; refine (K2.out _).mono ?_; rintro e w2 ⟨p2, q2, rfl, hx, g2⟩
      replace F := F.trans g2
      replace ha := ha.on g2
      clear g2
      go_wp2_with fail
      go_at_call 27; refine (K3.out _).mono ?_; rintro e w3 ⟨p3, q3, rfl, hy, g3⟩
      replace F := F.trans g3
      replace ha := ha.on g3
      replace hx := hx.on g3
      clear g3
      go_wp2_with fail
      go_at_call 31; refine (K4.out _).mono ?_; rintro e w4 ⟨p4, q4, rfl, hz, g4⟩
      replace F := F.trans g4
      replace ha := ha.on g4
      replace hx := hx.on g4
      replace hy := hy.on g4
      clear g4
      go_wp2_with fail
      go_at_call 16; refine (K5.out _ _ _ hz).mono ?_; rintro e w5 ⟨rfl, g5⟩
      replace F := F.trans g5
      replace ha := ha.on g5
      replace hx := hx.on g5
      replace hy := hy.on g5
      replace hz := hz.on g5
      clear g5
      go_wp2_with fail
      go_at_call 18; refine (same_refl _ _ _ _ _ _ hx ha).mono ?_; rintro e w6 ⟨rfl, g6⟩
      replace F := F.trans g6
      replace ha := ha.on g6
      replace hx := hx.on g6
      replace hy := hy.on g6
      replace hz := hz.on g6
      clear g6
      go_wp2_with fail
      go_at_call 11; refine (alive_any _ (GD.on F)).mono ?_; rintro e w7 ⟨rfl, g7⟩
      replace F := F.trans g7
      replace ha := ha.on g7
      replace hx := hx.on g7
      replace hy := hy.on g7
      replace hz := hz.on g7
      clear g7
      go_wp2
      go_ret
      exact ⟨rfl, F⟩
    · have hmx3 : max m 0 = m := by omega
      go_enter Tryd.func9, Tryd.ntmps9
      go_wp2_with fail
      go_at_call 24; refine (KVa.out _ _ _ ha).mono ?_; rintro e w9ha ⟨rfl, rfl⟩
      go_wp2_with fail
      go_at_call 29; refine (K1.out _ _ _ ha (GD.on F)).mono ?_; rintro e w1 ⟨rfl, g1⟩
      replace F := F.trans g1
      replace ha := ha.on g1
      clear g1
      go_wp2_with fail
      go_at_call 27; refine (K2.out _).mono ?_; rintro e w2 ⟨p2, q2, rfl, hx, g2⟩
      replace F := F.trans g2
      replace ha := ha.on g2
      clear g2
      go_wp2_with fail
      go_at_call 27; refine (K3.out _).mono ?_; rintro e w3 ⟨p3, q3, rfl, hy, g3⟩
      replace F := F.trans g3
      replace ha := ha.on g3
      replace hx := hx.on g3
      clear g3
      go_wp2_with fail
      go_at_call 31; refine (K4.out _).mono ?_; rintro e w4 ⟨p4, q4, rfl, hz, g4⟩
      replace F := F.trans g4
      replace ha := ha.on g4
      replace hx := hx.on g4
      replace hy := hy.on g4
      clear g4
      go_wp2_with fail
      go_at_call 16; refine (K5.out _ _ _ hz).mono ?_; rintro e w5 ⟨rfl, g5⟩
      replace F := F.trans g5
      replace ha := ha.on g5
      replace hx := hx.on g5
      replace hy := hy.on g5
      replace hz := hz.on g5
      clear g5
      go_wp2_with fail
      go_at_call 18; refine (same_refl _ _ _ _ _ _ hx ha).mono ?_; rintro e w6 ⟨rfl, g6⟩
      replace F := F.trans g6
      replace ha := ha.on g6
      replace hx := hx.on g6
      replace hy := hy.on g6
      replace hz := hz.on g6
      clear g6
      go_wp2_with fail
      go_at_call 11; refine (alive_any _ (GD.on F)).mono ?_; rintro e w7 ⟨rfl, g7⟩
      replace F := F.trans g7
      replace ha := ha.on g7
      replace hx := hx.on g7
      replace hy := hy.on g7
      replace hz := hz.on g7
      clear g7
      go_wp2
      go_ret
      exact ⟨rfl, F⟩
  · obtain ⟨q1, q2⟩ := hback rfl
    have k6 := fun (w : World) (ao : Option Addr) (ca : Nat) (g : IsS w ao Y ca) (gd : Good w) => nat_text ao Y ca w g gd
    have k7 := fun (w : World) (ao : Option Addr) (ca : Nat) (g : IsS w ao Y ca) => nat_valid ao Y ca w g
    simp only [q2] at k6
    simp only [q1] at k7
    have K6 := Lib.hid k6; have K7 := Lib.hid k7
    clear k6 k7 q1 q2 hback
    rcases hm2 with ⟨hn, rfl⟩ | ⟨rfl, rfl⟩ | ⟨hn, rfl⟩
    · have hmx3 : max n 0 = 0 := by omega
      go_enter Tryd.func9, Tryd.ntmps9
      go_wp2_with fail
      go_at_call 24; refine (KVa.out _ _ _ ha).mono ?_; rintro e w9ha ⟨rfl, rfl⟩
      go_wp2_with fail
      go_at_call 29; refine (K1.out _ _ _ ha (GD.on F)).mono ?_; rintro e w1 ⟨rfl, g1⟩
      replace F := F.trans g1
      replace ha := ha.on g1
      clear g1
      go_wp2_with fail
      go_at_call 27; refine (K2.out _).mono ?_; rintro e w2 ⟨p2, q2, rfl, hx, g2⟩
      replace F := F.trans g2
      replace ha := ha.on g2
      clear g2
      go_wp2_with fail
      go_at_call 27; refine (K3.out _).mono ?_; rintro e w3 ⟨p3, q3, rfl, hy, g3⟩
      replace F := F.trans g3
      replace ha := ha.on g3
      replace hx := hx.on g3
      clear g3
      go_wp2_with fail
      go_at_call 31; refine (K4.out _).mono ?_; rintro e w4 ⟨p4, q4, rfl, hz, g4⟩
      replace F := F.trans g4
      replace ha := ha.on g4
      replace hx := hx.on g4
      replace hy := hy.on g4
      clear g4
      go_wp2_with fail
      go_at_call 16; refine (K5.out _ _ _ hz).mono ?_; rintro e w5 ⟨rfl, g5⟩
      replace F := F.trans g5
      replace ha := ha.on g5
      replace hx := hx.on g5
      replace hy := hy.on g5
      replace hz := hz.on g5
      clear g5
      go_wp2_with fail
      go_at_call 18; refine (same_refl _ _ _ _ _ _ hx ha).mono ?_; rintro e w6 ⟨rfl, g6⟩
      replace F := F.trans g6
      replace ha := ha.on g6
      replace hx := hx.on g6
      replace hy := hy.on g6
      replace hz := hz.on g6
      clear g6
      go_wp2_with fail
      go_at_call 29; refine (K6.out _ _ _ hy (GD.on F)).mono ?_; rintro e w7 ⟨rfl, g7⟩
      replace F := F.trans g7
      replace ha := ha.on g7
      replace hx := hx.on g7
      replace hy := hy.on g7
      replace hz := hz.on g7
      clear g7
      go_wp2_with fail
      go_at_call 23; refine (K7.out _ _ _ hy).mono ?_; rintro e w8 ⟨rfl, g8⟩
      replace F := F.trans g8
      replace ha := ha.on g8
      replace hx := hx.on g8
      replace hy := hy.on g8
      replace hz := hz.on g8
      clear g8
      go_wp2_with fail
      go_at_call 11; refine (alive_any _ (GD.on F)).mono ?_; rintro e w9 ⟨rfl, g9⟩
      replace F := F.trans g9
      replace ha := ha.on g9
      replace hx := hx.on g9
      replace hy := hy.on g9
      replace hz := hz.on g9
      clear g9
      go_wp2
      go_ret
      exact ⟨rfl, F⟩
    · go_enter Tryd.func9, Tryd.ntmps9
      go_wp2_with fail
      go_at_call 24; refine (KVa.out _ _ _ ha).mono ?_; rintro e w9ha ⟨rfl, rfl⟩
      go_wp2_with fail
      go_at_call 29; refine (K1.out _ _ _ ha (GD.on F)).mono ?_; rintro e w1 ⟨rfl, g1⟩
      replace F := F.trans g1
      replace ha := ha.on g1
      clear g1
      go_wp2_with fail
      go_at_call 27; refine (K2.out _).mono ?_; rintro e w2 ⟨p2, q2, rfl, hx, g2⟩
      replace F := F.trans g2
      replace ha := ha.on g2
      clear g2
      go_wp2_with fail
      go_at_call 27; refine (K3.out _).mono ?_; rintro e w3 ⟨p3, q3, rfl, hy, g3⟩
      replace F := F.trans g3
      replace ha := ha.on g3
      replace hx := hx.on g3
      clear g3
      go_wp2_with fail
      go_at_call 31; refine (K4.out _).mono ?_; rintro e w4 ⟨p4, q4, rfl, hz, g4⟩
      replace F := F.trans g4
      replace ha := ha.on g4
      replace hx := hx.on g4
      replace hy := hy.on g4
      clear g4
      go_wp2_with fail
      go_at_call 16; refine (K5.out _ _ _ hz).mono ?_; rintro e w5 ⟨rfl, g5⟩
      replace F := F.trans g5
      replace ha := ha.on g5
      replace hx := hx.on g5
      replace hy := hy.on g5
      replace hz := hz.on g5
      clear g5
      go_wp2_with fail
      go_at_call 18; refine (same_refl _ _ _ _ _ _ hx ha).mono ?_; rintro e w6 ⟨rfl, g6⟩
      replace F := F.trans g6
      replace ha := ha.on g6
      replace hx := hx.on g6
      replace hy := hy.on g6
      replace hz := hz.on g6
      clear g6
      go_wp2_with fail
      go_at_call 29; refine (K6.out _ _ _ hy (GD.on F)).mono ?_; rintro e w7 ⟨rfl, g7⟩
      replace F := F.trans g7
      replace ha := ha.on g7
      replace hx := hx.on g7
      replace hy := hy.on g7
      replace hz := hz.on g7
      clear g7
      go_wp2_with fail
      go_at_call 23; refine (K7.out _ _ _ hy).mono ?_; rintro e w8 ⟨rfl, g8⟩
      replace F := F.trans g8
      replace ha := ha.on g8
      replace hx := hx.on g8
      replace hy := hy.on g8
      replace hz := hz.on g8
      clear g8
      go_wp2_with fail
      go_at_call 11; refine (alive_any _ (GD.on F)).mono ?_; rintro e w9 ⟨rfl, g9⟩
      replace F := F.trans g9
      replace ha := ha.on g9
      replace hx := hx.on g9
      replace hy := hy.on g9
      replace hz := hz.on g9
      clear g9
      go_wp2
      go_ret
      exact ⟨rfl, F⟩
    · have hmx3 : max m 0 = m := by omega
      go_enter Tryd.func9, Tryd.ntmps9
      go_wp2_with fail
      go_at_call 24; refine (KVa.out _ _ _ ha).mono ?_; rintro e w9ha ⟨rfl, rfl⟩
      go_wp2_with fail
      go_at_call 29; refine (K1.out _ _ _ ha (GD.on F)).mono ?_; rintro e w1 ⟨rfl, g1⟩
      replace F := F.trans g1
      replace ha := ha.on g1
      clear g1
      go_wp2_with fail
      go_at_call 27; refine (K2.out _).mono ?_; rintro e w2 ⟨p2, q2, rfl, hx, g2⟩
      replace F := F.trans g2
      replace ha := ha.on g2
      clear g2
      go_wp2_with fail
      go_at_call 27; refine (K3.out _).mono ?_; rintro e w3 ⟨p3, q3, rfl, hy, g3⟩
      replace F := F.trans g3
      replace ha := ha.on g3
      replace hx := hx.on g3
      clear g3
      go_wp2_with fail
      go_at_call 31; refine (K4.out _).mono ?_; rintro e w4 ⟨p4, q4, rfl, hz, g4⟩
      replace F := F.trans g4
      replace ha := ha.on g4
      replace hx := hx.on g4
      replace hy := hy.on g4
      clear g4
      go_wp2_with fail
      go_at_call 16; refine (K5.out _ _ _ hz).mono ?_; rintro e w5 ⟨rfl, g5⟩
      replace F := F.trans g5
      replace ha := ha.on g5
      replace hx := hx.on g5
      replace hy := hy.on g5
      replace hz := hz.on g5
      clear g5
      go_wp2_with fail
      go_at_call 18; refine (same_refl _ _ _ _ _ _ hx ha).mono ?_; rintro e w6 ⟨rfl, g6⟩
      replace F := F.trans g6
      replace ha := ha.on g6
      replace hx := hx.on g6
      replace hy := hy.on g6
      replace hz := hz.on g6
      clear g6
      go_wp2_with fail
      go_at_call 29; refine (K6.out _ _ _ hy (GD.on F)).mono ?_; rintro e w7 ⟨rfl, g7⟩
      replace F := F.trans g7
      replace ha := ha.on g7
      replace hx := hx.on g7
      replace hy := hy.on g7
      replace hz := hz.on g7
      clear g7
      go_wp2_with fail
      go_at_call 23; refine (K7.out _ _ _ hy).mono ?_; rintro e w8 ⟨rfl, g8⟩
      replace F := F.trans g8
      replace ha := ha.on g8
      replace hx := hx.on g8
      replace hy := hy.on g8
      replace hz := hz.on g8
      clear g8
      go_wp2_with fail
      go_at_call 11; refine (alive_any _ (GD.on F)).mono ?_; rintro e w9 ⟨rfl, g9⟩
      replace F := F.trans g9
      replace ha := ha.on g9
      replace hx := hx.on g9
      replace hy := hy.on g9
      replace hz := hz.on g9
      clear g9
      go_wp2
      go_ret
      exact ⟨rfl, F⟩
end Go.Proofs.YtebmkbfbfmnbbaaDoor
