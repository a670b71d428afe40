/-
  The reference of package codec: what Uint, Int and Str return, for all bytes and offsets: the same as package codec's; nothing turns.
-/
import Derived.Test.YtehmdeponbhhjaaDoorCdB
namespace Go.Proofs.YtehmdeponbhhjaaDoor
open Go.RowKit

/-- What reading a varint gives that is of any size and need not be minimal. -/
def nmV (l : List UInt8) : Nat × Nat × Nat :=
  if 10 ≤ lead l then (0, 0, 4)
  else if lead l = l.length then (0, 0, 3)
  else if lead l = 9 ∧ 1 < (l.getD 9 0).toNat then (0, 0, 4)
  else (gv (l.take (lead l + 1)), lead l + 1, 0)
theorem rdv_nm (most : Nat) (l : List UInt8) : rdv most l = if (nmV l).2.2 ≠ 0 then (0, 0, (nmV l).2.2) else if most < (nmV l).1 then (0, 0, 4) else if 0 < lead l ∧ (l.getD (lead l) 0).toNat = 0 then (0, 0, 2) else nmV l := by
  unfold rdv nmV
  by_cases h1 : 10 ≤ lead l
  · simp only [h1, if_true]; simp
  · by_cases h2 : lead l = l.length
    · rw [if_neg h1, if_pos h2, if_neg h1, if_pos h2]; rfl
    · by_cases h3 : lead l = 9 ∧ 1 < (l.getD 9 0).toNat
      · rw [if_neg h1, if_neg h2, if_pos h3, if_neg h1, if_neg h2, if_pos h3]; rfl
      · rw [if_neg h1, if_neg h2, if_neg h3, if_neg h1, if_neg h2, if_neg h3]; rfl
def numV (l : List UInt8) (at_ : Int) : Nat × Int × Int :=
  if at_ < 0 ∨ (l.length : Int) < at_ then (0, 0, 1)
  else ((nmV (l.drop at_.toNat)).1, (if (nmV (l.drop at_.toNat)).2.2 = 0 then at_ + (nmV (l.drop at_.toNat)).2.1 else 0), ((nmV (l.drop at_.toNat)).2.2 : Int))
theorem num_out {l : List UInt8} {a : Nat} {U : Nat} {E C : Int} (ha : a ≤ l.length) (h : numV l a = (U, E, C)) {u k c : Nat} (hr : nmV (l.drop a) = (u, k, c)) : (u : Int) = U ∧ ((if c = 0 then (a : Int) + k else 0) : Int) = E ∧ (c : Int) = C := by
  unfold numV at h
  rw [if_neg (by omega), Int.toNat_natCast, hr] at h
  simp only [Prod.mk.injEq] at h
  exact ⟨by rw [h.1], h.2.1, h.2.2⟩
theorem getD_drop (l : List UInt8) (a j : Nat) : (l.drop a).getD j 0 = l.getD (a + j) 0 := by
  rw [List.getD_eq_getElem?_getD, List.getD_eq_getElem?_getD, List.getElem?_drop]
theorem getD_take {l : List UInt8} {n j : Nat} (h : j < n) : (l.take n).getD j 0 = l.getD j 0 := by
  rw [List.getD_eq_getElem?_getD, List.getD_eq_getElem?_getD, List.getElem?_take_of_lt h]
/-- One group more, from behind. -/
theorem gv_back {l : List UInt8} {n j c u : Nat} (hn : n < l.length) (h64 : gv (l.take (n + 1)) < 18446744073709551616) (hj : j ≤ n) (hc : (l.getD j 0).toNat = c) (hu : u = gv ((l.take (n + 1)).drop (j + 1))) :
    u * 128 + c % 128 < 18446744073709551616 ∧ u * 128 + c % 128 = gv ((l.take (n + 1)).drop j) := by
  have hl : (l.take (n + 1)).length = n + 1 := by rw [List.length_take]; omega
  have e := gv_drop (l := l.take (n + 1)) (i := j) (by omega)
  rw [getD_take (by omega), hc, ← hu] at e
  have := gv_drop_le (l.take (n + 1)) j
  omega

set_option maxHeartbeats 8000000 in
set_option maxRecDepth 100000 in
theorem number_is (ao : Option Addr) (l : List UInt8) (cap : Nat) (at_ : Int) (h0 : -9223372036854775808 ≤ at_) (h1 : at_ ≤ 9223372036854775807) (w : World) (h : IsB w ao l cap) (hb47 : l.length ≤ 1000000000000)
    (U : Nat) (E C : Int) (hv : numV l at_ = (U, E, C)) :
    Calls Tryd.prog 66 #[.slice ao l.length cap, .int .i64 at_] w (Ret3 w .u64 U E C) := by
  by_cases hb1 : at_ < 0
  · have e : numV l at_ = (0, 0, 1) := if_pos (.inl hb1)
    rw [e] at hv
    obtain ⟨rfl, rfl, rfl⟩ : 0 = U ∧ 0 = E ∧ 1 = C := by simpa using hv
    clear e hv
    go_enter Tryd.func66, Tryd.ntmps66
    go_wp2
    go_ret3
    exact ⟨rfl, rfl⟩
  by_cases hb2 : (l.length : Int) < at_
  · have e : numV l at_ = (0, 0, 1) := if_pos (.inr hb2)
    rw [e] at hv
    obtain ⟨rfl, rfl, rfl⟩ : 0 = U ∧ 0 = E ∧ 1 = C := by simpa using hv
    clear e hv
    go_enter Tryd.func66, Tryd.ntmps66
    go_wp2
    go_ret3
    exact ⟨rfl, rfl⟩
  obtain ⟨a, rfl⟩ := Int.eq_ofNat_of_zero_le (show 0 ≤ at_ by omega)
  have ha : a ≤ l.length := by omega
  have HV := Lib.hid (fun u k c => num_out (u := u) (k := k) (c := c) ha hv)
  have hl2 : (l.drop a).length = l.length - a := List.length_drop ..
  have HG := Lib.hid (fun j => getD_drop l a j)
  have HLe := Lib.hid (lead_le (l.drop a))
  generalize l.drop a = l2 at *
  have HL := Lib.hid hl2
  have hld : (0 : Int) ≤ a ∧ (a : Int) ≤ l.length := by omega
  clear hb1 hb2 h0 h1 hv hl2
  have HI := Lib.hid h
  clear h
  go_enter Tryd.func66, Tryd.ntmps66
  go_wp2
  go_loop [7] (fun nn => ∃ n : Nat, nn = .int .i64 n ∧ n ≤ 10 ∧ a + n ≤ l.length ∧ Hid (n ≤ lead l2)) (fun nn => 20 - (RowKit.intOf nn).toNat)
  case atStart => exact ⟨0, rfl, by decide, by omega, Nat.zero_le _⟩
  case round =>
    obtain ⟨n, rfl, hn, hal, HD⟩ := hrel
    by_cases h10 : n = 10
    · subst h10
      have HR := Lib.hid (HV.out 0 0 4 (by unfold nmV; rw [if_pos HD.out]))
      clear HV
      go_wp2
      go_ret3
      exact ⟨ret_3 HR.out.1 HR.out.2.1 HR.out.2.2, rfl⟩
    have hn' : n ≤ 9 := by omega
    clear h10
    by_cases hend : a + n = l.length
    · have HR := Lib.hid (HV.out 0 0 3 (by
        have := HD.out; have := HLe.out; have := HL.out
        unfold nmV; rw [if_neg (by omega), if_pos (by omega)]))
      have hend' : ¬ ((a : Int) + n < l.length) := by omega
      clear HV hend
      go_wp2
      go_ret3
      exact ⟨ret_3 HR.out.1 HR.out.2.1 HR.out.2.2, rfl⟩
    have hlt : (a : Int) + n < l.length := by omega
    clear hend
    have HI2 := HI.out.at_ (by omega)
    obtain ⟨b, off, rfl, hb, hcc⟩ := HI2
    have hcn := hcc (a + n) (by omega)
    have HCC := Lib.hid hcc
    have hcl : (l.getD (a + n) 0).toNat < 256 := (l.getD (a + n) 0).toNat_lt
    obtain ⟨c, hc⟩ : ∃ c, (l.getD (a + n) 0).toNat = c := ⟨_, rfl⟩
    have HC := Lib.hid (show (l2.getD n 0).toNat = c by rw [HG.out, hc])
    rw [hc] at hcn hcl
    clear hcc hc
    by_cases h128 : 128 ≤ c
    · have HM := Lib.hid (lead_more l2 n HD.out (by have := HL.out; omega) (by rw [HC.out]; exact h128))
      go_wp2
      go_round
      case rel => exact ⟨n + 1, by go_num, by omega, by omega, HM.out⟩
      case measure => simp [RowKit.intOf]; omega
    · have HE := Lib.hid (lead_stop l2 n HD.out (by have := HL.out; omega) (by rw [HC.out]; omega))
      have hc0 : ¬ (128 ≤ (c : Int)) := by omega
      by_cases h9 : n = 9 ∧ 1 < c
      · have HR := Lib.hid (HV.out 0 0 4 (by
          have := HL.out; have := HE.out
          unfold nmV; rw [if_neg (by omega), if_neg (by omega), if_pos ⟨by omega, by rw [← h9.1, HC.out]; exact h9.2⟩]))
        obtain ⟨rfl, hc1⟩ := h9
        clear HV
        go_wp2
        go_ret3
        exact ⟨ret_3 HR.out.1 HR.out.2.1 HR.out.2.2, rfl⟩
      · have H64 := Lib.hid (gv_64 (l := l2) (n := n) (by omega) (by have := HL.out; omega) (by rintro ⟨rfl, g⟩; rw [HC.out] at g; exact h9 ⟨rfl, g⟩))
        have HR := Lib.hid (HV.out (gv (l2.take (n + 1))) (n + 1) 0 (by
          have := HL.out; have := HE.out
          unfold nmV
          rw [HE.out, if_neg (by omega), if_neg (by omega), if_neg (by rintro ⟨rfl, g⟩; rw [HC.out] at g; exact h9 ⟨rfl, g⟩)]))
        clear HV HD
        have HNL := Lib.hid (show n < l2.length by have := HL.out; omega)
        by_cases hx : n = 9
        · subst hx
          have hx1 : ¬ (1 < (c : Int)) := by omega
          clear h9
          go_wp2
          clear hcn
          go_loop [8, 9] (fun uu ii => ∃ u j : Nat, uu = .int .u64 u ∧ u < 18446744073709551616 ∧ ii = .int .i64 ((j : Int) - 1) ∧ j ≤ 9 + 1 ∧ Hid (u = gv ((l2.take (9 + 1)).drop j))) (fun _ ii => (RowKit.intOf ii + 1).toNat)
          case atStart => exact ⟨0, 9 + 1, rfl, by decide, by go_num, Nat.le_refl _, by rw [List.drop_of_length_le (by rw [List.length_take]; omega)]; rfl⟩
          case round =>
            obtain ⟨u, j, rfl, hu, rfl, hj, HU⟩ := hrel
            by_cases hj0 : j = 0
            · subst hj0
              have HF := Lib.hid (show (u : Int) = U by have := HR.out.1; rw [HU.out, List.drop_zero]; exact this)
              go_wp2
              go_ret3
              exact ⟨ret_3 HF.out (by have := HR.out.2.1; simp at this; omega) HR.out.2.2, rfl⟩
            · obtain ⟨i, rfl⟩ : ∃ i, j = i + 1 := ⟨j - 1, by omega⟩
              have hi : i ≤ 9 := by omega
              have hck := HCC.out (a + i) (by omega)
              have hdl : (l.getD (a + i) 0).toNat < 256 := (l.getD (a + i) 0).toNat_lt
              obtain ⟨d, hd⟩ : ∃ d, (l.getD (a + i) 0).toNat = d := ⟨_, rfl⟩
              have HB := Lib.hid (gv_back (c := d) HNL.out H64.out hi (by rw [HG.out, hd]) HU.out)
              rw [hd] at hck hdl
              have hov : (u : Int) * 128 + (d : Int) % 128 ≤ 18446744073709551615 := by have := HB.out.1; omega
              clear hd
              have hii : ((i + 1 : Nat) : Int) - 1 = (i : Int) := by omega
              rw [hii]
              clear hii
              go_wp2
              go_round
              case rel => exact ⟨u * 128 + d % 128, i, by go_num, HB.out.1, by go_num, by omega, HB.out.2⟩
              case measure => simp [RowKit.intOf]
        · have hx1 : ¬ (n : Int) = 9 := by omega
          clear h9 hx
          go_wp2
          clear hcn
          go_loop [8, 9] (fun uu ii => ∃ u j : Nat, uu = .int .u64 u ∧ u < 18446744073709551616 ∧ ii = .int .i64 ((j : Int) - 1) ∧ j ≤ n + 1 ∧ Hid (u = gv ((l2.take (n + 1)).drop j))) (fun _ ii => (RowKit.intOf ii + 1).toNat)
          case atStart => exact ⟨0, n + 1, rfl, by decide, by go_num, Nat.le_refl _, by rw [List.drop_of_length_le (by rw [List.length_take]; omega)]; rfl⟩
          case round =>
            obtain ⟨u, j, rfl, hu, rfl, hj, HU⟩ := hrel
            by_cases hj0 : j = 0
            · subst hj0
              have HF := Lib.hid (show (u : Int) = U by have := HR.out.1; rw [HU.out, List.drop_zero]; exact this)
              go_wp2
              go_ret3
              exact ⟨ret_3 HF.out (by have := HR.out.2.1; simp at this; omega) HR.out.2.2, rfl⟩
            · obtain ⟨i, rfl⟩ : ∃ i, j = i + 1 := ⟨j - 1, by omega⟩
              have hi : i ≤ n := by omega
              have hck := HCC.out (a + i) (by omega)
              have hdl : (l.getD (a + i) 0).toNat < 256 := (l.getD (a + i) 0).toNat_lt
              obtain ⟨d, hd⟩ : ∃ d, (l.getD (a + i) 0).toNat = d := ⟨_, rfl⟩
              have HB := Lib.hid (gv_back (c := d) HNL.out H64.out hi (by rw [HG.out, hd]) HU.out)
              rw [hd] at hck hdl
              have hov : (u : Int) * 128 + (d : Int) % 128 ≤ 18446744073709551615 := by have := HB.out.1; omega
              clear hd
              have hii : ((i + 1 : Nat) : Int) - 1 = (i : Int) := by omega
              rw [hii]
              clear hii
              go_wp2
              go_round
              case rel => exact ⟨u * 128 + d % 128, i, by go_num, HB.out.1, by go_num, by omega, HB.out.2⟩
              case measure => simp [RowKit.intOf]
theorem minimal_is (ao : Option Addr) (l : List UInt8) (cap : Nat) (a k : Nat) (w : World) (h : IsB w ao l cap) (hk : a + k + 1 ≤ l.length) (hb47 : l.length ≤ 1000000000000) :
    Calls Tryd.prog 67 #[.slice ao l.length cap, .int .i64 a, .int .i64 ((a : Int) + (k + 1 : Nat))] w fun e w' => e = .returned (.bool (decide (¬ (0 < k ∧ ((l.drop a).getD k 0).toNat = 0)))) ∧ w = w' := by
  obtain ⟨b, off, rfl, hb, hc⟩ := h.at_ (by omega)
  have hck := hc (a + k) (by omega)
  rw [← getD_drop] at hck
  clear hc h
  have hcl : ((l.drop a).getD k 0).toNat < 256 := ((l.drop a).getD k 0).toNat_lt
  generalize ((l.drop a).getD k 0).toNat = c at *
  by_cases h0 : k = 0
  · have e : decide (¬ (0 < k ∧ c = 0)) = true := decide_eq_true (by omega)
    rw [e]; clear e
    subst h0
    go_enter Tryd.func67, Tryd.ntmps67
    go_wp2
    go_ret
    exact ⟨rfl, rfl⟩
  · have hk0 : 0 < k := by omega
    have e1 : ((a : Int) + ((k + 1 : Nat) : Int) - 1) = ((a + k : Nat) : Int) := by omega
    have hne : ¬ ((a : Int) + ((k + 1 : Nat) : Int) = a + 1) := by omega
    by_cases h1 : c = 0
    · have e : decide (¬ (0 < k ∧ c = 0)) = false := decide_eq_false (by omega)
      rw [e]; clear e
      subst h1
      go_enter Tryd.func67, Tryd.ntmps67
      go_wp2
      go_ret
      exact ⟨ret_bool (by simp; omega), rfl⟩
    · have e : decide (¬ (0 < k ∧ c = 0)) = true := decide_eq_true (by omega)
      have h1' : ¬ ((c : Int) = 0) := by omega
      rw [e]; clear e
      go_enter Tryd.func67, Tryd.ntmps67
      go_wp2
      go_ret
      exact ⟨ret_bool (by simp; omega), rfl⟩

theorem nm_ok {l : List UInt8} {u k c : Nat} (h : nmV l = (u, k, c)) : (c ≠ 0 → u = 0 ∧ k = 0) ∧ (c = 0 → k = lead l + 1 ∧ k ≤ l.length) ∧ u < 18446744073709551616 := by
  have := lead_le l
  unfold nmV at h
  repeat' split at h
  all_goals obtain ⟨rfl, rfl, rfl⟩ : _ ∧ _ ∧ _ := by simpa using h
  · exact ⟨fun _ => ⟨rfl, rfl⟩, fun g => absurd g (by decide), by decide⟩
  · exact ⟨fun _ => ⟨rfl, rfl⟩, fun g => absurd g (by decide), by decide⟩
  · exact ⟨fun _ => ⟨rfl, rfl⟩, fun g => absurd g (by decide), by decide⟩
  · rename_i h1 h2 h3
    exact ⟨fun g => absurd rfl g, fun _ => ⟨rfl, by omega⟩, gv_64 (by omega) (by omega) h3⟩
set_option maxRecDepth 100000 in
theorem ruint_is (ao : Option Addr) (l : List UInt8) (cap : Nat) (at_ : Int) (h0 : -9223372036854775808 ≤ at_) (h1 : at_ ≤ 9223372036854775807) (w : World) (h : IsB w ao l cap) (hb47 : l.length ≤ 1000000000000)
    (U E C : Int) (hv : uintV l at_ = (U, E, C)) :
    Calls Tryd.prog 68 #[.slice ao l.length cap, .int .i64 at_] w (Ret3 w .i64 U E C) := by
  by_cases hbad : at_ < 0 ∨ (l.length : Int) < at_
  · have e : uintV l at_ = (0, 0, 1) := if_pos hbad
    rw [e] at hv
    obtain ⟨rfl, rfl, rfl⟩ : 0 = U ∧ 0 = E ∧ 1 = C := by simpa using hv
    have HN := Lib.hid (number_is ao l cap at_ h0 h1 w h hb47 0 0 1 (if_pos hbad))
    clear e hv hbad h
    go_enter Tryd.func68, Tryd.ntmps68
    go_wp2_with fail
    go_at_call 66; refine HN.out.mono ?_; rintro e1 w1 ⟨rfl, rfl⟩
    clear HN
    go_wp2
    go_ret3
    exact ⟨rfl, rfl⟩
  obtain ⟨a, rfl⟩ := Int.eq_ofNat_of_zero_le (show 0 ≤ at_ by omega)
  have ha : a ≤ l.length := by omega
  obtain ⟨u, k, c, hr⟩ : ∃ u k c, nmV (l.drop a) = (u, k, c) := ⟨_, _, _, rfl⟩
  have hok := nm_ok hr
  have hnum : numV l a = (u, (if c = 0 then (a : Int) + k else 0), (c : Int)) := by
    unfold numV
    rw [if_neg hbad, Int.toNat_natCast, hr]
  have HN := Lib.hid (number_is ao l cap a h0 h1 w h hb47 _ _ _ hnum)
  have hu : uintV l a = (((rdv 9223372036854775807 (l.drop a)).1 : Int), (if (rdv 9223372036854775807 (l.drop a)).2.2 = 0 then (a : Int) + (rdv 9223372036854775807 (l.drop a)).2.1 else 0), ((rdv 9223372036854775807 (l.drop a)).2.2 : Int)) := by
    unfold uintV
    rw [if_neg hbad, Int.toNat_natCast]
  have hrd := rdv_nm 9223372036854775807 (l.drop a)
  rw [hr] at hrd
  simp only at hrd
  clear hnum hbad h0 h1
  by_cases hc : c = 0
  · subst hc
    obtain ⟨hk, hkl⟩ := hok.2.1 rfl
    rw [if_neg (by simp)] at hrd
    rw [if_pos rfl] at HN
    have hu64 := hok.2.2
    rw [List.length_drop] at hkl
    obtain ⟨q, rfl⟩ : ∃ q, k = q + 1 := ⟨lead (l.drop a), hk⟩
    have hq : lead (l.drop a) = q := by omega
    rw [hq] at hrd
    by_cases g1 : 9223372036854775807 < u
    · rw [if_pos g1] at hrd
      rw [hrd] at hu
      rw [hv] at hu
      obtain ⟨rfl, rfl, rfl⟩ : U = 0 ∧ E = 0 ∧ C = 4 := by simpa using hu
      clear hu hrd hv hok hr hk hq h
      go_enter Tryd.func68, Tryd.ntmps68
      go_wp2_with fail
      go_at_call 66; refine HN.out.mono ?_; rintro e1 w1 ⟨rfl, rfl⟩
      clear HN
      go_wp2
      go_ret3
      exact ⟨rfl, rfl⟩
    · rw [if_neg g1] at hrd
      have HM := Lib.hid (minimal_is ao l cap a q w h (by omega) hb47)
      by_cases g2 : 0 < q ∧ ((l.drop a).getD q 0).toNat = 0
      · rw [if_pos g2] at hrd
        rw [hrd] at hu
        rw [hv] at hu
        obtain ⟨rfl, rfl, rfl⟩ : U = 0 ∧ E = 0 ∧ C = 2 := by simpa using hu
        rw [show decide (¬ (0 < q ∧ ((l.drop a).getD q 0).toNat = 0)) = false from decide_eq_false (fun t => t g2)] at HM
        clear hu hrd hv hok hr hk hq h g2
        go_enter Tryd.func68, Tryd.ntmps68
        go_wp2_with fail
        go_at_call 66; refine HN.out.mono ?_; rintro e1 w1 ⟨rfl, rfl⟩
        clear HN
        go_wp2_with fail
        go_at_call 67; refine HM.out.mono ?_; rintro e1 w1 ⟨rfl, rfl⟩
        clear HM
        go_wp2
        go_ret3
        exact ⟨rfl, rfl⟩
      · rw [if_neg g2] at hrd
        rw [hrd] at hu
        rw [hv] at hu
        obtain ⟨rfl, rfl, rfl⟩ : U = (u : Int) ∧ E = (a : Int) + ((q + 1 : Nat) : Int) ∧ C = 0 := by simpa using hu
        rw [show decide (¬ (0 < q ∧ ((l.drop a).getD q 0).toNat = 0)) = true from decide_eq_true g2] at HM
        clear hu hrd hv hok hr hk hq h g2
        go_enter Tryd.func68, Tryd.ntmps68
        go_wp2_with fail
        go_at_call 66; refine HN.out.mono ?_; rintro e1 w1 ⟨rfl, rfl⟩
        clear HN
        go_wp2_with fail
        go_at_call 67; refine HM.out.mono ?_; rintro e1 w1 ⟨rfl, rfl⟩
        clear HM
        go_wp2
        go_ret3
        exact ⟨rfl, rfl⟩
  · obtain ⟨rfl, rfl⟩ := hok.1 hc
    rw [if_pos hc] at hrd
    rw [if_neg hc] at HN
    rw [hrd] at hu
    simp only [if_neg hc] at hu
    rw [hv] at hu
    obtain ⟨rfl, rfl, rfl⟩ : U = 0 ∧ E = 0 ∧ C = (c : Int) := by simpa using hu
    have hc' : ¬ ((c : Int) = 0) := by omega
    clear hu hrd hv hok hr h hc
    go_enter Tryd.func68, Tryd.ntmps68
    go_wp2_with fail
    go_at_call 66; refine HN.out.mono ?_; rintro e1 w1 ⟨rfl, rfl⟩
    clear HN
    go_wp2
    go_ret3
    exact ⟨rfl, rfl⟩
set_option maxRecDepth 100000 in
theorem rint_is (ao : Option Addr) (l : List UInt8) (cap : Nat) (at_ : Int) (h0 : -9223372036854775808 ≤ at_) (h1 : at_ ≤ 9223372036854775807) (w : World) (h : IsB w ao l cap) (hb47 : l.length ≤ 1000000000000)
    (U E C : Int) (hv : intV l at_ = (U, E, C)) :
    Calls Tryd.prog 45 #[.slice ao l.length cap, .int .i64 at_] w (Ret3 w .i64 U E C) := by
  by_cases hbad : at_ < 0 ∨ (l.length : Int) < at_
  · have e : intV l at_ = (0, 0, 1) := if_pos hbad
    rw [e] at hv
    obtain ⟨rfl, rfl, rfl⟩ : 0 = U ∧ 0 = E ∧ 1 = C := by simpa using hv
    have HN := Lib.hid (number_is ao l cap at_ h0 h1 w h hb47 0 0 1 (if_pos hbad))
    clear e hv hbad h
    go_enter Tryd.func45, Tryd.ntmps45
    go_wp2_with fail
    go_at_call 66; refine HN.out.mono ?_; rintro e1 w1 ⟨rfl, rfl⟩
    clear HN
    go_wp2
    go_ret3
    exact ⟨rfl, rfl⟩
  obtain ⟨a, rfl⟩ := Int.eq_ofNat_of_zero_le (show 0 ≤ at_ by omega)
  have ha : a ≤ l.length := by omega
  obtain ⟨u, k, c, hr⟩ : ∃ u k c, nmV (l.drop a) = (u, k, c) := ⟨_, _, _, rfl⟩
  have hok := nm_ok hr
  have hnum : numV l a = (u, (if c = 0 then (a : Int) + k else 0), (c : Int)) := by
    unfold numV
    rw [if_neg hbad, Int.toNat_natCast, hr]
  have HN := Lib.hid (number_is ao l cap a h0 h1 w h hb47 _ _ _ hnum)
  have hu : intV l a = (unzz (rdv 18446744073709551615 (l.drop a)).1, (if (rdv 18446744073709551615 (l.drop a)).2.2 = 0 then (a : Int) + (rdv 18446744073709551615 (l.drop a)).2.1 else 0), ((rdv 18446744073709551615 (l.drop a)).2.2 : Int)) := by
    unfold intV
    rw [if_neg hbad, Int.toNat_natCast]
  have hrd := rdv_nm 18446744073709551615 (l.drop a)
  rw [hr] at hrd
  simp only at hrd
  clear hnum hbad h0 h1
  by_cases hc : c = 0
  · subst hc
    obtain ⟨hk, hkl⟩ := hok.2.1 rfl
    rw [if_neg (by simp)] at hrd
    rw [if_pos rfl] at HN
    have hu64 := hok.2.2
    rw [List.length_drop] at hkl
    obtain ⟨q, rfl⟩ : ∃ q, k = q + 1 := ⟨lead (l.drop a), hk⟩
    have hq : lead (l.drop a) = q := by omega
    rw [hq] at hrd
    rw [if_neg (show ¬ 18446744073709551615 < u by omega)] at hrd
    · have HM := Lib.hid (minimal_is ao l cap a q w h (by omega) hb47)
      by_cases g2 : 0 < q ∧ ((l.drop a).getD q 0).toNat = 0
      · rw [if_pos g2] at hrd
        rw [hrd] at hu
        rw [hv] at hu
        obtain ⟨rfl, rfl, rfl⟩ : U = unzz 0 ∧ E = 0 ∧ C = 2 := by simpa using hu
        rw [show unzz 0 = 0 from rfl]
        rw [show decide (¬ (0 < q ∧ ((l.drop a).getD q 0).toNat = 0)) = false from decide_eq_false (fun t => t g2)] at HM
        clear hu hrd hv hok hr hk hq h g2
        go_enter Tryd.func45, Tryd.ntmps45
        go_wp2_with fail
        go_at_call 66; refine HN.out.mono ?_; rintro e1 w1 ⟨rfl, rfl⟩
        clear HN
        go_wp2_with fail
        go_at_call 67; refine HM.out.mono ?_; rintro e1 w1 ⟨rfl, rfl⟩
        clear HM
        go_wp2
        go_ret3
        exact ⟨rfl, rfl⟩
      · rw [if_neg g2] at hrd
        rw [hrd] at hu
        rw [hv] at hu
        obtain ⟨rfl, rfl, rfl⟩ : U = unzz u ∧ E = (a : Int) + ((q + 1 : Nat) : Int) ∧ C = 0 := by simpa using hu
        rw [show decide (¬ (0 < q ∧ ((l.drop a).getD q 0).toNat = 0)) = true from decide_eq_true g2] at HM
        have hu2 : u / 2 < 9223372036854775808 := by omega
        by_cases ho : u % 2 = 1
        · rw [show unzz u = -((u / 2 : Nat) : Int) - 1 from if_pos ho]
          have ho' : (u : Int) % 2 = 1 := by omega
          clear ho
          clear hu hrd hv hok hr hk hq h g2
          go_enter Tryd.func45, Tryd.ntmps45
          go_wp2_with fail
          go_at_call 66; refine HN.out.mono ?_; rintro e1 w1 ⟨rfl, rfl⟩
          clear HN
          go_wp2_with fail
          go_at_call 67; refine HM.out.mono ?_; rintro e1 w1 ⟨rfl, rfl⟩
          clear HM
          go_wp2
          go_ret3
          exact ⟨ret_3 (by omega) rfl rfl, rfl⟩
        · rw [show unzz u = ((u / 2 : Nat) : Int) from if_neg ho]
          have ho' : ¬ ((u : Int) % 2 = 1) := by omega
          clear ho
          clear hu hrd hv hok hr hk hq h g2
          go_enter Tryd.func45, Tryd.ntmps45
          go_wp2_with fail
          go_at_call 66; refine HN.out.mono ?_; rintro e1 w1 ⟨rfl, rfl⟩
          clear HN
          go_wp2_with fail
          go_at_call 67; refine HM.out.mono ?_; rintro e1 w1 ⟨rfl, rfl⟩
          clear HM
          go_wp2
          go_ret3
          exact ⟨ret_3 (by omega) rfl rfl, rfl⟩
  · obtain ⟨rfl, rfl⟩ := hok.1 hc
    rw [if_pos hc] at hrd
    rw [if_neg hc] at HN
    rw [hrd] at hu
    simp only [if_neg hc] at hu
    rw [hv] at hu
    obtain ⟨rfl, rfl, rfl⟩ : U = unzz 0 ∧ E = 0 ∧ C = (c : Int) := by simpa using hu
    rw [show unzz 0 = 0 from rfl]
    have hc' : ¬ ((c : Int) = 0) := by omega
    clear hu hrd hv hok hr h hc
    go_enter Tryd.func45, Tryd.ntmps45
    go_wp2_with fail
    go_at_call 66; refine HN.out.mono ?_; rintro e1 w1 ⟨rfl, rfl⟩
    clear HN
    go_wp2
    go_ret3
    exact ⟨rfl, rfl⟩

set_option maxRecDepth 100000 in
theorem rstr_is (ao : Option Addr) (l : List UInt8) (cap : Nat) (at_ most : Int) (h0 : -9223372036854775808 ≤ at_) (h1 : at_ ≤ 9223372036854775807) (w : World) (h : IsB w ao l cap) (hb47 : l.length ≤ 1000000000000)
    (S : List UInt8) (E C : Int) (hv : strV l at_ most = (S, E, C)) :
    Calls Tryd.prog 46 #[.slice ao l.length cap, .int .i64 at_, .int .i64 most] w fun e w' => e = .returned (.tuple #[.string (yb S), .int .i64 E, .int .i64 C]) ∧ w = w' := by
  obtain ⟨u, n, c, hr⟩ : ∃ u n c, uintV l at_ = (u, n, c) := ⟨_, _, _, rfl⟩
  have hok := uint_ok hr
  have HV := Lib.hid (ruint_is ao l cap at_ h0 h1 w h hb47 u n c hr)
  unfold strV at hv
  rw [hr] at hv
  simp only at hv
  clear hr h0 h1
  by_cases hc : c = 0
  · rw [if_neg (by simp [hc])] at hv
    obtain ⟨ha0, han, hnl⟩ := hok.2.2.2.1 hc
    have HC := Lib.hid hc
    clear hc
    by_cases g1 : most < u
    · rw [if_pos g1] at hv
      obtain ⟨rfl, rfl, rfl⟩ : [] = S ∧ 0 = E ∧ 4 = C := by simpa using hv
      clear hv h hok
      go_enter Tryd.func46, Tryd.ntmps46
      go_wp2_with fail
      go_at_call 68; refine HV.out.mono ?_; rintro e1 w1 ⟨rfl, rfl⟩
      clear HV
      have hc := HC.out
      go_wp2
      go_ret3
      exact ⟨rfl, rfl⟩
    · rw [if_neg g1] at hv
      by_cases g2 : (l.length : Int) - n < u
      · rw [if_pos g2] at hv
        obtain ⟨rfl, rfl, rfl⟩ : [] = S ∧ 0 = E ∧ 3 = C := by simpa using hv
        clear hv h hok
        go_enter Tryd.func46, Tryd.ntmps46
        go_wp2_with fail
        go_at_call 68; refine HV.out.mono ?_; rintro e1 w1 ⟨rfl, rfl⟩
        clear HV
        have hc := HC.out
        go_wp2
        go_ret3
        exact ⟨rfl, rfl⟩
      · rw [if_neg g2] at hv
        obtain ⟨rfl, rfl, rfl⟩ : (l.drop n.toNat).take u.toNat = S ∧ n + u = E ∧ 0 = C := by simpa using hv
        clear hv
        obtain ⟨k, rfl⟩ := Int.eq_ofNat_of_zero_le (show 0 ≤ n by omega)
        obtain ⟨m, rfl⟩ := Int.eq_ofNat_of_zero_le (show 0 ≤ u by omega)
        obtain ⟨a2, l2, c2, hl2, hlen2, hI2, hs⟩ := slice_lh h (lo := k) (hi := k + m) (by omega) (by omega)
        have e2 : l2 = (l.drop k).take m := by rw [hl2, Nat.add_sub_cancel_left]
        rw [Int.toNat_natCast, Int.toNat_natCast, ← e2]
        have hs1 := hs w
        have hcv := conv_bytes hI2
        rw [show (((k + m : Nat)) : Int) = (k : Int) + (m : Int) by omega] at hs1
        clear hs hl2 hlen2 hI2 h hok e2
        go_enter Tryd.func46, Tryd.ntmps46
        go_wp2_with fail
        go_at_call 68; refine HV.out.mono ?_; rintro e1 w1 ⟨rfl, rfl⟩
        clear HV
        have hc := HC.out
        go_wp2
        go_ret3
        exact ⟨rfl, rfl⟩
  · rw [if_pos hc] at hv
    obtain ⟨rfl, rfl, rfl⟩ : [] = S ∧ 0 = E ∧ c = C := by simpa using hv
    clear hv h hok
    go_enter Tryd.func46, Tryd.ntmps46
    go_wp2_with fail
    go_at_call 68; refine HV.out.mono ?_; rintro e1 w1 ⟨rfl, rfl⟩
    clear HV
    go_wp2
    go_ret3
    exact ⟨rfl, rfl⟩
end Go.Proofs.YtehmdeponbhhjaaDoor
