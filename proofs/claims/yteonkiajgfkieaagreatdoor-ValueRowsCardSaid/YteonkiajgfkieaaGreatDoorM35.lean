/-
  FrD; CmA: texts of one kind in one file; each part says what it holds.
-/
import Derived.Test.YteonkiajgfkieaaGreatDoorM26
import Derived.Test.YteonkiajgfkieaaGreatDoorM04
import Derived.Test.YteonkiajgfkieaaGreatDoorM34

/-! The reference of package frac: plus, minus, order, parts and narrow compute with wide numbers (fourteen digits in base 1000). Nothing that was there turns. -/
namespace Go.Proofs.YteonkiajgfkieaaGreatDoor
open Go.RowKit

set_option maxHeartbeats 3200000 in
set_option maxRecDepth 100000 in
theorem rplus_any (ao bo : Option Addr) (x y : List Int) (ca cb m n : Nat) (w : World) (ha : IsS w ao x ca) (hb : IsS w bo y cb) (hx : Wide x m) (hy : Wide y n) (hlt : m + n < 1000 ^ 14) :
    Calls Tryz.prog 118 #[.slice ao 14 ca, .slice bo 14 cb] w (RwW w (m + n)) := by
  obtain ⟨i0, hi, hz0, hz1, hz2⟩ := info_parts infoI
  have HLT := Lib.hid hlt
  clear hlt
  go_enter Tryz.func118, Tryz.ntmps118
  go_wp2_with (at_make; refine wpList_make_full _ rfl (.tmp 9) (.tmp 9) 95 rfl w.heap.size 3 i0 (.int .i64 0) 1 Tryz.underlying95 hi hz0 hz1 .i64 .i64 _ _ 14 rfl rfl (by omega) (by omega) (by rw [hz2]; omega) (by unfold maxLen; omega) (Nat.le_refl _) ?_; intro w1 hown0 hgrow0)
  have hown1 : w1.ownsRow w.heap.size 3 1 (.slice (some ⟨w.heap.size, 0, none⟩) 14 14) 14 (cs (List.replicate 14 0)) := by
    rw [made_zero] at hown0
    exact hown0
  have hf1 : Fuw w w1 := Below.grown (Fuw.refl w) hgrow0 (Nat.le_refl _) (by intro k hk; cases hk)
  clear hown0 hgrow0
  go_wp2
  go_loopw [6, 7] (fun cv kv wr => ∃ (k : Nat) (o : List Int) (c : Int), kv = .int .i64 k ∧ k ≤ 14 ∧ cv = .int .i64 c ∧ 0 ≤ c ∧ c ≤ 1 ∧ wr.ownsRow w.heap.size 3 1 (.slice (some ⟨w.heap.size, 0, none⟩) 14 14) 14 (cs o) ∧ Fuw w wr ∧ Hid (PlAt x y k o c)) (fun _ kv _ => (14 - RowKit.intOf kv).toNat)
  case atStart => exact ⟨0, _, 0, rfl, by decide, rfl, by decide, by decide, hown1, hf1, pl_start x y⟩
  case round =>
    obtain ⟨k, o, c, rfl, hk, rfl, d0, d1, hown, hf, HA⟩ := hrel
    have lx := hx.len
    have ly := hy.len
    by_cases hlt : k < 14
    · have hol : k < o.length := by have := HA.out.len; omega
      obtain ⟨p, hp⟩ : ∃ p, x.getD k 0 = p := ⟨_, rfl⟩
      obtain ⟨q, hq⟩ : ∃ q, y.getD k 0 = q := ⟨_, rfl⟩
      obtain ⟨p0, p1⟩ := wd_getD hx.digs k
      obtain ⟨q0, q1⟩ := wd_getD hy.digs k
      obtain ⟨b1, o1, rfl, _, cx⟩ := (ha.onw hf).at_ (by omega)
      obtain ⟨b2, o2, rfl, _, cy⟩ := (hb.onw hf).at_ (by omega)
      have hcx := cx k (by omega)
      have hcy := cy k (by omega)
      rw [hp] at hcx p0 p1
      rw [hq] at hcy q0 q1
      have HS := Lib.hid (pl_step HA.out hlt hp hq p0 p1 q0 q1)
      have hco := hown.cellAt k (by omega)
      rw [cs_getD hol] at hco
      have hfz := hown.frozenAt k
      have s1 : IntKind.i64.wrap (c + p) = c + p := IntWalk.i64_in _ (by omega)
      have s2 : IntKind.i64.wrap (c + p + q) = c + p + q := IntWalk.i64_in _ (by omega)
      have hk14 : (k : Int) < 14 := by omega
      have k14 : k + 1 ≤ 14 := by omega
      have hv : 0 ≤ c + p + q := by omega
      have HV := Lib.hid (show 0 ≤ (c + p + q) / 1000 ∧ (c + p + q) / 1000 ≤ 1 by omega)
      clear cx cy hp hq lx ly
      go_wp2_with fail
      go_quiet (fail)
      clear s1 s2
      have hownq : (wr.drewN nq).ownsRow w.heap.size 3 1 (.slice (some ⟨w.heap.size, 0, none⟩) 14 14) 14 (cs o) := hown
      have hst := (hownq.stored k (.int .i64 ((c + p + q) % 1000))).1
      rw [cs_set] at hst
      have HST := Lib.hid hst
      have hf3 := fuw_set (u := .int .i64 ((c + p + q) % 1000)) (j := k) (hf.trans (fuw_drewN wr nq)) (Nat.le_refl w.heap.size)
      clear hst hownq hol
      go_wp2
      go_roundw
      case rel => exact ⟨k + 1, _, _, by go_num, k14, rfl, HV.out.1, HV.out.2, HST.out, hf3, HS.out⟩
      case measure => simp [RowKit.intOf]; omega
    · have e : k = 14 := by omega
      subst e
      have HW := Lib.hid (pl_end HA.out hx hy HLT.out)
      have hI := IsS.of14 hown
      clear hlt
      go_wp2
      go_ret
      exact ⟨o, _, _, HW.out, rfl, hI, hf⟩

set_option maxHeartbeats 3200000 in
set_option maxRecDepth 100000 in
theorem rminus_any (ao bo : Option Addr) (x y : List Int) (ca cb m n : Nat) (w : World) (ha : IsS w ao x ca) (hb : IsS w bo y cb) (hx : Wide x m) (hy : Wide y n) (hle : n ≤ m) :
    Calls Tryz.prog 120 #[.slice ao 14 ca, .slice bo 14 cb] w (RwW w (m - n)) := by
  obtain ⟨i0, hi, hz0, hz1, hz2⟩ := info_parts infoI
  have HLE := Lib.hid hle
  clear hle
  go_enter Tryz.func120, Tryz.ntmps120
  go_wp2_with (at_make; refine wpList_make_full _ rfl (.tmp 9) (.tmp 9) 95 rfl w.heap.size 3 i0 (.int .i64 0) 1 Tryz.underlying95 hi hz0 hz1 .i64 .i64 _ _ 14 rfl rfl (by omega) (by omega) (by rw [hz2]; omega) (by unfold maxLen; omega) (Nat.le_refl _) ?_; intro w1 hown0 hgrow0)
  have hown1 : w1.ownsRow w.heap.size 3 1 (.slice (some ⟨w.heap.size, 0, none⟩) 14 14) 14 (cs (List.replicate 14 0)) := by
    rw [made_zero] at hown0
    exact hown0
  have hf1 : Fuw w w1 := Below.grown (Fuw.refl w) hgrow0 (Nat.le_refl _) (by intro k hk; cases hk)
  clear hown0 hgrow0
  go_wp2
  go_loopw [6, 7] (fun cv kv wr => ∃ (k : Nat) (o : List Int) (c : Int), kv = .int .i64 k ∧ k ≤ 14 ∧ cv = .int .i64 c ∧ -1 ≤ c ∧ c ≤ 0 ∧ wr.ownsRow w.heap.size 3 1 (.slice (some ⟨w.heap.size, 0, none⟩) 14 14) 14 (cs o) ∧ Fuw w wr ∧ Hid (MiAt x y k o c)) (fun _ kv _ => (14 - RowKit.intOf kv).toNat)
  case atStart => exact ⟨0, _, 0, rfl, by decide, rfl, by decide, by decide, hown1, hf1, mi_start x y⟩
  case round =>
    obtain ⟨k, o, c, rfl, hk, rfl, d0, d1, hown, hf, HA⟩ := hrel
    have lx := hx.len
    have ly := hy.len
    by_cases hlt : k < 14
    · have hol : k < o.length := by have := HA.out.len; omega
      obtain ⟨p, hp⟩ : ∃ p, x.getD k 0 = p := ⟨_, rfl⟩
      obtain ⟨q, hq⟩ : ∃ q, y.getD k 0 = q := ⟨_, rfl⟩
      obtain ⟨p0, p1⟩ := wd_getD hx.digs k
      obtain ⟨q0, q1⟩ := wd_getD hy.digs k
      obtain ⟨b1, o1, rfl, _, cx⟩ := (ha.onw hf).at_ (by omega)
      obtain ⟨b2, o2, rfl, _, cy⟩ := (hb.onw hf).at_ (by omega)
      have hcx := cx k (by omega)
      have hcy := cy k (by omega)
      rw [hp] at hcx p0 p1
      rw [hq] at hcy q0 q1
      have hst := fun d e => mi_step (d := d) (e := e) HA.out hlt hp hq p0 q0
      have hco := hown.cellAt k (by omega)
      rw [cs_getD hol] at hco
      have hfz := hown.frozenAt k
      have s1 : IntKind.i64.wrap (c + p) = c + p := IntWalk.i64_in _ (by omega)
      have s2 : IntKind.i64.wrap (c + p - q) = c + p - q := IntWalk.i64_in _ (by omega)
      have hk14 : (k : Int) < 14 := by omega
      have k14 : k + 1 ≤ 14 := by omega
      by_cases hneg : c + p - q < 0
      · have HS := Lib.hid (hst (c + p - q + 1000) (-1) (by omega) (by omega) (by decide) (by decide) (by omega))
        clear cx cy hp hq lx ly hst
        go_wp2_with fail
        go_quiet (fail)
        clear s1 s2
        have hownq : (wr.drewN nq).ownsRow w.heap.size 3 1 (.slice (some ⟨w.heap.size, 0, none⟩) 14 14) 14 (cs o) := hown
        have hw := (hownq.stored k (.int .i64 (c + p - q + 1000))).1
        rw [cs_set] at hw
        have HST := Lib.hid hw
        have hf3 := fuw_set (u := .int .i64 (c + p - q + 1000)) (j := k) (hf.trans (fuw_drewN wr nq)) (Nat.le_refl w.heap.size)
        clear hw hownq hol
        go_wp2
        go_roundw
        case rel => exact ⟨k + 1, _, _, by go_num, k14, rfl, by decide, by decide, HST.out, hf3, HS.out⟩
        case measure => simp [RowKit.intOf]; omega
      · have HS := Lib.hid (hst (c + p - q) 0 (by omega) (by omega) (by decide) (by decide) (by omega))
        have hpos : 0 ≤ c + p - q := by omega
        clear cx cy hp hq lx ly hst hneg
        go_wp2_with fail
        go_quiet (fail)
        clear s1 s2
        have hownq : (wr.drewN nq).ownsRow w.heap.size 3 1 (.slice (some ⟨w.heap.size, 0, none⟩) 14 14) 14 (cs o) := hown
        have hw := (hownq.stored k (.int .i64 (c + p - q))).1
        rw [cs_set] at hw
        have HST := Lib.hid hw
        have hf3 := fuw_set (u := .int .i64 (c + p - q)) (j := k) (hf.trans (fuw_drewN wr nq)) (Nat.le_refl w.heap.size)
        clear hw hownq hol
        go_wp2
        go_roundw
        case rel => exact ⟨k + 1, _, _, by go_num, k14, rfl, by decide, by decide, HST.out, hf3, HS.out⟩
        case measure => simp [RowKit.intOf]; omega
    · have e : k = 14 := by omega
      subst e
      have HW := Lib.hid (mi_end HA.out hx hy HLE.out)
      have hI := IsS.of14 hown
      clear hlt
      go_wp2
      go_ret
      exact ⟨o, _, _, HW.out, rfl, hI, hf⟩
end Go.Proofs.YteonkiajgfkieaaGreatDoor

/-! The reference of package frac: order compares wide numbers. Nothing that was there turns. -/
namespace Go.Proofs.YteonkiajgfkieaaGreatDoor
open Go.RowKit

set_option maxHeartbeats 3200000 in
set_option maxRecDepth 100000 in
theorem rorder_any (ao bo : Option Addr) (x y : List Int) (ca cb m n : Nat) (w : World) (ha : IsS w ao x ca) (hb : IsS w bo y cb) (hx : Wide x m) (hy : Wide y n) :
    Calls Tryz.prog 119 #[.slice ao 14 ca, .slice bo 14 cb] w (RwI w (cmpN m n)) := by
  have lx := hx.len
  have ly := hy.len
  have HLX := Lib.hid lx
  have HLY := Lib.hid ly
  clear lx ly
  go_enter Tryz.func119, Tryz.ntmps119
  go_wp2
  go_loopw [5] (fun i wr => ∃ j : Int, i = .int .i64 j ∧ -1 ≤ j ∧ j < 14 ∧ Hid (wv (x.drop (j + 1).toNat) = wv (y.drop (j + 1).toNat)) ∧ Fuw w wr) (fun i _ => (RowKit.intOf i + 1).toNat)
  case atStart => exact ⟨_, rfl, by omega, by omega, (by
    show wv (x.drop _) = wv (y.drop _)
    rw [List.drop_of_length_le (by rw [HLX.out]; decide), List.drop_of_length_le (by rw [HLY.out]; decide)]), Fuw.refl _⟩
  case round =>
    obtain ⟨j, rfl, j0, j1, HD, hf⟩ := hrel
    by_cases hj : j = -1
    · subst hj
      have HE := Lib.hid (cmpN_eq (show m = n by
        have h := HD.out
        rw [← hx.val, ← hy.val]
        exact h))
      go_wp2
      go_ret
      exact ⟨ret_int HE.out.symm, hf⟩
    · obtain ⟨k, rfl⟩ : ∃ k : Nat, j = (k : Int) := ⟨j.toNat, by omega⟩
      have hd : wv (x.drop (k + 1)) = wv (y.drop (k + 1)) := HD.out
      have P := wd_getD hx.digs k
      have Q := wd_getD hy.digs k
      obtain ⟨p, hp⟩ : ∃ p, x.getD k 0 = p := ⟨_, rfl⟩
      obtain ⟨q, hq⟩ : ∃ q, y.getD k 0 = q := ⟨_, rfl⟩
      rw [hp] at P
      rw [hq] at Q
      have hlt := or_lt k hx.digs hd hp hq P.1
      have hgt := or_lt k hy.digs hd.symm hq hp Q.1
      have hst := fun (e : p = q) => show wv (x.drop k) = wv (y.drop k) by rw [wv_drop x k, wv_drop y k, hd, hp, hq, e]
      rw [hx.val, hy.val] at hlt hgt
      obtain ⟨b1, o1, rfl, _, c1⟩ := (ha.onw hf).at_ (by rw [HLX.out]; decide)
      obtain ⟨b2, o2, rfl, _, c2⟩ := (hb.onw hf).at_ (by rw [HLY.out]; decide)
      have hc1 := c1 k (by rw [HLX.out]; omega)
      have hc2 := c2 k (by rw [HLY.out]; omega)
      rw [hp] at hc1
      rw [hq] at hc2
      clear c1 c2 hd hp hq P Q
      have k14 : (k : Int) < 14 := by omega
      rcases (show p < q ∨ p = q ∨ q < p by omega) with h | h | h
      · have HE := Lib.hid (cmpN_lt (hlt h))
        clear hlt hgt hst
        go_wp2
        go_region
        go_wp2
        go_ret
        exact ⟨ret_int HE.out.symm, hf.drew⟩
      · subst h
        have HS := Lib.hid (hst rfl)
        clear hlt hgt hst
        go_wp2
        go_region
        go_wp2
        go_region
        go_wp2
        go_roundw
        case rel => exact ⟨_, rfl, by omega, by omega, (by
          have e : ((k : Int) - 1 + 1).toNat = k := by omega
          show wv (x.drop _) = wv (y.drop _)
          rw [e]; exact HS.out), hf.drew.drew⟩
        case measure => simp [RowKit.intOf]
      · have HE := Lib.hid (cmpN_gt (hgt h))
        clear hlt hgt hst
        go_wp2
        go_region
        go_wp2
        go_region
        go_wp2
        go_ret
        exact ⟨ret_int HE.out.symm, hf.drew.drew⟩

end Go.Proofs.YteonkiajgfkieaaGreatDoor
