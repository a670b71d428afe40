/-
  The reference of package frac: order compares wide numbers, parts divides one by an int, narrow gives one as an int. Nothing that was there turns.
-/
import Derived.Test.YtdkmfhlmeildmaaDoorFrMem
import Derived.Test.YtdkmfhlmeildmaaDoorWideN
namespace Go.Proofs.YtdkmfhlmeildmaaDoor
open Go.RowKit

set_option maxHeartbeats 3200000 in
set_option maxRecDepth 100000 in
theorem rorder_any (ao bo : Option Addr) (x y : List Int) (ca cb m n : Nat) (w : World) (ha : IsS w ao x ca) (hb : IsS w bo y cb) (hx : Wide x m) (hy : Wide y n) :
    Calls Tryd.prog 62 #[.slice ao 14 ca, .slice bo 14 cb] w (RetI w (cmpN m n)) := by
  have lx := hx.len
  have ly := hy.len
  have HLX := Lib.hid lx
  have HLY := Lib.hid ly
  clear lx ly
  go_enter Tryd.func62, Tryd.ntmps62
  go_wp2
  go_loopw [5] (fun i wr => ∃ j : Int, i = .int .i64 j ∧ -1 ≤ j ∧ j < 14 ∧ Hid (wv (x.drop (j + 1).toNat) = wv (y.drop (j + 1).toNat)) ∧ Fur w wr) (fun i _ => (RowKit.intOf i + 1).toNat)
  case atStart => exact ⟨_, rfl, by omega, by omega, (by
    show wv (x.drop _) = wv (y.drop _)
    rw [List.drop_of_length_le (by rw [HLX.out]; decide), List.drop_of_length_le (by rw [HLY.out]; decide)]), Fur.refl _⟩
  case round =>
    obtain ⟨j, rfl, j0, j1, HD, hf⟩ := hrel
    by_cases hj : j = -1
    · subst hj
      have HE := Lib.hid (cmpN_eq (show m = n by
        have h := HD.out
        rw [← hx.val, ← hy.val]
        exact h))
      go_wp2
      go_ret
      exact ⟨ret_int HE.out.symm, hf⟩
    · obtain ⟨k, rfl⟩ : ∃ k : Nat, j = (k : Int) := ⟨j.toNat, by omega⟩
      have hd : wv (x.drop (k + 1)) = wv (y.drop (k + 1)) := HD.out
      have P := wd_getD hx.digs k
      have Q := wd_getD hy.digs k
      obtain ⟨p, hp⟩ : ∃ p, x.getD k 0 = p := ⟨_, rfl⟩
      obtain ⟨q, hq⟩ : ∃ q, y.getD k 0 = q := ⟨_, rfl⟩
      rw [hp] at P
      rw [hq] at Q
      have hlt := or_lt k hx.digs hd hp hq P.1
      have hgt := or_lt k hy.digs hd.symm hq hp Q.1
      have hst := fun (e : p = q) => show wv (x.drop k) = wv (y.drop k) by rw [wv_drop x k, wv_drop y k, hd, hp, hq, e]
      rw [hx.val, hy.val] at hlt hgt
      obtain ⟨b1, o1, rfl, _, c1⟩ := (ha.on hf).at_ (by rw [HLX.out]; decide)
      obtain ⟨b2, o2, rfl, _, c2⟩ := (hb.on hf).at_ (by rw [HLY.out]; decide)
      have hc1 := c1 k (by rw [HLX.out]; omega)
      have hc2 := c2 k (by rw [HLY.out]; omega)
      rw [hp] at hc1
      rw [hq] at hc2
      clear c1 c2 hd hp hq P Q
      have k14 : (k : Int) < 14 := by omega
      rcases (show p < q ∨ p = q ∨ q < p by omega) with h | h | h
      · have HE := Lib.hid (cmpN_lt (hlt h))
        clear hlt hgt hst
        go_wp2
        go_region
        go_wp2
        go_ret
        exact ⟨ret_int HE.out.symm, hf.drew⟩
      · subst h
        have HS := Lib.hid (hst rfl)
        clear hlt hgt hst
        go_wp2
        go_region
        go_wp2
        go_region
        go_wp2
        go_roundw
        case rel => exact ⟨_, rfl, by omega, by omega, (by
          have e : ((k : Int) - 1 + 1).toNat = k := by omega
          show wv (x.drop _) = wv (y.drop _)
          rw [e]; exact HS.out), hf.drew.drew⟩
        case measure => simp [RowKit.intOf]
      · have HE := Lib.hid (cmpN_gt (hgt h))
        clear hlt hgt hst
        go_wp2
        go_region
        go_wp2
        go_region
        go_wp2
        go_ret
        exact ⟨ret_int HE.out.symm, hf.drew.drew⟩

/-- A wide number and an int. -/
def RetWI (w : World) (n : Nat) (r : Int) (e : Ending) (w' : World) : Prop := ∃ zs ao cap, Wide zs n ∧ e = .returned (.tuple #[.slice ao 14 cap, .int .i64 r]) ∧ IsS w' ao zs cap ∧ Fur w w'

set_option maxHeartbeats 3200000 in
set_option maxRecDepth 100000 in
theorem rparts_any (ao : Option Addr) (x : List Int) (ca n d : Nat) (w : World) (ha : IsS w ao x ca) (hx : Wide x n) (hd : 0 < d) (hd2 : d ≤ 1000000000000000) :
    Calls Tryd.prog 46 #[.slice ao 14 ca, .int .i64 d] w (RetWI w (n / d) (n % d : Nat)) := by
  obtain ⟨i0, hi, hz0, hz1, hz2⟩ := info_parts infoI
  have HLX := Lib.hid hx.len
  go_enter Tryd.func46, Tryd.ntmps46
  go_wp2_with (at_make; refine wpList_make_full _ rfl (.tmp 10) (.tmp 10) 50 rfl w.heap.size 3 i0 (.int .i64 0) 1 Tryd.underlying50 hi hz0 hz1 .i64 .i64 _ _ 14 rfl rfl (by omega) (by omega) (by rw [hz2]; omega) (by unfold maxLen; omega) (Nat.le_refl _) ?_; intro w1 hown0 hgrow0)
  have hown1 : w1.ownsRow w.heap.size 3 1 (.slice (some ⟨w.heap.size, 0, none⟩) 14 14) 14 (cs (List.replicate 14 0)) := by
    rw [made_zero] at hown0
    exact hown0
  have hf1 : Fur w w1 := Below.grown (Fur.refl w) hgrow0 (Nat.le_refl _) (by intro k hk; cases hk)
  clear hown0 hgrow0
  go_wp2
  go_loopw [7, 8] (fun rv iv wr => ∃ (j : Int) (o : List Int) (r : Nat), iv = .int .i64 j ∧ -1 ≤ j ∧ j < 14 ∧ rv = .int .i64 r ∧ r < d ∧ wr.ownsRow w.heap.size 3 1 (.slice (some ⟨w.heap.size, 0, none⟩) 14 14) 14 (cs o) ∧ Fur w wr ∧ Hid (PtAt x d (j + 1).toNat o r)) (fun _ iv _ => (RowKit.intOf iv + 1).toNat)
  case atStart => exact ⟨13, _, 0, rfl, by decide, by decide, rfl, hd, hown1, hf1, pt_start x d HLX.out hd⟩
  case round =>
    obtain ⟨j, o, r, rfl, j0, j1, rfl, hr, hown, hf, HP⟩ := hrel
    by_cases hj : j = -1
    · subst hj
      have HW := Lib.hid (pt_end (show PtAt x d 0 o r from HP.out) hx)
      have hI := IsS.of14 hown
      go_wp2
      go_ret2
      exact ⟨o, _, _, HW.out.1, (by rw [← HW.out.2]; rfl), hI, hf⟩
    · obtain ⟨k, rfl⟩ : ∃ k : Nat, j = (k : Int) := ⟨j.toNat, by omega⟩
      have hk : k < 14 := by omega
      have hP : PtAt x d (k + 1) o r := HP.out
      have hol : k < o.length := by have := hP.len; omega
      obtain ⟨p, hp⟩ : ∃ p : Nat, x.getD k 0 = (p : Int) := ⟨(x.getD k 0).toNat, by have := (wd_getD hx.digs k).1; omega⟩
      have p1 := (wd_getD hx.digs k).2
      rw [hp] at p1
      have HS := Lib.hid (pt_step hP hk hp (by omega))
      obtain ⟨b1, o1, rfl, _, c1⟩ := (ha.on hf).at_ (by rw [HLX.out]; decide)
      have hc1 := c1 k (by rw [HLX.out]; exact hk)
      rw [hp] at hc1
      have hco := hown.cellAt k (by omega)
      rw [cs_getD hol] at hco
      have hfz := hown.frozenAt k
      have HQ := Lib.hid (show ((r : Int) * 1000 + p) / d = (((r * 1000 + p) / d : Nat) : Int) by rw [Int.natCast_ediv, Int.natCast_add, Int.natCast_mul]; rfl)
      have HM := Lib.hid (show ((r : Int) * 1000 + p) % d = (((r * 1000 + p) % d : Nat) : Int) by rw [Int.natCast_emod, Int.natCast_add, Int.natCast_mul]; rfl)
      have HR := Lib.hid (Nat.mod_lt (r * 1000 + p) hd)
      have hst := (hown.stored k (.int .i64 (((r : Int) * 1000 + p) / d))).1
      rw [cs_set] at hst
      have HST := Lib.hid hst
      have hf3 := fur_set (u := .int .i64 (((r : Int) * 1000 + p) / d)) (j := k) hf (Nat.le_refl w.heap.size)
      have k14 : (k : Int) < 14 := by omega
      have hdI : (0 : Int) < d := by omega
      have hrd : (r : Int) < d := by omega
      have hne : ((d : Int) == 0) = false := by rw [beq_eq_false_iff_ne]; omega
      clear c1 hp hst hP hol hj
      go_wp2
      go_roundw
      case rel => exact ⟨_, _, (r * 1000 + p) % d, rfl, by omega, by omega, congrArg _ HM.out, HR.out, HST.out, hf3, (by
        have e : ((k : Int) - 1 + 1).toNat = k := by omega
        show PtAt x d _ _ _
        rw [e, HQ.out]; exact HS.out)⟩
      case measure => simp [RowKit.intOf]

set_option maxHeartbeats 3200000 in
set_option maxRecDepth 100000 in
theorem rnarrow_any (ao : Option Addr) (x : List Int) (ca n : Nat) (w : World) (ha : IsS w ao x ca) (hx : Wide x n) :
    Calls Tryd.prog 47 #[.slice ao 14 ca] w (RetIB w (nrV n) (nrB n)) := by
  have HLX := Lib.hid hx.len
  go_enter Tryd.func47, Tryd.ntmps47
  go_wp2
  go_loop [4, 5] (fun nv iv => ∃ (j : Int) (v : Nat), iv = .int .i64 j ∧ -1 ≤ j ∧ j < 14 ∧ nv = .int .i64 v ∧ v ≤ 1000000000000999 ∧ Hid (v = wv (x.drop (j + 1).toNat))) (fun _ iv => (RowKit.intOf iv + 1).toNat)
  case atStart => exact ⟨13, 0, rfl, by decide, by decide, rfl, by decide, (by
    show 0 = wv (x.drop 14)
    rw [List.drop_of_length_le (by rw [HLX.out]; decide)]; rfl)⟩
  case round =>
    obtain ⟨j, v, rfl, j0, j1, rfl, hv, HV⟩ := hrel
    by_cases hj : j = -1
    · subst hj
      have e : v = n := by
        have h := HV.out
        rw [show ((-1 : Int) + 1).toNat = 0 by decide, List.drop_zero, hx.val] at h
        exact h
      subst e
      by_cases hm : v ≤ 1000000000000000
      · have HE := Lib.hid (nr_t hm)
        clear HV
        go_wp2
        go_ret2
        exact ⟨ret_ib HE.out.1.symm HE.out.2.symm, Fur.refl _⟩
      · have HE := Lib.hid (nr_f hm)
        have hm' : 1000000000000000 < v := by omega
        clear HV hm
        go_wp2
        go_ret2
        exact ⟨ret_ib HE.out.1.symm HE.out.2.symm, Fur.refl _⟩
    · obtain ⟨k, rfl⟩ : ∃ k : Nat, j = (k : Int) := ⟨j.toNat, by omega⟩
      have hV : v = wv (x.drop (k + 1)) := HV.out
      by_cases hm : 1000000000000 < v
      · have HE := Lib.hid (nr_f (nr_big k hx (by rw [← hV]; exact hm)))
        clear hV
        go_wp2
        go_ret2
        exact ⟨ret_ib HE.out.1.symm HE.out.2.symm, Fur.refl _⟩
      · have hm' : v ≤ 1000000000000 := by omega
        obtain ⟨p, hp⟩ : ∃ p : Nat, x.getD k 0 = (p : Int) := ⟨(x.getD k 0).toNat, by have := (wd_getD hx.digs k).1; omega⟩
        have p1 := (wd_getD hx.digs k).2
        rw [hp] at p1
        have hw := wv_drop x k
        rw [hp, ← hV, Int.toNat_natCast] at hw
        have HW := Lib.hid (show v * 1000 + p = wv (x.drop k) by omega)
        obtain ⟨b1, o1, rfl, _, c1⟩ := ha.at_ (by rw [HLX.out]; decide)
        have hc1 := c1 k (by rw [HLX.out]; omega)
        rw [hp] at hc1
        have k14 : (k : Int) < 14 := by omega
        clear c1 hp hw hV hm
        go_wp2
        go_round
        case rel => exact ⟨_, v * 1000 + p, rfl, by omega, by omega, (congrArg (Value.int .i64) (by omega)), by omega, (by
          have e : ((k : Int) - 1 + 1).toNat = k := by omega
          show _ = wv (x.drop _)
          rw [e]; exact HW.out)⟩
        case measure => simp [RowKit.intOf]
end Go.Proofs.YtdkmfhlmeildmaaDoor
