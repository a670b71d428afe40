/-
  The reference of package frac: order compares wide numbers. Nothing that was there turns.
-/
import Derived.Test.YtcadeijloobbmaaMj
import Derived.Test.YtcadeijloobbmaaMc
import Derived.Test.YtcadeijloobbmaaMo
namespace Go.Proofs.Ytcadeijloobbmaa
open Go.RowKit

set_option maxHeartbeats 3200000 in
set_option maxRecDepth 100000 in
theorem rorder_any (ao bo : Option Addr) (x y : List Int) (ca cb m n : Nat) (w : World) (ha : IsS w ao x ca) (hb : IsS w bo y cb) (hx : Wide x m) (hy : Wide y n) :
    Calls Try.prog 85 #[.slice ao 14 ca, .slice bo 14 cb] w (RwI w (cmpN m n)) := by
  have lx := hx.len
  have ly := hy.len
  have HLX := Lib.hid lx
  have HLY := Lib.hid ly
  clear lx ly
  go_enter Try.func85, Try.ntmps85
  go_wp2
  go_loopw [5] (fun i wr => ∃ j : Int, i = .int .i64 j ∧ -1 ≤ j ∧ j < 14 ∧ Hid (wv (x.drop (j + 1).toNat) = wv (y.drop (j + 1).toNat)) ∧ Fuw w wr) (fun i _ => (RowKit.intOf i + 1).toNat)
  case atStart => exact ⟨_, rfl, by omega, by omega, (by
    show wv (x.drop _) = wv (y.drop _)
    rw [List.drop_of_length_le (by rw [HLX.out]; decide), List.drop_of_length_le (by rw [HLY.out]; decide)]), Fuw.refl _⟩
  case round =>
    obtain ⟨j, rfl, j0, j1, HD, hf⟩ := hrel
    by_cases hj : j = -1
    · subst hj
      have HE := Lib.hid (cmpN_eq (show m = n by
        have h := HD.out
        rw [← hx.val, ← hy.val]
        exact h))
      go_wp2
      go_ret
      exact ⟨ret_int HE.out.symm, hf⟩
    · obtain ⟨k, rfl⟩ : ∃ k : Nat, j = (k : Int) := ⟨j.toNat, by omega⟩
      have hd : wv (x.drop (k + 1)) = wv (y.drop (k + 1)) := HD.out
      have P := wd_getD hx.digs k
      have Q := wd_getD hy.digs k
      obtain ⟨p, hp⟩ : ∃ p, x.getD k 0 = p := ⟨_, rfl⟩
      obtain ⟨q, hq⟩ : ∃ q, y.getD k 0 = q := ⟨_, rfl⟩
      rw [hp] at P
      rw [hq] at Q
      have hlt := or_lt k hx.digs hd hp hq P.1
      have hgt := or_lt k hy.digs hd.symm hq hp Q.1
      have hst := fun (e : p = q) => show wv (x.drop k) = wv (y.drop k) by rw [wv_drop x k, wv_drop y k, hd, hp, hq, e]
      rw [hx.val, hy.val] at hlt hgt
      obtain ⟨b1, o1, rfl, _, c1⟩ := (ha.onw hf).at_ (by rw [HLX.out]; decide)
      obtain ⟨b2, o2, rfl, _, c2⟩ := (hb.onw hf).at_ (by rw [HLY.out]; decide)
      have hc1 := c1 k (by rw [HLX.out]; omega)
      have hc2 := c2 k (by rw [HLY.out]; omega)
      rw [hp] at hc1
      rw [hq] at hc2
      clear c1 c2 hd hp hq P Q
      have k14 : (k : Int) < 14 := by omega
      rcases (show p < q ∨ p = q ∨ q < p by omega) with h | h | h
      · have HE := Lib.hid (cmpN_lt (hlt h))
        clear hlt hgt hst
        go_wp2
        go_region
        go_wp2
        go_ret
        exact ⟨ret_int HE.out.symm, hf.drew⟩
      · subst h
        have HS := Lib.hid (hst rfl)
        clear hlt hgt hst
        go_wp2
        go_region
        go_wp2
        go_region
        go_wp2
        go_roundw
        case rel => exact ⟨_, rfl, by omega, by omega, (by
          have e : ((k : Int) - 1 + 1).toNat = k := by omega
          show wv (x.drop _) = wv (y.drop _)
          rw [e]; exact HS.out), hf.drew.drew⟩
        case measure => simp [RowKit.intOf]
      · have HE := Lib.hid (cmpN_gt (hgt h))
        clear hlt hgt hst
        go_wp2
        go_region
        go_wp2
        go_region
        go_wp2
        go_ret
        exact ⟨ret_int HE.out.symm, hf.drew.drew⟩

end Go.Proofs.Ytcadeijloobbmaa
