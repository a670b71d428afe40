/-
  The reference's Cmp compares the numbers of two slices of int; Small gives the number of a slice if it is an int. For every slice of int; nothing that was there turns.
-/
import Derived.Test.YtebmkbfbfmnbbaaDoorNatOf
namespace Go.Proofs.YtebmkbfbfmnbbaaDoor
open Go.RowKit

theorem vl_split {l : List Int} (k : Nat) (h : k < l.length) : vl l = vl (l.take k) + 1000000000 ^ k * ((l.getD k 0).toNat + 1000000000 * vl (l.drop (k + 1))) := by
  have e : l = l.take k ++ (l.getD k 0 :: l.drop (k + 1)) := by
    rw [getD_at h, ← List.drop_eq_getElem_cons h, List.take_append_drop]
  have t : (l.take k).length = k := by rw [List.length_take]; omega
  conv => lhs; rw [e]
  rw [vl_app, t, vl]
theorem cmp_at {x y : List Int} (k : Nat) (hx : k < x.length) (hy : k < y.length) (dx : Digs x) (_dy : Digs y) (he : x.drop (k + 1) = y.drop (k + 1)) (h0 : 0 ≤ x.getD k 0) (hlt : x.getD k 0 < y.getD k 0) : vl x < vl y := by
  rw [vl_split k hx, vl_split k hy, he]
  have t : (x.take k).length = k := by rw [List.length_take]; omega
  have a := vl_lt (digs_take dx k)
  rw [t] at a
  have b : (x.getD k 0).toNat + 1000000000 * vl (y.drop (k + 1)) + 1 ≤ (y.getD k 0).toNat + 1000000000 * vl (y.drop (k + 1)) := by omega
  have c := Nat.mul_le_mul_left (1000000000 ^ k) b
  rw [Nat.mul_add, Nat.mul_one] at c
  omega
theorem len_lt {A B : Nat} (h : (lim A).length < (lim B).length) : A < B := by
  have a := (len_lim A (lim A).length).1 (Nat.le_refl _)
  have b : ¬ B < 1000000000 ^ (lim A).length := fun k => by
    have := (len_lim B (lim A).length).2 k
    omega
  omega
theorem digs_at {l : List Int} (h : Digs l) (k : Nat) (hk : k < l.length) : 0 ≤ l.getD k 0 ∧ l.getD k 0 < 1000000000 := by
  rw [getD_at hk]; exact h _ (List.getElem_mem hk)

/-- The comparison. -/
def cmpV (a b : Nat) : Int := if a < b then -1 else if b < a then 1 else 0
theorem cmpV_lt {a b : Nat} (h : a < b) : cmpV a b = -1 := by unfold cmpV; rw [if_pos h]
theorem cmpV_gt {a b : Nat} (h : b < a) : cmpV a b = 1 := by unfold cmpV; rw [if_neg (by omega), if_pos h]
theorem cmpV_eq {a b : Nat} (h : a = b) : cmpV a b = 0 := by unfold cmpV; rw [if_neg (by omega), if_neg (by omega)]

/-- A result is an int; nothing that was there has turned. -/
def RetI (w : World) (n : Int) (e : Ending) (w' : World) : Prop := e = .returned (.int .i64 n) ∧ Fur w w'

/-- What is known of the two copies: their list, its digits, its length, its number. -/
structure Num (a : List Int) (x : List Int) : Prop where
  eq : numL a = x
  digs : Digs x
  len : x.length ≤ 64
  val : vl x = nv a
  can : lim (vl x) = x
theorem num_of (a : List Int) : ∃ x, Num a x := ⟨numL a, rfl, digs_numL a, numL_len a, vl_numL a, by rw [vl_numL, numL_lim]⟩
theorem num_get {a x : List Int} (h : Num a x) (ao : Option Addr) (cap : Nat) (w : World) (hs : IsS w ao a cap) : Calls Tryd.prog 36 #[.slice ao a.length cap] w (RetS w x) := by
  have k := num_any ao a cap w hs
  rw [h.eq] at k
  exact k
theorem num_lt {a b x y : List Int} (hx : Num a x) (hy : Num b y) (h : x.length < y.length) : nv a < nv b := by
  rw [← hx.val, ← hy.val]
  refine len_lt ?_
  rw [hx.can, hy.can]
  exact h

set_option maxHeartbeats 3200000 in
theorem cmp_any (ao bo : Option Addr) (a b : List Int) (ca cb : Nat) (w : World) (ha : IsS w ao a ca) (hb : IsS w bo b cb) :
    Calls Tryd.prog 22 #[.slice ao a.length ca, .slice bo b.length cb] w (RetI w (cmpV (nv a) (nv b))) := by
  obtain ⟨x, hx⟩ := num_of a
  obtain ⟨y, hy⟩ := num_of b
  have lx := hx.len
  have ly := hy.len
  rcases Nat.lt_trichotomy x.length y.length with hl | hl | hl
  · have hne : ((x.length : Int) != (y.length : Int)) = true := by rw [bne_iff_ne]; omega
    rw [cmpV_lt (num_lt hx hy hl)]
    go_enter Tryd.func22, Tryd.ntmps22
    go_wp2_with fail
    go_at_call 36; refine (num_get hx _ _ _ ha).mono ?_; rintro e w1 ⟨ao1, c1, rfl, h1, f1⟩
    go_wp2_with fail
    go_at_call 36; refine (num_get hy _ _ _ (hb.on f1)).mono ?_; rintro e w2 ⟨bo1, c2, rfl, h2, f2⟩
    go_wp2
    go_ret
    exact ⟨rfl, f1.trans f2⟩
  · have hne : ((x.length : Int) != (y.length : Int)) = false := by rw [bne_eq_false_iff_eq]; omega
    have hl1 : x.length ≤ y.length := by omega
    have hl2 : y.length ≤ x.length := by omega
    have HL := Lib.hid hl
    clear hl
    go_enter Tryd.func22, Tryd.ntmps22
    go_wp2_with fail
    go_at_call 36; refine (num_get hx _ _ _ ha).mono ?_; rintro e w1 ⟨ao1, c1, rfl, h1, f1⟩
    go_wp2_with fail
    go_at_call 36; refine (num_get hy _ _ _ (hb.on f1)).mono ?_; rintro e w2 ⟨bo1, c2, rfl, h2, f2⟩
    go_wp2
    go_loopw [7] (fun i wr => ∃ j : Int, i = .int .i64 j ∧ -1 ≤ j ∧ j < x.length ∧ Hid (x.drop (j + 1).toNat = y.drop (j + 1).toNat) ∧ Fur w2 wr) (fun i _ => (RowKit.intOf i + 1).toNat)
    case atStart => exact ⟨_, rfl, by omega, by omega, (by
      show x.drop _ = y.drop _
      rw [List.drop_of_length_le (by omega), List.drop_of_length_le (by omega)]), Fur.refl _⟩
    case round =>
      obtain ⟨j, rfl, j0, j1, HD, hf⟩ := hrel
      by_cases hj : j = -1
      · subst hj
        have HE := Lib.hid (cmpV_eq (show nv a = nv b by
          have h := HD.out
          rw [← hx.val, ← hy.val]
          exact congrArg vl h))
        go_wp2
        go_ret
        exact ⟨ret_int HE.out.symm, (f1.trans f2).trans hf⟩
      · obtain ⟨k, rfl⟩ : ∃ k : Nat, j = (k : Int) := ⟨j.toNat, by omega⟩
        have kx : k < x.length := by omega
        have ky : k < y.length := by omega
        have hd : x.drop (k + 1) = y.drop (k + 1) := HD.out
        have hlt := cmp_at k kx ky hx.digs hy.digs hd (digs_at hx.digs k kx).1
        have hgt := cmp_at k ky kx hy.digs hx.digs hd.symm (digs_at hy.digs k ky).1
        have hst : x.getD k 0 = y.getD k 0 → x.drop k = y.drop k := fun e => by
          rw [List.drop_eq_getElem_cons kx, List.drop_eq_getElem_cons ky, hd, ← getD_at kx, ← getD_at ky, e]
        rw [hx.val, hy.val] at hlt hgt
        obtain ⟨b1, o1, rfl, _, c1⟩ := ((h1.on f2).on hf).at_ (by omega)
        obtain ⟨b2, o2, rfl, _, c2⟩ := (h2.on hf).at_ (by omega)
        have hc1 := c1 k kx
        have hc2 := c2 k ky
        clear c1 c2 hd
        obtain ⟨p, hp⟩ : ∃ p, x.getD k 0 = p := ⟨_, rfl⟩
        obtain ⟨q, hq⟩ : ∃ q, y.getD k 0 = q := ⟨_, rfl⟩
        rw [hp] at hc1
        rw [hq] at hc2
        rw [hp, hq] at hlt hgt hst
        clear hp hq
        have kx' : (k : Int) < x.length := by omega
        have ky' : (k : Int) < y.length := by omega
        rcases (show p < q ∨ p = q ∨ q < p by omega) with h | h | h
        · have HE := Lib.hid (cmpV_lt (hlt h))
          clear hlt hgt hst
          go_wp2
          go_region
          go_wp2
          go_ret
          exact ⟨ret_int HE.out.symm, (f1.trans f2).trans hf.drew⟩
        · subst h
          have HS := Lib.hid (hst rfl)
          clear hlt hgt hst
          go_wp2
          go_region
          go_wp2
          go_region
          go_wp2
          go_roundw
          case rel => exact ⟨_, rfl, by omega, by omega, (by
            have e : ((k : Int) - 1 + 1).toNat = k := by omega
            show x.drop _ = y.drop _
            rw [e]; exact HS.out), hf.drew.drew⟩
          case measure => simp [RowKit.intOf]
        · have HE := Lib.hid (cmpV_gt (hgt h))
          clear hlt hgt hst
          go_wp2
          go_region
          go_wp2
          go_region
          go_wp2
          go_ret
          exact ⟨ret_int HE.out.symm, (f1.trans f2).trans hf.drew.drew⟩
  · have hne : ((x.length : Int) != (y.length : Int)) = true := by rw [bne_iff_ne]; omega
    have hl' : ¬ x.length < y.length := by omega
    rw [cmpV_gt (num_lt hy hx hl)]
    go_enter Tryd.func22, Tryd.ntmps22
    go_wp2_with fail
    go_at_call 36; refine (num_get hx _ _ _ ha).mono ?_; rintro e w1 ⟨ao1, c1, rfl, h1, f1⟩
    go_wp2_with fail
    go_at_call 36; refine (num_get hy _ _ _ (hb.on f1)).mono ?_; rintro e w2 ⟨bo1, c2, rfl, h2, f2⟩
    go_wp2
    go_ret
    exact ⟨rfl, f1.trans f2⟩
end Go.Proofs.YtebmkbfbfmnbbaaDoor
