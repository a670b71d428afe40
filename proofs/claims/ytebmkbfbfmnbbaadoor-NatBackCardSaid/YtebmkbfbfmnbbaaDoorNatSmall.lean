/-
  The reference's Small gives the number of a slice of int if it is an int. For every slice of int; nothing that was there turns.
-/
import Derived.Test.YtebmkbfbfmnbbaaDoorNatCmp
namespace Go.Proofs.YtebmkbfbfmnbbaaDoor
open Go.RowKit

theorem nv_num {a x : List Int} (h : Num a x) : nv x = nv a := by
  have e : x = lim (nv a) := by rw [← h.val, h.can]
  rw [e, nv_lim (nv_lt a)]
theorem take_vl (l : List Int) (k : Nat) : vl (l.take (k + 1)) = vl (l.take k) + 1000000000 ^ k * (l.getD k 0).toNat := by
  by_cases h : k < l.length
  · rw [List.take_succ_eq_append_getElem h, vl_app, ← getD_at h, List.length_take, Nat.min_eq_left (by omega)]
    simp [vl]
  · rw [List.take_of_length_le (by omega), List.take_of_length_le (by omega), List.getD_eq_getElem?_getD, List.getElem?_eq_none (by omega)]
    simp
theorem digs_getD {l : List Int} (h : Digs l) (k : Nat) : 0 ≤ l.getD k 0 ∧ l.getD k 0 < 1000000000 := by
  by_cases hk : k < l.length
  · exact digs_at h k hk
  · rw [List.getD_eq_getElem?_getD, List.getElem?_eq_none (by omega)]
    exact ⟨by decide, by decide⟩
theorem drop_vl {l : List Int} (k : Nat) (h : k < l.length) : vl (l.drop k) = (l.getD k 0).toNat + 1000000000 * vl (l.drop (k + 1)) := by
  rw [List.drop_eq_getElem_cons h, vl, getD_at h]
theorem drop_le (l : List Int) (k : Nat) : vl (l.drop k) ≤ vl l := by
  have e := vl_app (l.take k) (l.drop k)
  rw [List.take_append_drop] at e
  have : 1 * vl (l.drop k) ≤ 1000000000 ^ (l.take k).length * vl (l.drop k) := Nat.mul_le_mul_right _ (Nat.pow_pos (by decide))
  omega

def smallV (n : Nat) : Int := if n ≤ 9223372036854775807 then n else 0
def smallB (n : Nat) : Bool := decide (n ≤ 9223372036854775807)

/-- A result is an int and a bool; nothing that was there has turned. -/
def RetIB (w : World) (n : Int) (c : Bool) (e : Ending) (w' : World) : Prop := e = .returned (.tuple #[.int .i64 n, .bool c]) ∧ Fur w w'
theorem ret_ib {a b : Int} {c d : Bool} (h1 : a = b) (h2 : c = d) : Ending.returned (.tuple #[.int .i64 a, .bool c]) = .returned (.tuple #[.int .i64 b, .bool d]) := by rw [h1, h2]

/-- The greatest int's list. -/
def topL : List Int := lim 9223372036854775807
theorem nv_top : nv topL = 9223372036854775807 := nv_lim (Nat.lt_of_lt_of_le (show 9223372036854775807 < 1000000000 ^ 3 by decide) (Nat.pow_le_pow_right (by decide) (by decide)))
theorem top_get (w : World) : Calls Tryd.prog 32 #[.int .i64 9223372036854775807] w (RetS w topL) := of_any 9223372036854775807 (by decide) (by decide) w

set_option maxHeartbeats 3200000 in
theorem small_any (ao : Option Addr) (a : List Int) (ca : Nat) (w : World) (ha : IsS w ao a ca) :
    Calls Tryd.prog 17 #[.slice ao a.length ca] w (RetIB w (smallV (nv a)) (smallB (nv a))) := by
  obtain ⟨x, hx⟩ := num_of a
  have lx := hx.len
  have hc : ∀ (bo : Option Addr) (cb : Nat) (ao1 : Option Addr) (c1 : Nat) (w : World), IsS w ao1 x c1 → IsS w bo topL cb → Calls Tryd.prog 22 #[.slice ao1 x.length c1, .slice bo topL.length cb] w (RetI w (cmpV (nv a) 9223372036854775807)) := fun bo cb ao1 c1 w h1 h2 => by
    have k := cmp_any ao1 bo x topL c1 cb w h1 h2
    rwa [nv_num hx, nv_top] at k
  by_cases hn : nv a ≤ 9223372036854775807
  · have e1 : smallV (nv a) = nv a := by unfold smallV; rw [if_pos hn]
    have e2 : smallB (nv a) = true := decide_eq_true hn
    rw [e1, e2]; clear e1 e2
    have hle : cmpV (nv a) 9223372036854775807 ≤ 0 := by
      rcases Nat.lt_or_eq_of_le hn with h | h
      · rw [cmpV_lt h]; decide
      · rw [cmpV_eq h]; exact Int.le_refl _
    generalize cmpV (nv a) 9223372036854775807 = c at hc hle
    have HC := Lib.hid hc
    have HN := Lib.hid hn
    clear hc hn
    go_enter Tryd.func17, Tryd.ntmps17
    go_wp2_with fail
    go_at_call 36; refine (num_get hx _ _ _ ha).mono ?_; rintro e w1 ⟨ao1, c1, rfl, h1, f1⟩
    go_wp2_with fail
    go_at_call 32; refine (top_get _).mono ?_; rintro e w2 ⟨bo1, c2, rfl, h2, f2⟩
    go_wp2_with fail
    go_at_call 22; refine (HC.out _ _ _ _ _ (h1.on f2) h2).mono ?_; rintro e w3 ⟨rfl, f3⟩
    go_wp2
    go_loop [5, 6] (fun n i => ∃ j : Int, i = .int .i64 j ∧ -1 ≤ j ∧ j < x.length ∧ ∃ v : Nat, n = .int .i64 v ∧ Hid (v = vl (x.drop (j + 1).toNat))) (fun _ i => (RowKit.intOf i + 1).toNat)
    case atStart => exact ⟨_, rfl, by omega, by omega, 0, rfl, (by
      show 0 = vl (x.drop _)
      rw [List.drop_of_length_le (by omega)]; rfl)⟩
    case round =>
      obtain ⟨j, rfl, j0, j1, v, rfl, HV⟩ := hrel
      by_cases hj : j = -1
      · subst hj
        have HE := Lib.hid (show (v : Int) = (nv a : Int) by
          have h := HV.out
          rw [← hx.val]
          have e : x.drop ((-1 : Int) + 1).toNat = x := rfl
          rw [e] at h
          omega)
        go_wp2
        go_ret2
        exact ⟨ret_ib HE.out rfl, (f1.trans f2).trans f3⟩
      · obtain ⟨k, rfl⟩ : ∃ k : Nat, j = (k : Int) := ⟨j.toNat, by omega⟩
        have kx : k < x.length := by omega
        have hv : v = vl (x.drop (k + 1)) := HV.out
        have hd := drop_vl k kx
        have hb := drop_le x k
        rw [hx.val] at hb
        have hnn := HN.out
        obtain ⟨p0, p1⟩ := digs_at hx.digs k kx
        rw [← hv] at hd
        obtain ⟨b1, o1, rfl, _, c4⟩ := (((h1.on f2).on f3)).at_ (by omega)
        have hc1 := c4 k kx
        obtain ⟨p, hp⟩ : ∃ p, x.getD k 0 = p := ⟨_, rfl⟩
        rw [hp] at hc1 hd p0 p1
        clear c4 hp hv
        have hs0 : (v : Int) * 1000000000 + p ≤ 9223372036854775807 := by omega
        have hs1 : 0 ≤ (v : Int) * 1000000000 := by omega
        have HS := Lib.hid (show ((v * 1000000000 + p.toNat : Nat)) = vl (x.drop k) by omega)
        have HP := Lib.hid (show (v : Int) * 1000000000 + p = ((v * 1000000000 + p.toNat : Nat) : Int) by omega)
        clear hd hb hnn
        have kx' : (k : Int) < x.length := by omega
        go_wp2
        go_round
        case rel => exact ⟨_, rfl, by omega, by omega, v * 1000000000 + p.toNat, congrArg _ HP.out, (by
            have e : ((k : Int) - 1 + 1).toNat = k := by omega
            show _ = vl (x.drop _)
            rw [e]; exact HS.out)⟩
        case measure => simp [RowKit.intOf]
  · have e1 : smallV (nv a) = 0 := by unfold smallV; rw [if_neg hn]
    have e2 : smallB (nv a) = false := decide_eq_false hn
    rw [e1, e2]; clear e1 e2
    rw [cmpV_gt (show 9223372036854775807 < nv a by omega)] at hc
    have HC := Lib.hid hc
    clear hc hn
    go_enter Tryd.func17, Tryd.ntmps17
    go_wp2_with fail
    go_at_call 36; refine (num_get hx _ _ _ ha).mono ?_; rintro e w1 ⟨ao1, c1, rfl, h1, f1⟩
    go_wp2_with fail
    go_at_call 32; refine (top_get _).mono ?_; rintro e w2 ⟨bo1, c2, rfl, h2, f2⟩
    go_wp2_with fail
    go_at_call 22; refine (HC.out _ _ _ _ _ (h1.on f2) h2).mono ?_; rintro e w3 ⟨rfl, f3⟩
    go_wp2
    go_ret2
    exact ⟨rfl, (f1.trans f2).trans f3⟩
end Go.Proofs.YtebmkbfbfmnbbaaDoor
