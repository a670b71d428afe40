/-
  Package nat: Of gives the list of an int, an empty list for a negative one. For every argument; nothing that was there turns.
-/
import Derived.Test.YtebmkbfbfmnbbaaDoorNatA
namespace Go.Proofs.YtebmkbfbfmnbbaaDoor
open Go.RowKit

set_option maxHeartbeats 1600000 in
theorem nat_of (n : Int) (h0 : -9223372036854775808 ≤ n) (h1 : n ≤ 9223372036854775807) (w : World) :
    Calls Tryd.prog 31 #[.int .i64 n] w (RetS w (lim n.toNat)) := by
  obtain ⟨i0, hi, hz0, hz1, hz2⟩ := info_parts infoI
  by_cases hn : 0 < n
  · obtain ⟨N, hN⟩ : ∃ N : Nat, n = (N : Int) := ⟨n.toNat, by omega⟩
    subst hN
    have hN2 : N ≤ 9223372036854775807 := by omega
    have hsh := lim_short hN2
    have e : ((N : Int)).toNat = N := by omega
    rw [e]
    clear e
    go_enter Tryd.func31, Tryd.ntmps31
    go_wp2
    go_loopw [0, 3] (fun x v wr => ∃ (m : Nat) (o : List Int), x = .int .i64 m ∧ m ≤ 9223372036854775807 ∧ wr.ownsRow w.heap.size 3 1 v o.length (cs o) ∧ Fur w wr ∧ Hid (o ++ lim m = lim N) ∧ o.length ≤ 3) (fun x _ _ => (RowKit.intOf x).toNat)
    case atStart => exact ⟨N, [], rfl, hN2, World.ownsRow_nil _ _ _ _, Fur.refl _, rfl, Nat.zero_le _⟩
    case round =>
      obtain ⟨m, o, rfl, hm, hown, hf, HL, ho⟩ := hrel
      by_cases hp : m = 0
      · subst hp
        have HE := Lib.hid (show o = lim N by have := HL.out; rwa [lim_0, List.append_nil] at this)
        obtain ⟨ao, cap, rfl, hl, hI⟩ := IsS.of_own hown
        go_wp2
        go_ret
        exact ret_of HE.out.symm ⟨_, _, rfl, hI, hf⟩
      · have hp' : 0 < m := by omega
        have HS := Lib.hid (lim_step HL.out hp)
        have ho2 : (o ++ [((m % 1000000000 : Nat) : Int)]).length ≤ 3 := by
          have := congrArg List.length HS.out
          rw [List.length_append] at this
          omega
        have HO := Lib.hid ho2
        clear ho2
        have hsz := hf.size
        go_wp2_with (at_builtin; refine wpList_append_own _ rfl (.tmp 6) (.tmp 9) 23 rfl w.heap.size 3 i0 (.int .i64 0) 1 8 Tryd.underlying23 hi hz0 hz1 hz2 rfl (by decide) _ _ _ rfl (hown.alloc _) ⟨wr.heap.size, 0, none⟩ 1 1 [.int .i64 ((m % 1000000000 : Nat) : Int)] rfl rfl (at_one _ _) (by intro u hu; simp at hu; subst hu; rfl) (by unfold maxLen; omega) (by omega) (by simp; omega) ?_; intro v' w1 hown' hgrow _)
        have hown2 := own_snoc rfl hown'
        have hf2 := fur_own hf hown hgrow
        clear hown' hgrow
        go_wp2
        go_roundw
        case rel => exact ⟨m / 1000000000, _, by go_num, by omega, hown2, hf2, HS.out, HO.out⟩
        case measure => simp [RowKit.intOf]; omega
  · have e : n.toNat = 0 := by omega
    rw [e, lim_0]
    have hn' : n ≤ 0 := by omega
    clear e
    go_enter Tryd.func31, Tryd.ntmps31
    go_wp2
    refine wp_loop_rounds 1 ?_
    rw [rounds_succ]
    go_wp2
    go_ret
    exact ⟨none, 0, rfl, IsS.empty _, Fur.refl _⟩


theorem ntop_get (w : World) : Calls Tryd.prog 31 #[.int .i64 9223372036854775807] w (RetS w topL) := nat_of 9223372036854775807 (by decide) (by decide) w

theorem vl_cut (l : List Int) (k : Nat) : vl l = vl (l.take k) + 1000000000 ^ k * vl (l.drop k) := by
  by_cases h : k ≤ l.length
  · have t : (l.take k).length = k := by rw [List.length_take]; omega
    have e := vl_app (l.take k) (l.drop k)
    rw [List.take_append_drop, t] at e
    exact e
  · rw [List.take_of_length_le (by omega), List.drop_of_length_le (by omega)]
    simp [vl]
theorem drop_one (l : List Int) (k : Nat) : vl (l.drop k) = (l.getD k 0).toNat + 1000000000 * vl (l.drop (k + 1)) := by
  by_cases h : k < l.length
  · exact drop_vl k h
  · rw [List.drop_of_length_le (by omega), List.drop_of_length_le (by omega), List.getD_eq_getElem?_getD, List.getElem?_eq_none (by omega)]
    rfl
theorem take_small {l : List Int} (h : Digs l) (k : Nat) : vl (l.take k) < 1000000000 ^ k :=
  Nat.lt_of_lt_of_le (vl_lt (digs_take h k)) (Nat.pow_le_pow_right (by decide) (by rw [List.length_take]; omega))
theorem cmp_lt {x y : List Int} (k : Nat) (dx : Digs x) (he : vl (x.drop (k + 1)) = vl (y.drop (k + 1))) {p q : Int} (hp : x.getD k 0 = p) (hq : y.getD k 0 = q) (p0 : 0 ≤ p) (h : p < q) : vl x < vl y := by
  rw [vl_cut x k, vl_cut y k, drop_one x k, drop_one y k, he, hp, hq]
  have a := take_small dx k
  have b : p.toNat + 1000000000 * vl (y.drop (k + 1)) + 1 ≤ q.toNat + 1000000000 * vl (y.drop (k + 1)) := by omega
  have c := Nat.mul_le_mul_left (1000000000 ^ k) b
  rw [Nat.mul_add, Nat.mul_one] at c
  omega

end Go.Proofs.YtebmkbfbfmnbbaaDoor
