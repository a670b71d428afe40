/-
  The reference's Of gives the list of an int value, the empty list for a negative one. For every int value; nothing that was there turns.
-/
import Derived.Test.YtebmkbfbfmnbbaaDoorNatMake
namespace Go.Proofs.YtebmkbfbfmnbbaaDoor
open Go.RowKit

theorem own_snoc {w : World} {base e n : Nat} {v : Value} {o : List Int} {z : Int} (hn : n = o.length) (h : w.ownsRow base e 1 v (n + 1) (cs o ++ [.int .i64 z])) : w.ownsRow base e 1 v (o ++ [z]).length (cs (o ++ [z])) := by
  subst hn
  rw [cs_app, List.length_append]
  exact h
theorem fur_own {w w1 w2 : World} {e n : Nat} {v : Value} {xs : List Value} {o : Obj} (hf : Fur w w1) (hown : w1.ownsRow w.heap.size e 1 v n xs) (hg : (w1.alloc o).grownBy w2 v.ownBlock) : Fur w w2 :=
  Below.grown (hf.alloc o) hg (by have := hf.size; simp; omega) (fun k hk => (hown.lt k hk).1)
theorem at_one (w : World) (z : Int) : ∀ j u, [Value.int .i64 z][j]? = some u → (w.alloc (.cells #[.int .i64 z] 3)).cell? ((⟨w.heap.size, 0, none⟩ : Addr).add j) = some u := by
  intro j u hj
  match j, hj with
  | 0, hj => simp at hj; subst hj; simp [Addr.add]
theorem lim_step {N m : Nat} {o : List Int} (h : o ++ lim m = lim N) (hm : m ≠ 0) : (o ++ [((m % 1000000000 : Nat) : Int)]) ++ lim (m / 1000000000) = lim N := by
  rw [← h, lim_s hm, List.append_assoc]; rfl
theorem lim_short {N : Nat} (h : N ≤ 9223372036854775807) : (lim N).length ≤ 3 := by
  rw [len_lim]
  have : (1000000000 : Nat) ^ 3 = 1000000000000000000000000000 := by decide
  omega

set_option maxHeartbeats 1600000 in
theorem of_any (n : Int) (h0 : -9223372036854775808 ≤ n) (h1 : n ≤ 9223372036854775807) (w : World) :
    Calls Tryd.prog 32 #[.int .i64 n] w (RetS w (lim n.toNat)) := by
  obtain ⟨i0, hi, hz0, hz1, hz2⟩ := info_parts infoI
  by_cases hn : 0 < n
  · obtain ⟨N, hN⟩ : ∃ N : Nat, n = (N : Int) := ⟨n.toNat, by omega⟩
    subst hN
    have hN2 : N ≤ 9223372036854775807 := by omega
    have hsh := lim_short hN2
    have e : ((N : Int)).toNat = N := by omega
    rw [e]
    clear e
    go_enter Tryd.func32, Tryd.ntmps32
    go_wp2
    go_loopw [0, 3] (fun x v wr => ∃ (m : Nat) (o : List Int), x = .int .i64 m ∧ m ≤ 9223372036854775807 ∧ wr.ownsRow w.heap.size 3 1 v o.length (cs o) ∧ Fur w wr ∧ Hid (o ++ lim m = lim N) ∧ o.length ≤ 3) (fun x _ _ => (RowKit.intOf x).toNat)
    case atStart => exact ⟨N, [], rfl, hN2, World.ownsRow_nil _ _ _ _, Fur.refl _, rfl, Nat.zero_le _⟩
    case round =>
      obtain ⟨m, o, rfl, hm, hown, hf, HL, ho⟩ := hrel
      by_cases hp : m = 0
      · subst hp
        have HE := Lib.hid (show o = lim N by have := HL.out; rwa [lim_0, List.append_nil] at this)
        obtain ⟨ao, cap, rfl, hl, hI⟩ := IsS.of_own hown
        go_wp2
        go_ret
        exact ret_of HE.out.symm ⟨_, _, rfl, hI, hf⟩
      · have hp' : 0 < m := by omega
        have HS := Lib.hid (lim_step HL.out hp)
        have ho2 : (o ++ [((m % 1000000000 : Nat) : Int)]).length ≤ 3 := by
          have := congrArg List.length HS.out
          rw [List.length_append] at this
          omega
        have HO := Lib.hid ho2
        clear ho2
        have hsz := hf.size
        go_wp2_with (at_builtin; refine wpList_append_own _ rfl (.tmp 6) (.tmp 9) 23 rfl w.heap.size 3 i0 (.int .i64 0) 1 8 Tryd.underlying23 hi hz0 hz1 hz2 rfl (by decide) _ _ _ rfl (hown.alloc _) ⟨wr.heap.size, 0, none⟩ 1 1 [.int .i64 ((m % 1000000000 : Nat) : Int)] rfl rfl (at_one _ _) (by intro u hu; simp at hu; subst hu; rfl) (by unfold maxLen; omega) (by omega) (by simp; omega) ?_; intro v' w1 hown' hgrow _)
        have hown2 := own_snoc rfl hown'
        have hf2 := fur_own hf hown hgrow
        clear hown' hgrow
        go_wp2
        go_roundw
        case rel => exact ⟨m / 1000000000, _, by go_num, by omega, hown2, hf2, HS.out, HO.out⟩
        case measure => simp [RowKit.intOf]; omega
  · have e : n.toNat = 0 := by omega
    rw [e, lim_0]
    have hn' : n ≤ 0 := by omega
    clear e
    go_enter Tryd.func32, Tryd.ntmps32
    go_wp2
    refine wp_loop_rounds 1 ?_
    rw [rounds_succ]
    go_wp2
    go_ret
    exact ⟨none, 0, rfl, IsS.empty _, Fur.refl _⟩
end Go.Proofs.YtebmkbfbfmnbbaaDoor
