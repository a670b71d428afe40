/-
  For every two (three) slices of int, the laws IntsetSplits of package intset return true. The walks alone; in any world; nothing that was there turns.
-/
import Derived.Test.YtmmkcnohicfjeaaIsTells
namespace Go.Proofs.Ytmmkcnohicfjeaa
open Go.RowKit

theorem seek_bd (l : List Int) (f : Nat) (x : Int) : 0 ≤ seekN l f x ∧ seekN l f x ≤ l.length := by
  refine ⟨Nat.zero_le _, ?_⟩
  rcases Nat.le_total f l.length with h | h
  · exact (seek_le l f x h).2
  · rw [seek_out f h]; exact Nat.le_refl _
/-- In a set, what lies from f on before the result is less than x, and what lies behind it is not. -/
theorem split_at {l : List Int} (hs : Str l) (f : Nat) (x : Int) : ∀ k, f ≤ k → k < l.length → (l.getD k 0 < x ↔ k < seekN l f x) := by
  intro k hf hk
  rw [getD_at hk]
  constructor
  · intro h
    rcases Nat.lt_or_ge k (seekN l f x) with j | j
    · exact j
    · exfalso
      have h1 := seek_hi l f x (by omega)
      rcases Nat.eq_or_lt_of_le j with q | q
      · subst q; omega
      · have h2 := List.pairwise_iff_getElem.1 hs (seekN l f x) k (by omega) hk q
        omega
  · intro h
    exact seek_lo l f x k hf h hk

set_option maxHeartbeats 6400000 in
set_option maxRecDepth 100000 in
theorem splits_walk (ao : Option Addr) (a : List Int) (ca : Nat) (fr x : Int) (w : World) (ha : IsS w ao a ca) :
    Calls Try.prog 8 #[.slice ao a.length ca, .int .i64 fr, .int .i64 x] w (RetB w true) := by
  have F := Fur.refl w
  by_cases hs : a.length ≤ 200
  · have b1 := ofL_len a
    have k1 := k_of (a := a) (by omega)
    have HT := Lib.hid (split_at (ofL_str a) fr.toNat x)
    obtain ⟨g0, g1⟩ := seek_bd (ofL a) fr.toNat x
    have v1 := Lib.hid (fun w ao ca h => seek_any ao (ofL a) ca fr x w h)
    generalize ofL a = l at k1 v1 HT b1 g0 g1
    generalize seekN l fr.toNat x = v at v1 HT g0 g1
    have i0 : ¬ ((v : Int) < 0) := by omega
    have i1 : ¬ (l.length < v) := by omega
    obtain ⟨f, hf, hm⟩ : ∃ f : Nat, fr.toNat = f ∧ max fr 0 = (f : Int) := ⟨fr.toNat, rfl, by omega⟩
    rw [hf] at HT
    clear hf
    go_enter Try.func8, Try.ntmps8
    go_wp2_with fail
    go_at_call 9; refine (small_yes _ _ _ _ _ _ _ hs (by omega)).mono ?_; rintro e w1 ⟨rfl, rfl⟩
    go_wp2_with fail
    go_at_call 16; refine (k1 _ _ _ ha).mono ?_; rintro e w2 ⟨a2, c2, rfl, g2, f2⟩
    replace ha := ha.on f2
    replace F := F.trans f2
    clear f2
    go_wp2_with fail
    go_at_call 24; refine (v1.out _ _ _ g2).mono ?_; rintro e w3 ⟨rfl, rfl⟩
    have GL := Lib.hid g1
    go_wp2
    go_loop [9] (fun i => ∃ k : Nat, i = .int .i64 k ∧ f ≤ k) (fun i => l.length - (RowKit.intOf i).toNat)
    case atStart => exact ⟨f, rfl, Nat.le_refl _⟩
    case round =>
      obtain ⟨k, rfl, hk⟩ := hrel
      by_cases hlt : k < l.length
      · obtain ⟨b1, off, rfl, _, hc⟩ := g2.at_ (by omega)
        have c0 := hc k hlt
        clear hc
        have hz := HT.out k hk hlt
        obtain ⟨z, hzz⟩ : ∃ z, l.getD k 0 = z := ⟨_, rfl⟩
        rw [hzz] at c0 hz
        clear hzz
        by_cases hq : z < x
        · have h2 : k < v := hz.1 hq
          go_wp2
          go_round
          case rel => exact ⟨k + 1, by go_num, by omega⟩
          case measure => simp [RowKit.intOf]; omega
        · have h2 : ¬ (k < v) := fun h => hq (hz.2 h)
          go_wp2
          go_round
          case rel => exact ⟨k + 1, by go_num, by omega⟩
          case measure => simp [RowKit.intOf]; omega
      · go_wp2_with fail
        go_at_call 10; refine (alive_any _).mono ?_; rintro e w9 ⟨rfl, f9⟩
        go_wp2
        go_ret
        exact ⟨rfl, F.trans f9⟩
  · have hs2 : 200 < a.length ∨ 200 < 0 := by omega
    clear hs
    go_enter Try.func8, Try.ntmps8
    go_wp2_with fail
    go_at_call 9; refine (small_no _ _ _ _ _ _ _ hs2).mono ?_; rintro e w1 ⟨rfl, rfl⟩
    go_wp2_with fail
    go_at_call 10; refine (alive_any _).mono ?_; rintro e w2 ⟨rfl, f2⟩
    go_wp2
    go_ret
    exact ⟨rfl, F.trans f2⟩
end Go.Proofs.Ytmmkcnohicfjeaa
