/-
  The reference's functions on limbs that make a slice: num copies a valid list and gives an empty one for any other; trim copies a list without its zero limbs at the end. For every slice of int of at most 1000000 limbs; nothing that was there turns.
-/
import Derived.Test.YtebmkbfbfmnbbaaDoorNatRead
import Derived.OwnWalk
import Derived.Laws.AppendOwnNone
import Derived.Laws.OwnMore
namespace Go.Proofs.YtebmkbfbfmnbbaaDoor
open Go.RowKit

theorem infoI : (Tryd.prog.info? 3).map (fun i => (i.zero, i.size, i.bytes)) = some (some (.int .i64 0), 1, 8) := by kernel_rfl
theorem one_cell (zs : List Int) : ∀ u ∈ cs zs, u.oneCell' = true := by
  intro u hu
  obtain ⟨z, _, rfl⟩ := List.mem_map.1 hu
  rfl
theorem cs_at {w : World} {b off : Nat} {zs : List Int} (h : ∀ j, j < zs.length → w.cell? ⟨b, off + j, none⟩ = some (.int .i64 (zs.getD j 0))) :
    ∀ j u, (cs zs)[j]? = some u → w.cell? ((⟨b, off, none⟩ : Addr).add j) = some u := by
  intro j u hj
  obtain ⟨hl, e⟩ := List.getElem?_eq_some_iff.1 hj
  rw [cs_len] at hl
  rw [Go.WideShapes.add_plain, h j hl, ← e, getD_at hl]
  simp [cs]

set_option maxHeartbeats 800000 in
theorem num_any (ao : Option Addr) (zs : List Int) (cap : Nat) (w : World) (hs : IsS w ao zs cap) :
    Calls Tryd.prog 36 #[.slice ao zs.length cap] w (RetS w (numL zs)) := by
  obtain ⟨i0, hi, hz0, hz1, hz2⟩ := info_parts infoI
  cases hv : okL zs
  · have e : numL zs = [] := by unfold numL; rw [hv]; rfl
    rw [e]; clear e
    go_enter Tryd.func36, Tryd.ntmps36
    go_wp2_with (go_at_call 24; refine (valid_any _ _ _ _ hs).mono ?_; rintro e w' ⟨rfl, rfl⟩)
    go_ret
    exact ⟨none, 0, rfl, IsS.empty _, Fur.refl _⟩
  · have e : numL zs = zs := by unfold numL; rw [hv]; rfl
    rw [e]; clear e
    have h64 := (okL_t hv).1
    cases ao with
    | none =>
      have hc := hs.nil rfl
      subst hc
      have hz : zs = [] := List.length_eq_zero_iff.1 (by have := hs.le; omega)
      subst hz
      go_enter Tryd.func36, Tryd.ntmps36
      go_wp2_with (first
        | (go_at_call 24; refine (valid_any none [] 0 _ hs).mono ?_; rintro e w' ⟨rfl, rfl⟩)
        | (at_builtin; refine wpList_append_own_none rfl (.tmp 6) (.tmp 7) 23 rfl w.heap.size 3 i0 1 Tryd.underlying23 hi _ 0 [] rfl (World.ownsRow_lit w #[] 0 (Nat.le_refl _) (Nat.zero_le _) rfl) rfl ?_))
      go_ret
      exact ⟨_, _, rfl, ⟨Nat.le_refl _, Nat.zero_le _, (fun h => by cases h), fun h => absurd h (by decide)⟩, (Fur.refl _).alloc _⟩
    | some ad =>
      have hcells : ∀ j u, (cs zs)[j]? = some u → w.cell? (ad.add j) = some u := by
        intro j u hj
        have hl : j < zs.length := by
          have := (List.getElem?_eq_some_iff.1 hj).1
          rwa [cs_len] at this
        obtain ⟨b, off, e, hb, hc⟩ := hs.at_ (by omega)
        injection e with e
        subst e
        exact cs_at hc j u hj
      have hcells' : ∀ j u, (cs zs)[j]? = some u → (w.alloc (.cells #[] 3)).cell? (ad.add j) = some u := by
        intro j u hj
        have hl : j < zs.length := by
          have := (List.getElem?_eq_some_iff.1 hj).1
          rwa [cs_len] at this
        obtain ⟨b, off, e, hb, hc⟩ := hs.at_ (by omega)
        injection e with e
        subst e
        rw [Below.cell ((Fur.refl w).alloc (.cells #[] 3)) (p := (⟨b, off, none⟩ : Addr).add j) (by rw [Go.WideShapes.add_plain]; exact hb)]
        exact hcells j u hj
      have HC := Lib.hid hcells'
      clear hcells hcells'
      go_enter Tryd.func36, Tryd.ntmps36
      go_wp2_with (first
        | (go_at_call 24; refine (valid_any _ _ _ _ hs).mono ?_; rintro e w' ⟨rfl, rfl⟩)
        | (at_builtin; refine wpList_append_own _ rfl (.tmp 6) (.tmp 7) 23 rfl w.heap.size 3 i0 (.int .i64 0) 1 8 Tryd.underlying23 hi hz0 hz1 hz2 rfl (by decide) _ 0 [] rfl (World.ownsRow_lit w #[] 0 (Nat.le_refl _) (Nat.zero_le _) rfl) ad zs.length cap (cs zs) rfl (by rw [cs_len]; omega) HC.out (one_cell zs) (by unfold maxLen; omega) (by omega) (by simp) ?_; intro v' w1 hown hgrow hnil))
      obtain ⟨ao', cap', rfl, hn, hI⟩ := IsS.of_own hown
      have hf : Fur w w1 := ((Fur.refl w).alloc _).grown hgrow (by simp) (by intro k hk; obtain rfl := Option.some.inj hk; exact Nat.le_refl _)
      go_ret
      exact ⟨_, _, rfl, hI, hf⟩

theorem trim_step {zs : List Int} (m : Nat) (hm : m < zs.length) (h : zs.getD m 0 = 0) : vl (zs.take m) = vl (zs.take (m + 1)) := by
  rw [List.take_succ_eq_append_getElem hm, ← getD_at hm, h, vl_app]
  simp [vl]
theorem trim_end {zs : List Int} (m : Nat) (hm : m < zs.length) (hd : Digs zs) (h : zs.getD m 0 ≠ 0) (hv : vl (zs.take (m + 1)) = vl zs) : zs.take (m + 1) = lim (vl zs) := by
  rw [← hv, lim_vl (digs_take hd _)]
  rw [List.take_succ_eq_append_getElem hm, ← getD_at hm]
  simp
  rw [List.getD_eq_getElem?_getD] at h
  exact h
theorem cs_take_at {w : World} {b off : Nat} {zs : List Int} (k : Nat) (h : ∀ j, j < zs.length → w.cell? ⟨b, off + j, none⟩ = some (.int .i64 (zs.getD j 0))) :
    ∀ j u, (cs (zs.take k))[j]? = some u → w.cell? ((⟨b, off, none⟩ : Addr).add j) = some u := by
  intro j u hj
  refine cs_at h j u ?_
  unfold cs at hj ⊢
  rw [List.map_take] at hj
  have hl := (List.getElem?_eq_some_iff.1 hj).1
  rw [List.length_take] at hl
  rw [List.getElem?_take_of_lt (by omega)] at hj
  exact hj

theorem ret_of {w : World} {a b : List Int} {e : Ending} {w' : World} (h : a = b) (k : RetS w b e w') : RetS w a e w' := by rw [h]; exact k

set_option maxHeartbeats 1600000 in
theorem trim_any (ao : Option Addr) (zs : List Int) (cap : Nat) (w : World) (hs : IsS w ao zs cap) (hd : Digs zs) (hlen : zs.length ≤ 1000000) :
    Calls Tryd.prog 41 #[.slice ao zs.length cap] w (RetS w (lim (vl zs))) := by
  obtain ⟨i0, hi, hz0, hz1, hz2⟩ := info_parts infoI
  have hle := hs.le
  have hmx := hs.max
  unfold maxLen at hmx
  go_enter Tryd.func41, Tryd.ntmps41
  go_wp2
  go_loop [3] (fun n => ∃ k : Nat, k ≤ zs.length ∧ n = .int .i64 k ∧ Hid (vl (zs.take k) = vl zs)) (fun n => (RowKit.intOf n).toNat)
  case atStart => exact ⟨zs.length, Nat.le_refl _, rfl, congrArg vl List.take_length⟩
  case round =>
    obtain ⟨k, hk, rfl, HV⟩ := hrel
    rcases k with _ | m
    · have HZ := Lib.hid (show vl zs = 0 by rw [← HV.out]; rfl)
      clear HV
      cases ao with
      | none =>
        have hc := hs.nil rfl
        subst hc
        go_wp2_with (at_builtin; refine wpList_append_own_none rfl (.tmp 18) (.tmp 21) 23 rfl w.heap.size 3 i0 1 Tryd.underlying23 hi _ 0 [] rfl (World.ownsRow_lit w #[] 0 (Nat.le_refl _) (Nat.zero_le _) rfl) rfl ?_)
        go_ret
        exact ret_of (by rw [HZ.out, lim_0]) ⟨_, _, rfl, ⟨Nat.le_refl _, Nat.zero_le _, (fun h => by cases h), fun h => absurd h (by decide)⟩, (Fur.refl _).alloc _⟩
      | some ad =>
        go_wp2_with (at_builtin; refine wpList_append_own _ rfl (.tmp 18) (.tmp 21) 23 rfl w.heap.size 3 i0 (.int .i64 0) 1 8 Tryd.underlying23 hi hz0 hz1 hz2 rfl (by decide) _ 0 [] rfl (World.ownsRow_lit w #[] 0 (Nat.le_refl _) (Nat.zero_le _) rfl) ad 0 cap [] rfl rfl (by intro j u hj; simp at hj) (by intro u hu; cases hu) (by unfold maxLen; omega) (by omega) (by simp) ?_; intro v' w1 hown hgrow hnil)
        obtain ⟨ao', cap', rfl, hn, hI⟩ := IsS.of_own (zs := []) hown
        have hf : Fur w w1 := ((Fur.refl w).alloc _).grown hgrow (by simp) (by intro k hk; obtain rfl := Option.some.inj hk; exact Nat.le_refl _)
        go_ret
        exact ret_of (by rw [HZ.out, lim_0]) ⟨_, _, rfl, hI, hf⟩
    · have hm : m < zs.length := by omega
      obtain ⟨b, off, rfl, hb, hc⟩ := hs.at_ (by omega)
      have hck := hc m hm
      have hst := trim_step m hm
      have hen := trim_end m hm hd
      have HC := Lib.hid (cs_take_at (m + 1) hc)
      obtain ⟨z, hz⟩ : ∃ z, zs.getD m 0 = z := ⟨_, rfl⟩
      rw [hz] at hck hst hen
      clear hc hz
      by_cases h0 : z = 0
      · subst h0
        have HS := Lib.hid (hst rfl)
        clear hst hen HC
        go_wp2
        go_round
        case rel => exact ⟨m, by omega, by go_num, HS.out.trans HV.out⟩
        case measure => simp [RowKit.intOf]
      · have hne : (z == 0) = false := by simpa using h0
        have HE := Lib.hid (hen h0 HV.out)
        have hl : (zs.take (m + 1)).length = m + 1 := by rw [List.length_take]; omega
        have HL := Lib.hid hl
        have HC' := Lib.hid (show ∀ j u, (cs (zs.take (m + 1)))[j]? = some u → (w.alloc (.cells #[] 3)).cell? ((⟨b, off, none⟩ : Addr).add j) = some u from fun j u hj => by
          rw [Below.cell ((Fur.refl w).alloc (.cells #[] 3)) (p := (⟨b, off, none⟩ : Addr).add j) (by rw [Go.WideShapes.add_plain]; exact hb)]
          exact HC.out j u hj)
        clear hst hen hl HC
        go_wp2_with (at_builtin; refine wpList_append_own _ rfl (.tmp 18) (.tmp 21) 23 rfl w.heap.size 3 i0 (.int .i64 0) 1 8 Tryd.underlying23 hi hz0 hz1 hz2 rfl (by decide) _ 0 [] rfl (World.ownsRow_lit w #[] 0 (Nat.le_refl _) (Nat.zero_le _) rfl) ⟨b, off, none⟩ (m + 1) cap (cs (zs.take (m + 1))) rfl (by rw [cs_len, HL.out]; omega) HC'.out (one_cell _) (by unfold maxLen; omega) (by omega) (by simp) ?_; intro v' w1 hown hgrow hnil)
        obtain ⟨ao', cap', rfl, hn, hI⟩ := IsS.of_own hown
        have hf : Fur w w1 := ((Fur.refl w).alloc _).grown hgrow (by simp) (by intro k hk; obtain rfl := Option.some.inj hk; exact Nat.le_refl _)
        go_ret
        exact ret_of HE.out.symm ⟨_, _, rfl, hI, hf⟩
end Go.Proofs.YtebmkbfbfmnbbaaDoor
