/-
  The reference's Of, Union, Meet and Minus give the set of a slice, the union, the intersection and the difference of two slices as new slices. For slices of at most 400,000 ints; nothing that was there turns.
-/
import Derived.Test.YtmmkcnohicfjeaaIsW
namespace Go.Proofs.Ytmmkcnohicfjeaa
open Go.RowKit

theorem rets_of {w : World} {zs o : List Int} {e : Ending} {w' : World} (h : zs = o) (k : RetS w o e w') : RetS w zs e w' := by rw [h]; exact k
theorem fold_step {s zs o : List Int} (k : Nat) (hk : k < zs.length) (h : o = (zs.take k).foldl insL s) : insL o (zs.getD k 0) = (zs.take (k + 1)).foldl insL s := by
  rw [getD_at hk, List.take_succ_eq_append_getElem hk, List.foldl_append, ← h]; rfl
theorem fold_bd {s zs o : List Int} (k : Nat) (h : o = (zs.take k).foldl insL s) : o.length ≤ s.length + zs.length := by
  have h1 := fold_len s (zs.take k)
  have h2 : (zs.take k).length ≤ zs.length := List.length_take_le' _ _
  rw [h]; omega

set_option maxHeartbeats 1600000 in
theorem rof_any (ao : Option Addr) (zs : List Int) (cap : Nat) (w : World) (hs : IsS w ao zs cap) (hl : zs.length ≤ 1000000) :
    Calls Try.prog 17 #[.slice ao zs.length cap] w (RetS w (ofL zs)) := by
  go_enter Try.func17, Try.ntmps17
  go_wp2
  go_loopw [3, 4] (fun v i wr => ∃ (k : Nat) (o : List Int) (bo : Option Addr) (cb : Nat), i = .int .i64 k ∧ k ≤ zs.length ∧ v = .slice bo o.length cb ∧ IsS wr bo o cb ∧ Fur w wr ∧ Hid (o = (zs.take k).foldl insL [])) (fun _ i _ => zs.length - (RowKit.intOf i).toNat)
  case atStart => exact ⟨0, [], none, 0, rfl, Nat.zero_le _, rfl, IsS.empty _, Fur.refl _, rfl⟩
  case round =>
    obtain ⟨k, o, bo, cb, rfl, hk, rfl, hI, hf, HW⟩ := hrel
    by_cases hlt : k < zs.length
    · obtain ⟨b, off, rfl, hb, hc⟩ := (hs.on hf).at_ (by omega)
      have c0 := hc k hlt
      clear hc
      have ho : o.length ≤ 1000000 := by have := fold_bd k HW.out; simp at this; omega
      have h1 := fold_step k hlt HW.out
      obtain ⟨z, hz⟩ : ∃ z, zs.getD k 0 = z := ⟨_, rfl⟩
      rw [hz] at c0 h1
      clear hz
      have HN := Lib.hid h1
      clear h1
      have HC := Lib.hid (with_any bo o cb z wr hI ho)
      generalize insL o z = p at HN HC
      go_wp2_with fail
      go_at_call 32; refine HC.out.mono ?_; rintro e w1 ⟨ao1, c1, rfl, h1, f1⟩
      go_wp2
      go_roundw
      case rel => exact ⟨k + 1, p, ao1, c1, by go_num, by omega, rfl, h1, hf.trans f1, HN.out⟩
      case measure => simp [RowKit.intOf]; omega
    · have HE := Lib.hid (show ofL zs = o by
        have h := HW.out
        rw [List.take_of_length_le (by omega)] at h
        exact h.symm)
      go_wp2
      go_ret
      exact rets_of HE.out ⟨bo, cb, rfl, hI, hf⟩

set_option maxHeartbeats 1600000 in
theorem run_any (ao bo : Option Addr) (a b : List Int) (ca cb : Nat) (w : World) (ha : IsS w ao a ca) (hb : IsS w bo b cb) (la : a.length ≤ 400000) (lb : b.length ≤ 400000) :
    Calls Try.prog 19 #[.slice ao a.length ca, .slice bo b.length cb] w (RetS w (unL a b)) := by
  have HS := Lib.hid (show ∀ o : List Int, o = b.foldl insL (ofL a) → unL a b = o by
    rintro o rfl
    unfold unL ofL
    rw [List.foldl_append])
  have hd := ofL_len a
  have HA := Lib.hid (rof_any ao a ca w ha (by omega))
  generalize ofL a = s at HS hd HA
  generalize unL a b = u at HS
  go_enter Try.func19, Try.ntmps19
  go_wp2_with fail
  go_at_call 17; refine HA.out.mono ?_; rintro e w1 ⟨ao1, c1, rfl, h1, f1⟩
  go_wp2
  go_loopw [5, 6] (fun v i wr => ∃ (k : Nat) (o : List Int) (bo : Option Addr) (cb : Nat), i = .int .i64 k ∧ k ≤ b.length ∧ v = .slice bo o.length cb ∧ IsS wr bo o cb ∧ Fur w wr ∧ Hid (o = (b.take k).foldl insL s)) (fun _ i _ => b.length - (RowKit.intOf i).toNat)
  case atStart => exact ⟨0, s, ao1, c1, rfl, Nat.zero_le _, rfl, h1, f1, rfl⟩
  case round =>
    obtain ⟨k, o, co, cc, rfl, hk, rfl, hI, hf, HW⟩ := hrel
    by_cases hlt : k < b.length
    · obtain ⟨b1, off, rfl, _, hc⟩ := (hb.on hf).at_ (by omega)
      have c0 := hc k hlt
      clear hc
      have ho : o.length ≤ 1000000 := by have := fold_bd k HW.out; omega
      have h1 := fold_step k hlt HW.out
      obtain ⟨z, hz⟩ : ∃ z, b.getD k 0 = z := ⟨_, rfl⟩
      rw [hz] at c0 h1
      clear hz
      have HN := Lib.hid h1
      clear h1
      have HC := Lib.hid (with_any co o cc z wr hI ho)
      generalize insL o z = p at HN HC
      go_wp2_with fail
      go_at_call 32; refine HC.out.mono ?_; rintro e w1 ⟨ao1, c1, rfl, h1, f1⟩
      go_wp2
      go_roundw
      case rel => exact ⟨k + 1, p, ao1, c1, by go_num, by omega, rfl, h1, hf.trans f1, HN.out⟩
      case measure => simp [RowKit.intOf]; omega
    · have HE := Lib.hid (HS.out o (by
        have h := HW.out
        rw [List.take_of_length_le (by omega)] at h
        exact h))
      go_wp2
      go_ret
      exact rets_of HE.out ⟨co, cc, rfl, hI, hf⟩

theorem filt_yes {l o : List Int} {p : Int → Bool} (k : Nat) (hk : k < l.length) (h : o = (l.take k).filter p) (hp : p (l.getD k 0) = true) : o ++ [l.getD k 0] = (l.take (k + 1)).filter p := by
  rw [getD_at hk] at hp ⊢
  rw [List.take_succ_eq_append_getElem hk, List.filter_append, ← h]
  simp [hp]
theorem filt_no {l o : List Int} {p : Int → Bool} (k : Nat) (hk : k < l.length) (h : o = (l.take k).filter p) (hp : p (l.getD k 0) = false) : o = (l.take (k + 1)).filter p := by
  rw [getD_at hk] at hp
  rw [List.take_succ_eq_append_getElem hk, List.filter_append, ← h]
  simp [hp]
theorem filt_bd {l o : List Int} {p : Int → Bool} (k : Nat) (h : o = (l.take k).filter p) : o.length ≤ k := by
  rw [h]
  exact Nat.le_trans (List.length_filter_le _ _) (List.length_take_le _ _)

set_option maxHeartbeats 1600000 in
theorem rmeet_any (ao bo : Option Addr) (a b : List Int) (ca cb : Nat) (w : World) (ha : IsS w ao a ca) (hb : IsS w bo b cb) (la : a.length ≤ 400000) :
    Calls Try.prog 21 #[.slice ao a.length ca, .slice bo b.length cb] w (RetS w (meL a b)) := by
  obtain ⟨i0, hi, hz0, hz1, hz2⟩ := info_parts infoI
  have HA := Lib.hid (rof_any ao a ca w ha (by omega))
  have hd := ofL_len a
  have HS := Lib.hid (show ∀ o : List Int, o = (ofL a).filter (fun x => b.contains x) → meL a b = o by rintro o rfl; rfl)
  generalize ofL a = l at HS hd HA
  generalize meL a b = u at HS
  go_enter Try.func21, Try.ntmps21
  go_wp2_with fail
  go_at_call 17; refine HA.out.mono ?_; rintro e w1 ⟨ao1, c1, rfl, g1, f1⟩
  have hsz := f1.size
  go_wp2
  go_loopw [5, 7] (fun v i wr => ∃ (k : Nat) (o : List Int), i = .int .i64 k ∧ k ≤ l.length ∧ o.length ≤ k ∧ wr.ownsRow w1.heap.size 3 1 v o.length (cs o) ∧ Fur w1 wr ∧ Hid (o = (l.take k).filter (fun x => b.contains x))) (fun _ i _ => l.length - (RowKit.intOf i).toNat)
  case atStart => exact ⟨0, [], rfl, Nat.zero_le _, Nat.zero_le _, World.ownsRow_nil _ _ _ _, Fur.refl _, rfl⟩
  case round =>
    obtain ⟨k, o, rfl, hk, ho, hown, hf, HW⟩ := hrel
    have hsz2 := hf.size
    by_cases hlt : k < l.length
    · obtain ⟨b1, off, rfl, _, hc⟩ := (g1.on hf).at_ (by omega)
      have c0 := hc k hlt
      clear hc
      have h1 := filt_yes k hlt HW.out
      have h2 := filt_no k hlt HW.out
      have HC := fun z => Lib.hid (rhas_any bo b cb z wr ((hb.on f1).on hf))
      obtain ⟨z, hz⟩ : ∃ z, l.getD k 0 = z := ⟨_, rfl⟩
      rw [hz] at c0 h1 h2
      clear hz
      have HZ := HC z
      clear HC
      generalize hr : b.contains z = r at h1 h2 HZ
      clear hr
      cases r
      · have HN := Lib.hid (h2 rfl)
        clear h1 h2
        go_wp2_with fail
        go_at_call 14; refine HZ.out.mono ?_; rintro e w4 ⟨rfl, rfl⟩
        go_wp2
        go_roundw
        case rel => exact ⟨k + 1, o, by go_num, by omega, by omega, hown, hf, HN.out⟩
        case measure => simp [RowKit.intOf]; omega
      · have HN := Lib.hid (h1 rfl)
        clear h1 h2
        go_wp2_with fail
        go_at_call 14; refine HZ.out.mono ?_; rintro e w4 ⟨rfl, rfl⟩
        go_wp2_with (at_builtin; refine wpList_append_own _ rfl (.tmp 22) (.tmp 27) 22 rfl w1.heap.size 3 i0 (.int .i64 0) 1 8 Try.underlying22 hi hz0 hz1 hz2 rfl (by decide) _ _ _ rfl (hown.alloc _) ⟨wr.heap.size, 0, none⟩ 1 1 [.int .i64 z] rfl rfl (at_one _ _) (by intro u hu; simp at hu; subst hu; rfl) (by unfold maxLen; omega) (by omega) (by simp; omega) ?_; intro v' w5 hown' hgrow _)
        have hf2 := fur_own hf hown hgrow
        obtain ⟨p, hp, hpl, hown2⟩ := own_snoc hown'
        rw [hp] at HN
        clear hown' hgrow hp
        go_wp2
        go_roundw
        case rel => exact ⟨k + 1, p, by go_num, by omega, by omega, hown2, hf2, HN.out⟩
        case measure => simp [RowKit.intOf]; omega
    · have HE := Lib.hid (HS.out o (by
        have h := HW.out
        rw [List.take_of_length_le (by omega)] at h
        exact h))
      obtain ⟨ao3, c3, rfl, _, hI⟩ := IsS.of_own hown
      clear hown
      go_wp2
      go_ret
      exact rets_of HE.out ⟨ao3, c3, rfl, hI, f1.trans hf⟩

set_option maxHeartbeats 1600000 in
theorem rminus_any (ao bo : Option Addr) (a b : List Int) (ca cb : Nat) (w : World) (ha : IsS w ao a ca) (hb : IsS w bo b cb) (la : a.length ≤ 400000) :
    Calls Try.prog 23 #[.slice ao a.length ca, .slice bo b.length cb] w (RetS w (miL a b)) := by
  obtain ⟨i0, hi, hz0, hz1, hz2⟩ := info_parts infoI
  have HA := Lib.hid (rof_any ao a ca w ha (by omega))
  have hd := ofL_len a
  have HS := Lib.hid (show ∀ o : List Int, o = (ofL a).filter (fun x => !b.contains x) → miL a b = o by rintro o rfl; rfl)
  generalize ofL a = l at HS hd HA
  generalize miL a b = u at HS
  go_enter Try.func23, Try.ntmps23
  go_wp2_with fail
  go_at_call 17; refine HA.out.mono ?_; rintro e w1 ⟨ao1, c1, rfl, g1, f1⟩
  have hsz := f1.size
  go_wp2
  go_loopw [5, 7] (fun v i wr => ∃ (k : Nat) (o : List Int), i = .int .i64 k ∧ k ≤ l.length ∧ o.length ≤ k ∧ wr.ownsRow w1.heap.size 3 1 v o.length (cs o) ∧ Fur w1 wr ∧ Hid (o = (l.take k).filter (fun x => !b.contains x))) (fun _ i _ => l.length - (RowKit.intOf i).toNat)
  case atStart => exact ⟨0, [], rfl, Nat.zero_le _, Nat.zero_le _, World.ownsRow_nil _ _ _ _, Fur.refl _, rfl⟩
  case round =>
    obtain ⟨k, o, rfl, hk, ho, hown, hf, HW⟩ := hrel
    have hsz2 := hf.size
    by_cases hlt : k < l.length
    · obtain ⟨b1, off, rfl, _, hc⟩ := (g1.on hf).at_ (by omega)
      have c0 := hc k hlt
      clear hc
      have h1 := filt_yes k hlt HW.out
      have h2 := filt_no k hlt HW.out
      have HC := fun z => Lib.hid (rhas_any bo b cb z wr ((hb.on f1).on hf))
      obtain ⟨z, hz⟩ : ∃ z, l.getD k 0 = z := ⟨_, rfl⟩
      rw [hz] at c0 h1 h2
      clear hz
      have HZ := HC z
      clear HC
      generalize hr : b.contains z = r at h1 h2 HZ
      clear hr
      cases r
      · have HN := Lib.hid (h1 rfl)
        clear h1 h2
        go_wp2_with fail
        go_at_call 14; refine HZ.out.mono ?_; rintro e w4 ⟨rfl, rfl⟩
        go_wp2_with (at_builtin; refine wpList_append_own _ rfl (.tmp 23) (.tmp 28) 22 rfl w1.heap.size 3 i0 (.int .i64 0) 1 8 Try.underlying22 hi hz0 hz1 hz2 rfl (by decide) _ _ _ rfl (hown.alloc _) ⟨wr.heap.size, 0, none⟩ 1 1 [.int .i64 z] rfl rfl (at_one _ _) (by intro u hu; simp at hu; subst hu; rfl) (by unfold maxLen; omega) (by omega) (by simp; omega) ?_; intro v' w5 hown' hgrow _)
        have hf2 := fur_own hf hown hgrow
        obtain ⟨p, hp, hpl, hown2⟩ := own_snoc hown'
        rw [hp] at HN
        clear hown' hgrow hp
        go_wp2
        go_roundw
        case rel => exact ⟨k + 1, p, by go_num, by omega, by omega, hown2, hf2, HN.out⟩
        case measure => simp [RowKit.intOf]; omega
      · have HN := Lib.hid (h2 rfl)
        clear h1 h2
        go_wp2_with fail
        go_at_call 14; refine HZ.out.mono ?_; rintro e w4 ⟨rfl, rfl⟩
        go_wp2
        go_roundw
        case rel => exact ⟨k + 1, o, by go_num, by omega, by omega, hown, hf, HN.out⟩
        case measure => simp [RowKit.intOf]; omega
    · have HE := Lib.hid (HS.out o (by
        have h := HW.out
        rw [List.take_of_length_le (by omega)] at h
        exact h))
      obtain ⟨ao3, c3, rfl, _, hI⟩ := IsS.of_own hown
      clear hown
      go_wp2
      go_ret
      exact rets_of HE.out ⟨ao3, c3, rfl, hI, f1.trans hf⟩
end Go.Proofs.Ytmmkcnohicfjeaa
