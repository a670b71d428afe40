/-
  Package codec: valueAt at every byte of a kind that holds no values, and at its early ends. Nothing that was there turns.
-/
import Derived.Test.YtehmdeponbhhjaaDoorCgR
namespace Go.Proofs.YtehmdeponbhhjaaDoor
open Go.RowKit

theorem vat_any (ao : Option Addr) (l : List UInt8) (cap : Nat) (a k : Nat) (nest : Int) (w : World) (h : IsB w ao l cap) (ha : a < l.length) (h0 : (l.getD a 0).toNat = k) (hk8 : k ≤ 8) (hnest : ¬ ((k : Int) = 8) ∨ 0 < nest) (o : Rs)
    (HR : ∀ B U, Fuw w U → w.heap.size ≤ B → U.heap[B]? = some (.cells (vc (vk k) none 0) 26 (0, 0)) → RGat ao l cap ((a : Int) + 1) nest o B U) (hv : ∀ x E, o = .ok x E → Vin x) :
    Calls Tryd.prog 14 #[.slice ao l.length cap, .int .i64 a, .int .i64 nest] w (RetG w (fin o)) := by
  cases o with
  | ok x E =>
    by_cases e : okX x = true
    · rw [show fin (.ok x E) = .ok x E from if_pos e]
      exact vat_ok ao l cap a k nest w h ha h0 hk8 hnest x E (hv x E rfl) e HR
    · rw [show fin (.ok x E) = .er 2 from if_neg e]
      exact vat_inv ao l cap a k nest w h ha h0 hk8 hnest x E (hv x E rfl) (by simpa using e) HR
  | er c => exact vat_err ao l cap a k nest w h ha h0 hk8 hnest c HR
theorem str_ok {l : List UInt8} {a m : Int} {S : List UInt8} {E c : Int} (hv : strV l a m = (S, E, c)) : S.length ≤ l.length ∧ (c = 0 → 0 ≤ a ∧ a < E ∧ E ≤ l.length) := by
  obtain ⟨u, n, d, hr⟩ : ∃ u n d, uintV l a = (u, n, d) := ⟨_, _, _, rfl⟩
  have hok := uint_ok hr
  unfold strV at hv
  rw [hr] at hv
  simp only at hv
  by_cases hd : d = 0
  · rw [if_neg (fun t => t hd)] at hv
    have h3 := hok.2.2.2.1 hd
    by_cases g1 : m < u
    · rw [if_pos g1] at hv
      obtain ⟨rfl, rfl, rfl⟩ : [] = S ∧ 0 = E ∧ 4 = c := by simpa using hv
      exact ⟨Nat.zero_le _, fun t => absurd t (by decide)⟩
    · rw [if_neg g1] at hv
      by_cases g2 : (l.length : Int) - n < u
      · rw [if_pos g2] at hv
        obtain ⟨rfl, rfl, rfl⟩ : [] = S ∧ 0 = E ∧ 3 = c := by simpa using hv
        exact ⟨Nat.zero_le _, fun t => absurd t (by decide)⟩
      · rw [if_neg g2] at hv
        simp only [Prod.mk.injEq] at hv
        obtain ⟨rfl, rfl, rfl⟩ := hv
        exact ⟨by rw [List.length_take, List.length_drop]; omega, fun _ => by omega⟩
  · rw [if_pos hd] at hv
    simp only [Prod.mk.injEq] at hv
    obtain ⟨rfl, rfl, rfl⟩ := hv
    exact ⟨Nat.zero_le _, fun t => absurd t hd⟩
/-- What the flat kinds give lies in the bounds of the types and behind the offset. -/
theorem flat_in {k : Nat} (hk : k < 7) {l : List UInt8} (hl : l.length ≤ maxLen) {a : Int} (ha : 0 ≤ a ∧ a ≤ l.length) {x : Vl} {E : Int} (h : flatV k l a = .ok x E) : Vin x ∧ a ≤ E ∧ E ≤ l.length ∧ x.kd = k := by
  obtain ⟨n, E1, c, hv⟩ : ∃ n E c, intV l a = (n, E, c) := ⟨_, _, _, rfl⟩
  have hio := int_ok hv
  have hz : I64 (0 : Int) := ⟨by decide, by decide⟩
  have hki : I64 (k : Int) := ⟨by omega, by omega⟩
  have i3 : I64 (3 : Int) := ⟨by decide, by decide⟩
  have i4 : I64 (4 : Int) := ⟨by decide, by decide⟩
  unfold flatV at h
  rw [hv] at h
  simp only at h
  by_cases e0 : k = 0
  · rw [if_pos e0] at h
    obtain ⟨rfl, rfl⟩ := Rs.ok.inj h
    subst e0
    exact ⟨⟨hz, hz, hz, Nat.zero_le _⟩, Int.le_refl _, ha.2, rfl⟩
  rw [if_neg e0] at h
  by_cases e3 : k = 3
  · rw [if_pos e3] at h
    by_cases hc : c = 0
    · rw [if_neg (fun t => t hc)] at h
      obtain ⟨n2, E2, c2, hv2⟩ : ∃ n E c, intV l E1 = (n, E, c) := ⟨_, _, _, rfl⟩
      have hio2 := int_ok hv2
      rw [hv2] at h
      simp only at h
      by_cases hc2 : c2 = 0
      · rw [if_neg (fun t => t hc2)] at h
        obtain ⟨rfl, rfl⟩ := Rs.ok.inj h
        have b1 := hio.2.2.1 hc
        have b2 := hio2.2.2.1 hc2
        refine ⟨⟨i3, ⟨hio.1, hio.2.1⟩, ⟨hio2.1, hio2.2.1⟩, Nat.zero_le _⟩, by omega, b2.2.2, ?_⟩
        rw [e3]; rfl
      · rw [if_pos hc2] at h; cases h
    · rw [if_pos hc] at h; cases h
  rw [if_neg e3] at h
  by_cases e4 : k = 4
  · rw [if_pos e4] at h
    obtain ⟨S, E2, d, hs⟩ : ∃ S E d, strV l a 100 = (S, E, d) := ⟨_, _, _, rfl⟩
    have hso := str_ok hs
    rw [hs] at h
    simp only at h
    by_cases hd : d = 0
    · rw [if_neg (fun t => t hd)] at h
      obtain ⟨rfl, rfl⟩ := Rs.ok.inj h
      have b := hso.2 hd
      refine ⟨⟨i4, hz, hz, Nat.le_trans hso.1 hl⟩, by omega, b.2.2, ?_⟩
      rw [e4]; rfl
    · rw [if_pos hd] at h; cases h
  rw [if_neg e4] at h
  by_cases hc : c = 0
  · rw [if_neg (fun t => t hc)] at h
    obtain ⟨rfl, rfl⟩ := Rs.ok.inj h
    have b := hio.2.2.1 hc
    exact ⟨⟨hki, ⟨hio.1, hio.2.1⟩, hz, Nat.zero_le _⟩, by omega, b.2.2, rfl⟩
  · rw [if_pos hc] at h; cases h
theorem vat_flat (ao : Option Addr) (l : List UInt8) (cap : Nat) (a k : Nat) (nest : Int) (w : World) (h : IsB w ao l cap) (ha : a < l.length) (h0 : (l.getD a 0).toNat = k) (hk : k < 7) :
    Calls Tryd.prog 14 #[.slice ao l.length cap, .int .i64 a, .int .i64 nest] w (RetG w (fin (flatV k l ((a : Int) + 1)))) :=
  vat_any ao l cap a k nest w h ha h0 (by omega) (.inl (by omega)) _ (fun B U hf hB hq => rg_flat ao l cap k hk _ nest (by omega) (by have := h.len.1; omega) B U w h hf hB hq)
    (fun x E e => (flat_in hk (Nat.le_trans h.le h.max) ⟨by omega, by omega⟩ e).1)
set_option maxHeartbeats 8000000 in
set_option maxRecDepth 100000 in
/-- The bytes end. -/
theorem vat_end (ao : Option Addr) (l : List UInt8) (cap : Nat) (nest : Int) (w : World) :
    Calls Tryd.prog 14 #[.slice ao l.length cap, .int .i64 l.length, .int .i64 nest] w (RetG w (.er 3)) := by
  obtain ⟨z, f0⟩ := bz0 w
  obtain ⟨W, hW⟩ : ∃ W, (w.alloc (.cells #[.int .i64 0, .int .i64 0, .int .i64 0, .string ⟨#[]⟩, .slice none 0 0] 26)) = W := ⟨_, rfl⟩
  rw [hW] at z f0
  go_enter Tryd.func14, Tryd.ntmps14
  go_upto_region 1 with fail
  clear hW
  obtain ⟨x0, x1, x2, x3, x4, xf, xl⟩ := bz_cells z
  have xf0 := xf 0; have xf1 := xf 1; have xf2 := xf 2; have xf3 := xf 3; have xf4 := xf 4
  have HZ := Lib.hid z
  clear z xf
  go_wp2
  try simp only [Exit.inBlock, Exit.then]
  exact vg_ret (x := v0) rfl rfl rfl rfl (val_put' W _ _ _ _ _ _ _ _ _ _ _ _ _ HZ.out) ⟨fuw_put5 f0 (Nat.le_refl _) _ _ _ _ _, rfl, by decide⟩
set_option maxHeartbeats 8000000 in
set_option maxRecDepth 100000 in
/-- No kind, or a list too deep. -/
theorem vat_kind (ao : Option Addr) (l : List UInt8) (cap : Nat) (a k : Nat) (nest : Int) (w : World) (h : IsB w ao l cap) (ha : a < l.length) (h0 : (l.getD a 0).toNat = k) (hbad : 8 < k ∨ (k = 8 ∧ nest ≤ 0)) :
    Calls Tryd.prog 14 #[.slice ao l.length cap, .int .i64 a, .int .i64 nest] w (RetG w (.er 2)) := by
  have hlen := h.len.1
  obtain ⟨b, off, rfl, hb, hc⟩ := h.at_ (by omega)
  have hck := hc a ha
  rw [h0] at hck
  clear hc
  have hk255 : k < 256 := by rw [← h0]; exact (l.getD a 0).toNat_lt
  have hai : (a : Int) < l.length := by omega
  have hane : ¬ ((a : Int) = l.length) := by omega
  have hbad' : (8 : Int) < k ∨ (¬ ((8 : Int) < k) ∧ ((k : Int) == 8) = true ∧ nest ≤ 0) := by
    rcases hbad with t | ⟨t, t2⟩
    · exact .inl (by omega)
    · exact .inr ⟨by omega, beq_iff_eq.2 (by omega), t2⟩
  obtain ⟨z, f0⟩ := bz0 w
  obtain ⟨W, hW⟩ : ∃ W, (w.alloc (.cells #[.int .i64 0, .int .i64 0, .int .i64 0, .string ⟨#[]⟩, .slice none 0 0] 26)) = W := ⟨_, rfl⟩
  rw [hW] at z f0
  have hck1 := (Below.cell f0 (p := ⟨b, off + a, none⟩) hb).trans hck
  clear h h0 hck hbad
  go_enter Tryd.func14, Tryd.ntmps14
  go_upto_region 1 with fail
  clear hW
  obtain ⟨z1, f1⟩ := bz0 W
  obtain ⟨V, hV⟩ : ∃ V, (W.alloc (.cells #[.int .i64 0, .int .i64 0, .int .i64 0, .string ⟨#[]⟩, .slice none 0 0] 26)) = V := ⟨_, rfl⟩
  rw [hV] at z1 f1
  obtain ⟨v0', v1, v2, v3, v4, vf, vl⟩ := bz_cells z1
  have vf0 := vf 0; have vf1 := vf 1; have vf2 := vf 2; have vf3 := vf 3; have vf4 := vf 4
  go_upto_region 4 with fail
  have zz := (bz_cells z).2.2.2.2.2.2
  have q := val_put' V W.heap.size _ _ _ _ _ (.int .i64 k) (.int .i64 0) (.int .i64 0) (.string ⟨#[]⟩) (.slice none 0 0) _ _ z1
  have g := fuw_put5 f1 (Nat.le_refl _) (.int .i64 k) (.int .i64 0) (.int .i64 0) (.string ⟨#[]⟩) (.slice none 0 0)
  clear hV v0' v1 v2 v3 v4 vf vl vf0 vf1 vf2 vf3 vf4 z1 f1
  generalize (((((V.setCell ⟨W.heap.size, 0, none⟩ (.int .i64 k)).setCell ⟨W.heap.size, 1, none⟩ (.int .i64 0)).setCell ⟨W.heap.size, 2, none⟩ (.int .i64 0)).setCell ⟨W.heap.size, 3, none⟩ (.string ⟨#[]⟩)).setCell ⟨W.heap.size, 4, none⟩ (.slice none 0 0)) = U at *
  have u0 := (bz_cells (k := k) (n := 0) (ao := none) (len := 0) (cap := 0) q).1
  have f2 := Fuw.trans f0 g
  have key := bz_on z g
  obtain ⟨x0, x1, x2, x3, x4, xf, xl⟩ := bz_cells key
  have xf0 := xf 0; have xf1 := xf 1; have xf2 := xf 2; have xf3 := xf 3; have xf4 := xf 4
  have HKEY := Lib.hid key
  clear key xf z g f0 q hck1
  generalize W.heap.size = B at *
  rcases hbad' with hb8 | ⟨hb8, hb9, hnn⟩
  all_goals
    go_wp2
    try simp only [Exit.inBlock, Exit.then]
    exact vg_ret (x := v0) rfl rfl rfl rfl (val_put' U _ _ _ _ _ _ _ _ _ _ _ _ _ HKEY.out) ⟨fuw_put5 f2 (Nat.le_refl _) _ _ _ _ _, rfl, by decide⟩
end Go.Proofs.YtehmdeponbhhjaaDoor
