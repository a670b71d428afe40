/-
  CgQ; CgY: texts of one kind in one file; each part says what it holds.
-/
import Derived.Test.YtehmdeponbhhjaaDoorCgP

/-! Package codec: readFields of lists and paths, out of what elementsAt gives. Nothing that was there turns. -/
namespace Go.Proofs.YtehmdeponbhhjaaDoor
open Go.RowKit

/-- A value of kind k out of its elements. -/
def ofL (k : Int) : Rl → Rs
  | .ok xs E => .ok (.mk k 0 0 [] xs) E
  | .er c => .er c
set_option maxHeartbeats 8000000 in
set_option maxRecDepth 100000 in
theorem rg_seq (ao : Option Addr) (l : List UInt8) (cap : Nat) (k : Nat) (hk : k = 7 ∨ k = 8) (a nest : Int) (hn0 : -9223372036854775808 < nest) (hn1 : nest ≤ 9223372036854775807) (B : Nat) (U : World) (o : Rl) (hq : U.heap[B]? = some (.cells (vc (vk k) none 0) 26 (0, 0)))
    (HE : Calls Tryd.prog 43 #[.slice ao l.length cap, .int .i64 a, .int .i64 k, .int .i64 (nest - 1)] U (RetL U o)) : RGat ao l cap a nest (ofL k o) B U := by
  obtain ⟨c0, c1, c2, c3, c4, cf, cl⟩ := vc_cells hq
  have HE' := Lib.hid HE
  have HQ := Lib.hid hq
  unfold vk at *
  clear HE hq c1 c2 c3 c4 cf
  cases o with
  | ok xs E =>
    show RGat ao l cap a nest (.ok (.mk k 0 0 [] xs) E) B U
    unfold RGat
    simp only
    rcases hk with rfl | rfl
    all_goals
      go_enter Tryd.func29, Tryd.ntmps29
      go_wp2_with fail
      go_at_call 43; refine HE'.out.mono ?_; rintro e1 w1 ⟨f1, a2, c2, rfl, hk⟩
      have hq1 := (Below.block f1 B cl).trans HQ.out
      obtain ⟨x0, x1, x2, x3, x4, xf, xl⟩ := vc_cells hq1
      have xf4 := xf 4
      have HK := Lib.hid (hk B cl)
      have HS := Lib.hid ((vc_set hq1).2.2.2 a2 xs c2)
      clear hk xf hq1 HE'
      go_wp2
      go_ret2
      refine ⟨fun X hX hXB => fuw_set (Fuw.trans hX f1) hXB, a2, c2, rfl, HS.out, fun w3 hs hw => HK.out w3 ?_ fun b h1 h2 => ?_⟩
      · simp at hs; omega
      · rw [hw b h1 (by simp; omega), heap_set_other (by omega)]
  | er c =>
    show RGat ao l cap a nest (.er c) B U
    unfold RGat
    simp only
    rcases hk with rfl | rfl
    all_goals
      go_enter Tryd.func29, Tryd.ntmps29
      go_wp2_with fail
      go_at_call 43; refine HE'.out.mono ?_; rintro e1 w1 ⟨f1, rfl, hc0⟩
      have hq1 := (Below.block f1 B cl).trans HQ.out
      obtain ⟨x0, x1, x2, x3, x4, xf, xl⟩ := vc_cells hq1
      have xf4 := xf 4
      clear xf hq1 HE'
      go_wp2
      go_ret2
      exact ⟨fun X hX hXB => fuw_set (Fuw.trans hX f1) hXB, 0, rfl, hc0⟩
end Go.Proofs.YtehmdeponbhhjaaDoor

/-! CgW; CgX; CgY: texts of one kind in one file; each part says what it holds. -/

/-! Package codec: valueAt whole: what it gives for every list of bytes, offset and nesting. Nothing that was there turns. -/
namespace Go.Proofs.YtehmdeponbhhjaaDoor
open Go.RowKit

/-- What stands at an offset where a node or an edge must stand. -/
def endV (l : List UInt8) (b : Int) : Rs :=
  if (l.length : Int) ≤ b then .er 3 else if (l.getD b.toNat 0).toNat < 7 then fin (flatV (l.getD b.toNat 0).toNat l (b + 1)) else .er 2
/-- What stands at an offset, given what a list is. -/
def headV (l : List UInt8) (b : Int) (seq : Int → Rs) : Rs :=
  if (l.length : Int) ≤ b then .er 3
  else if (l.getD b.toNat 0).toNat < 7 then fin (flatV (l.getD b.toNat 0).toNat l (b + 1))
  else if (l.getD b.toNat 0).toNat = 7 then fin (ofL 7 (pathV l (endV l) (b + 1)))
  else if (l.getD b.toNat 0).toNat = 8 then seq (b + 1)
  else .er 2
/-- What stands at an offset, lists nested at most n deep. -/
def valV (l : List UInt8) : Nat → Int → Rs
  | 0, b => headV l b fun _ => .er 2
  | n + 1, b => headV l b fun b' => fin (ofL 8 (listV l (valV l n) b'))
theorem fin_ok {o : Rs} {x : Vl} {E : Int} (h : fin o = .ok x E) : o = .ok x E := by
  cases o with
  | ok y F =>
    unfold fin at h
    simp only at h
    by_cases e : okX y = true
    · rw [if_pos e] at h; exact h
    · rw [if_neg e] at h; cases h
  | er c => cases h
/-- What may be said of a reader: what it gives lies in the bounds and behind the offset. -/
def RdB (l : List UInt8) (rv : Int → Rs) : Prop := ∀ (b : Int) (x : Vl) (E : Int), 0 ≤ b → b ≤ l.length → rv b = .ok x E → Vin x ∧ b ≤ E ∧ E ≤ l.length
theorem flat_rd {l : List UInt8} (hl : l.length ≤ maxLen) {b : Int} {x : Vl} {E : Int} (h0 : 0 ≤ b) (h1 : ¬ (l.length : Int) ≤ b) {k : Nat} (hk : k < 7) (h : fin (flatV k l (b + 1)) = .ok x E) : Vin x ∧ b ≤ E ∧ E ≤ l.length := by
  have q := flat_in hk hl ⟨by omega, by omega⟩ (fin_ok h)
  exact ⟨q.1, by have := q.2.1; omega, q.2.2.1⟩
theorem end_rd {l : List UInt8} (hl : l.length ≤ maxLen) : RdB l (endV l) := fun b x E h0 h1 h => by
  unfold endV at h
  by_cases e : (l.length : Int) ≤ b
  · rw [if_pos e] at h; cases h
  rw [if_neg e] at h
  by_cases e7 : (l.getD b.toNat 0).toNat < 7
  · rw [if_pos e7] at h
    exact flat_rd hl h0 e e7 h
  · rw [if_neg e7] at h; cases h
theorem els_rd {l : List UInt8} {rv : Int → Rs} (hr : RdB l rv) (kind : Nat) : ∀ (n i : Nat) (b : Int) (xs : List Vl) (E : Int), 0 ≤ b → b ≤ l.length → elsV l kind rv n i b = .ok xs E → b ≤ E ∧ E ≤ l.length
  | 0, i, b, xs, E, h0, h1, h => by
    unfold elsV at h
    obtain ⟨-, rfl⟩ := Rl.ok.inj h
    exact ⟨Int.le_refl _, h1⟩
  | n + 1, i, b, xs, E, h0, h1, h => by
    unfold elsV at h
    by_cases e : kind = 7 ∧ b < l.length ∧ (l.getD b.toNat 0).toNat ≠ pkV i
    · rw [if_pos e] at h; cases h
    rw [if_neg e] at h
    cases hb : rv b with
    | er c => rw [hb] at h; cases h
    | ok x E1 =>
      rw [hb] at h
      simp only at h
      have q := hr b x E1 h0 h1 hb
      cases hs : elsV l kind rv n (i + 1) E1 with
      | er c => rw [hs] at h; cases h
      | ok ys E2 =>
        rw [hs] at h
        simp only at h
        obtain ⟨-, rfl⟩ := Rl.ok.inj h
        have q2 := els_rd hr kind n (i + 1) E1 ys E2 (by omega) q.2.2 hs
        omega
theorem vin_seq (k : Nat) (hk : k < 256) (xs : List Vl) : Vin (.mk k 0 0 [] xs) :=
  have hz : I64 (0 : Int) := ⟨by decide, by decide⟩
  ⟨(show I64 (k : Int) from ⟨by omega, by omega⟩), hz, hz, Nat.zero_le _⟩
theorem seq_rd {l : List UInt8} {rv : Int → Rs} (hr : RdB l rv) {b : Int} {k : Nat} {o : Rl} (hk : k < 256) (ho : o = listV l rv b ∨ o = pathV l rv b) {x : Vl} {E : Int} (h : fin (ofL k o) = .ok x E) : Vin x ∧ b ≤ E ∧ E ≤ l.length := by
  have h := fin_ok h
  cases o with
  | er c => cases h
  | ok xs E1 =>
    obtain ⟨rfl, rfl⟩ := Rs.ok.inj h
    refine ⟨vin_seq k hk xs, ?_⟩
    obtain ⟨n, E0, c, hu⟩ : ∃ u e c, uintV l b = (u, e, c) := ⟨_, _, _, rfl⟩
    have hok := uint_ok hu
    have main : ∀ (kind : Nat), c = 0 → elsV l kind rv n.toNat 0 E0 = .ok xs E1 → b ≤ E1 ∧ E1 ≤ l.length := fun kind hc he => by
      have q := hok.2.2.2.1 hc
      have t := els_rd hr kind _ _ _ _ _ (by omega) q.2.2 he
      omega
    rcases ho with ho | ho
    · unfold listV at ho
      rw [hu] at ho
      simp only at ho
      by_cases hc : c = 0
      · rw [if_neg (fun t => t hc)] at ho
        by_cases hn : n ≤ 64
        · rw [if_neg (fun t => t hn)] at ho; exact main 8 hc ho.symm
        · rw [if_pos hn] at ho; cases ho
      · rw [if_pos hc] at ho; cases ho
    · unfold pathV at ho
      rw [hu] at ho
      simp only at ho
      by_cases hc : c = 0
      · rw [if_neg (fun t => t hc)] at ho
        by_cases hn : n.toNat ≤ 25 ∧ n.toNat % 2 = 1
        · rw [if_neg (fun t => t hn)] at ho; exact main 7 hc ho.symm
        · rw [if_pos hn] at ho; cases ho
      · rw [if_pos hc] at ho; cases ho
theorem head_rd {l : List UInt8} (hl : l.length ≤ maxLen) {seq : Int → Rs} (hs : ∀ (b : Int) (x : Vl) (E : Int), 0 ≤ b → b ≤ l.length → seq b = .ok x E → Vin x ∧ b ≤ E ∧ E ≤ l.length) : RdB l (fun b => headV l b seq) := fun b x E h0 h1 h => by
  simp only at h
  unfold headV at h
  by_cases e : (l.length : Int) ≤ b
  · rw [if_pos e] at h; cases h
  rw [if_neg e] at h
  by_cases e7 : (l.getD b.toNat 0).toNat < 7
  · rw [if_pos e7] at h
    exact flat_rd hl h0 e e7 h
  rw [if_neg e7] at h
  by_cases e8 : (l.getD b.toNat 0).toNat = 7
  · rw [if_pos e8] at h
    have q := seq_rd (end_rd hl) (b := b + 1) (k := 7) (by decide) (.inr rfl) h
    exact ⟨q.1, by have := q.2.1; omega, q.2.2⟩
  rw [if_neg e8] at h
  by_cases e9 : (l.getD b.toNat 0).toNat = 8
  · rw [if_pos e9] at h
    have q := hs (b + 1) x E (by omega) (by omega) h
    exact ⟨q.1, by have := q.2.1; omega, q.2.2⟩
  · rw [if_neg e9] at h; cases h
theorem val_rd {l : List UInt8} (hl : l.length ≤ maxLen) : ∀ n, RdB l (valV l n)
  | 0 => fun b x E h0 h1 h => head_rd hl (seq := fun _ => .er 2) (fun _ _ _ _ _ t => by cases t) b x E h0 h1 h
  | n + 1 => fun b x E h0 h1 h => head_rd hl (seq := fun b' => fin (ofL 8 (listV l (valV l n) b'))) (fun b' x' E' _ _ t => seq_rd (val_rd hl n) (k := 8) (by decide) (.inl rfl) t) b x E h0 h1 h
end Go.Proofs.YtehmdeponbhhjaaDoor

/-! Package codec: valueAt for every list of bytes, offset and nesting. Nothing that was there turns. -/
namespace Go.Proofs.YtehmdeponbhhjaaDoor
open Go.RowKit

theorem end_is (ao : Option Addr) (l : List UInt8) (cap : Nat) (b nest : Int) (w : World) (h : IsB w ao l cap) (h0 : 0 ≤ b) (h1 : b ≤ l.length) (hk : b = l.length ∨ (l.getD b.toNat 0).toNat = 5 ∨ (l.getD b.toNat 0).toNat = 6) :
    Calls Tryd.prog 14 #[.slice ao l.length cap, .int .i64 b, .int .i64 nest] w (RetG w (endV l b)) := by
  by_cases e : (l.length : Int) ≤ b
  · have eb : b = l.length := by omega
    subst eb
    rw [show endV l l.length = .er 3 from if_pos (Int.le_refl _)]
    exact vat_end ao l cap nest w
  · have hk7 : (l.getD b.toNat 0).toNat < 7 := by omega
    rw [show endV l b = fin (flatV (l.getD b.toNat 0).toNat l (b + 1)) by unfold endV; rw [if_neg e, if_pos hk7]]
    obtain ⟨a, rfl⟩ : ∃ a : Nat, b = (a : Int) := ⟨b.toNat, by omega⟩
    rw [Int.toNat_natCast] at hk7 ⊢
    exact vat_flat ao l cap a _ nest w h (by omega) rfl hk7
theorem ofl_vin {k : Nat} (hk : k < 256) {o : Rl} : ∀ x E, ofL k o = .ok x E → Vin x := fun x E h => by
  cases o with
  | er c => cases h
  | ok xs E1 =>
    obtain ⟨rfl, rfl⟩ := Rs.ok.inj h
    exact vin_seq k hk xs
theorem head_is (ao : Option Addr) (l : List UInt8) (cap : Nat) (b nest : Int) (hn0 : -9223372036854775808 < nest) (hn1 : nest ≤ 9223372036854775807) (w : World) (h : IsB w ao l cap) (h0 : 0 ≤ b) (h1 : b ≤ l.length) (seq : Int → Rs)
    (HS : ∀ a : Nat, a < l.length → (l.getD a 0).toNat = 8 → Calls Tryd.prog 14 #[.slice ao l.length cap, .int .i64 a, .int .i64 nest] w (RetG w (seq ((a : Int) + 1)))) :
    Calls Tryd.prog 14 #[.slice ao l.length cap, .int .i64 b, .int .i64 nest] w (RetG w (headV l b seq)) := by
  have hlen := h.len.1
  have hl := Nat.le_trans h.le h.max
  unfold headV
  by_cases e : (l.length : Int) ≤ b
  · have eb : b = l.length := by omega
    subst eb
    rw [if_pos e]
    exact vat_end ao l cap nest w
  rw [if_neg e]
  obtain ⟨a, rfl⟩ : ∃ a : Nat, b = (a : Int) := ⟨b.toNat, by omega⟩
  rw [Int.toNat_natCast]
  have ha : a < l.length := by omega
  by_cases e7 : (l.getD a 0).toNat < 7
  · rw [if_pos e7]
    exact vat_flat ao l cap a _ nest w h ha rfl e7
  rw [if_neg e7]
  by_cases e8 : (l.getD a 0).toNat = 7
  · rw [if_pos e8]
    exact vat_any ao l cap a 7 nest w h ha e8 (by decide) (.inl (by decide)) _ (fun B U hf _ hq => rg_seq ao l cap 7 (.inl rfl) _ nest hn0 hn1 B U _ hq (els_path ao l cap ((a : Int) + 1) (nest - 1) (by omega) (by omega) U (h.on hf) (endV l) (fun b' w' t0 t1 t2 t3 => end_is ao l cap b' (nest - 1) w' ((h.on hf).on t3) t0 t1 t2) (end_rd hl))) (ofl_vin (by decide))
  rw [if_neg e8]
  by_cases e9 : (l.getD a 0).toNat = 8
  · rw [if_pos e9]
    exact HS a ha e9
  · rw [if_neg e9]
    exact vat_kind ao l cap a _ nest w h ha rfl (.inl (by omega))
theorem val_is (ao : Option Addr) (l : List UInt8) (cap : Nat) : ∀ (n : Nat) (_ : n ≤ 1000) (b : Int) (w : World) (_ : IsB w ao l cap) (_ : 0 ≤ b) (_ : b ≤ l.length),
    Calls Tryd.prog 14 #[.slice ao l.length cap, .int .i64 b, .int .i64 n] w (RetG w (valV l n b))
  | 0, _, b, w, h, h0, h1 => head_is ao l cap b (0 : Nat) (by decide) (by decide) w h h0 h1 _ fun a ha e => vat_kind ao l cap a 8 _ w h ha e (.inr ⟨rfl, by decide⟩)
  | n + 1, hn, b, w, h, h0, h1 => head_is ao l cap b (n + 1 : Nat) (by omega) (by omega) w h h0 h1 _ fun a ha e =>
      vat_any ao l cap a 8 _ w h ha e (by decide) (.inr (by omega)) _ (fun B U hf _ hq => rg_seq ao l cap 8 (.inr rfl) _ _ (by omega) (by omega) B U _ hq (by
        have hlen := h.len.1
        rw [show ((n + 1 : Nat) : Int) - 1 = (n : Int) by omega]
        exact els_list ao l cap ((a : Int) + 1) n (by omega) (by omega) U (h.on hf) (valV l n) (fun b' w' t0 t1 t3 => val_is ao l cap n (by omega) b' w' ((h.on hf).on t3) t0 t1) (val_rd (Nat.le_trans h.le h.max) n))) (ofl_vin (by decide))
end Go.Proofs.YtehmdeponbhhjaaDoor

/-! Package codec: Value for every list of bytes and every offset. Nothing that was there turns. -/
namespace Go.Proofs.YtehmdeponbhhjaaDoor
open Go.RowKit

/-- What Value gives. -/
def valueV (l : List UInt8) (b : Int) : Rs := if b < 0 ∨ (l.length : Int) < b then .er 1 else valV l 8 b
set_option maxHeartbeats 8000000 in
set_option maxRecDepth 100000 in
theorem value_is (ao : Option Addr) (l : List UInt8) (cap : Nat) (b : Int) (w : World) (h : IsB w ao l cap) :
    Calls Tryd.prog 5 #[.slice ao l.length cap, .int .i64 b] w (RetG w (valueV l b)) := by
  obtain ⟨z, f0⟩ := bz0 w
  obtain ⟨W, hW⟩ : ∃ W, (w.alloc (.cells #[.int .i64 0, .int .i64 0, .int .i64 0, .string ⟨#[]⟩, .slice none 0 0] 26)) = W := ⟨_, rfl⟩
  rw [hW] at z f0
  have zz := (bz_cells z).2.2.2.2.2.2
  by_cases hb : b < 0 ∨ (l.length : Int) < b
  · rw [show valueV l b = .er 1 from if_pos hb]
    obtain ⟨x0, x1, x2, x3, x4, xf, xl⟩ := bz_cells z
    have xf0 := xf 0; have xf1 := xf 1; have xf2 := xf 2; have xf3 := xf 3; have xf4 := xf 4
    have HZ := Lib.hid z
    clear z xf h
    by_cases hb0 : b < 0
    · clear hb
      go_enter Tryd.func5, Tryd.ntmps5
      go_upto_region 1 with fail
      clear hW
      go_wp2
      try simp only [Exit.inBlock, Exit.then]
      exact vg_ret (x := v0) rfl rfl rfl rfl (val_put' W _ _ _ _ _ _ _ _ _ _ _ _ _ HZ.out) ⟨fuw_put5 f0 (Nat.le_refl _) _ _ _ _ _, rfl, by decide⟩
    · have hb1 : (l.length : Int) < b := by omega
      clear hb
      go_enter Tryd.func5, Tryd.ntmps5
      go_upto_region 1 with fail
      clear hW
      go_wp2
      try simp only [Exit.inBlock, Exit.then]
      exact vg_ret (x := v0) rfl rfl rfl rfl (val_put' W _ _ _ _ _ _ _ _ _ _ _ _ _ HZ.out) ⟨fuw_put5 f0 (Nat.le_refl _) _ _ _ _ _, rfl, by decide⟩
  have hb0 : ¬ (b < 0) := fun t => hb (.inl t)
  have hb1 : ¬ ((l.length : Int) < b) := fun t => hb (.inr t)
  have hv := val_is ao l cap 8 (by decide) b W (h.on f0) (by omega) (by omega)
  rw [show valueV l b = valV l 8 b from if_neg hb]
  generalize valV l 8 b = o at *
  have HV := Lib.hid hv
  clear hb hv h
  cases o with
  | ok x E =>
    go_enter Tryd.func5, Tryd.ntmps5
    go_upto_region 1 with fail
    clear hW
    go_wp2_with fail
    go_at_call 14; refine HV.out.mono ?_; rintro e3 w3 ⟨f3, a2, c2, he3, hk3⟩
    unfold vc at he3
    subst he3
    have h3 := bz_on z f3
    obtain ⟨x0, x1, x2, x3, x4, xf, xl⟩ := bz_cells h3
    have xf0 := xf 0; have xf1 := xf 1; have xf2 := xf 2; have xf3 := xf 3; have xf4 := xf 4
    have HH3 := Lib.hid h3
    have HK := Lib.hid hk3
    have hs3 := f3.size
    clear h3 xf hk3 z HV
    go_wp2
    try simp only [Exit.inBlock, Exit.then]
    refine vg_ret (x := x) rfl rfl rfl rfl (val_put' w3 _ _ _ _ _ _ _ _ _ _ _ _ _ HH3.out) ⟨fuw_put5 (Fuw.trans f0 f3) (Nat.le_refl _) _ _ _ _ _, a2, c2, rfl, ?_⟩
    intro w4 hs4 hw4
    refine HK.out w4 ?_ (fun b h1 h2 => ?_)
    · simp at hs4; omega
    · rw [hw4 b (by omega) (by simp; omega), heap_set_other (by omega), heap_set_other (by omega), heap_set_other (by omega), heap_set_other (by omega), heap_set_other (by omega)]
  | er c =>
    go_enter Tryd.func5, Tryd.ntmps5
    go_upto_region 1 with fail
    clear hW
    go_wp2_with fail
    go_at_call 14; refine HV.out.mono ?_; rintro e3 w3 ⟨f3, he3, hc0⟩
    rw [vc_v0] at he3
    subst he3
    have h3 := bz_on z f3
    obtain ⟨x0, x1, x2, x3, x4, xf, xl⟩ := bz_cells h3
    have xf0 := xf 0; have xf1 := xf 1; have xf2 := xf 2; have xf3 := xf 3; have xf4 := xf 4
    have HH3 := Lib.hid h3
    have HC := Lib.hid hc0
    clear h3 xf z HV hc0
    go_wp2
    try simp only [Exit.inBlock, Exit.then]
    exact vg_ret (x := v0) rfl rfl rfl rfl (val_put' w3 _ _ _ _ _ _ _ _ _ _ _ _ _ HH3.out) ⟨fuw_put5 (Fuw.trans f0 f3) (Nat.le_refl _) _ _ _ _ _, rfl, HC.out⟩
end Go.Proofs.YtehmdeponbhhjaaDoor
