/-
  The reference of package codec: Value of every list of bytes and every offset is what the landed Value gives. Nothing that was there turns.
-/
import Derived.Test.YtehmdeponbhhjaaDoorRnE
namespace Go.Proofs.YtehmdeponbhhjaaDoor
open Go.RowKit

set_option maxHeartbeats 6400000 in
set_option maxRecDepth 100000 in
theorem rc_seq7 (ao : Option Addr) (l : List UInt8) (cap : Nat) (a lists : Int) (w : World) (o : Rs) (HC : ∀ U, Fuw w U → Calls Tryd.prog 47 #[.slice ao l.length cap, .int .i64 a, .int .i64 7, .int .i64 lists] U (RetC U o)) : Calls Tryd.prog 31 #[.slice ao l.length cap, .int .i64 a, .int .i64 7, .int .i64 lists] w (RetC w o) := by
  have HCC := Lib.hid HC
  clear HC
  go_enter Tryd.func31, Tryd.ntmps31
  go_upto_region 2 with fail
  obtain ⟨W, hW⟩ : ∃ W, (w.alloc (.cells #[.int .i64 0, .int .i64 0, .int .i64 0, .string ⟨#[]⟩, .slice none 0 0] 26)).alloc (.cells #[.int .i64 7, .int .i64 0, .int .i64 0, .string ⟨#[]⟩, .slice none 0 0] 26) = W := ⟨_, rfl⟩
  obtain ⟨hR, -, hF⟩ : W.heap[w.heap.size]? = some (.cells (vc v0 none 0) 26 (0, 0)) ∧ W.heap[w.heap.size + 1]? = some (.cells (vc (vk 7) none 0) 26 (0, 0)) ∧ Fuw w W := by rw [← hW]; exact two_box w 7
  rw [hW]
  clear hW
  have HF := Lib.hid hF
  have HR := Lib.hid hR
  have HZ := Lib.hid (vc_cells hR).2.2.2.2.2.2
  have HC := Lib.hid (HCC.out W hF)
  clear hF hR HCC
  unfold RetC at HC
  cases o with
  | ok x E =>
    simp only at HC
    go_wp2_with fail
    go_at_call 47; refine HC.out.mono ?_; rintro e1 w1 ⟨f1, a2, c2, he1, hkp⟩
    unfold vc at he1
    subst he1
    have HR := Lib.hid (bz_on HR.out f1)
    have HKP := Lib.hid hkp
    have hs1 := f1.size
    have HF := Lib.hid (Fuw.trans HF.out f1)
    clear f1 hkp
    obtain ⟨y0, y1, y2, y3, y4, yf, yl⟩ := vc_cells HR.out
    have yf0 := yf 0; have yf1 := yf 1; have yf2 := yf 2; have yf3 := yf 3; have yf4 := yf 4
    clear yf
    go_wp2
    try simp only [Exit.inBlock, Exit.then]
    refine vg_ret (x := x) rfl rfl rfl rfl (val_put' w1 w.heap.size _ _ _ _ _ _ _ _ _ _ _ _ HR.out) ⟨fuw_put5 HF.out (Nat.le_refl _) _ _ _ _ _, a2, c2, rfl, ?_⟩
    intro w3 hs3 hw3
    have hz := HZ.out
    refine HKP.out w3 (by simpa using hs3) (fun b h1 h2 => ?_)
    rw [hw3 b (by omega) (by simpa using h2), heap_set_other (by omega), heap_set_other (by omega), heap_set_other (by omega), heap_set_other (by omega), heap_set_other (by omega)]
  | er c =>
    simp only at HC
    go_wp2_with fail
    go_at_call 47; refine HC.out.mono ?_; rintro e1 w1 ⟨f1, y, a2, c2, E, he1, hc0⟩
    unfold vc at he1
    subst he1
    have HR := Lib.hid (bz_on HR.out f1)
    have HC0 := Lib.hid hc0
    have HF := Lib.hid (Fuw.trans HF.out f1)
    clear f1 hc0
    obtain ⟨z0, z1, z2, z3, z4, yf, yl⟩ := vc_cells HR.out
    have yf0 := yf 0; have yf1 := yf 1; have yf2 := yf 2; have yf3 := yf 3; have yf4 := yf 4
    clear yf
    go_wp2
    try simp only [Exit.inBlock, Exit.then]
    exact vg_ret (x := y) rfl rfl rfl rfl (val_put' w1 w.heap.size _ _ _ _ _ _ _ _ _ _ _ _ HR.out) ⟨fuw_put5 HF.out (Nat.le_refl _) _ _ _ _ _, y, a2, c2, E, rfl, HC0.out⟩
set_option maxHeartbeats 6400000 in
set_option maxRecDepth 100000 in
theorem rc_seq8 (ao : Option Addr) (l : List UInt8) (cap : Nat) (a lists : Int) (w : World) (o : Rs) (HC : ∀ U, Fuw w U → Calls Tryd.prog 47 #[.slice ao l.length cap, .int .i64 a, .int .i64 8, .int .i64 lists] U (RetC U o)) : Calls Tryd.prog 31 #[.slice ao l.length cap, .int .i64 a, .int .i64 8, .int .i64 lists] w (RetC w o) := by
  have HCC := Lib.hid HC
  clear HC
  go_enter Tryd.func31, Tryd.ntmps31
  go_upto_region 2 with fail
  obtain ⟨W, hW⟩ : ∃ W, (w.alloc (.cells #[.int .i64 0, .int .i64 0, .int .i64 0, .string ⟨#[]⟩, .slice none 0 0] 26)).alloc (.cells #[.int .i64 8, .int .i64 0, .int .i64 0, .string ⟨#[]⟩, .slice none 0 0] 26) = W := ⟨_, rfl⟩
  obtain ⟨hR, -, hF⟩ : W.heap[w.heap.size]? = some (.cells (vc v0 none 0) 26 (0, 0)) ∧ W.heap[w.heap.size + 1]? = some (.cells (vc (vk 8) none 0) 26 (0, 0)) ∧ Fuw w W := by rw [← hW]; exact two_box w 8
  rw [hW]
  clear hW
  have HF := Lib.hid hF
  have HR := Lib.hid hR
  have HZ := Lib.hid (vc_cells hR).2.2.2.2.2.2
  have HC := Lib.hid (HCC.out W hF)
  clear hF hR HCC
  unfold RetC at HC
  cases o with
  | ok x E =>
    simp only at HC
    go_wp2_with fail
    go_at_call 47; refine HC.out.mono ?_; rintro e1 w1 ⟨f1, a2, c2, he1, hkp⟩
    unfold vc at he1
    subst he1
    have HR := Lib.hid (bz_on HR.out f1)
    have HKP := Lib.hid hkp
    have hs1 := f1.size
    have HF := Lib.hid (Fuw.trans HF.out f1)
    clear f1 hkp
    obtain ⟨y0, y1, y2, y3, y4, yf, yl⟩ := vc_cells HR.out
    have yf0 := yf 0; have yf1 := yf 1; have yf2 := yf 2; have yf3 := yf 3; have yf4 := yf 4
    clear yf
    go_wp2
    try simp only [Exit.inBlock, Exit.then]
    refine vg_ret (x := x) rfl rfl rfl rfl (val_put' w1 w.heap.size _ _ _ _ _ _ _ _ _ _ _ _ HR.out) ⟨fuw_put5 HF.out (Nat.le_refl _) _ _ _ _ _, a2, c2, rfl, ?_⟩
    intro w3 hs3 hw3
    have hz := HZ.out
    refine HKP.out w3 (by simpa using hs3) (fun b h1 h2 => ?_)
    rw [hw3 b (by omega) (by simpa using h2), heap_set_other (by omega), heap_set_other (by omega), heap_set_other (by omega), heap_set_other (by omega), heap_set_other (by omega)]
  | er c =>
    simp only at HC
    go_wp2_with fail
    go_at_call 47; refine HC.out.mono ?_; rintro e1 w1 ⟨f1, y, a2, c2, E, he1, hc0⟩
    unfold vc at he1
    subst he1
    have HR := Lib.hid (bz_on HR.out f1)
    have HC0 := Lib.hid hc0
    have HF := Lib.hid (Fuw.trans HF.out f1)
    clear f1 hc0
    obtain ⟨z0, z1, z2, z3, z4, yf, yl⟩ := vc_cells HR.out
    have yf0 := yf 0; have yf1 := yf 1; have yf2 := yf 2; have yf3 := yf 3; have yf4 := yf 4
    clear yf
    go_wp2
    try simp only [Exit.inBlock, Exit.then]
    exact vg_ret (x := y) rfl rfl rfl rfl (val_put' w1 w.heap.size _ _ _ _ _ _ _ _ _ _ _ _ HR.out) ⟨fuw_put5 HF.out (Nat.le_refl _) _ _ _ _ _, y, a2, c2, E, rfl, HC0.out⟩
/-- A value, out of what follows the byte of its kind. -/
theorem nest_by (ao : Option Addr) (l : List UInt8) (cap : Nat) (a k : Nat) (lists path : Int) (w : World) (h : IsB w ao l cap) (ha : a < l.length) (h0 : (l.getD a 0).toNat = k) (hk8 : k ≤ 8) (hnest : ¬ (k : Int) = 8 ∨ lists < 8) (hpath : path < 0 ∨ (0 ≤ path ∧ path % 2 = 0 ∧ k = 5) ∨ (0 ≤ path ∧ path % 2 = 1 ∧ k = 6))
    (o : Rs) (HC : ∀ U, Fuw w U → Calls Tryd.prog 31 #[.slice ao l.length cap, .int .i64 ((a : Int) + 1), .int .i64 (k : Int), .int .i64 lists] U (RetC U o)) (hv : ∀ x E, o = .ok x E → Vin x) :
    Calls Tryd.prog 15 #[.slice ao l.length cap, .int .i64 a, .int .i64 lists, .int .i64 path] w (RetG w (fin o)) := by
  cases o with
  | er c => exact nest_err ao l cap a k lists path w h ha h0 hk8 hnest hpath c HC
  | ok x E =>
    have hx := hv x E rfl
    cases hok : okX x with
    | false =>
      have e : fin (.ok x E) = .er 2 := by unfold fin; simp only [hok]; rfl
      rw [e]
      exact nest_inv ao l cap a k lists path w h ha h0 hk8 hnest hpath x E hx hok HC
    | true =>
      have e : fin (.ok x E) = .ok x E := by unfold fin; simp only [hok]; rfl
      rw [e]
      exact nest_ok ao l cap a k lists path w h ha h0 hk8 hnest hpath x E hx hok HC
theorem els_g (l : List UInt8) (kind : Nat) (rv : Int → Rs) : ∀ (n i : Nat) (a : Int), elsV l kind rv n i a = elsG (fun i a => if kind = 7 ∧ a < l.length ∧ (l.getD a.toNat 0).toNat ≠ pkV i then .er 2 else rv a) n i a
  | 0, _, _ => rfl
  | n + 1, i, a => by
    unfold elsV elsG
    by_cases g : kind = 7 ∧ a < l.length ∧ (l.getD a.toNat 0).toNat ≠ pkV i
    · simp only [if_pos g]
    · simp only [if_neg g]
      cases rv a with
      | er c => rfl
      | ok x E =>
        simp only
        rw [els_g l kind rv n (i + 1) E]
        generalize elsG _ n (i + 1) E = r
        cases r <;> rfl
theorem list_g (l : List UInt8) (rv : Int → Rs) (a : Int) : listV l rv a = seqG l bad8 (fun _ b => rv b) a := by
  unfold listV seqG bad8
  split
  · rfl
  · by_cases h : (uintV l a).1 ≤ 64
    · rw [if_neg (fun t => t h), if_neg (by rw [decide_eq_true_eq]; omega), els_g]
      have e : (fun (i : Nat) (a : Int) => if (8 : Nat) = 7 ∧ a < l.length ∧ (l.getD a.toNat 0).toNat ≠ pkV i then Rs.er 2 else rv a) = fun _ b => rv b := by
        funext i a
        rw [if_neg (fun t => absurd t.1 (by decide))]
      rw [e]
    · rw [if_pos h, if_pos (decide_eq_true (by omega))]
/-- What stands at an index of a path. -/
def pelV (l : List UInt8) (i : Nat) (a : Int) : Rs := if a < l.length ∧ (l.getD a.toNat 0).toNat ≠ pkV i then .er 2 else endV l a
theorem path_g (l : List UInt8) (a : Int) (h0 : 0 ≤ (uintV l a).1) : pathV l (endV l) a = seqG l bad7 (pelV l) a := by
  unfold pathV seqG bad7
  split
  · rfl
  · by_cases h : (uintV l a).1.toNat ≤ 25 ∧ (uintV l a).1.toNat % 2 = 1
    · rw [if_neg (fun t => t h), if_neg (by rw [Bool.or_eq_true, decide_eq_true_eq, beq_iff_eq]; omega), els_g]
      have e : (fun (i : Nat) (a : Int) => if (7 : Nat) = 7 ∧ a < l.length ∧ (l.getD a.toNat 0).toNat ≠ pkV i then Rs.er 2 else endV l a) = pelV l := by
        funext i a
        unfold pelV
        by_cases g : a < l.length ∧ (l.getD a.toNat 0).toNat ≠ pkV i
        · rw [if_pos g, if_pos ⟨rfl, g⟩]
        · rw [if_neg g, if_neg (fun t => g t.2)]
      rw [e]
    · rw [if_pos h, if_pos (by rw [Bool.or_eq_true, decide_eq_true_eq, beq_iff_eq]; omega)]
theorem pk_par (i : Nat) : ((i : Int) % 2 = 0 ∧ pkV i = 5) ∨ ((i : Int) % 2 = 1 ∧ pkV i = 6) := by
  unfold pkV
  by_cases h : i % 2 = 1
  · rw [if_pos h]; right; omega
  · rw [if_neg h]; left; omega
theorem byte_lt (l : List UInt8) (a : Nat) : (l.getD a 0).toNat < 256 := UInt8.toNat_lt _
theorem nest_pel (ao : Option Addr) (l : List UInt8) (cap : Nat) (i : Nat) (b lists : Int) (w : World) (h : IsB w ao l cap) (hl : l.length ≤ 1000000000000) (h0 : 0 ≤ b) (h1 : b ≤ l.length) : Calls Tryd.prog 15 #[.slice ao l.length cap, .int .i64 b, .int .i64 lists, .int .i64 (i : Int)] w (RetG w (pelV l i b)) := by
  have hm := Nat.le_trans h.le h.max
  unfold pelV
  by_cases e : (l.length : Int) ≤ b
  · have eb : b = l.length := by omega
    subst eb
    rw [if_neg (by omega)]
    unfold endV
    rw [if_pos (Int.le_refl _)]
    exact nest_end ao l cap lists i w
  obtain ⟨a, rfl⟩ : ∃ a : Nat, b = (a : Int) := ⟨b.toNat, by omega⟩
  rw [Int.toNat_natCast]
  have ha : a < l.length := by omega
  have hp := pk_par i
  by_cases ek : (l.getD a 0).toNat = pkV i
  · rw [if_neg (fun t => t.2 ek)]
    unfold endV
    rw [if_neg e, Int.toNat_natCast, ek]
    have hk : pkV i = 5 ∨ pkV i = 6 := by omega
    rw [if_pos (by omega)]
    exact nest_by ao l cap a (pkV i) lists i w h ha ek (by omega) (.inl (by omega)) (.inr (by omega)) _ (fun U hU => rc_flat (pkV i) (by omega) ao l cap _ lists (by omega) (by omega) U (h.on hU) hl) (fun x E hx => (flat_in (by omega) hm ⟨by omega, by omega⟩ hx).1)
  · rw [if_pos ⟨by omega, ek⟩]
    exact nest_bad ao l cap a _ lists i w h ha rfl (byte_lt l a) (by omega)
theorem pel_rd {l : List UInt8} (hl : l.length ≤ maxLen) (i : Nat) (b : Int) (x : Vl) (E : Int) (h0 : 0 ≤ b) (h1 : b ≤ l.length) (h : pelV l i b = .ok x E) : Vin x ∧ b ≤ E ∧ E ≤ l.length := by
  unfold pelV at h
  split at h
  · cases h
  · exact end_rd hl b x E h0 h1 h
theorem nest_head (ao : Option Addr) (l : List UInt8) (cap : Nat) (b lists : Int) (hs0 : 0 ≤ lists) (hs1 : lists ≤ 100) (w : World) (h : IsB w ao l cap) (hl : l.length ≤ 1000000000000) (h0 : 0 ≤ b) (h1 : b ≤ l.length) (seq : Int → Rs)
    (HS : ∀ a : Nat, a < l.length → (l.getD a 0).toNat = 8 → Calls Tryd.prog 15 #[.slice ao l.length cap, .int .i64 a, .int .i64 lists, .int .i64 (-1)] w (RetG w (seq ((a : Int) + 1)))) :
    Calls Tryd.prog 15 #[.slice ao l.length cap, .int .i64 b, .int .i64 lists, .int .i64 (-1)] w (RetG w (headV l b seq)) := by
  have hm := Nat.le_trans h.le h.max
  unfold headV
  by_cases e : (l.length : Int) ≤ b
  · have eb : b = l.length := by omega
    subst eb
    rw [if_pos e]
    exact nest_end ao l cap lists (-1) w
  rw [if_neg e]
  obtain ⟨a, rfl⟩ : ∃ a : Nat, b = (a : Int) := ⟨b.toNat, by omega⟩
  rw [Int.toNat_natCast]
  have ha : a < l.length := by omega
  by_cases e7 : (l.getD a 0).toNat < 7
  · rw [if_pos e7]
    exact nest_by ao l cap a _ lists (-1) w h ha rfl (by omega) (.inl (by omega)) (.inl (by decide)) _ (fun U hU => rc_flat _ e7 ao l cap _ lists (by omega) (by omega) U (h.on hU) hl) (fun x E hx => (flat_in e7 hm ⟨by omega, by omega⟩ hx).1)
  rw [if_neg e7]
  by_cases e8 : (l.getD a 0).toNat = 7
  · rw [if_pos e8]
    obtain ⟨u, E0, c, hu⟩ : ∃ u e c, uintV l ((a : Int) + 1) = (u, e, c) := ⟨_, _, _, rfl⟩
    have hok := uint_ok hu
    rw [path_g l _ (by rw [hu]; exact hok.1)]
    exact nest_by ao l cap a 7 lists (-1) w h ha e8 (by decide) (.inl (by decide)) (.inl (by decide)) _ (fun U hU => rc_seq7 ao l cap _ lists U _ fun U2 hU2 => relems7 ao l cap _ lists (by omega) (by omega) hs0 hs1 U2 (h.on (Fuw.trans hU hU2)) hl (pelV l) (fun i b' w' _ t1 t2 t3 => nest_pel ao l cap i b' lists w' ((h.on (Fuw.trans hU hU2)).on t3) hl t1 t2) (fun i b' x E t1 t2 t3 => pel_rd hm i b' x E t1 t2 t3)) (ofl_vin (by decide))
  rw [if_neg e8]
  by_cases e9 : (l.getD a 0).toNat = 8
  · rw [if_pos e9]
    exact HS a ha e9
  · rw [if_neg e9]
    exact nest_bad ao l cap a _ lists (-1) w h ha rfl (byte_lt l a) (.inl (by omega))
theorem nest_val (ao : Option Addr) (l : List UInt8) (cap : Nat) (hl : l.length ≤ 1000000000000) : ∀ (n : Nat) (_ : n ≤ 8) (b : Int) (w : World) (_ : IsB w ao l cap) (_ : 0 ≤ b) (_ : b ≤ l.length),
    Calls Tryd.prog 15 #[.slice ao l.length cap, .int .i64 b, .int .i64 (8 - n : Int), .int .i64 (-1)] w (RetG w (valV l n b))
  | 0, _, b, w, h, h0, h1 => nest_head ao l cap b (8 - (0 : Nat) : Int) (by decide) (by decide) w h hl h0 h1 _ fun a ha e => nest_bad ao l cap a 8 _ (-1) w h ha e (by decide) (.inr (.inl ⟨rfl, by decide⟩))
  | n + 1, hn, b, w, h, h0, h1 => nest_head ao l cap b (8 - (n + 1 : Nat) : Int) (by omega) (by omega) w h hl h0 h1 _ fun a ha e => by
      rw [list_g]
      exact nest_by ao l cap a 8 _ (-1) w h ha e (by decide) (.inr (by omega)) (.inl (by decide)) _ (fun U hU => rc_seq8 ao l cap _ _ U _ fun U2 hU2 => relems8 ao l cap _ _ (by omega) (by omega) (by omega) (by omega) U2 (h.on (Fuw.trans hU hU2)) hl (fun _ b => valV l n b) (fun i b' w' _ t1 t2 t3 => by
        have q := nest_val ao l cap hl n (by omega) b' w' ((h.on (Fuw.trans hU hU2)).on t3) t1 t2
        rw [show (8 - (n + 1 : Nat) : Int) + 1 = (8 - n : Int) by omega]
        exact q) (fun i b' x E t1 t2 t3 => val_rd (Nat.le_trans h.le h.max) n b' x E t1 t2 t3)) (ofl_vin (by decide))
set_option maxHeartbeats 6400000 in
set_option maxRecDepth 100000 in
theorem nest_out (ao : Option Addr) (l : List UInt8) (cap : Nat) (b lists path : Int) (w : World) (hb : b < 0 ∨ (l.length : Int) < b) : Calls Tryd.prog 15 #[.slice ao l.length cap, .int .i64 b, .int .i64 lists, .int .i64 path] w (RetG w (.er 1)) := by
  obtain ⟨W, hW⟩ : ∃ W, w.alloc (.cells #[.int .i64 0, .int .i64 0, .int .i64 0, .string ⟨#[]⟩, .slice none 0 0] 26) = W := ⟨_, rfl⟩
  obtain ⟨hR, hF⟩ : W.heap[w.heap.size]? = some (.cells (vc v0 none 0) 26 (0, 0)) ∧ Fuw w W := by rw [← hW]; exact bz0 w
  have HR := Lib.hid hR
  have HF := Lib.hid hF
  have HZ := Lib.hid (vc_cells hR).2.2.2.2.2.2
  clear hR hF
  by_cases hb0 : b < 0
  · clear hb
    go_enter Tryd.func15, Tryd.ntmps15
    go_upto_region 1 with fail
    clear hW
    obtain ⟨y0, y1, y2, y3, y4, yf, yl⟩ := vc_cells HR.out
    have yf0 := yf 0; have yf1 := yf 1; have yf2 := yf 2; have yf3 := yf 3; have yf4 := yf 4
    clear yf
    go_wp2
    all_goals
      try simp only [Exit.inBlock, Exit.then]
      exact vg_ret (x := v0) (B := w.heap.size) (cap := 0) (ao := none) rfl rfl rfl rfl (val_put' _ w.heap.size _ _ _ _ _ _ _ _ _ _ _ _ HR.out) ⟨fuw_put5 HF.out (Nat.le_refl _) _ _ _ _ _, rfl, by decide⟩
  · have hb1 : (l.length : Int) < b := by omega
    clear hb
    go_enter Tryd.func15, Tryd.ntmps15
    go_upto_region 1 with fail
    clear hW
    obtain ⟨y0, y1, y2, y3, y4, yf, yl⟩ := vc_cells HR.out
    have yf0 := yf 0; have yf1 := yf 1; have yf2 := yf 2; have yf3 := yf 3; have yf4 := yf 4
    clear yf
    go_wp2
    all_goals
      try simp only [Exit.inBlock, Exit.then]
      exact vg_ret (x := v0) (B := w.heap.size) (cap := 0) (ao := none) rfl rfl rfl rfl (val_put' _ w.heap.size _ _ _ _ _ _ _ _ _ _ _ _ HR.out) ⟨fuw_put5 HF.out (Nat.le_refl _) _ _ _ _ _, rfl, by decide⟩
set_option maxHeartbeats 6400000 in
set_option maxRecDepth 100000 in
theorem rvalue_is (ao : Option Addr) (l : List UInt8) (cap : Nat) (b : Int) (w : World) (h : IsB w ao l cap) (hl : l.length ≤ 1000000000000) : Calls Tryd.prog 6 #[.slice ao l.length cap, .int .i64 b] w (RetG w (valueV l b)) := by
  have HN : ∀ U, Fuw w U → Calls Tryd.prog 15 #[.slice ao l.length cap, .int .i64 b, .int .i64 0, .int .i64 (-1)] U (RetG U (valueV l b)) := fun U hU => by
    unfold valueV
    by_cases hb : b < 0 ∨ (l.length : Int) < b
    · rw [if_pos hb]; exact nest_out ao l cap b 0 (-1) U hb
    · rw [if_neg hb]
      have q := nest_val ao l cap hl 8 (Nat.le_refl _) b U (h.on hU) (by omega) (by omega)
      exact q
  obtain ⟨W, hW⟩ : ∃ W, w.alloc (.cells #[.int .i64 0, .int .i64 0, .int .i64 0, .string ⟨#[]⟩, .slice none 0 0] 26) = W := ⟨_, rfl⟩
  obtain ⟨hR, hF⟩ : W.heap[w.heap.size]? = some (.cells (vc v0 none 0) 26 (0, 0)) ∧ Fuw w W := by rw [← hW]; exact bz0 w
  have HR := Lib.hid hR
  have HF := Lib.hid hF
  have HZ := Lib.hid (vc_cells hR).2.2.2.2.2.2
  clear hR hF
  have HC := Lib.hid (HN W HF.out)
  clear HN h hl
  generalize valueV l b = o at *
  unfold RetG at HC
  go_enter Tryd.func6, Tryd.ntmps6
  go_upto_region 1 with fail
  clear hW
  cases o with
  | ok x E =>
    simp only at HC
    go_wp2_with fail
    go_at_call 15; refine HC.out.mono ?_; rintro e1 w1 ⟨f1, a2, c2, he1, hkp⟩
    unfold vc at he1
    subst he1
    have HR := Lib.hid (bz_on HR.out f1)
    have HKP := Lib.hid hkp
    have hs1 := f1.size
    have HF := Lib.hid (Fuw.trans HF.out f1)
    clear f1 hkp
    obtain ⟨y0, y1, y2, y3, y4, yf, yl⟩ := vc_cells HR.out
    have yf0 := yf 0; have yf1 := yf 1; have yf2 := yf 2; have yf3 := yf 3; have yf4 := yf 4
    clear yf
    go_wp2
    try simp only [Exit.inBlock, Exit.then]
    refine vg_ret (x := x) rfl rfl rfl rfl (val_put' w1 w.heap.size _ _ _ _ _ _ _ _ _ _ _ _ HR.out) ⟨fuw_put5 HF.out (Nat.le_refl _) _ _ _ _ _, a2, c2, rfl, ?_⟩
    intro w3 hs3 hw3
    have hz := HZ.out
    refine HKP.out w3 (by simpa using hs3) (fun b h1 h2 => ?_)
    rw [hw3 b (by omega) (by simpa using h2), heap_set_other (by omega), heap_set_other (by omega), heap_set_other (by omega), heap_set_other (by omega), heap_set_other (by omega)]
  | er c =>
    simp only at HC
    go_wp2_with fail
    go_at_call 15; refine HC.out.mono ?_; rintro e1 w1 ⟨f1, he1, hc0⟩
    rw [vc_v0] at he1
    subst he1
    have HR := Lib.hid (bz_on HR.out f1)
    have HC0 := Lib.hid hc0
    have HF := Lib.hid (Fuw.trans HF.out f1)
    clear f1 hc0
    obtain ⟨y0, y1, y2, y3, y4, yf, yl⟩ := vc_cells HR.out
    have yf0 := yf 0; have yf1 := yf 1; have yf2 := yf 2; have yf3 := yf 3; have yf4 := yf 4
    clear yf
    go_wp2
    try simp only [Exit.inBlock, Exit.then]
    exact vg_ret (x := v0) rfl rfl rfl rfl (val_put' w1 w.heap.size _ _ _ _ _ _ _ _ _ _ _ _ HR.out) ⟨fuw_put5 HF.out (Nat.le_refl _) _ _ _ _ _, rfl, HC0.out⟩
end Go.Proofs.YtehmdeponbhhjaaDoor
