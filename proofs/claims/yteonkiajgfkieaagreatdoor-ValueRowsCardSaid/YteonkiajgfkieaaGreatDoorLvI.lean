/-
  Package value: equalValid, equalLists, Equal, Less, Truth, for every values in memory. Nothing that was there turns.
-/
import Derived.Test.YteonkiajgfkieaaGreatDoorLvH
import Derived.Test.YteonkiajgfkieaaGreatDoorValE
namespace Go.Proofs.YteonkiajgfkieaaGreatDoor
open Go.RowKit

/-! What equality of valid values comes to. -/
theorem eqV_mk (k n d : Int) (s : List UInt8) (l : List Vl) (k' n' d' : Int) (s' : List UInt8) (l' : List Vl) : eqV (.mk k n d s l) (.mk k' n' d' s' l') =
    if k = 0 ∨ k' = 0 ∨ okX (.mk k n d s l) = false ∨ okX (.mk k' n' d' s' l') = false then 1
    else if isNum (.mk k n d s l) = true ∧ isNum (.mk k' n' d' s' l') = true then yesV (decide (cmpQ (fz (nmN (.mk k n d s l)) (nmD (.mk k n d s l))) (fz (nmN (.mk k' n' d' s' l')) (nmD (.mk k' n' d' s' l'))) = 0))
    else if k ≠ k' then 0
    else if k = 4 then yesV (decide (s = s'))
    else if k ≠ 8 ∧ k ≠ 7 then yesV (decide (n = n'))
    else if l.length ≠ l'.length then 0
    else eqL l l' := by
  unfold eqV
  rfl
theorem eq_flat {x y : Vl} (hx : okX x = true) (hy : okX y = true) (hk : x.kd = 5 ∨ x.kd = 6) (hk' : y.kd = 5 ∨ y.kd = 6) : eqV x y = 0 ∨ eqV x y = 2 := by
  obtain ⟨k, n, d, s, l⟩ := x
  obtain ⟨k', n', d', s', l'⟩ := y
  have hk : k = 5 ∨ k = 6 := hk
  have hk' : k' = 5 ∨ k' = 6 := hk'
  rw [eqV_mk, if_neg (show ¬ (k = 0 ∨ k' = 0 ∨ okX (.mk k n d s l) = false ∨ okX (.mk k' n' d' s' l') = false) by rw [hx, hy]; simp; omega)]
  split
  · exact yesV_r _
  split
  · exact .inl rfl
  split
  · exact yesV_r _
  split
  · exact yesV_r _
  · exfalso; omega
theorem eqL_flat : ∀ l l' : List Vl, (∀ v, v ∈ l → (v.kd = 5 ∨ v.kd = 6) ∧ okX v = true) → (∀ v, v ∈ l' → (v.kd = 5 ∨ v.kd = 6) ∧ okX v = true) → eqL l l' = 0 ∨ eqL l l' = 2
  | [], _, _, _ => by unfold eqL; exact .inr rfl
  | _ :: _, [], _, _ => by unfold eqL; exact .inr rfl
  | x :: r, y :: t, h, h' => by
    have h1 := eq_flat (h x (List.mem_cons_self ..)).2 (h' y (List.mem_cons_self ..)).2 (h x (List.mem_cons_self ..)).1 (h' y (List.mem_cons_self ..)).1
    have h2 := eqL_flat r t (fun v hv => h v (List.mem_cons_of_mem _ hv)) (fun v hv => h' v (List.mem_cons_of_mem _ hv))
    unfold eqL
    omega
theorem okVp_all : ∀ (l : List Vl) (c : Bool), okVp c l = true → ∀ v, v ∈ l → (v.kd = 5 ∨ v.kd = 6) ∧ okX v = true
  | [], _, _ => fun v h => by cases h
  | x :: r, c, g => by
    have ha := all_p g
    unfold okVp at g
    rw [Bool.and_eq_true, Bool.and_eq_true] at g
    intro v hv
    refine ⟨?_, ha v hv⟩
    rcases List.mem_cons.1 hv with e | e
    · rw [e]
      have := g.1.1
      cases c
      · exact .inr (by simpa using this)
      · exact .inl (by simpa using this)
    · exact (okVp_all r (!c) g.2 v e).1
theorem path_all {n d : Int} {s : List UInt8} {l : List Vl} (h : okX (.mk 7 n d s l) = true) : ∀ v, v ∈ l → (v.kd = 5 ∨ v.kd = 6) ∧ okX v = true := by
  unfold okX okV at h
  rw [if_pos rfl, Bool.and_eq_true] at h
  exact okVp_all l true h.2
theorem eq_02 {x y : Vl} (hx : okX x = true) (hy : okX y = true) (h0 : x.kd ≠ 0) (h0' : y.kd ≠ 0) (h8 : x.kd ≠ 8) : eqV x y = 0 ∨ eqV x y = 2 := by
  obtain ⟨k, n, d, s, l⟩ := x
  obtain ⟨k', n', d', s', l'⟩ := y
  have h0 : k ≠ 0 := h0
  have h0' : k' ≠ 0 := h0'
  have h8 : k ≠ 8 := h8
  rw [eqV_mk, if_neg (show ¬ (k = 0 ∨ k' = 0 ∨ okX (.mk k n d s l) = false ∨ okX (.mk k' n' d' s' l') = false) by rw [hx, hy]; simp [h0, h0'])]
  split
  · exact yesV_r _
  split
  · exact .inl rfl
  rename_i hkk
  split
  · exact yesV_r _
  split
  · exact yesV_r _
  rename_i h7
  have e7 : k = 7 := by omega
  have e7' : k' = 7 := by
    have : ¬ k ≠ k' := hkk
    omega
  subst e7 e7'
  split
  · exact .inl rfl
  · exact eqL_flat l l' (path_all hx) (path_all hy)
theorem eq_kinds {x y : Vl} (hx : okX x = true) (hy : okX y = true) (h0 : x.kd ≠ 0) (h0' : y.kd ≠ 0) (hk : x.kd ≠ y.kd) : eqV x y = 0 := by
  have hne : x ≠ y := fun e => hk (by rw [e])
  obtain ⟨k, n, d, s, l⟩ := x
  obtain ⟨k', n', d', s', l'⟩ := y
  have h0 : k ≠ 0 := h0
  have h0' : k' ≠ 0 := h0'
  have hk : k ≠ k' := hk
  rw [eqV_mk, if_neg (show ¬ (k = 0 ∨ k' = 0 ∨ okX (.mk k n d s l) = false ∨ okX (.mk k' n' d' s' l') = false) by rw [hx, hy]; simp [h0, h0'])]
  split
  · rename_i hn
    rcases yesV_r (decide (cmpQ (fz (nmN (.mk k n d s l)) (nmD (.mk k n d s l))) (fz (nmN (.mk k' n' d' s' l')) (nmD (.mk k' n' d' s' l'))) = 0)) with e | e
    · exact e
    · exact absurd (num_same hn.1 hn.2 (by simpa using yesV_2.1 e)) hne
  · rfl
/-- Equality of two valid values of one kind, no lists and not null. -/
theorem eq_ord {x y : Vl} (hx : okX x = true) (hy : okX y = true) (h0 : x.kd ≠ 0) (h0' : y.kd ≠ 0) (h8 : x.kd ≠ 8) : eqV x y = if decide (ordV x y = 0) = true then 2 else 0 := by
  have h := eq_02 hx hy h0 h0' h8
  by_cases e : ordV x y = 0
  · rw [decide_eq_true e, if_pos rfl]
    have := ord_eq e
    subst this
    have := eq_self x
    omega
  · rw [decide_eq_false e, if_neg (by decide)]
    rcases h with h | h
    · exact h
    · have := eq_same h
      subst this
      exact absurd (ord_self x) e
theorem eq_list {n d : Int} {s : List UInt8} {l : List Vl} {n' d' : Int} {s' : List UInt8} {l' : List Vl} (hx : okX (.mk 8 n d s l) = true) (hy : okX (.mk 8 n' d' s' l') = true) : eqV (.mk 8 n d s l) (.mk 8 n' d' s' l') = if l.length ≠ l'.length then 0 else eqL l l' := by
  have nx : ¬ (isNum (.mk 8 n d s l) = true ∧ isNum (.mk 8 n' d' s' l') = true) := fun t => by
    have : classV 8 = 2 := (num_class hx).1 t.1
    exact absurd this (by decide)
  rw [eqV_mk, if_neg (show ¬ ((8 : Int) = 0 ∨ (8 : Int) = 0 ∨ okX (.mk 8 n d s l) = false ∨ okX (.mk 8 n' d' s' l') = false) by rw [hx, hy]; simp), if_neg nx]
  rfl
theorem eq_null {x y : Vl} (h : x.kd = 0 ∨ y.kd = 0) : eqV x y = 1 := by
  obtain ⟨k, n, d, s, l⟩ := x
  unfold eqV
  rw [if_pos]
  rcases h with h | h
  · exact .inl h
  · exact .inr (.inl h)
theorem eq_inv {x y : Vl} (h : okX x = false ∨ okX y = false) : eqV x y = 1 := by
  obtain ⟨k, n, d, s, l⟩ := x
  unfold eqV
  rw [if_pos]
  exact .inr (.inr h)
/-- What equalValid answers. -/
def EqAt (x y : Vl) : Prop := ∀ (ao bo : Option Addr) (ca cb : Nat) (w : World), Vin x → Vin y → SlV w ao x.ll ca → SlV w bo y.ll cb → Calls Tryz.prog 32 #[vlv x ao ca, vlv y bo cb] w (RetI w (eqV x y))
theorem eqL_drop (l l' : List Vl) (i : Nat) (h : i < l.length) (h' : i < l'.length) : eqL (l.drop i) (l'.drop i) = min (eqV l[i] l'[i]) (eqL (l.drop (i + 1)) (l'.drop (i + 1))) := by
  rw [List.drop_eq_getElem_cons h, List.drop_eq_getElem_cons h']
  simp only [eqL]
theorem tri_02 {a : Int} (h : 0 ≤ a ∧ a ≤ 2) : triV a = a := by unfold triV; split <;> omega
theorem land_r (a b : Int) (ha : 0 ≤ a ∧ a ≤ 2) (hb : 0 ≤ b ∧ b ≤ 2) (w : World) : Calls Tryz.prog 76 #[.int .i64 a, .int .i64 b] w (RetI w (min a b)) :=
  (land_any a b w).mono fun _ _ ⟨he, hw⟩ => ⟨by rw [he, tri_02 ha, tri_02 hb], hw ▸ Fur.refl _⟩
theorem lknown_r (b : Bool) (w : World) : Calls Tryz.prog 34 #[.bool b] w (RetI w (if b = true then 2 else 0)) :=
  (lknown_any b w).mono fun _ _ ⟨he, hw⟩ => ⟨he, hw ▸ Fur.refl _⟩

set_option maxHeartbeats 3200000 in
set_option maxRecDepth 100000 in
theorem lel_any (l l' : List Vl) (hO : ∀ x, x ∈ l → ∀ y, y ∈ l' → EqAt x y) (ao bo : Option Addr) (ca cb : Nat) (w : World) (hs : SlV w ao l ca) (hs' : SlV w bo l' cb) :
    Calls Tryz.prog 43 #[.slice ao l.length ca, .slice bo l'.length cb] w (RetI w (if l.length ≠ l'.length then 0 else eqL l l')) := by
  have HO := Lib.hid hO
  have HS := Lib.hid hs
  have HS' := Lib.hid hs'
  have h1 := hs.le
  have h2 := hs.max
  have h3 := hs'.le
  have h4 := hs'.max
  unfold maxLen at h2 h4
  clear hs hs' hO
  rcases Nat.lt_or_ge l.length l'.length with g | g
  · have g1 : ((l.length : Int) != l'.length) = true := by rw [bne_iff_ne]; omega
    rw [if_pos (show l.length ≠ l'.length by omega)]
    clear g
    go_enter Tryz.func43, Tryz.ntmps43
    go_wp2
    go_ret
    exact ⟨rfl, Fur.refl _⟩
  rcases Nat.lt_or_ge l'.length l.length with g' | g'
  · have g1 : ((l.length : Int) != l'.length) = true := by rw [bne_iff_ne]; omega
    rw [if_pos (show l.length ≠ l'.length by omega)]
    clear g g'
    go_enter Tryz.func43, Tryz.ntmps43
    go_wp2
    go_ret
    exact ⟨rfl, Fur.refl _⟩
  have g1 : ((l.length : Int) != l'.length) = false := by rw [bne_eq_false_iff_eq]; omega
  rw [if_neg (show ¬ (l.length ≠ l'.length) by omega)]
  go_enter Tryz.func43, Tryz.ntmps43
  go_wp2
  go_loopw [5, 14] (fun av iv wr => ∃ (i : Nat) (a : Int), iv = .int .i64 i ∧ av = .int .i64 a ∧ i ≤ l.length ∧ Hid ((0 ≤ a ∧ a ≤ 2) ∧ eqL l l' = min a (eqL (l.drop i) (l'.drop i))) ∧ Fur w wr) (fun _ iv _ => l.length - (RowKit.intOf iv).toNat)
  case atStart => exact ⟨0, 2, rfl, rfl, Nat.zero_le _, ⟨by omega, by have := eqL_r l l'; simp only [List.drop_zero]; omega⟩, Fur.refl _⟩
  case round =>
    obtain ⟨i, a, rfl, rfl, hi, HN, hf⟩ := hrel
    by_cases hlt : i < l.length
    · have hlt' : i < l'.length := by omega
      obtain ⟨b, o, rfl, hv⟩ := (HS.out.on hf).get hlt
      obtain ⟨b', o', rfl, hv'⟩ := (HS'.out.on hf).get hlt'
      have hA := eqL_drop l l' i hlt hlt'
      have hm := HO.out l[i] (List.getElem_mem hlt) l'[i] (List.getElem_mem hlt')
      obtain ⟨hy, c0, c1, c2, c3, a1, k1, c4, hs2⟩ := VC_of hv
      obtain ⟨hy', d0, d1, d2, d3, a2, k2, d4, hs2'⟩ := VC_of hv'
      have HR := Lib.hid (eqV_r l[i] l'[i])
      have HC := Lib.hid (fun w' (hf' : Fur wr w') => hm a1 a2 k1 k2 w' hy hy' (hs2.on hf') (hs2'.on hf'))
      have HE := Lib.hid (show eqL l l' = min (min a (eqV l[i] l'[i])) (eqL (l.drop (i + 1)) (l'.drop (i + 1))) by rw [HN.out.2, hA]; omega)
      have HB := Lib.hid HN.out.1
      unfold vlv at HC
      clear hv hv' hs2 hs2' hy hy' hA hm HN
      generalize l[i] = x at *
      generalize l'[i] = y at *
      generalize eqV x y = r at *
      have ff : Fur wr wr.drew := Fur.drew (Fur.refl wr)
      go_wp2_with fail
      go_region_held3 (fun w' => Fur wr w' ∧ w'.cell? ⟨b, o + i * 5, none⟩ = some (.int .i64 x.kd) ∧ w'.cell? ⟨b, o + i * 5 + 1, none⟩ = some (.int .i64 x.nn) ∧ w'.cell? ⟨b, o + i * 5 + 2, none⟩ = some (.int .i64 x.dd) ∧ w'.cell? ⟨b, o + i * 5 + 3, none⟩ = some (.string (bs x.ss)) ∧ w'.cell? ⟨b, o + i * 5 + 4, none⟩ = some (.slice a1 x.ll.length k1) ∧ w'.cell? ⟨b', o' + i * 5, none⟩ = some (.int .i64 y.kd) ∧ w'.cell? ⟨b', o' + i * 5 + 1, none⟩ = some (.int .i64 y.nn) ∧ w'.cell? ⟨b', o' + i * 5 + 2, none⟩ = some (.int .i64 y.dd) ∧ w'.cell? ⟨b', o' + i * 5 + 3, none⟩ = some (.string (bs y.ss)) ∧ w'.cell? ⟨b', o' + i * 5 + 4, none⟩ = some (.slice a2 y.ll.length k2))
        (first
          | exact keep10 ff c0 c1 c2 c3 c4 d0 d1 d2 d3 d4)
        (first
          | (go_at_call 32; refine (HC.out _ ff).mono ?_; rintro e1 w1 ⟨rfl, f1⟩; replace ff := ff.trans f1)
          | (go_at_call 76; refine (land_r _ _ HB.out HR.out _).mono ?_; rintro e2 w2 ⟨rfl, f2⟩; replace ff := ff.trans f2))
      have HB2 := Lib.hid (show 0 ≤ min a r ∧ min a r ≤ 2 by have := HB.out; have := HR.out; omega)
      generalize min a r = z at *
      go_wp2
      go_roundw
      case rel => exact ⟨i + 1, z, by go_num, rfl, by omega, ⟨HB2.out, HE.out⟩, hf.trans ff⟩
      case measure => simp [RowKit.intOf]; omega
    · have HE := Lib.hid (show eqL l l' = a by
        rw [HN.out.2, List.drop_of_length_le (by omega)]
        unfold eqL
        have := HN.out.1
        omega)
      go_wp2
      go_ret
      exact ⟨ret_int HE.out.symm, hf⟩
end Go.Proofs.YteonkiajgfkieaaGreatDoor
