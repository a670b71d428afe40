
/-
  Package overlay: Insert. Nothing that was there turns.
-/
import Derived.Test.YtpjikijfendmhaaGreatOvN
namespace Go.Proofs.YtpjikijfendmhaaGreat
open Go.RowKit

theorem Bk.grown {w w' : World} {B : Nat} {cs : Array Value} {t : TypeId} {r : Option Nat} (h : Bk w B cs t) (hg : w.grownBy w' r) (hne : some B ≠ r) : Bk w' B cs t := (hg.block B h.lt hne).trans h
theorem bk_lt {w : World} {B : Nat} {cs : Array Value} {t : TypeId} (h : Bk w B cs t) : B < w.heap.size := h.lt
theorem rowC_has {c : Cm} {a : Aj} (h : valC c = true) : (rowC c a.1).contains a = (entL c).contains a := by
  unfold rowC rowAt
  rw [if_pos h, Bool.eq_iff_iff, List.contains_iff_mem, List.contains_iff_mem, List.mem_filter]
  simp
theorem rowC_i64 {c : Cm} {w : World} {A : CA} (hC : CIn w c A) (n : Int) : ∀ x ∈ rowC c n, I64 x.1 ∧ I64 x.2.1 ∧ I64 x.2.2 := fun x hx => by
  unfold rowC at hx
  by_cases h : valC c = true
  · rw [if_pos h] at hx
    exact ent_i64 hC (valC_b h) x (List.mem_filter.1 hx).1
  · rw [if_neg h] at hx; exact absurd hx (by simp)
/-- What an insertion needs to know of a deleted edge. -/
theorem ins_dels {o : Ov} {a : Aj} (hn : (edg (entO o)).contains a.2.2 = false) (hc : (entL o.c).contains a = true) : o.dls.contains a.2.2 = true := by
  have h1 := contains_false.1 hn
  have h2 : a ∈ entL o.c := by simpa using hc
  rw [List.contains_iff_mem]
  by_cases k : a.2.2 ∈ o.dls
  · exact k
  · refine absurd (edg_mem (List.mem_append_left _ (List.mem_filter.2 ⟨h2, ?_⟩))) h1
    rw [contains_false.2 k]; rfl
set_option maxHeartbeats 25600000 in
set_option maxRecDepth 100000 in
theorem inso_any (o : Ov) (A : OA) (a : Aj) (w : World) (hO : OIn w o A) (ht : Tiny o) (hai : I64 a.1 ∧ I64 a.2.1 ∧ I64 a.2.2) : Calls Tryz.prog 21 #[ovv o A, adv a] w (RetO w (insV o a)) := by
  obtain ⟨w0, hw0⟩ : ∃ w0, w.alloc (.cells (ovC o A) 27) = w0 := ⟨_, rfl⟩
  obtain ⟨w1, hw1⟩ : ∃ w1, w0.alloc (.cells #[.int .i64 a.1, .int .i64 a.2.1, .int .i64 a.2.2] 42) = w1 := ⟨_, rfl⟩
  obtain ⟨w2, hw2⟩ : ∃ w2, w1.alloc (.cells #[.slice none 0 0, .slice none 0 0, .slice none 0 0, .slice none 0 0, .slice none 0 0, .slice none 0 0] 27) = w2 := ⟨_, rfl⟩
  have F0 := Lib.hid (show Fuw w w0 by rw [← hw0]; exact fuwA _ _)
  have F1 := Lib.hid (show Fuw w0 w1 by rw [← hw1]; exact fuwA _ _)
  have F2 := Lib.hid (show Fuw w1 w2 by rw [← hw2]; exact fuwA _ _)
  have FW := Lib.hid (show Fuw w w2 from F0.out.trans (F1.out.trans F2.out))
  have BO := Lib.hid (show OB w2 w.heap.size o A from (show OB w0 w.heap.size o A from ⟨by rw [← hw0]; exact Bk.new _ _ _⟩).on (F1.out.trans F2.out))
  have BA := Lib.hid (show Bk w2 w0.heap.size #[.int .i64 a.1, .int .i64 a.2.1, .int .i64 a.2.2] 42 from (show Bk w1 _ _ _ by rw [← hw1]; exact Bk.new _ _ _).on F2.out)
  have BR := Lib.hid (show Bk w2 w1.heap.size emV 27 by rw [← hw2]; exact Bk.new _ _ _)
  have HB := Lib.hid (show w.heap.size ≤ w1.heap.size from Nat.le_trans F0.out.size F1.out.size)
  have HB2 := Lib.hid (show w1.heap.size < w2.heap.size by rw [← hw2]; simp)
  have HO := Lib.hid (hO.on FW.out)
  have HI := Lib.hid hO.i64
  have HV := Lib.hid (fun w' (hf : Fuw w2 w') => valo_any o A w' (HO.out.on hf) ht.sm)
  have HH := Lib.hid (fun w' => hids_any a w')
  have HEn := Lib.hid (fun w' (hf : Fuw w2 w') (h : valO o = true) => ento_any o A w' (HO.out.on hf) ht.sm (valO_iff.1 h).d)
  have HK := Lib.hid (fun h : valO o = true => entO_ok h)
  have HEI := Lib.hid (entO_i64 HO.out)
  have HCl := Lib.hid (fun w' (hf : Fuw w2 w') => cloneo_any o A w' (HO.out.on hf) ht)
  obtain ⟨R, hR⟩ : ∃ R, R = insV o a := ⟨_, rfl⟩
  have HR := Lib.hid (show R = if valO o = false then (emO, 19) else if idJ a = false then (emO, 1) else if (edg (entO o)).contains a.2.2 = true then (emO, 7)
    else if (entL o.c).contains a = true then (⟨o.c, o.ads, dropI o.dls a.2.2⟩, 0) else (⟨o.c, putJ o.ads a, o.dls⟩, 0) from hR)
  rw [← hR]
  have HT := Lib.hid ht
  have HAI := Lib.hid hai
  have o1 := (BO.out.on (Fuw.refl _)).c1; have o2 := (BO.out.on (Fuw.refl _)).c2; have o3 := (BO.out.on (Fuw.refl _)).c3; have o4 := (BO.out.on (Fuw.refl _)).c4; have o5 := (BO.out.on (Fuw.refl _)).c5; have o6 := (BO.out.on (Fuw.refl _)).c6
  have a0 := (BA.out.on (Fuw.refl _)).c 0; have a1 := (BA.out.on (Fuw.refl _)).c 1; have a2 := (BA.out.on (Fuw.refl _)).c 2
  simp only [List.getElem?_toArray, List.getElem?_cons_zero, List.getElem?_cons_succ] at a0 a1 a2
  unfold adv at HH ⊢
  unfold ovv at HV HEn HCl ⊢
  unfold ovC at hw0 HV HEn HCl ⊢
  unfold RetCl at HCl
  clear hO ht hR hai
  obtain ⟨p1, hp1⟩ : ∃ p1, valO o = p1 := ⟨_, rfl⟩
  have HP1 := Lib.hid hp1
  have HV2 := Lib.hid (show ∀ w' (hf : Fuw w2 w'), Calls Tryz.prog 12 _ w' (FwB w' p1) from fun w' hf => by have := HV.out w' hf; rw [hp1] at this; exact this)
  rw [hp1] at HR
  clear hp1 HV
  generalize idJ a = p2 at *
  obtain ⟨p3, hp3⟩ : ∃ p3, (edg (entO o)).contains a.2.2 = p3 := ⟨_, rfl⟩
  have HP3 := Lib.hid hp3
  rw [hp3] at HR
  obtain ⟨p4, hp4⟩ : ∃ p4, (entL o.c).contains a = p4 := ⟨_, rfl⟩
  have HP4 := Lib.hid hp4
  rw [hp4] at HR
  clear hp3 hp4
  go_enter Tryz.func21, Tryz.ntmps21
  go_upto_region 1 with fail
  clear hw0 hw1 hw2
  go_wp2_with fail
  go_at_call 12; refine (HV2.out _ (Fuw.refl _)).mono ?_; rintro e3 w3 ⟨rfl, f3⟩
  have F3 := Lib.hid f3
  clear f3 o1 o2 o3 o4 o5 o6 a0 a1 a2
  cases p1 with
  | false =>
    have HZ := Lib.hid (show R = (emO, 19) by rw [HR.out]; simp)
    have E := BR.out.on F3.out
    unfold emV at E
    have q0 := E.c 0; have q1 := E.c 1; have q2 := E.c 2; have q3 := E.c 3; have q4 := E.c 4; have q5 := E.c 5
    have t0 := E.f 0; have t1 := E.f 1; have t2 := E.f 2; have t3 := E.f 3; have t4 := E.f 4; have t5 := E.f 5
    simp only [List.getElem?_toArray, List.getElem?_cons_zero, List.getElem?_cons_succ] at q0 q1 q2 q3 q4 q5
    have HE := Lib.hid E
    clear E
    go_wp2
    refine o_ret2 rfl rfl rfl (o := emO) (A := A0) ⟨(((((HE.out.set_ 0 (.slice none 0 0)).set_ 1 (.slice none 0 0)).set_ 2 (.slice none 0 0)).set_ 3 (.slice none 0 0)).set_ 4 (.slice none 0 0)).set_ 5 (.slice none 0 0)⟩ ?_
    rw [HZ.out]
    have hb := HB.out
    exact ⟨A0, rfl, em_in _, fuwS (fuwS (fuwS (fuwS (fuwS (fuwS (FW.out.trans F3.out) hb) hb) hb) hb) hb) hb⟩
  | true =>
    have a0 := (BA.out.on F3.out).c 0; have a1 := (BA.out.on F3.out).c 1; have a2 := (BA.out.on F3.out).c 2
    simp only [List.getElem?_toArray, List.getElem?_cons_zero, List.getElem?_cons_succ] at a0 a1 a2
    go_wp2_with fail
    go_at_call 47; refine (HH.out _).mono ?_; rintro e4 w4 ⟨rfl, f4⟩
    have F4 := Lib.hid (F3.out.trans f4)
    clear f4 a0 a1 a2
    cases p2 with
    | false =>
      have HZ := Lib.hid (show R = (emO, 1) by rw [HR.out]; simp)
      have E := BR.out.on F4.out
      unfold emV at E
      have q0 := E.c 0; have q1 := E.c 1; have q2 := E.c 2; have q3 := E.c 3; have q4 := E.c 4; have q5 := E.c 5
      have t0 := E.f 0; have t1 := E.f 1; have t2 := E.f 2; have t3 := E.f 3; have t4 := E.f 4; have t5 := E.f 5
      simp only [List.getElem?_toArray, List.getElem?_cons_zero, List.getElem?_cons_succ] at q0 q1 q2 q3 q4 q5
      have HE := Lib.hid E
      clear E
      go_wp2
      refine o_ret2 rfl rfl rfl (o := emO) (A := A0) ⟨(((((HE.out.set_ 0 (.slice none 0 0)).set_ 1 (.slice none 0 0)).set_ 2 (.slice none 0 0)).set_ 3 (.slice none 0 0)).set_ 4 (.slice none 0 0)).set_ 5 (.slice none 0 0)⟩ ?_
      rw [HZ.out]
      have hb := HB.out
      exact ⟨A0, rfl, em_in _, fuwS (fuwS (fuwS (fuwS (fuwS (fuwS (FW.out.trans F4.out) hb) hb) hb) hb) hb) hb⟩
    | true =>
      have o1 := (BO.out.on F4.out).c1; have o2 := (BO.out.on F4.out).c2; have o3 := (BO.out.on F4.out).c3; have o4 := (BO.out.on F4.out).c4; have o5 := (BO.out.on F4.out).c5; have o6 := (BO.out.on F4.out).c6
      have a0 := (BA.out.on F4.out).c 0; have a1 := (BA.out.on F4.out).c 1; have a2 := (BA.out.on F4.out).c 2
      simp only [List.getElem?_toArray, List.getElem?_cons_zero, List.getElem?_cons_succ] at a0 a1 a2
      have HL := Lib.hid (HK.out HP1.out)
      have HE4 := Lib.hid (fun w' (hf : Fuw w2 w') => HEn.out w' hf HP1.out)
      generalize keepD o.dls (entC o.c) ++ o.ads = L at *
      go_upto_region 5 with fail
      have hS0' : Fuw w4 w4.drew := (Fuw.refl w4).drew
      obtain ⟨S, hS⟩ : ∃ S : World → Prop, S = (fun w8 => Fuw w4 w8) := ⟨_, rfl⟩
      have HS := Lib.hid hS
      clear hS
      refine lst_start [4] S (by kernel_rfl) ?_
      have hS0 : S w4.drew := by rw [HS.out]; exact hS0'
      refine takeP (i := 2) (d := some 24) (v := ?_) rfl rfl (by kernel_rfl) (by kernel_rfl) (by kernel_rfl) (by kernel_rfl) (by kernel_rfl) (fun _ _ _ h => h) (Or.inl ⟨by rfl, ?_⟩) (by first | exact Or.inr (by assumption) | exact Or.inl (by kernel_rfl)) ?_
      rotate_left
      · ((intro w8 _; go_simp); try with_reducible rfl)
      try simp only [Act.put]
      try simp only [List.setIfInBounds_toArray]
      try simp only [List.set_cons_succ]
      try simp only [List.set_cons_zero]
      refine takeL (i := 0) (d := some 22) (v := ?_) rfl rfl (by kernel_rfl) (by kernel_rfl) (by kernel_rfl) (by kernel_rfl) (by kernel_rfl) (fun _ _ _ h => h) (Or.inl ⟨by rfl, ?_⟩) (by assumption) ?_
      rotate_left
      · ((intro w8 hSw; rw [HS.out] at hSw; have g0 := cellOnw hSw o1; have g1 := cellOnw hSw o2; have g2 := cellOnw hSw o3; have g3 := cellOnw hSw o4; have g4 := cellOnw hSw o5; have g5 := cellOnw hSw o6; clear hSw; go_simp); try with_reducible rfl)
      try simp only [Act.put]
      try simp only [List.setIfInBounds_toArray]
      try simp only [List.set_cons_succ]
      try simp only [List.set_cons_zero]
      refine takeL (i := 3) (d := some 25) (v := ?_) rfl rfl (by kernel_rfl) (by kernel_rfl) (by kernel_rfl) (by kernel_rfl) (by kernel_rfl) (fun _ _ _ h => h) (Or.inl ⟨by rfl, ?_⟩) (by assumption) ?_
      rotate_left
      · ((intro w8 hSw; rw [HS.out] at hSw; have g0 := cellOnw hSw a2; clear hSw; go_simp); try with_reducible rfl)
      try simp only [Act.put]
      try simp only [List.setIfInBounds_toArray]
      try simp only [List.set_cons_succ]
      try simp only [List.set_cons_zero]
      refine oneL (i := 1) rfl (by kernel_rfl) (fun K8 hK8 => ?_)
      go_simp
      go_at_call 28; refine (HE4.out _ (F4.out.trans hS0')).mono ?_; rintro x5 w5 ⟨v5, rfl, ho5, f5⟩
      obtain ⟨b5, c5, hv5, -, hs5⟩ := slJ_own ho5 HEI.out
      subst hv5
      have fA5 : Fuw w4 w5 := hS0'.trans f5
      have hS5 : S w5 := by rw [HS.out]; exact fA5
      have HX5 := Lib.hid (idxof_any L b5 c5 a.2.2 w5 hs5)
      unfold RetPos at HX5
      clear ho5 hs5
      refine hK8 _ _ hS5 ?_
      try simp only [Act.put]
      try simp only [List.setIfInBounds_toArray]
      try simp only [List.set_cons_succ]
      try simp only [List.set_cons_zero]
      refine outL (i := 4) rfl (by kernel_rfl) (by kernel_rfl) (fun K8 hK8 => ?_)
      go_simp
      go_at_call 48; refine HX5.out.mono ?_; rintro x6 w6 ⟨k, rfl, hk, f6⟩
      have F6 := Lib.hid (F4.out.trans (fA5.trans f6))
      have HPos := Lib.hid hk
      clear hk f6
      refine hK8 _ _ ?_
      try simp only [Act.put]
      try simp only [List.setIfInBounds_toArray]
      try simp only [List.set_cons_succ]
      try simp only [List.set_cons_zero]
      refine takeP (i := 5) (d := some 27) (v := ?_) rfl rfl (by kernel_rfl) (by kernel_rfl) (by kernel_rfl) (by kernel_rfl) (by kernel_rfl) (fun _ _ _ h => h) (Or.inl ⟨by rfl, ?_⟩) (by first | exact Or.inr (by assumption) | exact Or.inl (by kernel_rfl)) ?_
      rotate_left
      · ((intro w8 _; go_simp); try with_reducible rfl)
      try simp only [Act.put]
      try simp only [List.setIfInBounds_toArray]
      try simp only [List.set_cons_succ]
      try simp only [List.set_cons_zero]
      refine takeP (i := 6) (d := some 21) (v := ?_) rfl rfl (by kernel_rfl) (by kernel_rfl) (by kernel_rfl) (by kernel_rfl) (by kernel_rfl) (fun _ _ _ h => h) (Or.inl ⟨by rfl, ?_⟩) (by first | exact Or.inr (by assumption) | exact Or.inl (by kernel_rfl)) ?_
      rotate_left
      · ((intro w8 _; go_simp); try with_reducible rfl)
      try simp only [Act.put]
      try simp only [List.setIfInBounds_toArray]
      try simp only [List.set_cons_succ]
      try simp only [List.set_cons_zero]
      refine lst_done (by kernel_rfl) ?_ _
      clear hS0' hS0 hS5 fA5 f5 HS o1 o2 o3 o4 o5 o6 a0 a1 a2
      have HPk := Lib.hid (show (0 ≤ k ↔ p3 = true) from by
        have h3 := HP3.out
        rw [← HL.out] at h3
        rcases HPos.out with ⟨h1, h2⟩ | ⟨j, h1, h2, -, h4⟩
        · rw [h1] at h3; rw [h2, ← h3]; simp
        · rw [h4] at h3; rw [h2, ← h3]; simp)
      cases p3 with
      | true =>
        have hk0 : 0 ≤ k := HPk.out.2 rfl
        have HZ := Lib.hid (show R = (emO, 7) by rw [HR.out]; simp)
        have E := BR.out.on F6.out
        unfold emV at E
        have q0 := E.c 0; have q1 := E.c 1; have q2 := E.c 2; have q3 := E.c 3; have q4 := E.c 4; have q5 := E.c 5
        have t0 := E.f 0; have t1 := E.f 1; have t2 := E.f 2; have t3 := E.f 3; have t4 := E.f 4; have t5 := E.f 5
        simp only [List.getElem?_toArray, List.getElem?_cons_zero, List.getElem?_cons_succ] at q0 q1 q2 q3 q4 q5
        have HE := Lib.hid E
        clear E
        go_wp2
        refine o_ret2 rfl rfl rfl (o := emO) (A := A0) ⟨(((((HE.out.set_ 0 (.slice none 0 0)).set_ 1 (.slice none 0 0)).set_ 2 (.slice none 0 0)).set_ 3 (.slice none 0 0)).set_ 4 (.slice none 0 0)).set_ 5 (.slice none 0 0)⟩ ?_
        rw [HZ.out]
        have hb := HB.out
        exact ⟨A0, rfl, em_in _, fuwS (fuwS (fuwS (fuwS (fuwS (fuwS (FW.out.trans F6.out) hb) hb) hb) hb) hb) hb⟩
      | false =>
        have hk0 : ¬ 0 ≤ k := fun h => by have := HPk.out.1 h; cases this
        have o1 := (BO.out.on F6.out).c1; have o2 := (BO.out.on F6.out).c2; have o3 := (BO.out.on F6.out).c3; have o4 := (BO.out.on F6.out).c4; have o5 := (BO.out.on F6.out).c5; have o6 := (BO.out.on F6.out).c6
        go_wp2_with fail
        go_at_call 32; refine (HCl.out _ F6.out).mono ?_; rintro e7 w7 ⟨A', lo, m5, m6, rfl, how, hlo, f7⟩
        have F7 := Lib.hid (F6.out.trans f7)
        have HOw := Lib.hid how
        have HLo := Lib.hid (show w2.heap.size ≤ lo from Nat.le_trans F6.out.size hlo)
        clear how hlo f7 o1 o2 o3 o4 o5 o6
        unfold ovv ovC
        go_upto_region 8 with fail
        obtain ⟨w8, hw8⟩ : ∃ w8, w7.alloc (.cells (ovC o A') 27) = w8 := ⟨_, rfl⟩
        have F8 := Lib.hid (show Fuw w7 w8 by rw [← hw8]; exact fuwA _ _)
        have BX := Lib.hid (show OB w8 w7.heap.size o A' from ⟨by rw [← hw8]; exact Bk.new _ _ _⟩)
        have HOw8 := Lib.hid (HOw.out.on F8.out)
        have HIn8 := Lib.hid (HOw8.out.in_ HI.out)
        have F28 := Lib.hid (F7.out.trans F8.out)
        unfold ovC at hw8
        rw [hw8]
        have HRw := Lib.hid (fun w' (hf : Fuw w8 w') => rowc_any o.c A'.c a.1 w' (HIn8.out.c.on hf) HT.out.sm.c)
        unfold colv colC at HRw
        have HRI := Lib.hid (rowC_i64 HIn8.out.c a.1)
        have HRH := Lib.hid (show (rowC o.c a.1).contains a = p4 by rw [rowC_has (valC_iff.2 (valO_iff.1 HP1.out).c)]; exact HP4.out)
        generalize rowC o.c a.1 = L8 at *
        have x1 := BX.out.c1; have x2 := BX.out.c2; have x3 := BX.out.c3; have x4 := BX.out.c4
        have a0 := (BA.out.on F28.out).c 0; have a1 := (BA.out.on F28.out).c 1; have a2 := (BA.out.on F28.out).c 2
        simp only [List.getElem?_toArray, List.getElem?_cons_zero, List.getElem?_cons_succ] at a0 a1 a2
        have hS0' : Fuw w8 w8.drew := (Fuw.refl w8).drew
        clear hw8 hk0
        obtain ⟨S, hS⟩ : ∃ S : World → Prop, S = (fun w9 => Fuw w8 w9) := ⟨_, rfl⟩
        have HS := Lib.hid hS
        clear hS
        refine lst_start [6] S (by kernel_rfl) ?_
        have hS0 : S w8.drew := by rw [HS.out]; exact hS0'
        refine takeP (i := 0) (d := some 31) (v := ?_) rfl rfl (by kernel_rfl) (by kernel_rfl) (by kernel_rfl) (by kernel_rfl) (by kernel_rfl) (fun _ _ _ h => h) (Or.inl ⟨by rfl, ?_⟩) (by first | exact Or.inr (by assumption) | exact Or.inl (by kernel_rfl)) ?_
        rotate_left
        · ((intro w8 _; go_simp); try with_reducible rfl)
        try simp only [Act.put]
        try simp only [List.setIfInBounds_toArray]
        try simp only [List.set_cons_succ]
        try simp only [List.set_cons_zero]
        refine takeP (i := 2) (d := some 33) (v := ?_) rfl rfl (by kernel_rfl) (by kernel_rfl) (by kernel_rfl) (by kernel_rfl) (by kernel_rfl) (fun _ _ _ h => h) (Or.inl ⟨by rfl, ?_⟩) (by first | exact Or.inr (by assumption) | exact Or.inl (by kernel_rfl)) ?_
        rotate_left
        · ((intro w8 _; go_simp); try with_reducible rfl)
        try simp only [Act.put]
        try simp only [List.setIfInBounds_toArray]
        try simp only [List.set_cons_succ]
        try simp only [List.set_cons_zero]
        refine takeL (i := 1) (d := some 32) (v := ?_) rfl rfl (by kernel_rfl) (by kernel_rfl) (by kernel_rfl) (by kernel_rfl) (by kernel_rfl) (fun _ _ _ h => h) (Or.inl ⟨by rfl, ?_⟩) (by assumption) ?_
        rotate_left
        · ((intro w8 hSw; rw [HS.out] at hSw; have g0 := cellOnw hSw x1; have g1 := cellOnw hSw x2; have g2 := cellOnw hSw x3; have g3 := cellOnw hSw x4; clear hSw; go_simp); try with_reducible rfl)
        try simp only [Act.put]
        try simp only [List.setIfInBounds_toArray]
        try simp only [List.set_cons_succ]
        try simp only [List.set_cons_zero]
        refine takeL (i := 3) (d := some 34) (v := ?_) rfl rfl (by kernel_rfl) (by kernel_rfl) (by kernel_rfl) (by kernel_rfl) (by kernel_rfl) (fun _ _ _ h => h) (Or.inl ⟨by rfl, ?_⟩) (by assumption) ?_
        rotate_left
        · ((intro w8 hSw; rw [HS.out] at hSw; have g0 := cellOnw hSw a0; clear hSw; go_simp); try with_reducible rfl)
        try simp only [Act.put]
        try simp only [List.setIfInBounds_toArray]
        try simp only [List.set_cons_succ]
        try simp only [List.set_cons_zero]
        refine takeL (i := 5) (d := some 36) (v := ?_) rfl rfl (by kernel_rfl) (by kernel_rfl) (by kernel_rfl) (by kernel_rfl) (by kernel_rfl) (fun _ _ _ h => h) (Or.inl ⟨by rfl, ?_⟩) (by assumption) ?_
        rotate_left
        · ((intro w8 hSw; rw [HS.out] at hSw; have g0 := cellOnw hSw a0; have g1 := cellOnw hSw a1; have g2 := cellOnw hSw a2; clear hSw; go_simp); try with_reducible rfl)
        try simp only [Act.put]
        try simp only [List.setIfInBounds_toArray]
        try simp only [List.set_cons_succ]
        try simp only [List.set_cons_zero]
        refine oneL (i := 4) rfl (by kernel_rfl) (fun K8 hK8 => ?_)
        go_simp
        go_at_call 50; refine (HRw.out _ hS0').mono ?_; rintro x9 w9 ⟨v9, rfl, ho9, f9⟩
        obtain ⟨b9, c9, hv9, -, hs9⟩ := slJ_own ho9 HRI.out
        subst hv9
        have fA9 : Fuw w8 w9 := hS0'.trans f9
        have hS9 : S w9 := by rw [HS.out]; exact fA9
        have HX9 := Lib.hid (contj_any L8 b9 c9 a w9 hs9)
        rw [HRH.out] at HX9
        unfold adv at HX9
        clear ho9 hs9
        refine hK8 _ _ hS9 ?_
        try simp only [Act.put]
        try simp only [List.setIfInBounds_toArray]
        try simp only [List.set_cons_succ]
        try simp only [List.set_cons_zero]
        refine outL (i := 6) rfl (by kernel_rfl) (by kernel_rfl) (fun K8 hK8 => ?_)
        go_simp
        go_at_call 49; refine HX9.out.mono ?_; rintro x10 w10 ⟨rfl, f10⟩
        have F10 := Lib.hid (fA9.trans f10)
        clear f10
        refine hK8 _ _ ?_
        try simp only [Act.put]
        try simp only [List.setIfInBounds_toArray]
        try simp only [List.set_cons_succ]
        try simp only [List.set_cons_zero]
        refine lst_done (by kernel_rfl) ?_ _
        clear hS0' hS0 hS9 fA9 f9 HS x1 x2 x3 x4 a0 a1 a2
        have HOw10 := Lib.hid (HOw8.out.on F10.out)
        have F210 := Lib.hid (F28.out.trans F10.out)
        have BX10 := Lib.hid (BX.out.on F10.out)
        have HX7 := Lib.hid (show w7.heap.size < w8.heap.size from BX.out.k.lt)
        cases p4 with
        | true =>
          have HZ := Lib.hid (show R = (⟨o.c, o.ads, dropI o.dls a.2.2⟩, 0) by rw [HR.out]; simp)
          have HDc := Lib.hid (ins_dels HP3.out HP4.out)
          have HDi := Lib.hid (valO_iff.1 HP1.out).d
          have HBs := Lib.hid (bs_any o.dls A'.a6 A'.k6 a.2.2 w10 (HOw10.out.in_ HI.out).d HDi.out (HT.out.sm.d))
          unfold RetBs at HBs
          have HAt := Lib.hid (bsearch_at HDi.out HDc.out)
          have HDc2 := HDc.out
          rw [HDc2] at HBs
          obtain ⟨i, hi⟩ : ∃ i, i = o.dls.countP fun y => decide (y < a.2.2) := ⟨_, rfl⟩
          rw [← hi] at HBs
          have HAt2 := Lib.hid (show ∃ h : i < o.dls.length, o.dls[i] = a.2.2 by have := HAt.out; rw [← hi] at this; exact this)
          have hil := HAt2.out.1
          obtain ⟨g, cap, hg, -⟩ := own_pos HOw10.out.d.o (by omega)
          have HG := Lib.hid hg
          have HGb := Lib.hid (show m6 ≤ g ∧ g < w7.heap.size from ⟨(HOw10.out.d.o.lt g (by rw [HG.out]; rfl)).1, HOw10.out.d.h g (by rw [HG.out]; rfl)⟩)
          have HGc := Lib.hid (show A'.a6 = some ⟨g, 0, none⟩ ∧ A'.k6 = cap by have := HG.out; injection this with h1 h2 h3; exact ⟨h1, h3⟩)
          clear hi hg HDc2 HAt
          have x6 := BX10.out.c6
          have a0 := (BA.out.on F210.out).c 0; have a1 := (BA.out.on F210.out).c 1; have a2 := (BA.out.on F210.out).c 2
          simp only [List.getElem?_toArray, List.getElem?_cons_zero, List.getElem?_cons_succ] at a0 a1 a2
          go_wp2_with fail
          go_at_call 51; refine HBs.out.mono ?_; rintro e11 w11 ⟨rfl, hd11⟩
          have F11 := Lib.hid (quF hd11)
          clear hd11 x6 a0 a1 a2
          have BX11 := Lib.hid (BX10.out.on F11.out)
          have HOw11 := Lib.hid (HOw10.out.on F11.out)
          have HDel := Lib.hid (show Calls Tryz.prog 52 #[.slice A'.a6 o.dls.length A'.k6, .int .i64 (i : Int), .int .i64 ((i : Int) + 1)] w11 (RetDel w11 m6 3 1 g cap (o.dls.length - 1) ((cs o.dls).take (i * 1) ++ (cs o.dls).drop ((i + 1) * 1))) from by
            rw [HGc.out.1, HGc.out.2]
            have h := HOw11.out.d.o
            rw [HGc.out.1, HGc.out.2] at h
            exact delj_i h i (i + 1) rfl hil (cs_one _))
          unfold RetDel at HDel
          have x6 := BX11.out.c6
          have hz1 : IntKind.i64.wrap ((i : Int) + 1) = (i : Int) + 1 := IntWalk.i64_in _ (by have := HT.out.d; omega)
          go_wp2_with fail
          go_at_call 52; refine HDel.out.mono ?_; rintro e12 w12 ⟨rfl, o12, g12⟩
          have HList := Lib.hid (show (cs o.dls).take (i * 1) ++ (cs o.dls).drop ((i + 1) * 1) = cs (dropI o.dls a.2.2) from by
            rw [cs_take, cs_drop, ← cs_app, dropI_at HDi.out hil, HAt2.out.2])
          have HLen := Lib.hid (show o.dls.length - 1 = (dropI o.dls a.2.2).length from by
            rw [← HAt2.out.2, ← dropI_at HDi.out hil, List.length_append, List.length_take, List.length_drop]; omega)
          rw [HList.out, HLen.out] at o12
          have HO12 := Lib.hid o12
          have HG12 := Lib.hid g12
          have hl5 := HOw11.out.l5
          have hl6 := HOw11.out.l6
          have E := BX11.out.k.grown HG12.out (by have := HGb.out; intro e; cases e; omega)
          have ER := (BR.out.on (F210.out.trans F11.out)).grown HG12.out (by have := HGb.out; have := HLo.out; have := HB2.out; intro e; cases e; omega)
          unfold ovC at E
          unfold emV at ER
          have HE := Lib.hid E
          have HER := Lib.hid ER
          have y0 := E.c 0; have y1 := E.c 1; have y2 := E.c 2; have y3 := E.c 3; have y4 := E.c 4; have y5 := E.c 5
          have s5 := E.f 5
          have q0 := ER.c 0; have q1 := ER.c 1; have q2 := ER.c 2; have q3 := ER.c 3; have q4 := ER.c 4; have q5 := ER.c 5
          have t0 := ER.f 0; have t1 := ER.f 1; have t2 := ER.f 2; have t3 := ER.f 3; have t4 := ER.f 4; have t5 := ER.f 5
          simp only [List.getElem?_toArray, List.getElem?_cons_zero, List.getElem?_cons_succ] at y0 y1 y2 y3 y4 y5 q0 q1 q2 q3 q4 q5
          have hne : w7.heap.size ≠ w1.heap.size := by have := HB2.out; have := F7.out.size; omega
          have hne' : w1.heap.size ≠ w7.heap.size := fun e => hne e.symm
          clear E ER o12 g12 x6 hz1 hl5 hl6
          have OW := Lib.hid (show OwO w12 lo m5 m6 w7.heap.size ⟨o.c, o.ads, dropI o.dls a.2.2⟩ ⟨A'.c, A'.a5, some ⟨g, 0, none⟩, A'.k5, cap⟩ from by
            have X := HOw11.out
            have h6 := HGb.out
            have h5 := X.l6
            exact ⟨X.n.keep HG12.out (fun k e => by cases e; right; omega), X.f.keep HG12.out (fun k e => by cases e; right; omega), X.t.keep HG12.out (fun k e => by cases e; right; omega), X.e.keep HG12.out (fun k e => by cases e; right; omega), X.a.keep HG12.out (fun k e => by cases e; right; omega), ⟨HO12.out, fun k e => by cases e; exact HGb.out.2⟩, X.l5, X.l6, X.lh⟩)
          have FW12 := Lib.hid (show Fuw w w12 from Below.grown (FW.out.trans (F210.out.trans F11.out)) HG12.out ((FW.out.trans (F210.out.trans F11.out)).size) (fun k e => by cases e; have := HGb.out; have := HOw11.out.l5; have := HOw11.out.l6; have := HLo.out; have := FW.out.size; omega))
          rw [HLen.out]
          go_wp2
          have BF := (((((HER.out.far (p := ⟨w7.heap.size, 5, none⟩) hne' (.slice (some ⟨g, 0, none⟩) (dropI o.dls a.2.2).length cap)).set_ 0 (.slice A'.c.a1 o.c.ns.length A'.c.k1)).set_ 1 (.slice A'.c.a2 o.c.fs.length A'.c.k2)).set_ 2 (.slice A'.c.a3 o.c.ts.length A'.c.k3)).set_ 3 (.slice A'.c.a4 o.c.es.length A'.c.k4))
          refine o_ret2 rfl rfl rfl (o := ⟨o.c, o.ads, dropI o.dls a.2.2⟩) (A := ⟨A'.c, A'.a5, some ⟨g, 0, none⟩, A'.k5, cap⟩) ⟨(BF.set_ 4 (.slice A'.a5 o.ads.length A'.k5)).set_ 5 (.slice (some ⟨g, 0, none⟩) (dropI o.dls a.2.2).length cap)⟩ ?_
          rw [HZ.out]
          have hb := HB.out
          refine ⟨⟨A'.c, A'.a5, some ⟨g, 0, none⟩, A'.k5, cap⟩, rfl, ?_, fuwS (fuwS (fuwS (fuwS (fuwS (fuwS (fuwS FW12.out (Nat.le_trans FW.out.size F7.out.size)) hb) hb) hb) hb) hb) hb⟩
          have I2 : I64O ⟨o.c, o.ads, dropI o.dls a.2.2⟩ := ⟨HI.out.n, HI.out.f, HI.out.t, HI.out.e, HI.out.a, fun x hx => HI.out.d x (List.mem_filter.1 hx).1⟩
          have O1 := OW.out.keep (grown_set w12 w7.heap.size 5 (.slice (some ⟨g, 0, none⟩) (dropI o.dls a.2.2).length cap)) (fun k e => by cases e; right; exact Nat.le_refl _)
          exact (O1.keep (g := some w1.heap.size) (grown_trans (grown_trans (grown_trans (grown_trans (grown_trans (grown_set _ _ _ _) (grown_set _ _ _ _)) (grown_set _ _ _ _)) (grown_set _ _ _ _)) (grown_set _ _ _ _)) (grown_set _ _ _ _)) (fun k e => by cases e; left; have := HB2.out; have := HLo.out; omega)).in_ I2
        | false =>
          have HZ := Lib.hid (show R = (⟨o.c, putJ o.ads a, o.dls⟩, 0) by rw [HR.out]; simp)
          have HAi := Lib.hid (valO_iff.1 HP1.out).a
          have HIn10 := Lib.hid (HOw10.out.in_ HI.out)
          have HBf := Lib.hid (bsf_any o.ads A'.a5 A'.k5 a w10 HIn10.out.a HAi.out (HT.out.sm.a))
          unfold adv RetBf at HBf
          have x5 := BX10.out.c5
          have a0 := (BA.out.on F210.out).c 0; have a1 := (BA.out.on F210.out).c 1; have a2 := (BA.out.on F210.out).c 2
          simp only [List.getElem?_toArray, List.getElem?_cons_zero, List.getElem?_cons_succ] at a0 a1 a2
          go_wp2_with fail
          go_at_call 53; refine HBf.out.mono ?_; rintro e11 w11 ⟨i, fb, rfl, hbs, f11⟩
          have F11 := Lib.hid f11
          have HBs := Lib.hid hbs
          have hil : i ≤ o.ads.length := hbs.2.1
          clear hbs f11 x5 a0 a1 a2
          have F211 := Lib.hid (F210.out.trans F11.out)
          have BX11 := Lib.hid (BX10.out.on F11.out)
          have HOw11 := Lib.hid (HOw10.out.on F11.out)
          have HIns := Lib.hid (show Calls Tryz.prog 54 #[.slice A'.a5 o.ads.length A'.k5, .int .i64 (i : Int), .slice (some ⟨w11.heap.size, 0, none⟩) 1 1] (w11.alloc (.cells #[.int .i64 a.1, .int .i64 a.2.1, .int .i64 a.2.2] 42)) (RetIns (w11.alloc (.cells #[.int .i64 a.1, .int .i64 a.2.1, .int .i64 a.2.2] 42)) m5 42 3 (.slice A'.a5 o.ads.length A'.k5) (o.ads.length + 1) ((aC o.ads).take (i * 3) ++ aE a ++ (aC o.ads).drop (i * 3))) from by
            have h := (HOw11.out.a.on (fuwA w11 (.cells #[.int .i64 a.1, .int .i64 a.2.1, .int .i64 a.2.2] 42)))
            refine ins_j h.o i hil (HT.out.a) ?_ (vb := w11.heap.size) (news := aE a) (Bk.new _ _ _) rfl ?_ (one_adjs _) (one_adj a)
            · have := HOw11.out.l6; have := HOw11.out.lh; have := (F8.out.trans (F10.out.trans F11.out)).size
              simp; omega
            · intro e
              have := h.h _ e
              have := HOw11.out.lh; have := (F8.out.trans (F10.out.trans F11.out)).size
              omega)
          unfold RetIns at HIns
          have x5 := BX11.out.c5
          have a0 := (BA.out.on F211.out).c 0; have a1 := (BA.out.on F211.out).c 1; have a2 := (BA.out.on F211.out).c 2
          simp only [List.getElem?_toArray, List.getElem?_cons_zero, List.getElem?_cons_succ] at a0 a1 a2
          go_wp2_with fail
          go_at_call 54; refine HIns.out.mono ?_; rintro e12 w12 ⟨v', rfl, o12, g12, hat⟩
          obtain ⟨b', c', hv'⟩ := own_form o12
          subst hv'
          have HList := Lib.hid (show (aC o.ads).take (i * 3) ++ aE a ++ (aC o.ads).drop (i * 3) = aC (putJ o.ads a) from by
            rw [aC_take, aC_drop, show aE a = aC [a] from by unfold aC; simp, ← aC_app, ← aC_app, putJ_at HAi.out HBs.out])
          have HLen := Lib.hid (show o.ads.length + 1 = (putJ o.ads a).length from ((putJ_perm a o.ads).length_eq).symm)
          rw [HList.out, HLen.out] at o12
          rw [HLen.out] at hat
          have HO12 := Lib.hid o12
          have HG12 := Lib.hid g12
          have HAt := Lib.hid hat
          obtain ⟨W, hW⟩ : ∃ W, W = w11.alloc (.cells #[.int .i64 a.1, .int .i64 a.2.1, .int .i64 a.2.2] 42) := ⟨_, rfl⟩
          have FWW := Lib.hid (show Fuw w11 W by rw [hW]; exact fuwA _ _)
          rw [← hW] at HG12 HAt
          have HOW := Lib.hid (HOw11.out.on FWW.out)
          have HQ := Lib.hid (show ∀ k, (Value.slice A'.a5 o.ads.length A'.k5).ownBlock = some k → m5 ≤ k ∧ k < m6 from fun k e => ⟨(HOW.out.a.o.lt k e).1, HOW.out.a.h k e⟩)
          have HS7 := Lib.hid (show m6 ≤ w7.heap.size ∧ w7.heap.size < w11.heap.size ∧ w11.heap.size ≤ W.heap.size ∧ w1.heap.size < lo ∧ w1.heap.size < w7.heap.size ∧ lo ≤ m5 from by
            have h1 := HOw11.out.lh; have h2 := HX7.out; have h3 := (F10.out.trans F11.out).size; have h4 := HLo.out; have h5 := HB2.out; have h6 := HOw11.out.l5; have h7 := HOw11.out.l6; have h8 := FWW.out.size
            refine ⟨h1, by omega, h8, by omega, by omega, h6⟩)
          have E := (BX11.out.on FWW.out).k.grown HG12.out (fun e => by have := HQ.out _ e.symm; have := HS7.out; omega)
          have ER := (BR.out.on (F211.out.trans FWW.out)).grown HG12.out (fun e => by have := HQ.out _ e.symm; have := HS7.out; omega)
          unfold ovC at E
          unfold emV at ER
          have HER := Lib.hid ER
          have y0 := E.c 0; have y1 := E.c 1; have y2 := E.c 2; have y3 := E.c 3; have y4 := E.c 4; have y5 := E.c 5
          have s4 := E.f 4
          have q0 := ER.c 0; have q1 := ER.c 1; have q2 := ER.c 2; have q3 := ER.c 3; have q4 := ER.c 4; have q5 := ER.c 5
          have t0 := ER.f 0; have t1 := ER.f 1; have t2 := ER.f 2; have t3 := ER.f 3; have t4 := ER.f 4; have t5 := ER.f 5
          simp only [List.getElem?_toArray, List.getElem?_cons_zero, List.getElem?_cons_succ] at y0 y1 y2 y3 y4 y5 q0 q1 q2 q3 q4 q5
          have hne : w7.heap.size ≠ w1.heap.size := by have := HS7.out; omega
          have hne' : w1.heap.size ≠ w7.heap.size := fun e => hne e.symm
          clear E ER o12 g12 hat hW x5 a0 a1 a2
          have HCol := Lib.hid (show Ow w12 lo m5 3 1 (.slice A'.c.a1 o.c.ns.length A'.c.k1) o.c.ns.length (cs o.c.ns) ∧ Ow w12 lo m5 3 1 (.slice A'.c.a2 o.c.fs.length A'.c.k2) o.c.fs.length (cs o.c.fs) ∧ Ow w12 lo m5 3 1 (.slice A'.c.a3 o.c.ts.length A'.c.k3) o.c.ts.length (cs o.c.ts) ∧ Ow w12 lo m5 3 1 (.slice A'.c.a4 o.c.es.length A'.c.k4) o.c.es.length (cs o.c.es) ∧ Ow w12 m6 w7.heap.size 3 1 (.slice A'.a6 o.dls.length A'.k6) o.dls.length (cs o.dls) from by
            have X := HOW.out
            exact ⟨X.n.keep HG12.out (fun k e => by have := HQ.out k e; right; omega), X.f.keep HG12.out (fun k e => by have := HQ.out k e; right; omega), X.t.keep HG12.out (fun k e => by have := HQ.out k e; right; omega), X.e.keep HG12.out (fun k e => by have := HQ.out k e; right; omega), X.d.keep HG12.out (fun k e => by have := HQ.out k e; left; omega)⟩)
          have HNb := Lib.hid (show ∀ k, (Value.slice b' (putJ o.ads a).length c').ownBlock = some k → k ≠ w7.heap.size ∧ k ≠ w1.heap.size from fun k e => by
            have h0 := HS7.out
            rcases HAt.out with h | h
            · rw [h] at e; have := HQ.out k e; omega
            · have := h k e; omega)
          have FW12 := Lib.hid (show Fuw w w12 from Below.grown (FW.out.trans (F211.out.trans FWW.out)) HG12.out ((FW.out.trans (F211.out.trans FWW.out)).size) (fun k e => by have := HQ.out k e; have := HS7.out; have := HLo.out; have := FW.out.size; omega))
          rw [HLen.out]
          go_wp2
          have BF := (((((HER.out.far (p := ⟨w7.heap.size, 4, none⟩) hne' (.slice b' (putJ o.ads a).length c')).set_ 0 (.slice A'.c.a1 o.c.ns.length A'.c.k1)).set_ 1 (.slice A'.c.a2 o.c.fs.length A'.c.k2)).set_ 2 (.slice A'.c.a3 o.c.ts.length A'.c.k3)).set_ 3 (.slice A'.c.a4 o.c.es.length A'.c.k4))
          refine o_ret2 rfl rfl rfl (o := ⟨o.c, putJ o.ads a, o.dls⟩) (A := ⟨A'.c, b', A'.a6, c', A'.k6⟩) ⟨(BF.set_ 4 (.slice b' (putJ o.ads a).length c')).set_ 5 (.slice A'.a6 o.dls.length A'.k6)⟩ ?_
          rw [HZ.out]
          have hb := HB.out
          refine ⟨⟨A'.c, b', A'.a6, c', A'.k6⟩, rfl, ?_, fuwS (fuwS (fuwS (fuwS (fuwS (fuwS (fuwS FW12.out (Nat.le_trans FW.out.size F7.out.size)) hb) hb) hb) hb) hb) hb⟩
          have g1 := grown_set w12 w7.heap.size 4 (.slice b' (putJ o.ads a).length c')
          have hh := HS7.out
          obtain ⟨c1, c2, c3, c4, c5⟩ := HCol.out
          have k1 : ∀ k, some w7.heap.size = some k → k < lo ∨ m5 ≤ k := fun k e => by cases e; right; have := HOw11.out.l6; omega
          have k2 : ∀ k, some w1.heap.size = some k → k < lo ∨ m5 ≤ k := fun k e => by cases e; left; omega
          have g2 := (grown_trans (grown_trans (grown_trans (grown_trans (grown_trans (grown_set (w12.setCell ⟨w7.heap.size, 4, none⟩ (.slice b' (putJ o.ads a).length c')) w1.heap.size 0 (.slice A'.c.a1 o.c.ns.length A'.c.k1)) (grown_set _ _ 1 (.slice A'.c.a2 o.c.fs.length A'.c.k2))) (grown_set _ _ 2 (.slice A'.c.a3 o.c.ts.length A'.c.k3))) (grown_set _ _ 3 (.slice A'.c.a4 o.c.es.length A'.c.k4))) (grown_set _ _ 4 (.slice b' (putJ o.ads a).length c'))) (grown_set _ _ 5 (.slice A'.a6 o.dls.length A'.k6)))
          have I := HI.out
          have hads : ∀ x ∈ putJ o.ads a, I64 x.1 ∧ I64 x.2.1 ∧ I64 x.2.2 := fun x hx => by
            rcases List.mem_cons.1 ((putJ_perm a o.ads).mem_iff.1 hx) with e | k
            · subst e; exact HAI.out
            · exact I.a x k
          have oA := (HO12.out.kept g1 (by
            cases e : (Value.slice b' (putJ o.ads a).length c').ownBlock with
            | none => exact .inl rfl
            | some k => right; intro h; have := (HNb.out k e).1; injection h; omega)).kept g2 (by
            cases e : (Value.slice b' (putJ o.ads a).length c').ownBlock with
            | none => exact .inl rfl
            | some k => right; intro h; have := (HNb.out k e).2; injection h; omega)
          obtain ⟨ba, ca, ea, -, hsa⟩ := slJ_own oA hads
          cases ea
          exact ⟨⟨slI_of ((c1.keep g1 k1).keep g2 k2) I.n, slI_of ((c2.keep g1 k1).keep g2 k2) I.f, slI_of ((c3.keep g1 k1).keep g2 k2) I.t, slI_of ((c4.keep g1 k1).keep g2 k2) I.e⟩, hsa, slI_of ((c5.keep g1 (fun k e => by cases e; right; exact Nat.le_refl _)).keep g2 (fun k e => by cases e; left; have := HOw11.out.l6; omega)) I.d⟩
end Go.Proofs.YtpjikijfendmhaaGreat
