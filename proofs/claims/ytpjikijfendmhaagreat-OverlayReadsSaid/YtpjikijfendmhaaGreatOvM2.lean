
/-
  Package overlay: a copy of an overlay in rows of the call's own. Nothing that was there turns.
-/
import Derived.Test.YtpjikijfendmhaaGreatOvL
namespace Go.Proofs.YtpjikijfendmhaaGreat
open Go.RowKit

/-- A copy: where its rows lie. -/
def RetCl (w : World) (o : Ov) (e : Ending) (w' : World) : Prop := ∃ (A : OA) (lo m5 m6 : Nat), e = .returned (ovv o A) ∧ OwO w' lo m5 m6 w'.heap.size o A ∧ w.heap.size ≤ lo ∧ Fuw w w'
theorem own_form {w : World} {base e s : Nat} {v : Value} {n : Nat} {xs : List Value} (h : w.ownsRow base e s v n xs) : ∃ (a : Option Addr) (k : Nat), v = .slice a n k := by
  rcases h.2 with ⟨rfl, h0⟩ | ⟨g, cap, cur, rfl, -⟩
  · exact ⟨none, 0, by rw [h0]⟩
  · exact ⟨_, cap, rfl⟩
set_option maxHeartbeats 12800000 in
set_option maxRecDepth 100000 in
theorem cloneo_any (o : Ov) (A : OA) (w : World) (hO : OIn w o A) (ht : Tiny o) : Calls Tryz.prog 32 #[ovv o A] w (RetCl w o) := by
  obtain ⟨w0, hw0⟩ : ∃ w0, w.alloc (.cells (ovC o A) 27) = w0 := ⟨_, rfl⟩
  have z0 : w0.heap.size = w.heap.size + 1 := by rw [← hw0]; simp
  obtain ⟨w1, hw1⟩ : ∃ w1, w0.alloc (.cells #[.slice none 0 0, .slice none 0 0, .slice none 0 0, .slice none 0 0, .slice none 0 0, .slice none 0 0] 27) = w1 := ⟨_, rfl⟩
  have z1 : w1.heap.size = w.heap.size + 1 + 1 := by rw [← hw1, World.size_alloc, z0]
  obtain ⟨w2, hw2⟩ : ∃ w2, w1.alloc (.cells #[.slice A.c.a1 o.c.ns.length A.c.k1, .slice A.c.a2 o.c.fs.length A.c.k2, .slice A.c.a3 o.c.ts.length A.c.k3, .slice A.c.a4 o.c.es.length A.c.k4] 24) = w2 := ⟨_, rfl⟩
  have z2 : w2.heap.size = w.heap.size + 1 + 1 + 1 := by rw [← hw2, World.size_alloc, z1]
  have F0 := Lib.hid (show Fuw w w0 by rw [← hw0]; exact fuwA _ _)
  have F1 := Lib.hid (show Fuw w0 w1 by rw [← hw1]; exact fuwA _ _)
  have F2 := Lib.hid (show Fuw w1 w2 by rw [← hw2]; exact fuwA _ _)
  have B0 := Lib.hid (show OB w0 w.heap.size o A from ⟨by rw [← hw0]; exact Bk.new _ _ _⟩)
  have B1 := Lib.hid (show Bk w1 w0.heap.size #[.slice none 0 0, .slice none 0 0, .slice none 0 0, .slice none 0 0, .slice none 0 0, .slice none 0 0] 27 by rw [← hw1]; exact Bk.new _ _ _)
  have B2 := Lib.hid (show Bk w2 w1.heap.size #[.slice A.c.a1 o.c.ns.length A.c.k1, .slice A.c.a2 o.c.fs.length A.c.k2, .slice A.c.a3 o.c.ts.length A.c.k3, .slice A.c.a4 o.c.es.length A.c.k4] 24 by rw [← hw2]; exact Bk.new _ _ _)
  have HO := Lib.hid (hO.on ((F0.out.trans F1.out).trans F2.out))
  have HOw1 := Lib.hid (hO.on (F0.out.trans F1.out))
  have H1 := Lib.hid (fun w' (hf : Fuw w2 w') => cln_i (slI_on hf HO.out.c.n) ht.n)
  have H2 := Lib.hid (fun w' (hf : Fuw w2 w') => cln_i (slI_on hf HO.out.c.f) ht.f)
  have H3 := Lib.hid (fun w' (hf : Fuw w2 w') => cln_i (slI_on hf HO.out.c.t) ht.t)
  have H4 := Lib.hid (fun w' (hf : Fuw w2 w') => cln_i (slI_on hf HO.out.c.e) ht.e)
  have H5 := Lib.hid (fun w' (hf : Fuw w2 w') => cln_j (slJ_on hf HO.out.a) ht.a)
  have H6 := Lib.hid (fun w' (hf : Fuw w2 w') => cln_i (slI_on hf HO.out.d) ht.d)
  have HZ := Lib.hid (show w0.heap.size = w.heap.size + 1 ∧ w1.heap.size = w.heap.size + 1 + 1 ∧ w2.heap.size = w.heap.size + 1 + 1 + 1 from ⟨z0, z1, z2⟩)
  unfold RetCn at H1 H2 H3 H4 H5 H6
  have d1 := cellOnw F1.out B0.out.c1; have d2 := cellOnw F1.out B0.out.c2; have d3 := cellOnw F1.out B0.out.c3; have d4 := cellOnw F1.out B0.out.c4
  unfold ovv
  unfold ovC at hw0 ⊢
  clear hO z0 z1 z2
  go_enter Tryz.func32, Tryz.ntmps32
  go_upto_region 2 with fail
  clear hw0 hw1 hw2 d1 d2 d3 d4
  have e1 := B2.out.c 0; have e2 := B2.out.c 1; have e3 := B2.out.c 2; have e4 := B2.out.c 3
  simp only [List.getElem?_toArray, List.getElem?_cons_zero, List.getElem?_cons_succ] at e1 e2 e3 e4
  have hS0' : Fuw w2 w2.drew := (Fuw.refl w2).drew
  obtain ⟨S, hS⟩ : ∃ S : World → Prop, S = (fun w8 => Fuw w2 w8) := ⟨_, rfl⟩
  have HS := Lib.hid hS
  clear hS
  refine lst_start [13] S (by kernel_rfl) ?_
  have hS0 : S w2.drew := by rw [HS.out]; exact hS0'
  refine takeP (i := 0) (d := some 6) (v := ?_) rfl rfl (by kernel_rfl) (by kernel_rfl) (by kernel_rfl) (by kernel_rfl) (by kernel_rfl) (fun _ _ _ h => h) (Or.inl ⟨by rfl, ?_⟩) (by first | exact Or.inr (by assumption) | exact Or.inl (by kernel_rfl)) ?_
  rotate_left
  · ((intro w8 _; go_simp); try with_reducible rfl)
  try simp only [Act.put]
  try simp only [List.setIfInBounds_toArray]
  try simp only [List.set_cons_succ]
  try simp only [List.set_cons_zero]
  refine takeP (i := 3) (d := some 9) (v := ?_) rfl rfl (by kernel_rfl) (by kernel_rfl) (by kernel_rfl) (by kernel_rfl) (by kernel_rfl) (fun _ _ _ h => h) (Or.inl ⟨by rfl, ?_⟩) (by first | exact Or.inr (by assumption) | exact Or.inl (by kernel_rfl)) ?_
  rotate_left
  · ((intro w8 _; go_simp); try with_reducible rfl)
  try simp only [Act.put]
  try simp only [List.setIfInBounds_toArray]
  try simp only [List.set_cons_succ]
  try simp only [List.set_cons_zero]
  refine takeP (i := 6) (d := some 12) (v := ?_) rfl rfl (by kernel_rfl) (by kernel_rfl) (by kernel_rfl) (by kernel_rfl) (by kernel_rfl) (fun _ _ _ h => h) (Or.inl ⟨by rfl, ?_⟩) (by first | exact Or.inr (by assumption) | exact Or.inl (by kernel_rfl)) ?_
  rotate_left
  · ((intro w8 _; go_simp); try with_reducible rfl)
  try simp only [Act.put]
  try simp only [List.setIfInBounds_toArray]
  try simp only [List.set_cons_succ]
  try simp only [List.set_cons_zero]
  refine takeP (i := 9) (d := some 15) (v := ?_) rfl rfl (by kernel_rfl) (by kernel_rfl) (by kernel_rfl) (by kernel_rfl) (by kernel_rfl) (fun _ _ _ h => h) (Or.inl ⟨by rfl, ?_⟩) (by first | exact Or.inr (by assumption) | exact Or.inl (by kernel_rfl)) ?_
  rotate_left
  · ((intro w8 _; go_simp); try with_reducible rfl)
  try simp only [Act.put]
  try simp only [List.setIfInBounds_toArray]
  try simp only [List.set_cons_succ]
  try simp only [List.set_cons_zero]
  refine takeL (i := 1) (d := some 7) (v := ?_) rfl rfl (by kernel_rfl) (by kernel_rfl) (by kernel_rfl) (by kernel_rfl) (by kernel_rfl) (fun _ _ _ h => h) (Or.inl ⟨by rfl, ?_⟩) (by assumption) ?_
  rotate_left
  · ((intro w8 hSw; rw [HS.out] at hSw; have g1 := cellOnw hSw e1; have g2 := cellOnw hSw e2; have g3 := cellOnw hSw e3; have g4 := cellOnw hSw e4; clear hSw; go_simp); try with_reducible rfl)
  try simp only [Act.put]
  try simp only [List.setIfInBounds_toArray]
  try simp only [List.set_cons_succ]
  try simp only [List.set_cons_zero]
  refine takeL (i := 4) (d := some 10) (v := ?_) rfl rfl (by kernel_rfl) (by kernel_rfl) (by kernel_rfl) (by kernel_rfl) (by kernel_rfl) (fun _ _ _ h => h) (Or.inl ⟨by rfl, ?_⟩) (by assumption) ?_
  rotate_left
  · ((intro w8 hSw; rw [HS.out] at hSw; have g1 := cellOnw hSw e1; have g2 := cellOnw hSw e2; have g3 := cellOnw hSw e3; have g4 := cellOnw hSw e4; clear hSw; go_simp); try with_reducible rfl)
  try simp only [Act.put]
  try simp only [List.setIfInBounds_toArray]
  try simp only [List.set_cons_succ]
  try simp only [List.set_cons_zero]
  refine takeL (i := 7) (d := some 13) (v := ?_) rfl rfl (by kernel_rfl) (by kernel_rfl) (by kernel_rfl) (by kernel_rfl) (by kernel_rfl) (fun _ _ _ h => h) (Or.inl ⟨by rfl, ?_⟩) (by assumption) ?_
  rotate_left
  · ((intro w8 hSw; rw [HS.out] at hSw; have g1 := cellOnw hSw e1; have g2 := cellOnw hSw e2; have g3 := cellOnw hSw e3; have g4 := cellOnw hSw e4; clear hSw; go_simp); try with_reducible rfl)
  try simp only [Act.put]
  try simp only [List.setIfInBounds_toArray]
  try simp only [List.set_cons_succ]
  try simp only [List.set_cons_zero]
  refine takeL (i := 10) (d := some 16) (v := ?_) rfl rfl (by kernel_rfl) (by kernel_rfl) (by kernel_rfl) (by kernel_rfl) (by kernel_rfl) (fun _ _ _ h => h) (Or.inl ⟨by rfl, ?_⟩) (by assumption) ?_
  rotate_left
  · ((intro w8 hSw; rw [HS.out] at hSw; have g1 := cellOnw hSw e1; have g2 := cellOnw hSw e2; have g3 := cellOnw hSw e3; have g4 := cellOnw hSw e4; clear hSw; go_simp); try with_reducible rfl)
  try simp only [Act.put]
  try simp only [List.setIfInBounds_toArray]
  try simp only [List.set_cons_succ]
  try simp only [List.set_cons_zero]
  refine oneL (i := 2) rfl (by kernel_rfl) (fun K8 hK8 => ?_)
  go_simp
  go_at_call 74; refine (H1.out _ hS0').mono ?_; rintro x1 w3 ⟨v1, rfl, o1, f1⟩
  obtain ⟨b1, c1, hv1⟩ := own_form o1
  subst hv1
  have fZ1 : Fuw w2 w3 := hS0'.trans f1
  have hS1 : S w3 := by rw [HS.out]; exact fZ1
  refine hK8 _ _ hS1 ?_
  try simp only [Act.put]
  try simp only [List.setIfInBounds_toArray]
  try simp only [List.set_cons_succ]
  try simp only [List.set_cons_zero]
  refine oneL (i := 5) rfl (by kernel_rfl) (fun K8 hK8 => ?_)
  go_simp
  go_at_call 74; refine (H2.out _ fZ1).mono ?_; rintro x2 w4 ⟨v2, rfl, o2, f2⟩
  obtain ⟨b2, c2, hv2⟩ := own_form o2
  subst hv2
  have fZ2 : Fuw w2 w4 := fZ1.trans f2
  have hS2 : S w4 := by rw [HS.out]; exact fZ2
  refine hK8 _ _ hS2 ?_
  try simp only [Act.put]
  try simp only [List.setIfInBounds_toArray]
  try simp only [List.set_cons_succ]
  try simp only [List.set_cons_zero]
  refine oneL (i := 8) rfl (by kernel_rfl) (fun K8 hK8 => ?_)
  go_simp
  go_at_call 74; refine (H3.out _ fZ2).mono ?_; rintro x3 w5 ⟨v3, rfl, o3, f3⟩
  obtain ⟨b3, c3, hv3⟩ := own_form o3
  subst hv3
  have fZ3 : Fuw w2 w5 := fZ2.trans f3
  have hS3 : S w5 := by rw [HS.out]; exact fZ3
  refine hK8 _ _ hS3 ?_
  try simp only [Act.put]
  try simp only [List.setIfInBounds_toArray]
  try simp only [List.set_cons_succ]
  try simp only [List.set_cons_zero]
  refine oneL (i := 11) rfl (by kernel_rfl) (fun K8 hK8 => ?_)
  go_simp
  go_at_call 74; refine (H4.out _ fZ3).mono ?_; rintro x4 w6 ⟨v4, rfl, o4, f4⟩
  obtain ⟨b4, c4, hv4⟩ := own_form o4
  subst hv4
  have fZ4 : Fuw w2 w6 := fZ3.trans f4
  have hS4 : S w6 := by rw [HS.out]; exact fZ4
  refine hK8 _ _ hS4 ?_
  try simp only [Act.put]
  try simp only [List.setIfInBounds_toArray]
  try simp only [List.set_cons_succ]
  try simp only [List.set_cons_zero]
  refine takeP (i := 12) (d := some 18) (v := ?_) rfl rfl (by kernel_rfl) (by kernel_rfl) (by kernel_rfl) (by kernel_rfl) (by kernel_rfl) (fun _ _ _ h => h) (Or.inl ⟨by rfl, ?_⟩) (by first | exact Or.inr (by assumption) | exact Or.inl (by kernel_rfl)) ?_
  rotate_left
  · ((intro w8 _; go_simp); try with_reducible rfl)
  try simp only [Act.put]
  try simp only [List.setIfInBounds_toArray]
  try simp only [List.set_cons_succ]
  try simp only [List.set_cons_zero]
  have E2 := B2.out.on fZ4
  have q0 := E2.c 0; have q1 := E2.c 1; have q2 := E2.c 2; have q3 := E2.c 3
  have t0 := E2.f 0; have t1 := E2.f 1; have t2 := E2.f 2; have t3 := E2.f 3
  simp only [List.getElem?_toArray, List.getElem?_cons_zero, List.getElem?_cons_succ] at q0 q1 q2 q3
  refine outL (i := 13) rfl (by kernel_rfl) (by kernel_rfl) (fun K8 hK8 => ?_)
  go_simp

  refine hK8 _ _ ?_
  try simp only [Act.put]
  try simp only [List.setIfInBounds_toArray]
  try simp only [List.set_cons_succ]
  try simp only [List.set_cons_zero]
  refine lst_done (by kernel_rfl) ?_ _
  obtain ⟨V, hV⟩ : ∃ V, V = (((w6.setCell ⟨w1.heap.size, 0, none⟩ (.slice b1 o.c.ns.length c1)).setCell ⟨w1.heap.size, 1, none⟩ (.slice b2 o.c.fs.length c2)).setCell ⟨w1.heap.size, 2, none⟩ (.slice b3 o.c.ts.length c3)).setCell ⟨w1.heap.size, 3, none⟩ (.slice b4 o.c.es.length c4) := ⟨_, rfl⟩
  have HV6 := Lib.hid (show w6.grownBy V (some w1.heap.size) ∧ V.heap.size = w6.heap.size from by
    rw [hV]
    exact ⟨grown_trans (grown_trans (grown_trans (grown_set _ _ _ _) (grown_set _ _ _ _)) (grown_set _ _ _ _)) (grown_set _ _ _ _), by simp⟩)
  have HW1 := Lib.hid (show Fuw w1 V by rw [hV]; exact fuwS (fuwS (fuwS (fuwS (F2.out.trans fZ4) (Nat.le_refl _)) (Nat.le_refl _)) (Nat.le_refl _)) (Nat.le_refl _))
  have HBV := Lib.hid (show Bk V w1.heap.size #[.slice b1 o.c.ns.length c1, .slice b2 o.c.fs.length c2, .slice b3 o.c.ts.length c3, .slice b4 o.c.es.length c4] 24 by rw [hV]; exact ((((B2.out.on fZ4).set_ 0 _).set_ 1 _).set_ 2 _).set_ 3 _)
  have hlo : ∀ k, some w1.heap.size = some k → k < w2.heap.size ∨ w6.heap.size ≤ k := fun k e => by have := HZ.out; cases e; left; omega
  have g3 : Fuw w3 w6 := (f2.trans f3).trans f4
  have HN1 := Lib.hid (((Ow.of o1).on g3).le (lo' := w2.heap.size) (hi' := w6.heap.size) (Nat.le_refl _) g3.size |>.keep HV6.out.1 hlo)
  have HN2 := Lib.hid (((Ow.of o2).on (f3.trans f4)).le (lo' := w2.heap.size) (hi' := w6.heap.size) fZ1.size (f3.trans f4).size |>.keep HV6.out.1 hlo)
  have HN3 := Lib.hid (((Ow.of o3).on f4).le (lo' := w2.heap.size) (hi' := w6.heap.size) fZ2.size f4.size |>.keep HV6.out.1 hlo)
  have HN4 := Lib.hid ((Ow.of o4).le (lo' := w2.heap.size) (hi' := w6.heap.size) fZ3.size (Nat.le_refl _) |>.keep HV6.out.1 hlo)
  have HF2V := Lib.hid (show w2.heap.size ≤ V.heap.size from by rw [HV6.out.2]; exact fZ4.size)
  have HOV := Lib.hid (show OIn V o A from HOw1.out.on HW1.out)
  rw [← hV]
  clear hV e1 e2 e3 e4 hS0' q0 q1 q2 q3 t0 t1 t2 t3 E2 g3 hlo hS0 hS1 hS2 hS3 hS4 HS f1 f2 f3 f4 o1 o2 o3 o4 fZ1 fZ2 fZ3 fZ4
  have e1 := HBV.out.c 0; have e2 := HBV.out.c 1; have e3 := HBV.out.c 2; have e4 := HBV.out.c 3
  simp only [List.getElem?_toArray, List.getElem?_cons_zero, List.getElem?_cons_succ] at e1 e2 e3 e4
  have e5 := (B0.out.on (F1.out.trans HW1.out)).c5; have e6 := (B0.out.on (F1.out.trans HW1.out)).c6
  have hS0' : Fuw V V.drew := (Fuw.refl V).drew
  have H5V := Lib.hid (fun w' (hf : Fuw V w') => cln_j (slJ_on hf HOV.out.a) ht.a)
  have H6V := Lib.hid (fun w' (hf : Fuw V w') => cln_i (slI_on hf HOV.out.d) ht.d)
  unfold RetCn at H5V H6V
  go_upto_region 3 with fail
  obtain ⟨S, hS⟩ : ∃ S : World → Prop, S = (fun w8 => Fuw V w8) := ⟨_, rfl⟩
  have HS := Lib.hid hS
  clear hS
  refine lst_start [8] S (by kernel_rfl) ?_
  have hS0 : S V.drew := by rw [HS.out]; exact hS0'
  refine takeL (i := 0) (d := some 19) (v := ?_) rfl rfl (by kernel_rfl) (by kernel_rfl) (by kernel_rfl) (by kernel_rfl) (by kernel_rfl) (fun _ _ _ h => h) (Or.inl ⟨by rfl, ?_⟩) (by assumption) ?_
  rotate_left
  · ((intro w8 hSw; rw [HS.out] at hSw; have g1 := cellOnw hSw e1; have g2 := cellOnw hSw e2; have g3 := cellOnw hSw e3; have g4 := cellOnw hSw e4; have g5 := cellOnw hSw e5; have g6 := cellOnw hSw e6; clear hSw; go_simp); try with_reducible rfl)
  try simp only [Act.put]
  try simp only [List.setIfInBounds_toArray]
  try simp only [List.set_cons_succ]
  try simp only [List.set_cons_zero]
  refine takeP (i := 1) (d := some 20) (v := ?_) rfl rfl (by kernel_rfl) (by kernel_rfl) (by kernel_rfl) (by kernel_rfl) (by kernel_rfl) (fun _ _ _ h => h) (Or.inl ⟨by rfl, ?_⟩) (by first | exact Or.inr (by assumption) | exact Or.inl (by kernel_rfl)) ?_
  rotate_left
  · ((intro w8 _; go_simp); try with_reducible rfl)
  try simp only [Act.put]
  try simp only [List.setIfInBounds_toArray]
  try simp only [List.set_cons_succ]
  try simp only [List.set_cons_zero]
  refine takeP (i := 4) (d := some 23) (v := ?_) rfl rfl (by kernel_rfl) (by kernel_rfl) (by kernel_rfl) (by kernel_rfl) (by kernel_rfl) (fun _ _ _ h => h) (Or.inl ⟨by rfl, ?_⟩) (by first | exact Or.inr (by assumption) | exact Or.inl (by kernel_rfl)) ?_
  rotate_left
  · ((intro w8 _; go_simp); try with_reducible rfl)
  try simp only [Act.put]
  try simp only [List.setIfInBounds_toArray]
  try simp only [List.set_cons_succ]
  try simp only [List.set_cons_zero]
  refine takeL (i := 2) (d := some 21) (v := ?_) rfl rfl (by kernel_rfl) (by kernel_rfl) (by kernel_rfl) (by kernel_rfl) (by kernel_rfl) (fun _ _ _ h => h) (Or.inl ⟨by rfl, ?_⟩) (by assumption) ?_
  rotate_left
  · ((intro w8 hSw; rw [HS.out] at hSw; have g1 := cellOnw hSw e1; have g2 := cellOnw hSw e2; have g3 := cellOnw hSw e3; have g4 := cellOnw hSw e4; have g5 := cellOnw hSw e5; have g6 := cellOnw hSw e6; clear hSw; go_simp); try with_reducible rfl)
  try simp only [Act.put]
  try simp only [List.setIfInBounds_toArray]
  try simp only [List.set_cons_succ]
  try simp only [List.set_cons_zero]
  refine takeL (i := 5) (d := some 24) (v := ?_) rfl rfl (by kernel_rfl) (by kernel_rfl) (by kernel_rfl) (by kernel_rfl) (by kernel_rfl) (fun _ _ _ h => h) (Or.inl ⟨by rfl, ?_⟩) (by assumption) ?_
  rotate_left
  · ((intro w8 hSw; rw [HS.out] at hSw; have g1 := cellOnw hSw e1; have g2 := cellOnw hSw e2; have g3 := cellOnw hSw e3; have g4 := cellOnw hSw e4; have g5 := cellOnw hSw e5; have g6 := cellOnw hSw e6; clear hSw; go_simp); try with_reducible rfl)
  try simp only [Act.put]
  try simp only [List.setIfInBounds_toArray]
  try simp only [List.set_cons_succ]
  try simp only [List.set_cons_zero]
  refine oneL (i := 3) rfl (by kernel_rfl) (fun K8 hK8 => ?_)
  go_simp
  go_at_call 63; refine (H5V.out _ hS0').mono ?_; rintro x5 w7 ⟨v5, rfl, o5, f5⟩
  obtain ⟨b5, c5, hv5⟩ := own_form o5
  subst hv5
  have fY5 : Fuw V w7 := hS0'.trans f5
  have hS5 : S w7 := by rw [HS.out]; exact fY5
  refine hK8 _ _ hS5 ?_
  try simp only [Act.put]
  try simp only [List.setIfInBounds_toArray]
  try simp only [List.set_cons_succ]
  try simp only [List.set_cons_zero]
  refine oneL (i := 6) rfl (by kernel_rfl) (fun K8 hK8 => ?_)
  go_simp
  go_at_call 74; refine (H6V.out _ fY5).mono ?_; rintro x6 w8 ⟨v6, rfl, o6, f6⟩
  obtain ⟨b6, c6, hv6⟩ := own_form o6
  subst hv6
  have fY6 : Fuw V w8 := fY5.trans f6
  have hS6 : S w8 := by rw [HS.out]; exact fY6
  refine hK8 _ _ hS6 ?_
  try simp only [Act.put]
  try simp only [List.setIfInBounds_toArray]
  try simp only [List.set_cons_succ]
  try simp only [List.set_cons_zero]
  refine takeP (i := 7) (d := some 26) (v := ?_) rfl rfl (by kernel_rfl) (by kernel_rfl) (by kernel_rfl) (by kernel_rfl) (by kernel_rfl) (fun _ _ _ h => h) (Or.inl ⟨by rfl, ?_⟩) (by first | exact Or.inr (by assumption) | exact Or.inl (by kernel_rfl)) ?_
  rotate_left
  · ((intro w8 _; go_simp); try with_reducible rfl)
  try simp only [Act.put]
  try simp only [List.setIfInBounds_toArray]
  try simp only [List.set_cons_succ]
  try simp only [List.set_cons_zero]
  have E1 := ((B1.out.on HW1.out).on fY6)
  have q0 := E1.c 0; have q1 := E1.c 1; have q2 := E1.c 2; have q3 := E1.c 3; have q4 := E1.c 4; have q5 := E1.c 5
  have t0 := E1.f 0; have t1 := E1.f 1; have t2 := E1.f 2; have t3 := E1.f 3; have t4 := E1.f 4; have t5 := E1.f 5
  simp only [List.getElem?_toArray, List.getElem?_cons_zero, List.getElem?_cons_succ] at q0 q1 q2 q3 q4 q5
  refine outL (i := 8) rfl (by kernel_rfl) (by kernel_rfl) (fun K8 hK8 => ?_)
  go_simp

  refine hK8 _ _ ?_
  try simp only [Act.put]
  try simp only [List.setIfInBounds_toArray]
  try simp only [List.set_cons_succ]
  try simp only [List.set_cons_zero]
  refine lst_done (by kernel_rfl) ?_ _
  have HE := Lib.hid (show Bk _ w0.heap.size (ovC o ⟨⟨b1, b2, b3, b4, c1, c2, c3, c4⟩, b5, b6, c5, c6⟩) 27 from (((((E1.set_ 0 (.slice b1 o.c.ns.length c1)).set_ 1 (.slice b2 o.c.fs.length c2)).set_ 2 (.slice b3 o.c.ts.length c3)).set_ 3 (.slice b4 o.c.es.length c4)).set_ 4 (.slice b5 o.ads.length c5)).set_ 5 (.slice b6 o.dls.length c6))
  have HF8 := Lib.hid fY6
  have HF7 := Lib.hid fY5
  have HO5 := Lib.hid o5
  have HO6 := Lib.hid o6
  have HF67 := Lib.hid f6
  clear E1 q0 q1 q2 q3 q4 q5 t0 t1 t2 t3 t4 t5 e1 e2 e3 e4 e5 e6 hS0' hS0 hS5 hS6 HS f5 f6 o5 o6 fY5 fY6
  go_wp2
  refine o_ret rfl rfl ⟨HE.out⟩ ?_
  have hz := HZ.out
  have hg : w8.grownBy ((((((w8.setCell ⟨w0.heap.size, 0, none⟩ (.slice b1 o.c.ns.length c1)).setCell ⟨w0.heap.size, 1, none⟩ (.slice b2 o.c.fs.length c2)).setCell ⟨w0.heap.size, 2, none⟩ (.slice b3 o.c.ts.length c3)).setCell ⟨w0.heap.size, 3, none⟩ (.slice b4 o.c.es.length c4)).setCell ⟨w0.heap.size, 4, none⟩ (.slice b5 o.ads.length c5)).setCell ⟨w0.heap.size, 5, none⟩ (.slice b6 o.dls.length c6)) (some w0.heap.size) :=
    grown_trans (grown_trans (grown_trans (grown_trans (grown_trans (grown_set _ _ _ _) (grown_set _ _ _ _)) (grown_set _ _ _ _)) (grown_set _ _ _ _)) (grown_set _ _ _ _)) (grown_set _ _ _ _)
  have X : OwO w8 w2.heap.size V.heap.size w7.heap.size w8.heap.size o ⟨⟨b1, b2, b3, b4, c1, c2, c3, c4⟩, b5, b6, c5, c6⟩ :=
    ⟨(HN1.out.on HF8.out).le (Nat.le_refl _) (by rw [HV6.out.2]; exact Nat.le_refl _), (HN2.out.on HF8.out).le (Nat.le_refl _) (by rw [HV6.out.2]; exact Nat.le_refl _), (HN3.out.on HF8.out).le (Nat.le_refl _) (by rw [HV6.out.2]; exact Nat.le_refl _), (HN4.out.on HF8.out).le (Nat.le_refl _) (by rw [HV6.out.2]; exact Nat.le_refl _),
      (Ow.of HO5.out).on HF67.out, Ow.of HO6.out, HF2V.out, HF7.out.size, HF67.out.size⟩
  have Y := X.keep hg (fun k e => by cases e; left; omega)
  refine ⟨⟨⟨b1, b2, b3, b4, c1, c2, c3, c4⟩, b5, b6, c5, c6⟩, w2.heap.size, V.heap.size, w7.heap.size, rfl, ?_, ?_, ?_⟩
  · have hsz := hg.size
    simp only [World.size_setCell]
    exact Y
  · omega
  · exact Below.grown ((F0.out.trans (F1.out.trans (HW1.out.trans HF8.out)))) hg ((F0.out.trans (F1.out.trans (HW1.out.trans HF8.out))).size) (fun k e => by cases e; exact F0.out.size)
end Go.Proofs.YtpjikijfendmhaaGreat
