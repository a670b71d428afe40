
/-
  OverlayBack: the law's walk. Nothing that was there turns.
-/
import Derived.Test.YtpamdlkagmlahaaOvV
namespace Go.Proofs.Ytpamdlkagmlahaa
open Go.RowKit

set_option maxHeartbeats 25600000 in
set_option maxRecDepth 100000 in
theorem back_walk (o : Ov) (A : OA) (a : Aj) (u : Nat) (hu : u < 256) (w : World) (hO : OIn w o A) (hai : I64 a.1 ∧ I64 a.2.1 ∧ I64 a.2.2) :
    Calls Try.prog 3 #[ovv o A, adv a, .int .u8 (u : Int)] w (FwB w true) := by
  obtain ⟨a0, a1, a2⟩ := a
  obtain ⟨w0, hw0⟩ : ∃ w0, w.alloc (.cells (ovC o A) 27) = w0 := ⟨_, rfl⟩
  obtain ⟨w1, hw1⟩ : ∃ w1, w0.alloc (.cells #[.int .i64 a0, .int .i64 a1, .int .i64 a2] 29) = w1 := ⟨_, rfl⟩
  have G0 := Lib.hid (show Fuw w w0 by rw [← hw0]; exact fuwA _ _)
  have G1 := Lib.hid (show Fuw w0 w1 by rw [← hw1]; exact fuwA _ _)
  have BO := Lib.hid (show OB w1 w.heap.size o A from (show OB w0 w.heap.size o A from ⟨by rw [← hw0]; exact Bk.new _ _ _⟩).on G1.out)
  have BA := Lib.hid (show Bk w1 w0.heap.size #[.int .i64 a0, .int .i64 a1, .int .i64 a2] 29 by rw [← hw1]; exact Bk.new _ _ _)
  have F1 := Lib.hid (G0.out.trans G1.out)
  have HO := Lib.hid (hO.on F1.out)
  have HAI := Lib.hid (show I64 a0 ∧ I64 a1 ∧ I64 a2 from hai)
  have HU := Lib.hid hu
  clear hO hai hu G0 G1
  unfold adv ovv
  unfold ovC at hw0 ⊢
  go_enter Try.func3, Try.ntmps3
  go_upto_region 1 with fail
  clear hw0 hw1
  generalize w.heap.size = B3 at *
  generalize w0.heap.size = B4 at *
  have x1 := BO.out.c1; have x2 := BO.out.c2; have x3 := BO.out.c3; have x4 := BO.out.c4; have x5 := BO.out.c5; have x6 := BO.out.c6
  have HK := Lib.hid (few_any o A w1)
  unfold ovv ovC RetFew at HK
  go_wp2_with fail
  go_at_call 4; refine HK.out.mono ?_; rintro e2 w2 ⟨q, rfl, hq, f2⟩
  have F2 := Lib.hid (F1.out.trans f2)
  have BO2 := Lib.hid (BO.out.on f2)
  have BA2 := Lib.hid (BA.out.on f2)
  have HO2 := Lib.hid (HO.out.on f2)
  have HQ := Lib.hid hq
  clear hq f2 HK x1 x2 x3 x4 x5 x6 BO BA HO
  cases q with
  | false =>
    go_wp2_with fail
    go_at_call 6; refine (alive_any _).mono ?_; rintro e9 w9 ⟨rfl, f9⟩
    have FZ := Lib.hid (F2.out.trans f9)
    clear f9
    go_wp2
    go_ret
    exact ⟨ret_bool (by simp), FZ.out⟩
  | true =>
    have HF := Lib.hid (HQ.out rfl).sz
    obtain ⟨p, hp⟩ : ∃ p, valO o = p := ⟨_, rfl⟩
    have HP := Lib.hid hp
    have HK := Lib.hid (valo_x A w2 HO2.out (HF.out.tiny (by decide)) hp)
    unfold ovv ovC at HK
    clear hp
    have x1 := BO2.out.c1; have x2 := BO2.out.c2; have x3 := BO2.out.c3; have x4 := BO2.out.c4; have x5 := BO2.out.c5; have x6 := BO2.out.c6
    go_wp2_with fail
    go_at_call 5; refine HK.out.mono ?_; rintro e3 w3 ⟨rfl, f3⟩
    have F3 := Lib.hid (F2.out.trans f3)
    have BO3 := Lib.hid (BO2.out.on f3)
    have BA3 := Lib.hid (BA2.out.on f3)
    have HO3 := Lib.hid (HO2.out.on f3)
    clear f3 HK x1 x2 x3 x4 x5 x6 BO2 BA2 HO2
    cases p with
    | false =>
      go_wp2_with fail
      go_at_call 6; refine (alive_any _).mono ?_; rintro e9 w9 ⟨rfl, f9⟩
      have FZ := Lib.hid (F3.out.trans f9)
      clear f9
      go_wp2
      go_ret
      exact ⟨ret_bool (by simp), FZ.out⟩
    | true =>
      have x1 := BO3.out.c1; have x2 := BO3.out.c2; have x3 := BO3.out.c3; have x4 := BO3.out.c4; have x5 := BO3.out.c5; have x6 := BO3.out.c6
      have HK := Lib.hid (ents_x A w3 HO3.out (HF.out.tiny (by decide)))
      unfold ovv ovC at HK
      go_wp2_with fail
      go_at_call 7; refine HK.out.mono ?_; rintro e4 w4 ⟨b7, k7, rfl, hs, f4⟩
      have L4 := Lib.hid hs
      have F4 := Lib.hid (F3.out.trans f4)
      have BO4 := Lib.hid (BO3.out.on f4)
      have BA4 := Lib.hid (BA3.out.on f4)
      have HO4 := Lib.hid (HO3.out.on f4)
      clear hs f4 HK x1 x2 x3 x4 x5 x6 BO3 BA3 HO3
      go_upto_region 4 with fail
      obtain ⟨x, hx⟩ : ∃ x, (insV o (a0, a1, a2)).1 = x := ⟨_, rfl⟩
      obtain ⟨n, hn⟩ : ∃ n, (insV o (a0, a1, a2)).2 = n := ⟨_, rfl⟩
      have hI : insV o (a0, a1, a2) = (x, n) := Prod.ext hx hn
      have HI := Lib.hid hI
      have SX := Lib.hid (show Sz 61 x by rw [← hx]; exact sz_ins HF.out _)
      have HK := Lib.hid (inso_x A w4 HO4.out (HF.out.tiny (by decide)) HAI.out hI)
      clear hx hn hI
      unfold ovv ovC adv at HK
      have x1 := BO4.out.c1; have x2 := BO4.out.c2; have x3 := BO4.out.c3; have x4 := BO4.out.c4; have x5 := BO4.out.c5; have x6 := BO4.out.c6
      have y0 := BA4.out.c 0; have y1 := BA4.out.c 1; have y2 := BA4.out.c 2
      simp only [List.getElem?_toArray, List.getElem?_cons_zero, List.getElem?_cons_succ] at y0 y1 y2
      go_wp2_with fail
      go_at_call 8; refine HK.out.mono ?_; rintro e5 w5 ⟨A5, rfl, hO5, f5⟩
      have F5 := Lib.hid (F4.out.trans f5)
      have BO5 := Lib.hid (BO4.out.on f5)
      have BA5 := Lib.hid (BA4.out.on f5)
      have HO5 := Lib.hid (HO4.out.on f5)
      have L5 := Lib.hid (slJ_on f5 L4.out)
      have HX5 := Lib.hid hO5
      clear f5 HK x1 x2 x3 x4 x5 x6 y0 y1 y2 BO4 BA4 HO4 L4 hO5
      unfold ovv ovC
      go_upto_region 5 with fail
      obtain ⟨w6, hw⟩ : ∃ w99, World.alloc w5 (.cells (ovC x A5) 27) = w99 := ⟨_, rfl⟩
      have G := Lib.hid (show Fuw w5 w6 by rw [← hw]; exact fuwA _ _)
      have F6 := Lib.hid (F5.out.trans G.out)
      have BO6 := Lib.hid (BO5.out.on G.out)
      have BA6 := Lib.hid (BA5.out.on G.out)
      have HO6 := Lib.hid (HO5.out.on G.out)
      have HX6 := Lib.hid (HX5.out.on G.out)
      have L6 := Lib.hid (slJ_on G.out L5.out)
      have BX6 := Lib.hid (show OB w6 w5.heap.size x A5 from ⟨by rw [← hw]; exact Bk.new _ _ _⟩)
      unfold ovC at hw
      rw [hw]
      clear hw G BO5 BA5 HO5 HX5 L5
      generalize w5.heap.size = B8 at *
      by_cases hn0 : n = 0
      · subst hn0
        obtain ⟨y, hfi⟩ := fi HI.out
        have HFI := Lib.hid hfi
        clear hfi
        have SY := Lib.hid (show Sz 62 y by have := sz_del SX.out a2; rw [HFI.out.d] at this; exact this)
        have HK := Lib.hid (delo_x A5 w6 HX6.out (SX.out.tiny (by decide)) HAI.out.2.2 HFI.out.d)
        unfold ovv ovC at HK
        have x1 := BX6.out.c1; have x2 := BX6.out.c2; have x3 := BX6.out.c3; have x4 := BX6.out.c4; have x5 := BX6.out.c5; have x6 := BX6.out.c6
        have y2 := BA6.out.c 2
        simp only [List.getElem?_toArray, List.getElem?_cons_zero, List.getElem?_cons_succ] at y2
        go_wp2_with fail
        go_at_call 9; refine HK.out.mono ?_; rintro e9 w7 ⟨AY, rfl, hOY, f9⟩
        have F7 := Lib.hid (F6.out.trans f9)
        have BO7 := Lib.hid (BO6.out.on f9)
        have BA7 := Lib.hid (BA6.out.on f9)
        have HO7 := Lib.hid (HO6.out.on f9)
        have HX7 := Lib.hid (HX6.out.on f9)
        have BX7 := Lib.hid (BX6.out.on f9)
        have L7 := Lib.hid (slJ_on f9 L6.out)
        have HY7 := Lib.hid hOY
        clear f9 HK x1 x2 x3 x4 x5 x6 y2 hOY
        unfold ovv ovC
        go_upto_region 7 with fail
        obtain ⟨w8, hw⟩ : ∃ w99, World.alloc w7 (.cells (ovC y AY) 27) = w99 := ⟨_, rfl⟩
        have G := Lib.hid (show Fuw w7 w8 by rw [← hw]; exact fuwA _ _)
        have F8 := Lib.hid (F7.out.trans G.out)
        have BO8 := Lib.hid (BO7.out.on G.out)
        have QA := Lib.hid (BA7.out.on G.out)
        have HO8 := Lib.hid (HO7.out.on G.out)
        have HX8 := Lib.hid (HX7.out.on G.out)
        have HY8 := Lib.hid (HY7.out.on G.out)
        have QX := Lib.hid (BX7.out.on G.out)
        have L8 := Lib.hid (slJ_on G.out L7.out)
        have QY := Lib.hid (show OB w8 w7.heap.size y AY from ⟨by rw [← hw]; exact Bk.new _ _ _⟩)
        unfold ovC at hw
        rw [hw]
        clear hw G BO6 BA6 HO6 HX6 BX6 L6 BO7 BA7 HO7 HX7 BX7 L7 HY7
        generalize w7.heap.size = B10 at *
        have C1 := Lib.hid (fun w' (hf : Fuw w8 w') => valo_x A5 w' (HX8.out.on hf) (SX.out.tiny (by decide)) HFI.out.vx)
        have C2 := Lib.hid (fun w' (hf : Fuw w8 w') => valo_x AY w' (HY8.out.on hf) (SY.out.tiny (by decide)) HFI.out.vy)
        have C3 := Lib.hid (fun w' (hf : Fuw w8 w') => ents_x AY w' (HY8.out.on hf) (SY.out.tiny (by decide)))
        have C4 := Lib.hid (fun w' (hf : Fuw w8 w') => ents_x A5 w' (HX8.out.on hf) (SX.out.tiny (by decide)))
        have C5 := Lib.hid (fun (m : List Aj) (b k) w' (hf : Fuw w8 w') (hm : SlJ w' b m k) (he : More m (entS o) (a0, a1, a2)) (hl : m.length ≤ 1000000) => more_any m (entS o) b b7 k k7 (a0, a1, a2) w' hm (slJ_on hf L8.out) he hl)
        have C6 := Lib.hid (fun (m : List Aj) (b k) w' (hf : Fuw w8 w') (hm : SlJ w' b m k) (he : m = entS o) => (show Calls Try.prog 10 #[.slice b m.length k, .slice b7 (entS o).length k7] w' (FwB w' true) by have q := adjs_any m (entS o) b b7 k k7 w' hm (slJ_on hf L8.out); rw [decide_eq_true he] at q; exact q))
        unfold ovv ovC at C1 C2 C3 C4
        unfold adv at C5
        obtain ⟨S, hS⟩ : ∃ S : World → Prop, S = (fun w8 => OB w8 B8 x A5 ∧ OB w8 B10 y AY ∧ Bk w8 B4 #[.int .i64 a0, .int .i64 a1, .int .i64 a2] 29) := ⟨_, rfl⟩
        have HS7 := Lib.hid hS
        clear hS
        refine lst_start [24] S (by kernel_rfl) ?_
        have E0 := Lib.hid (fuw_dr w8 1)
        have hS0 : S w8.drew := by rw [HS7.out]; exact ⟨QX.out.on E0.out, QY.out.on E0.out, QA.out.on E0.out⟩
        refine takeP (i := 0) (d := some 43) (v := ?_) rfl rfl (by kernel_rfl) (by kernel_rfl) (by kernel_rfl) (by kernel_rfl) (by kernel_rfl) (fun _ _ _ h => h) (Or.inl ⟨by rfl, ?_⟩) (by first | exact Or.inr (by assumption) | exact Or.inl (by kernel_rfl)) ?_
        rotate_left
        · ((intro w8 _; go_simp); try with_reducible rfl)
        try simp only [Act.put]
        try simp only [List.setIfInBounds_toArray]
        try simp only [List.set_cons_succ]
        try simp only [List.set_cons_zero]
        refine takeP (i := 1) (d := some 44) (v := ?_) rfl rfl (by kernel_rfl) (by kernel_rfl) (by kernel_rfl) (by kernel_rfl) (by kernel_rfl) (fun _ _ _ h => h) (Or.inl ⟨by rfl, ?_⟩) (by first | exact Or.inr (by assumption) | exact Or.inl (by kernel_rfl)) ?_
        rotate_left
        · ((intro w8 _; go_simp); try with_reducible rfl)
        try simp only [Act.put]
        try simp only [List.setIfInBounds_toArray]
        try simp only [List.set_cons_succ]
        try simp only [List.set_cons_zero]
        refine takeP (i := 2) (d := some 45) (v := ?_) rfl rfl (by kernel_rfl) (by kernel_rfl) (by kernel_rfl) (by kernel_rfl) (by kernel_rfl) (fun _ _ _ h => h) (Or.inl ⟨by rfl, ?_⟩) (by first | exact Or.inr (by assumption) | exact Or.inl (by kernel_rfl)) ?_
        rotate_left
        · ((intro w8 _; go_simp); try with_reducible rfl)
        try simp only [Act.put]
        try simp only [List.setIfInBounds_toArray]
        try simp only [List.set_cons_succ]
        try simp only [List.set_cons_zero]
        refine takeL (i := 3) (d := some 46) (v := ?_) rfl rfl (by kernel_rfl) (by kernel_rfl) (by kernel_rfl) (by kernel_rfl) (by kernel_rfl) (fun _ _ _ h => h) (Or.inl ⟨by rfl, ?_⟩) (by assumption) ?_
        rotate_left
        · ((intro w8 hSw; rw [HS7.out] at hSw; obtain ⟨s1, s2, s3⟩ := hSw; have r1 := s1.c1; have r2 := s1.c2; have r3 := s1.c3; have r4 := s1.c4; have r5 := s1.c5; have r6 := s1.c6; have t1 := s2.c1; have t2 := s2.c2; have t3 := s2.c3; have t4 := s2.c4; have t5 := s2.c5; have t6 := s2.c6; have z0 := s3.c 0; have z1 := s3.c 1; have z2 := s3.c 2; simp only [List.getElem?_toArray, List.getElem?_cons_zero, List.getElem?_cons_succ] at z0 z1 z2; go_simp); try with_reducible rfl)
        try simp only [Act.put]
        try simp only [List.setIfInBounds_toArray]
        try simp only [List.set_cons_succ]
        try simp only [List.set_cons_zero]
        refine oneL (i := 4) rfl (by kernel_rfl) (fun K8 hK8 => ?_)
        go_simp
        go_at_call 5; refine (C1.out _ E0.out).mono ?_; rintro e9 m1 ⟨rfl, f9⟩
        have E1 := Lib.hid (E0.out.trans f9)
        clear f9
        have hS1 : S m1 := by rw [HS7.out]; exact ⟨QX.out.on E1.out, QY.out.on E1.out, QA.out.on E1.out⟩
        refine hK8 _ _ hS1 ?_
        try simp only [Act.put]
        try simp only [List.setIfInBounds_toArray]
        try simp only [List.set_cons_succ]
        try simp only [List.set_cons_zero]
        refine takeP (i := 5) (d := some 48) (v := ?_) rfl rfl (by kernel_rfl) (by kernel_rfl) (by kernel_rfl) (by kernel_rfl) (by kernel_rfl) (fun _ _ _ h => h) (Or.inl ⟨by rfl, ?_⟩) (by first | exact Or.inr (by assumption) | exact Or.inl (by kernel_rfl)) ?_
        rotate_left
        · ((intro w8 _; go_simp); try with_reducible rfl)
        try simp only [Act.put]
        try simp only [List.setIfInBounds_toArray]
        try simp only [List.set_cons_succ]
        try simp only [List.set_cons_zero]
        refine takeP (i := 6) (d := some 49) (v := ?_) rfl rfl (by kernel_rfl) (by kernel_rfl) (by kernel_rfl) (by kernel_rfl) (by kernel_rfl) (fun _ _ _ h => h) (Or.inl ⟨by rfl, ?_⟩) (by first | exact Or.inr (by assumption) | exact Or.inl (by kernel_rfl)) ?_
        rotate_left
        · ((intro w8 _; go_simp); try with_reducible rfl)
        try simp only [Act.put]
        try simp only [List.setIfInBounds_toArray]
        try simp only [List.set_cons_succ]
        try simp only [List.set_cons_zero]
        refine takeP (i := 7) (d := some 50) (v := ?_) rfl rfl (by kernel_rfl) (by kernel_rfl) (by kernel_rfl) (by kernel_rfl) (by kernel_rfl) (fun _ _ _ h => h) (Or.inl ⟨by rfl, ?_⟩) (by first | exact Or.inr (by assumption) | exact Or.inl (by kernel_rfl)) ?_
        rotate_left
        · ((intro w8 _; go_simp); try with_reducible rfl)
        try simp only [Act.put]
        try simp only [List.setIfInBounds_toArray]
        try simp only [List.set_cons_succ]
        try simp only [List.set_cons_zero]
        refine takeL (i := 8) (d := some 51) (v := ?_) rfl rfl (by kernel_rfl) (by kernel_rfl) (by kernel_rfl) (by kernel_rfl) (by kernel_rfl) (fun _ _ _ h => h) (Or.inl ⟨by rfl, ?_⟩) (by assumption) ?_
        rotate_left
        · ((intro w8 hSw; rw [HS7.out] at hSw; obtain ⟨s1, s2, s3⟩ := hSw; have r1 := s1.c1; have r2 := s1.c2; have r3 := s1.c3; have r4 := s1.c4; have r5 := s1.c5; have r6 := s1.c6; have t1 := s2.c1; have t2 := s2.c2; have t3 := s2.c3; have t4 := s2.c4; have t5 := s2.c5; have t6 := s2.c6; have z0 := s3.c 0; have z1 := s3.c 1; have z2 := s3.c 2; simp only [List.getElem?_toArray, List.getElem?_cons_zero, List.getElem?_cons_succ] at z0 z1 z2; go_simp); try with_reducible rfl)
        try simp only [Act.put]
        try simp only [List.setIfInBounds_toArray]
        try simp only [List.set_cons_succ]
        try simp only [List.set_cons_zero]
        refine oneL (i := 9) rfl (by kernel_rfl) (fun K8 hK8 => ?_)
        go_simp
        go_at_call 5; refine (C2.out _ E1.out).mono ?_; rintro e9 m2 ⟨rfl, f9⟩
        have E2 := Lib.hid (E1.out.trans f9)
        clear f9
        have hS2 : S m2 := by rw [HS7.out]; exact ⟨QX.out.on E2.out, QY.out.on E2.out, QA.out.on E2.out⟩
        refine hK8 _ _ hS2 ?_
        try simp only [Act.put]
        try simp only [List.setIfInBounds_toArray]
        try simp only [List.set_cons_succ]
        try simp only [List.set_cons_zero]
        refine takeP (i := 10) (d := some 53) (v := ?_) rfl rfl (by kernel_rfl) (by kernel_rfl) (by kernel_rfl) (by kernel_rfl) (by kernel_rfl) (fun _ _ _ h => h) (Or.inl ⟨by rfl, ?_⟩) (by first | exact Or.inr (by assumption) | exact Or.inl (by kernel_rfl)) ?_
        rotate_left
        · ((intro w8 _; go_simp); try with_reducible rfl)
        try simp only [Act.put]
        try simp only [List.setIfInBounds_toArray]
        try simp only [List.set_cons_succ]
        try simp only [List.set_cons_zero]
        refine takeP (i := 11) (d := some 54) (v := ?_) rfl rfl (by kernel_rfl) (by kernel_rfl) (by kernel_rfl) (by kernel_rfl) (by kernel_rfl) (fun _ _ _ h => h) (Or.inl ⟨by rfl, ?_⟩) (by first | exact Or.inr (by assumption) | exact Or.inl (by kernel_rfl)) ?_
        rotate_left
        · ((intro w8 _; go_simp); try with_reducible rfl)
        try simp only [Act.put]
        try simp only [List.setIfInBounds_toArray]
        try simp only [List.set_cons_succ]
        try simp only [List.set_cons_zero]
        refine takeP (i := 12) (d := some 55) (v := ?_) rfl rfl (by kernel_rfl) (by kernel_rfl) (by kernel_rfl) (by kernel_rfl) (by kernel_rfl) (fun _ _ _ h => h) (Or.inl ⟨by rfl, ?_⟩) (by first | exact Or.inr (by assumption) | exact Or.inl (by kernel_rfl)) ?_
        rotate_left
        · ((intro w8 _; go_simp); try with_reducible rfl)
        try simp only [Act.put]
        try simp only [List.setIfInBounds_toArray]
        try simp only [List.set_cons_succ]
        try simp only [List.set_cons_zero]
        refine takeL (i := 13) (d := some 56) (v := ?_) rfl rfl (by kernel_rfl) (by kernel_rfl) (by kernel_rfl) (by kernel_rfl) (by kernel_rfl) (fun _ _ _ h => h) (Or.inl ⟨by rfl, ?_⟩) (by assumption) ?_
        rotate_left
        · ((intro w8 hSw; rw [HS7.out] at hSw; obtain ⟨s1, s2, s3⟩ := hSw; have r1 := s1.c1; have r2 := s1.c2; have r3 := s1.c3; have r4 := s1.c4; have r5 := s1.c5; have r6 := s1.c6; have t1 := s2.c1; have t2 := s2.c2; have t3 := s2.c3; have t4 := s2.c4; have t5 := s2.c5; have t6 := s2.c6; have z0 := s3.c 0; have z1 := s3.c 1; have z2 := s3.c 2; simp only [List.getElem?_toArray, List.getElem?_cons_zero, List.getElem?_cons_succ] at z0 z1 z2; go_simp); try with_reducible rfl)
        try simp only [Act.put]
        try simp only [List.setIfInBounds_toArray]
        try simp only [List.set_cons_succ]
        try simp only [List.set_cons_zero]
        refine takeP (i := 15) (d := some 58) (v := ?_) rfl rfl (by kernel_rfl) (by kernel_rfl) (by kernel_rfl) (by kernel_rfl) (by kernel_rfl) (fun _ _ _ h => h) (Or.inl ⟨by rfl, ?_⟩) (by first | exact Or.inr (by assumption) | exact Or.inl (by kernel_rfl)) ?_
        rotate_left
        · ((intro w8 _; go_simp); try with_reducible rfl)
        try simp only [Act.put]
        try simp only [List.setIfInBounds_toArray]
        try simp only [List.set_cons_succ]
        try simp only [List.set_cons_zero]
        refine oneL (i := 14) rfl (by kernel_rfl) (fun K8 hK8 => ?_)
        go_simp
        go_at_call 7; refine (C3.out _ E2.out).mono ?_; rintro e9 m3 ⟨g9, k9, rfl, hs9, f9⟩
        have E3 := Lib.hid (E2.out.trans f9)
        have LY := Lib.hid hs9
        clear hs9
        clear f9
        have hS3 : S m3 := by rw [HS7.out]; exact ⟨QX.out.on E3.out, QY.out.on E3.out, QA.out.on E3.out⟩
        refine hK8 _ _ hS3 ?_
        try simp only [Act.put]
        try simp only [List.setIfInBounds_toArray]
        try simp only [List.set_cons_succ]
        try simp only [List.set_cons_zero]
        refine oneL (i := 16) rfl (by kernel_rfl) (fun K8 hK8 => ?_)
        go_simp
        go_at_call 10; refine (C6.out _ g9 k9 _ E3.out LY.out HFI.out.ey).mono ?_; rintro e9 m4 ⟨rfl, f9⟩
        have E4 := Lib.hid (E3.out.trans f9)
        clear f9
        have hS4 : S m4 := by rw [HS7.out]; exact ⟨QX.out.on E4.out, QY.out.on E4.out, QA.out.on E4.out⟩
        refine hK8 _ _ hS4 ?_
        try simp only [Act.put]
        try simp only [List.setIfInBounds_toArray]
        try simp only [List.set_cons_succ]
        try simp only [List.set_cons_zero]
        refine takeP (i := 17) (d := some 60) (v := ?_) rfl rfl (by kernel_rfl) (by kernel_rfl) (by kernel_rfl) (by kernel_rfl) (by kernel_rfl) (fun _ _ _ h => h) (Or.inl ⟨by rfl, ?_⟩) (by first | exact Or.inr (by assumption) | exact Or.inl (by kernel_rfl)) ?_
        rotate_left
        · ((intro w8 _; go_simp); try with_reducible rfl)
        try simp only [Act.put]
        try simp only [List.setIfInBounds_toArray]
        try simp only [List.set_cons_succ]
        try simp only [List.set_cons_zero]
        refine takeP (i := 18) (d := some 61) (v := ?_) rfl rfl (by kernel_rfl) (by kernel_rfl) (by kernel_rfl) (by kernel_rfl) (by kernel_rfl) (fun _ _ _ h => h) (Or.inl ⟨by rfl, ?_⟩) (by first | exact Or.inr (by assumption) | exact Or.inl (by kernel_rfl)) ?_
        rotate_left
        · ((intro w8 _; go_simp); try with_reducible rfl)
        try simp only [Act.put]
        try simp only [List.setIfInBounds_toArray]
        try simp only [List.set_cons_succ]
        try simp only [List.set_cons_zero]
        refine takeP (i := 19) (d := some 62) (v := ?_) rfl rfl (by kernel_rfl) (by kernel_rfl) (by kernel_rfl) (by kernel_rfl) (by kernel_rfl) (fun _ _ _ h => h) (Or.inl ⟨by rfl, ?_⟩) (by first | exact Or.inr (by assumption) | exact Or.inl (by kernel_rfl)) ?_
        rotate_left
        · ((intro w8 _; go_simp); try with_reducible rfl)
        try simp only [Act.put]
        try simp only [List.setIfInBounds_toArray]
        try simp only [List.set_cons_succ]
        try simp only [List.set_cons_zero]
        refine takeL (i := 20) (d := some 63) (v := ?_) rfl rfl (by kernel_rfl) (by kernel_rfl) (by kernel_rfl) (by kernel_rfl) (by kernel_rfl) (fun _ _ _ h => h) (Or.inl ⟨by rfl, ?_⟩) (by assumption) ?_
        rotate_left
        · ((intro w8 hSw; rw [HS7.out] at hSw; obtain ⟨s1, s2, s3⟩ := hSw; have r1 := s1.c1; have r2 := s1.c2; have r3 := s1.c3; have r4 := s1.c4; have r5 := s1.c5; have r6 := s1.c6; have t1 := s2.c1; have t2 := s2.c2; have t3 := s2.c3; have t4 := s2.c4; have t5 := s2.c5; have t6 := s2.c6; have z0 := s3.c 0; have z1 := s3.c 1; have z2 := s3.c 2; simp only [List.getElem?_toArray, List.getElem?_cons_zero, List.getElem?_cons_succ] at z0 z1 z2; go_simp); try with_reducible rfl)
        try simp only [Act.put]
        try simp only [List.setIfInBounds_toArray]
        try simp only [List.set_cons_succ]
        try simp only [List.set_cons_zero]
        refine takeP (i := 22) (d := some 65) (v := ?_) rfl rfl (by kernel_rfl) (by kernel_rfl) (by kernel_rfl) (by kernel_rfl) (by kernel_rfl) (fun _ _ _ h => h) (Or.inl ⟨by rfl, ?_⟩) (by first | exact Or.inr (by assumption) | exact Or.inl (by kernel_rfl)) ?_
        rotate_left
        · ((intro w8 _; go_simp); try with_reducible rfl)
        try simp only [Act.put]
        try simp only [List.setIfInBounds_toArray]
        try simp only [List.set_cons_succ]
        try simp only [List.set_cons_zero]
        refine takeL (i := 23) (d := some 66) (v := ?_) rfl rfl (by kernel_rfl) (by kernel_rfl) (by kernel_rfl) (by kernel_rfl) (by kernel_rfl) (fun _ _ _ h => h) (Or.inl ⟨by rfl, ?_⟩) (by assumption) ?_
        rotate_left
        · ((intro w8 hSw; rw [HS7.out] at hSw; obtain ⟨s1, s2, s3⟩ := hSw; have r1 := s1.c1; have r2 := s1.c2; have r3 := s1.c3; have r4 := s1.c4; have r5 := s1.c5; have r6 := s1.c6; have t1 := s2.c1; have t2 := s2.c2; have t3 := s2.c3; have t4 := s2.c4; have t5 := s2.c5; have t6 := s2.c6; have z0 := s3.c 0; have z1 := s3.c 1; have z2 := s3.c 2; simp only [List.getElem?_toArray, List.getElem?_cons_zero, List.getElem?_cons_succ] at z0 z1 z2; go_simp); try with_reducible rfl)
        try simp only [Act.put]
        try simp only [List.setIfInBounds_toArray]
        try simp only [List.set_cons_succ]
        try simp only [List.set_cons_zero]
        refine oneL (i := 21) rfl (by kernel_rfl) (fun K8 hK8 => ?_)
        go_simp
        go_at_call 7; refine (C4.out _ E4.out).mono ?_; rintro e9 m5 ⟨g8, k8, rfl, hs9, f9⟩
        have E5 := Lib.hid (E4.out.trans f9)
        have LX := Lib.hid hs9
        clear hs9
        clear f9
        have hS5 : S m5 := by rw [HS7.out]; exact ⟨QX.out.on E5.out, QY.out.on E5.out, QA.out.on E5.out⟩
        refine hK8 _ _ hS5 ?_
        try simp only [Act.put]
        try simp only [List.setIfInBounds_toArray]
        try simp only [List.set_cons_succ]
        try simp only [List.set_cons_zero]
        refine outL (i := 24) rfl (by kernel_rfl) (by kernel_rfl) (fun K8 hK8 => ?_)
        go_simp
        go_at_call 11; refine (C5.out _ g8 k8 _ E5.out LX.out HFI.out.mo (entS_len SX.out (by decide))).mono ?_; rintro e9 m6 ⟨rfl, f9⟩
        have E6 := Lib.hid (E5.out.trans f9)
        clear f9
        refine hK8 _ _ ?_
        try simp only [Act.put]
        try simp only [List.setIfInBounds_toArray]
        try simp only [List.set_cons_succ]
        try simp only [List.set_cons_zero]
        refine takeP (i := 25) (d := some 68) (v := ?_) rfl rfl (by kernel_rfl) (by kernel_rfl) (by kernel_rfl) (by kernel_rfl) (by kernel_rfl) (fun _ _ _ h => h) (Or.inl ⟨by rfl, ?_⟩) (by first | exact Or.inr (by assumption) | exact Or.inl (by kernel_rfl)) ?_
        rotate_left
        · ((intro w8 _; go_simp); try with_reducible rfl)
        try simp only [Act.put]
        try simp only [List.setIfInBounds_toArray]
        try simp only [List.set_cons_succ]
        try simp only [List.set_cons_zero]
        refine takeP (i := 26) (d := some 69) (v := ?_) rfl rfl (by kernel_rfl) (by kernel_rfl) (by kernel_rfl) (by kernel_rfl) (by kernel_rfl) (fun _ _ _ h => h) (Or.inl ⟨by rfl, ?_⟩) (by first | exact Or.inr (by assumption) | exact Or.inl (by kernel_rfl)) ?_
        rotate_left
        · ((intro w8 _; go_simp); try with_reducible rfl)
        try simp only [Act.put]
        try simp only [List.setIfInBounds_toArray]
        try simp only [List.set_cons_succ]
        try simp only [List.set_cons_zero]
        refine lst_done (by kernel_rfl) ?_ _
        have FQ := Lib.hid (F8.out.trans E6.out)
        have BOQ := Lib.hid (BO8.out.on E6.out)
        have HOQ := Lib.hid (HO8.out.on E6.out)
        have LQ := Lib.hid (slJ_on E6.out L8.out)
        clear hS0 hS1 hS2 hS3 hS4 hS5 HS7 E0 E1 E2 E3 E4 E5 E6 C1 C2 C3 C4 C5 C6 QX QY QA BO8 HO8 L8 LX LY F1 F2 F3 F4 F5 F6 F7 F8
        obtain ⟨B12, hB12⟩ : ∃ B12 : Nat, B12 = B12 := ⟨0, rfl⟩
        clear hB12 B12
        have W0 := Lib.hid FQ.out
        have TO := Lib.hid BOQ.out
        have TH := Lib.hid HOQ.out
        have TL := Lib.hid LQ.out
        by_cases hz : (entS o).length = 0
        · have hz' : ((entS o).length : Int) = 0 := by omega
          go_wp2_with fail
          go_at_call 6; refine (alive_any _).mono ?_; rintro e9 w9 ⟨rfl, f9⟩
          have FZ := Lib.hid (FQ.out.trans f9)
          clear f9
          go_wp2
          go_ret
          exact ⟨ret_bool (by simp), FZ.out⟩
        · have hz' : ¬ ((entS o).length : Int) = 0 := by omega
          obtain ⟨r, hr⟩ : ∃ r, r = u % (entS o).length := ⟨_, rfl⟩
          have hrl : r < (entS o).length := by rw [hr]; exact Nat.mod_lt _ (by omega)
          have ht : ((u : Int)).tmod ((entS o).length : Int) = (r : Int) := by rw [hr]; rfl
          have hw1 : IntKind.i64.wrap (u : Int) = (u : Int) := IntWalk.i64_in _ (by have := HU.out; omega)
          have hll := entS_len HF.out (by decide)
          have hw2 : IntKind.i64.wrap (r : Int) = (r : Int) := IntWalk.i64_in _ (by omega)
          have hr1 : (r : Int) < ((entS o).length : Int) := by omega
          obtain ⟨d, f, hd, i0, i1, i2, c0, c1, c2⟩ := TL.out.get hrl
          obtain ⟨z, v, hfd⟩ := fd (valO_iff.1 HP.out) (List.getElem_mem hrl)
          have HFD := Lib.hid hfd
          clear hfd hr
          generalize hb : (entS o)[r] = b at *
          clear hb
          obtain ⟨b0, b1, b2⟩ := b
          simp only at c0 c1 c2
          have HIB := Lib.hid (show I64 b0 ∧ I64 b1 ∧ I64 b2 from ⟨i0, i1, i2⟩)
          clear i0 i1 i2
          first | subst hd | cases hd
          go_upto_region 12 with fail
          obtain ⟨wb, hw⟩ : ∃ w99, World.alloc m6 (.cells #[.int .i64 b0, .int .i64 b1, .int .i64 b2] 29) = w99 := ⟨_, rfl⟩
          have G := Lib.hid (show Fuw m6 wb by rw [← hw]; exact fuwA _ _)
          have W1 := Lib.hid (W0.out.trans G.out)
          have TO1 := Lib.hid (TO.out.on G.out)
          have TH1 := Lib.hid (TH.out.on G.out)
          have TL1 := Lib.hid (slJ_on G.out TL.out)
          have QB := Lib.hid (show Bk wb m6.heap.size #[.int .i64 b0, .int .i64 b1, .int .i64 b2] 29 by rw [← hw]; exact Bk.new _ _ _)
          rw [hw]
          clear hw G c0 c1 c2 ht hw1 hw2 hr1 hz hz' hll hrl
          generalize m6.heap.size = B12 at *
          have x1 := TO1.out.c1; have x2 := TO1.out.c2; have x3 := TO1.out.c3; have x4 := TO1.out.c4; have x5 := TO1.out.c5; have x6 := TO1.out.c6
          have y2 := QB.out.c 2
          simp only [List.getElem?_toArray, List.getElem?_cons_zero, List.getElem?_cons_succ] at y2
          have HK := Lib.hid (delo_x A wb TH1.out (HF.out.tiny (by decide)) HIB.out.2.2 HFD.out.d)
          have SZ := Lib.hid (show Sz 61 z by have := sz_del HF.out b2; rw [HFD.out.d] at this; exact this)
          have SV := Lib.hid (show Sz 62 v by have := sz_ins SZ.out (b0, b1, b2); rw [HFD.out.i] at this; exact this)
          unfold ovv ovC at HK
          go_wp2_with fail
          go_at_call 9; refine HK.out.mono ?_; rintro e9 wc ⟨AZ, rfl, hOZ, f9⟩
          have W2 := Lib.hid (W1.out.trans f9)
          have TL2 := Lib.hid (slJ_on f9 TL1.out)
          have QB2 := Lib.hid (QB.out.on f9)
          have HZ2 := Lib.hid hOZ
          clear f9 hOZ HK x1 x2 x3 x4 x5 x6 y2
          unfold ovv ovC
          go_upto_region 13 with fail
          obtain ⟨wd, hw⟩ : ∃ w99, World.alloc wc (.cells (ovC z AZ) 27) = w99 := ⟨_, rfl⟩
          have G := Lib.hid (show Fuw wc wd by rw [← hw]; exact fuwA _ _)
          have W3 := Lib.hid (W2.out.trans G.out)
          have TL3 := Lib.hid (slJ_on G.out TL2.out)
          have QB3 := Lib.hid (QB2.out.on G.out)
          have HZ3 := Lib.hid (HZ2.out.on G.out)
          have QZ3 := Lib.hid (show OB wd wc.heap.size z AZ from ⟨by rw [← hw]; exact Bk.new _ _ _⟩)
          unfold ovC at hw
          rw [hw]
          clear hw G
          generalize wc.heap.size = B13 at *
          have x1 := QZ3.out.c1; have x2 := QZ3.out.c2; have x3 := QZ3.out.c3; have x4 := QZ3.out.c4; have x5 := QZ3.out.c5; have x6 := QZ3.out.c6
          have y0 := QB3.out.c 0; have y1 := QB3.out.c 1; have y2 := QB3.out.c 2
          simp only [List.getElem?_toArray, List.getElem?_cons_zero, List.getElem?_cons_succ] at y0 y1 y2
          have HK := Lib.hid (inso_x AZ wd HZ3.out (SZ.out.tiny (by decide)) HIB.out HFD.out.i)
          unfold ovv ovC adv at HK
          go_wp2_with fail
          go_at_call 8; refine HK.out.mono ?_; rintro e9 we ⟨AV, rfl, hOV, f9⟩
          have W4 := Lib.hid (W3.out.trans f9)
          have TL4 := Lib.hid (slJ_on f9 TL3.out)
          have QB4 := Lib.hid (QB3.out.on f9)
          have QZ4 := Lib.hid (QZ3.out.on f9)
          have HZ4 := Lib.hid (HZ3.out.on f9)
          have HV4 := Lib.hid hOV
          clear f9 hOV HK x1 x2 x3 x4 x5 x6 y0 y1 y2
          unfold ovv ovC
          go_upto_region 14 with fail
          obtain ⟨wf, hw⟩ : ∃ w99, World.alloc we (.cells (ovC v AV) 27) = w99 := ⟨_, rfl⟩
          have G := Lib.hid (show Fuw we wf by rw [← hw]; exact fuwA _ _)
          have W5 := Lib.hid (W4.out.trans G.out)
          have TL5 := Lib.hid (slJ_on G.out TL4.out)
          have QA := Lib.hid (QB4.out.on G.out)
          have QX := Lib.hid (QZ4.out.on G.out)
          have HZ5 := Lib.hid (HZ4.out.on G.out)
          have HV5 := Lib.hid (HV4.out.on G.out)
          have QY := Lib.hid (show OB wf we.heap.size v AV from ⟨by rw [← hw]; exact Bk.new _ _ _⟩)
          unfold ovC at hw
          rw [hw]
          clear hw G
          generalize we.heap.size = B15 at *
          have C1 := Lib.hid (fun w' (hf : Fuw wf w') => valo_x AZ w' (HZ5.out.on hf) (SZ.out.tiny (by decide)) HFD.out.vz)
          have C2 := Lib.hid (fun w' (hf : Fuw wf w') => valo_x AV w' (HV5.out.on hf) (SV.out.tiny (by decide)) HFD.out.vv)
          have C3 := Lib.hid (fun w' (hf : Fuw wf w') => ents_x AZ w' (HZ5.out.on hf) (SZ.out.tiny (by decide)))
          have C4 := Lib.hid (fun w' (hf : Fuw wf w') => ents_x AV w' (HV5.out.on hf) (SV.out.tiny (by decide)))
          have C5 := Lib.hid (fun (m : List Aj) (b k) w' (hf : Fuw wf w') (hm : SlJ w' b m k) (he : More (entS o) m (b0, b1, b2)) => more_any (entS o) m (some ⟨d, f, none⟩) b k7 k (b0, b1, b2) w' (slJ_on hf TL5.out) hm he (entS_len HF.out (by decide)))
          have C6 := Lib.hid (fun (m : List Aj) (b k) w' (hf : Fuw wf w') (hm : SlJ w' b m k) (he : m = entS o) => (show Calls Try.prog 10 #[.slice b m.length k, .slice (some ⟨d, f, none⟩) (entS o).length k7] w' (FwB w' true) by have q := adjs_any m (entS o) b (some ⟨d, f, none⟩) k k7 w' hm (slJ_on hf TL5.out); rw [decide_eq_true he] at q; exact q))
          unfold ovv ovC at C1 C2 C3 C4
          unfold adv at C5
          obtain ⟨S, hS⟩ : ∃ S : World → Prop, S = (fun w8 => OB w8 B13 z AZ ∧ OB w8 B15 v AV ∧ Bk w8 B12 #[.int .i64 b0, .int .i64 b1, .int .i64 b2] 29) := ⟨_, rfl⟩
          have HS8 := Lib.hid hS
          clear hS
          refine lst_start [28] S (by kernel_rfl) ?_
          have E0 := Lib.hid (fuw_dr wf 1)
          have hS0 : S wf.drew := by rw [HS8.out]; exact ⟨QX.out.on E0.out, QY.out.on E0.out, QA.out.on E0.out⟩
          refine takeP (i := 0) (d := some 95) (v := ?_) rfl rfl (by kernel_rfl) (by kernel_rfl) (by kernel_rfl) (by kernel_rfl) (by kernel_rfl) (fun _ _ _ h => h) (Or.inl ⟨by rfl, ?_⟩) (by first | exact Or.inr (by assumption) | exact Or.inl (by kernel_rfl)) ?_
          rotate_left
          · ((intro w8 _; go_simp); try with_reducible rfl)
          try simp only [Act.put]
          try simp only [List.setIfInBounds_toArray]
          try simp only [List.set_cons_succ]
          try simp only [List.set_cons_zero]
          refine takeP (i := 1) (d := some 96) (v := ?_) rfl rfl (by kernel_rfl) (by kernel_rfl) (by kernel_rfl) (by kernel_rfl) (by kernel_rfl) (fun _ _ _ h => h) (Or.inl ⟨by rfl, ?_⟩) (by first | exact Or.inr (by assumption) | exact Or.inl (by kernel_rfl)) ?_
          rotate_left
          · ((intro w8 _; go_simp); try with_reducible rfl)
          try simp only [Act.put]
          try simp only [List.setIfInBounds_toArray]
          try simp only [List.set_cons_succ]
          try simp only [List.set_cons_zero]
          refine takeP (i := 2) (d := some 97) (v := ?_) rfl rfl (by kernel_rfl) (by kernel_rfl) (by kernel_rfl) (by kernel_rfl) (by kernel_rfl) (fun _ _ _ h => h) (Or.inl ⟨by rfl, ?_⟩) (by first | exact Or.inr (by assumption) | exact Or.inl (by kernel_rfl)) ?_
          rotate_left
          · ((intro w8 _; go_simp); try with_reducible rfl)
          try simp only [Act.put]
          try simp only [List.setIfInBounds_toArray]
          try simp only [List.set_cons_succ]
          try simp only [List.set_cons_zero]
          refine takeP (i := 3) (d := some 98) (v := ?_) rfl rfl (by kernel_rfl) (by kernel_rfl) (by kernel_rfl) (by kernel_rfl) (by kernel_rfl) (fun _ _ _ h => h) (Or.inl ⟨by rfl, ?_⟩) (by first | exact Or.inr (by assumption) | exact Or.inl (by kernel_rfl)) ?_
          rotate_left
          · ((intro w8 _; go_simp); try with_reducible rfl)
          try simp only [Act.put]
          try simp only [List.setIfInBounds_toArray]
          try simp only [List.set_cons_succ]
          try simp only [List.set_cons_zero]
          refine takeP (i := 4) (d := some 99) (v := ?_) rfl rfl (by kernel_rfl) (by kernel_rfl) (by kernel_rfl) (by kernel_rfl) (by kernel_rfl) (fun _ _ _ h => h) (Or.inl ⟨by rfl, ?_⟩) (by first | exact Or.inr (by assumption) | exact Or.inl (by kernel_rfl)) ?_
          rotate_left
          · ((intro w8 _; go_simp); try with_reducible rfl)
          try simp only [Act.put]
          try simp only [List.setIfInBounds_toArray]
          try simp only [List.set_cons_succ]
          try simp only [List.set_cons_zero]
          refine takeP (i := 5) (d := some 100) (v := ?_) rfl rfl (by kernel_rfl) (by kernel_rfl) (by kernel_rfl) (by kernel_rfl) (by kernel_rfl) (fun _ _ _ h => h) (Or.inl ⟨by rfl, ?_⟩) (by first | exact Or.inr (by assumption) | exact Or.inl (by kernel_rfl)) ?_
          rotate_left
          · ((intro w8 _; go_simp); try with_reducible rfl)
          try simp only [Act.put]
          try simp only [List.setIfInBounds_toArray]
          try simp only [List.set_cons_succ]
          try simp only [List.set_cons_zero]
          refine takeP (i := 6) (d := some 101) (v := ?_) rfl rfl (by kernel_rfl) (by kernel_rfl) (by kernel_rfl) (by kernel_rfl) (by kernel_rfl) (fun _ _ _ h => h) (Or.inl ⟨by rfl, ?_⟩) (by first | exact Or.inr (by assumption) | exact Or.inl (by kernel_rfl)) ?_
          rotate_left
          · ((intro w8 _; go_simp); try with_reducible rfl)
          try simp only [Act.put]
          try simp only [List.setIfInBounds_toArray]
          try simp only [List.set_cons_succ]
          try simp only [List.set_cons_zero]
          refine takeL (i := 7) (d := some 102) (v := ?_) rfl rfl (by kernel_rfl) (by kernel_rfl) (by kernel_rfl) (by kernel_rfl) (by kernel_rfl) (fun _ _ _ h => h) (Or.inl ⟨by rfl, ?_⟩) (by assumption) ?_
          rotate_left
          · ((intro w8 hSw; rw [HS8.out] at hSw; obtain ⟨s1, s2, s3⟩ := hSw; have r1 := s1.c1; have r2 := s1.c2; have r3 := s1.c3; have r4 := s1.c4; have r5 := s1.c5; have r6 := s1.c6; have t1 := s2.c1; have t2 := s2.c2; have t3 := s2.c3; have t4 := s2.c4; have t5 := s2.c5; have t6 := s2.c6; have z0 := s3.c 0; have z1 := s3.c 1; have z2 := s3.c 2; simp only [List.getElem?_toArray, List.getElem?_cons_zero, List.getElem?_cons_succ] at z0 z1 z2; go_simp); try with_reducible rfl)
          try simp only [Act.put]
          try simp only [List.setIfInBounds_toArray]
          try simp only [List.set_cons_succ]
          try simp only [List.set_cons_zero]
          refine oneL (i := 8) rfl (by kernel_rfl) (fun K8 hK8 => ?_)
          go_simp
          go_at_call 5; refine (C1.out _ E0.out).mono ?_; rintro e9 n1 ⟨rfl, f9⟩
          have E1 := Lib.hid (E0.out.trans f9)
          clear f9
          have hS1 : S n1 := by rw [HS8.out]; exact ⟨QX.out.on E1.out, QY.out.on E1.out, QA.out.on E1.out⟩
          refine hK8 _ _ hS1 ?_
          try simp only [Act.put]
          try simp only [List.setIfInBounds_toArray]
          try simp only [List.set_cons_succ]
          try simp only [List.set_cons_zero]
          refine takeP (i := 9) (d := some 104) (v := ?_) rfl rfl (by kernel_rfl) (by kernel_rfl) (by kernel_rfl) (by kernel_rfl) (by kernel_rfl) (fun _ _ _ h => h) (Or.inl ⟨by rfl, ?_⟩) (by first | exact Or.inr (by assumption) | exact Or.inl (by kernel_rfl)) ?_
          rotate_left
          · ((intro w8 _; go_simp); try with_reducible rfl)
          try simp only [Act.put]
          try simp only [List.setIfInBounds_toArray]
          try simp only [List.set_cons_succ]
          try simp only [List.set_cons_zero]
          refine takeP (i := 10) (d := some 105) (v := ?_) rfl rfl (by kernel_rfl) (by kernel_rfl) (by kernel_rfl) (by kernel_rfl) (by kernel_rfl) (fun _ _ _ h => h) (Or.inl ⟨by rfl, ?_⟩) (by first | exact Or.inr (by assumption) | exact Or.inl (by kernel_rfl)) ?_
          rotate_left
          · ((intro w8 _; go_simp); try with_reducible rfl)
          try simp only [Act.put]
          try simp only [List.setIfInBounds_toArray]
          try simp only [List.set_cons_succ]
          try simp only [List.set_cons_zero]
          refine takeL (i := 11) (d := some 106) (v := ?_) rfl rfl (by kernel_rfl) (by kernel_rfl) (by kernel_rfl) (by kernel_rfl) (by kernel_rfl) (fun _ _ _ h => h) (Or.inl ⟨by rfl, ?_⟩) (by assumption) ?_
          rotate_left
          · ((intro w8 hSw; rw [HS8.out] at hSw; obtain ⟨s1, s2, s3⟩ := hSw; have r1 := s1.c1; have r2 := s1.c2; have r3 := s1.c3; have r4 := s1.c4; have r5 := s1.c5; have r6 := s1.c6; have t1 := s2.c1; have t2 := s2.c2; have t3 := s2.c3; have t4 := s2.c4; have t5 := s2.c5; have t6 := s2.c6; have z0 := s3.c 0; have z1 := s3.c 1; have z2 := s3.c 2; simp only [List.getElem?_toArray, List.getElem?_cons_zero, List.getElem?_cons_succ] at z0 z1 z2; go_simp); try with_reducible rfl)
          try simp only [Act.put]
          try simp only [List.setIfInBounds_toArray]
          try simp only [List.set_cons_succ]
          try simp only [List.set_cons_zero]
          refine oneL (i := 12) rfl (by kernel_rfl) (fun K8 hK8 => ?_)
          go_simp
          go_at_call 5; refine (C2.out _ E1.out).mono ?_; rintro e9 n2 ⟨rfl, f9⟩
          have E2 := Lib.hid (E1.out.trans f9)
          clear f9
          have hS2 : S n2 := by rw [HS8.out]; exact ⟨QX.out.on E2.out, QY.out.on E2.out, QA.out.on E2.out⟩
          refine hK8 _ _ hS2 ?_
          try simp only [Act.put]
          try simp only [List.setIfInBounds_toArray]
          try simp only [List.set_cons_succ]
          try simp only [List.set_cons_zero]
          refine takeP (i := 13) (d := some 108) (v := ?_) rfl rfl (by kernel_rfl) (by kernel_rfl) (by kernel_rfl) (by kernel_rfl) (by kernel_rfl) (fun _ _ _ h => h) (Or.inl ⟨by rfl, ?_⟩) (by first | exact Or.inr (by assumption) | exact Or.inl (by kernel_rfl)) ?_
          rotate_left
          · ((intro w8 _; go_simp); try with_reducible rfl)
          try simp only [Act.put]
          try simp only [List.setIfInBounds_toArray]
          try simp only [List.set_cons_succ]
          try simp only [List.set_cons_zero]
          refine takeP (i := 14) (d := some 109) (v := ?_) rfl rfl (by kernel_rfl) (by kernel_rfl) (by kernel_rfl) (by kernel_rfl) (by kernel_rfl) (fun _ _ _ h => h) (Or.inl ⟨by rfl, ?_⟩) (by first | exact Or.inr (by assumption) | exact Or.inl (by kernel_rfl)) ?_
          rotate_left
          · ((intro w8 _; go_simp); try with_reducible rfl)
          try simp only [Act.put]
          try simp only [List.setIfInBounds_toArray]
          try simp only [List.set_cons_succ]
          try simp only [List.set_cons_zero]
          refine takeP (i := 15) (d := some 110) (v := ?_) rfl rfl (by kernel_rfl) (by kernel_rfl) (by kernel_rfl) (by kernel_rfl) (by kernel_rfl) (fun _ _ _ h => h) (Or.inl ⟨by rfl, ?_⟩) (by first | exact Or.inr (by assumption) | exact Or.inl (by kernel_rfl)) ?_
          rotate_left
          · ((intro w8 _; go_simp); try with_reducible rfl)
          try simp only [Act.put]
          try simp only [List.setIfInBounds_toArray]
          try simp only [List.set_cons_succ]
          try simp only [List.set_cons_zero]
          refine takeL (i := 16) (d := some 111) (v := ?_) rfl rfl (by kernel_rfl) (by kernel_rfl) (by kernel_rfl) (by kernel_rfl) (by kernel_rfl) (fun _ _ _ h => h) (Or.inl ⟨by rfl, ?_⟩) (by assumption) ?_
          rotate_left
          · ((intro w8 hSw; rw [HS8.out] at hSw; obtain ⟨s1, s2, s3⟩ := hSw; have r1 := s1.c1; have r2 := s1.c2; have r3 := s1.c3; have r4 := s1.c4; have r5 := s1.c5; have r6 := s1.c6; have t1 := s2.c1; have t2 := s2.c2; have t3 := s2.c3; have t4 := s2.c4; have t5 := s2.c5; have t6 := s2.c6; have z0 := s3.c 0; have z1 := s3.c 1; have z2 := s3.c 2; simp only [List.getElem?_toArray, List.getElem?_cons_zero, List.getElem?_cons_succ] at z0 z1 z2; go_simp); try with_reducible rfl)
          try simp only [Act.put]
          try simp only [List.setIfInBounds_toArray]
          try simp only [List.set_cons_succ]
          try simp only [List.set_cons_zero]
          refine takeL (i := 18) (d := some 113) (v := ?_) rfl rfl (by kernel_rfl) (by kernel_rfl) (by kernel_rfl) (by kernel_rfl) (by kernel_rfl) (fun _ _ _ h => h) (Or.inl ⟨by rfl, ?_⟩) (by assumption) ?_
          rotate_left
          · ((intro w8 hSw; rw [HS8.out] at hSw; obtain ⟨s1, s2, s3⟩ := hSw; have r1 := s1.c1; have r2 := s1.c2; have r3 := s1.c3; have r4 := s1.c4; have r5 := s1.c5; have r6 := s1.c6; have t1 := s2.c1; have t2 := s2.c2; have t3 := s2.c3; have t4 := s2.c4; have t5 := s2.c5; have t6 := s2.c6; have z0 := s3.c 0; have z1 := s3.c 1; have z2 := s3.c 2; simp only [List.getElem?_toArray, List.getElem?_cons_zero, List.getElem?_cons_succ] at z0 z1 z2; go_simp); try with_reducible rfl)
          try simp only [Act.put]
          try simp only [List.setIfInBounds_toArray]
          try simp only [List.set_cons_succ]
          try simp only [List.set_cons_zero]
          refine oneL (i := 17) rfl (by kernel_rfl) (fun K8 hK8 => ?_)
          go_simp
          go_at_call 7; refine (C3.out _ E2.out).mono ?_; rintro e9 n3 ⟨g9, k9, rfl, hs9, f9⟩
          have E3 := Lib.hid (E2.out.trans f9)
          have LZ := Lib.hid hs9
          clear hs9
          clear f9
          have hS3 : S n3 := by rw [HS8.out]; exact ⟨QX.out.on E3.out, QY.out.on E3.out, QA.out.on E3.out⟩
          refine hK8 _ _ hS3 ?_
          try simp only [Act.put]
          try simp only [List.setIfInBounds_toArray]
          try simp only [List.set_cons_succ]
          try simp only [List.set_cons_zero]
          refine oneL (i := 19) rfl (by kernel_rfl) (fun K8 hK8 => ?_)
          go_simp
          go_at_call 11; refine (C5.out _ g9 k9 _ E3.out LZ.out HFD.out.mo).mono ?_; rintro e9 n4 ⟨rfl, f9⟩
          have E4 := Lib.hid (E3.out.trans f9)
          clear f9
          have hS4 : S n4 := by rw [HS8.out]; exact ⟨QX.out.on E4.out, QY.out.on E4.out, QA.out.on E4.out⟩
          refine hK8 _ _ hS4 ?_
          try simp only [Act.put]
          try simp only [List.setIfInBounds_toArray]
          try simp only [List.set_cons_succ]
          try simp only [List.set_cons_zero]
          refine takeP (i := 20) (d := some 115) (v := ?_) rfl rfl (by kernel_rfl) (by kernel_rfl) (by kernel_rfl) (by kernel_rfl) (by kernel_rfl) (fun _ _ _ h => h) (Or.inl ⟨by rfl, ?_⟩) (by first | exact Or.inr (by assumption) | exact Or.inl (by kernel_rfl)) ?_
          rotate_left
          · ((intro w8 _; go_simp); try with_reducible rfl)
          try simp only [Act.put]
          try simp only [List.setIfInBounds_toArray]
          try simp only [List.set_cons_succ]
          try simp only [List.set_cons_zero]
          refine takeP (i := 21) (d := some 116) (v := ?_) rfl rfl (by kernel_rfl) (by kernel_rfl) (by kernel_rfl) (by kernel_rfl) (by kernel_rfl) (fun _ _ _ h => h) (Or.inl ⟨by rfl, ?_⟩) (by first | exact Or.inr (by assumption) | exact Or.inl (by kernel_rfl)) ?_
          rotate_left
          · ((intro w8 _; go_simp); try with_reducible rfl)
          try simp only [Act.put]
          try simp only [List.setIfInBounds_toArray]
          try simp only [List.set_cons_succ]
          try simp only [List.set_cons_zero]
          refine takeL (i := 22) (d := some 117) (v := ?_) rfl rfl (by kernel_rfl) (by kernel_rfl) (by kernel_rfl) (by kernel_rfl) (by kernel_rfl) (fun _ _ _ h => h) (Or.inl ⟨by rfl, ?_⟩) (by assumption) ?_
          rotate_left
          · ((intro w8 hSw; rw [HS8.out] at hSw; obtain ⟨s1, s2, s3⟩ := hSw; have r1 := s1.c1; have r2 := s1.c2; have r3 := s1.c3; have r4 := s1.c4; have r5 := s1.c5; have r6 := s1.c6; have t1 := s2.c1; have t2 := s2.c2; have t3 := s2.c3; have t4 := s2.c4; have t5 := s2.c5; have t6 := s2.c6; have z0 := s3.c 0; have z1 := s3.c 1; have z2 := s3.c 2; simp only [List.getElem?_toArray, List.getElem?_cons_zero, List.getElem?_cons_succ] at z0 z1 z2; go_simp); try with_reducible rfl)
          try simp only [Act.put]
          try simp only [List.setIfInBounds_toArray]
          try simp only [List.set_cons_succ]
          try simp only [List.set_cons_zero]
          refine takeP (i := 24) (d := some 119) (v := ?_) rfl rfl (by kernel_rfl) (by kernel_rfl) (by kernel_rfl) (by kernel_rfl) (by kernel_rfl) (fun _ _ _ h => h) (Or.inl ⟨by rfl, ?_⟩) (by first | exact Or.inr (by assumption) | exact Or.inl (by kernel_rfl)) ?_
          rotate_left
          · ((intro w8 _; go_simp); try with_reducible rfl)
          try simp only [Act.put]
          try simp only [List.setIfInBounds_toArray]
          try simp only [List.set_cons_succ]
          try simp only [List.set_cons_zero]
          refine oneL (i := 23) rfl (by kernel_rfl) (fun K8 hK8 => ?_)
          go_simp
          go_at_call 7; refine (C4.out _ E4.out).mono ?_; rintro e9 n5 ⟨g8, k8, rfl, hs9, f9⟩
          have E5 := Lib.hid (E4.out.trans f9)
          have LV := Lib.hid hs9
          clear hs9
          clear f9
          have hS5 : S n5 := by rw [HS8.out]; exact ⟨QX.out.on E5.out, QY.out.on E5.out, QA.out.on E5.out⟩
          refine hK8 _ _ hS5 ?_
          try simp only [Act.put]
          try simp only [List.setIfInBounds_toArray]
          try simp only [List.set_cons_succ]
          try simp only [List.set_cons_zero]
          refine oneL (i := 25) rfl (by kernel_rfl) (fun K8 hK8 => ?_)
          go_simp
          go_at_call 10; refine (C6.out _ g8 k8 _ E5.out LV.out HFD.out.ev).mono ?_; rintro e9 n6 ⟨rfl, f9⟩
          have E6 := Lib.hid (E5.out.trans f9)
          clear f9
          have hS6 : S n6 := by rw [HS8.out]; exact ⟨QX.out.on E6.out, QY.out.on E6.out, QA.out.on E6.out⟩
          refine hK8 _ _ hS6 ?_
          try simp only [Act.put]
          try simp only [List.setIfInBounds_toArray]
          try simp only [List.set_cons_succ]
          try simp only [List.set_cons_zero]
          refine takeP (i := 26) (d := some 121) (v := ?_) rfl rfl (by kernel_rfl) (by kernel_rfl) (by kernel_rfl) (by kernel_rfl) (by kernel_rfl) (fun _ _ _ h => h) (Or.inl ⟨by rfl, ?_⟩) (by first | exact Or.inr (by assumption) | exact Or.inl (by kernel_rfl)) ?_
          rotate_left
          · ((intro w8 _; go_simp); try with_reducible rfl)
          try simp only [Act.put]
          try simp only [List.setIfInBounds_toArray]
          try simp only [List.set_cons_succ]
          try simp only [List.set_cons_zero]
          refine takeP (i := 27) (d := some 122) (v := ?_) rfl rfl (by kernel_rfl) (by kernel_rfl) (by kernel_rfl) (by kernel_rfl) (by kernel_rfl) (fun _ _ _ h => h) (Or.inl ⟨by rfl, ?_⟩) (by first | exact Or.inr (by assumption) | exact Or.inl (by kernel_rfl)) ?_
          rotate_left
          · ((intro w8 _; go_simp); try with_reducible rfl)
          try simp only [Act.put]
          try simp only [List.setIfInBounds_toArray]
          try simp only [List.set_cons_succ]
          try simp only [List.set_cons_zero]
          refine outL (i := 28) rfl (by kernel_rfl) (by kernel_rfl) (fun K8 hK8 => ?_)
          go_simp
          go_at_call 6; refine (alive_any _).mono ?_; rintro e9 n7 ⟨rfl, f9⟩
          have FZ := Lib.hid ((W5.out.trans E6.out).trans f9)
          clear f9
          refine hK8 _ _ ?_
          try simp only [Act.put]
          try simp only [List.setIfInBounds_toArray]
          try simp only [List.set_cons_succ]
          try simp only [List.set_cons_zero]
          refine takeP (i := 29) (d := some 124) (v := ?_) rfl rfl (by kernel_rfl) (by kernel_rfl) (by kernel_rfl) (by kernel_rfl) (by kernel_rfl) (fun _ _ _ h => h) (Or.inl ⟨by rfl, ?_⟩) (by first | exact Or.inr (by assumption) | exact Or.inl (by kernel_rfl)) ?_
          rotate_left
          · ((intro w8 _; go_simp); try with_reducible rfl)
          try simp only [Act.put]
          try simp only [List.setIfInBounds_toArray]
          try simp only [List.set_cons_succ]
          try simp only [List.set_cons_zero]
          refine takeP (i := 30) (d := some 6) (v := ?_) rfl rfl (by kernel_rfl) (by kernel_rfl) (by kernel_rfl) (by kernel_rfl) (by kernel_rfl) (fun _ _ _ h => h) (Or.inl ⟨by rfl, ?_⟩) (by first | exact Or.inr (by assumption) | exact Or.inl (by kernel_rfl)) ?_
          rotate_left
          · ((intro w8 _; go_simp); try with_reducible rfl)
          try simp only [Act.put]
          try simp only [List.setIfInBounds_toArray]
          try simp only [List.set_cons_succ]
          try simp only [List.set_cons_zero]
          refine lst_done (by kernel_rfl) ?_ _
          go_wp2
          go_ret
          exact ⟨ret_bool (by simp), FZ.out⟩
      · have hn0' : ¬ n = 0 := hn0
        obtain ⟨B12, hB12⟩ : ∃ B12 : Nat, B12 = B12 := ⟨0, rfl⟩
        clear hB12 B12
        have W0 := Lib.hid F6.out
        have TO := Lib.hid BO6.out
        have TH := Lib.hid HO6.out
        have TL := Lib.hid L6.out
        by_cases hz : (entS o).length = 0
        · have hz' : ((entS o).length : Int) = 0 := by omega
          go_wp2_with fail
          go_at_call 6; refine (alive_any _).mono ?_; rintro e9 w9 ⟨rfl, f9⟩
          have FZ := Lib.hid (F6.out.trans f9)
          clear f9
          go_wp2
          go_ret
          exact ⟨ret_bool (by simp), FZ.out⟩
        · have hz' : ¬ ((entS o).length : Int) = 0 := by omega
          obtain ⟨r, hr⟩ : ∃ r, r = u % (entS o).length := ⟨_, rfl⟩
          have hrl : r < (entS o).length := by rw [hr]; exact Nat.mod_lt _ (by omega)
          have ht : ((u : Int)).tmod ((entS o).length : Int) = (r : Int) := by rw [hr]; rfl
          have hw1 : IntKind.i64.wrap (u : Int) = (u : Int) := IntWalk.i64_in _ (by have := HU.out; omega)
          have hll := entS_len HF.out (by decide)
          have hw2 : IntKind.i64.wrap (r : Int) = (r : Int) := IntWalk.i64_in _ (by omega)
          have hr1 : (r : Int) < ((entS o).length : Int) := by omega
          obtain ⟨d, f, hd, i0, i1, i2, c0, c1, c2⟩ := TL.out.get hrl
          obtain ⟨z, v, hfd⟩ := fd (valO_iff.1 HP.out) (List.getElem_mem hrl)
          have HFD := Lib.hid hfd
          clear hfd hr
          generalize hb : (entS o)[r] = b at *
          clear hb
          obtain ⟨b0, b1, b2⟩ := b
          simp only at c0 c1 c2
          have HIB := Lib.hid (show I64 b0 ∧ I64 b1 ∧ I64 b2 from ⟨i0, i1, i2⟩)
          clear i0 i1 i2
          first | subst hd | cases hd
          go_upto_region 12 with fail
          obtain ⟨wb, hw⟩ : ∃ w99, World.alloc w6 (.cells #[.int .i64 b0, .int .i64 b1, .int .i64 b2] 29) = w99 := ⟨_, rfl⟩
          have G := Lib.hid (show Fuw w6 wb by rw [← hw]; exact fuwA _ _)
          have W1 := Lib.hid (W0.out.trans G.out)
          have TO1 := Lib.hid (TO.out.on G.out)
          have TH1 := Lib.hid (TH.out.on G.out)
          have TL1 := Lib.hid (slJ_on G.out TL.out)
          have QB := Lib.hid (show Bk wb w6.heap.size #[.int .i64 b0, .int .i64 b1, .int .i64 b2] 29 by rw [← hw]; exact Bk.new _ _ _)
          rw [hw]
          clear hw G c0 c1 c2 ht hw1 hw2 hr1 hz hz' hll hrl
          generalize w6.heap.size = B12 at *
          have x1 := TO1.out.c1; have x2 := TO1.out.c2; have x3 := TO1.out.c3; have x4 := TO1.out.c4; have x5 := TO1.out.c5; have x6 := TO1.out.c6
          have y2 := QB.out.c 2
          simp only [List.getElem?_toArray, List.getElem?_cons_zero, List.getElem?_cons_succ] at y2
          have HK := Lib.hid (delo_x A wb TH1.out (HF.out.tiny (by decide)) HIB.out.2.2 HFD.out.d)
          have SZ := Lib.hid (show Sz 61 z by have := sz_del HF.out b2; rw [HFD.out.d] at this; exact this)
          have SV := Lib.hid (show Sz 62 v by have := sz_ins SZ.out (b0, b1, b2); rw [HFD.out.i] at this; exact this)
          unfold ovv ovC at HK
          go_wp2_with fail
          go_at_call 9; refine HK.out.mono ?_; rintro e9 wc ⟨AZ, rfl, hOZ, f9⟩
          have W2 := Lib.hid (W1.out.trans f9)
          have TL2 := Lib.hid (slJ_on f9 TL1.out)
          have QB2 := Lib.hid (QB.out.on f9)
          have HZ2 := Lib.hid hOZ
          clear f9 hOZ HK x1 x2 x3 x4 x5 x6 y2
          unfold ovv ovC
          go_upto_region 13 with fail
          obtain ⟨wd, hw⟩ : ∃ w99, World.alloc wc (.cells (ovC z AZ) 27) = w99 := ⟨_, rfl⟩
          have G := Lib.hid (show Fuw wc wd by rw [← hw]; exact fuwA _ _)
          have W3 := Lib.hid (W2.out.trans G.out)
          have TL3 := Lib.hid (slJ_on G.out TL2.out)
          have QB3 := Lib.hid (QB2.out.on G.out)
          have HZ3 := Lib.hid (HZ2.out.on G.out)
          have QZ3 := Lib.hid (show OB wd wc.heap.size z AZ from ⟨by rw [← hw]; exact Bk.new _ _ _⟩)
          unfold ovC at hw
          rw [hw]
          clear hw G
          generalize wc.heap.size = B13 at *
          have x1 := QZ3.out.c1; have x2 := QZ3.out.c2; have x3 := QZ3.out.c3; have x4 := QZ3.out.c4; have x5 := QZ3.out.c5; have x6 := QZ3.out.c6
          have y0 := QB3.out.c 0; have y1 := QB3.out.c 1; have y2 := QB3.out.c 2
          simp only [List.getElem?_toArray, List.getElem?_cons_zero, List.getElem?_cons_succ] at y0 y1 y2
          have HK := Lib.hid (inso_x AZ wd HZ3.out (SZ.out.tiny (by decide)) HIB.out HFD.out.i)
          unfold ovv ovC adv at HK
          go_wp2_with fail
          go_at_call 8; refine HK.out.mono ?_; rintro e9 we ⟨AV, rfl, hOV, f9⟩
          have W4 := Lib.hid (W3.out.trans f9)
          have TL4 := Lib.hid (slJ_on f9 TL3.out)
          have QB4 := Lib.hid (QB3.out.on f9)
          have QZ4 := Lib.hid (QZ3.out.on f9)
          have HZ4 := Lib.hid (HZ3.out.on f9)
          have HV4 := Lib.hid hOV
          clear f9 hOV HK x1 x2 x3 x4 x5 x6 y0 y1 y2
          unfold ovv ovC
          go_upto_region 14 with fail
          obtain ⟨wf, hw⟩ : ∃ w99, World.alloc we (.cells (ovC v AV) 27) = w99 := ⟨_, rfl⟩
          have G := Lib.hid (show Fuw we wf by rw [← hw]; exact fuwA _ _)
          have W5 := Lib.hid (W4.out.trans G.out)
          have TL5 := Lib.hid (slJ_on G.out TL4.out)
          have QA := Lib.hid (QB4.out.on G.out)
          have QX := Lib.hid (QZ4.out.on G.out)
          have HZ5 := Lib.hid (HZ4.out.on G.out)
          have HV5 := Lib.hid (HV4.out.on G.out)
          have QY := Lib.hid (show OB wf we.heap.size v AV from ⟨by rw [← hw]; exact Bk.new _ _ _⟩)
          unfold ovC at hw
          rw [hw]
          clear hw G
          generalize we.heap.size = B15 at *
          have C1 := Lib.hid (fun w' (hf : Fuw wf w') => valo_x AZ w' (HZ5.out.on hf) (SZ.out.tiny (by decide)) HFD.out.vz)
          have C2 := Lib.hid (fun w' (hf : Fuw wf w') => valo_x AV w' (HV5.out.on hf) (SV.out.tiny (by decide)) HFD.out.vv)
          have C3 := Lib.hid (fun w' (hf : Fuw wf w') => ents_x AZ w' (HZ5.out.on hf) (SZ.out.tiny (by decide)))
          have C4 := Lib.hid (fun w' (hf : Fuw wf w') => ents_x AV w' (HV5.out.on hf) (SV.out.tiny (by decide)))
          have C5 := Lib.hid (fun (m : List Aj) (b k) w' (hf : Fuw wf w') (hm : SlJ w' b m k) (he : More (entS o) m (b0, b1, b2)) => more_any (entS o) m (some ⟨d, f, none⟩) b k7 k (b0, b1, b2) w' (slJ_on hf TL5.out) hm he (entS_len HF.out (by decide)))
          have C6 := Lib.hid (fun (m : List Aj) (b k) w' (hf : Fuw wf w') (hm : SlJ w' b m k) (he : m = entS o) => (show Calls Try.prog 10 #[.slice b m.length k, .slice (some ⟨d, f, none⟩) (entS o).length k7] w' (FwB w' true) by have q := adjs_any m (entS o) b (some ⟨d, f, none⟩) k k7 w' hm (slJ_on hf TL5.out); rw [decide_eq_true he] at q; exact q))
          unfold ovv ovC at C1 C2 C3 C4
          unfold adv at C5
          obtain ⟨S, hS⟩ : ∃ S : World → Prop, S = (fun w8 => OB w8 B13 z AZ ∧ OB w8 B15 v AV ∧ Bk w8 B12 #[.int .i64 b0, .int .i64 b1, .int .i64 b2] 29) := ⟨_, rfl⟩
          have HS8 := Lib.hid hS
          clear hS
          refine lst_start [28] S (by kernel_rfl) ?_
          have E0 := Lib.hid (fuw_dr wf 1)
          have hS0 : S wf.drew := by rw [HS8.out]; exact ⟨QX.out.on E0.out, QY.out.on E0.out, QA.out.on E0.out⟩
          refine takeP (i := 0) (d := some 95) (v := ?_) rfl rfl (by kernel_rfl) (by kernel_rfl) (by kernel_rfl) (by kernel_rfl) (by kernel_rfl) (fun _ _ _ h => h) (Or.inl ⟨by rfl, ?_⟩) (by first | exact Or.inr (by assumption) | exact Or.inl (by kernel_rfl)) ?_
          rotate_left
          · ((intro w8 _; go_simp); try with_reducible rfl)
          try simp only [Act.put]
          try simp only [List.setIfInBounds_toArray]
          try simp only [List.set_cons_succ]
          try simp only [List.set_cons_zero]
          refine takeP (i := 1) (d := some 96) (v := ?_) rfl rfl (by kernel_rfl) (by kernel_rfl) (by kernel_rfl) (by kernel_rfl) (by kernel_rfl) (fun _ _ _ h => h) (Or.inl ⟨by rfl, ?_⟩) (by first | exact Or.inr (by assumption) | exact Or.inl (by kernel_rfl)) ?_
          rotate_left
          · ((intro w8 _; go_simp); try with_reducible rfl)
          try simp only [Act.put]
          try simp only [List.setIfInBounds_toArray]
          try simp only [List.set_cons_succ]
          try simp only [List.set_cons_zero]
          refine takeP (i := 2) (d := some 97) (v := ?_) rfl rfl (by kernel_rfl) (by kernel_rfl) (by kernel_rfl) (by kernel_rfl) (by kernel_rfl) (fun _ _ _ h => h) (Or.inl ⟨by rfl, ?_⟩) (by first | exact Or.inr (by assumption) | exact Or.inl (by kernel_rfl)) ?_
          rotate_left
          · ((intro w8 _; go_simp); try with_reducible rfl)
          try simp only [Act.put]
          try simp only [List.setIfInBounds_toArray]
          try simp only [List.set_cons_succ]
          try simp only [List.set_cons_zero]
          refine takeP (i := 3) (d := some 98) (v := ?_) rfl rfl (by kernel_rfl) (by kernel_rfl) (by kernel_rfl) (by kernel_rfl) (by kernel_rfl) (fun _ _ _ h => h) (Or.inl ⟨by rfl, ?_⟩) (by first | exact Or.inr (by assumption) | exact Or.inl (by kernel_rfl)) ?_
          rotate_left
          · ((intro w8 _; go_simp); try with_reducible rfl)
          try simp only [Act.put]
          try simp only [List.setIfInBounds_toArray]
          try simp only [List.set_cons_succ]
          try simp only [List.set_cons_zero]
          refine takeP (i := 4) (d := some 99) (v := ?_) rfl rfl (by kernel_rfl) (by kernel_rfl) (by kernel_rfl) (by kernel_rfl) (by kernel_rfl) (fun _ _ _ h => h) (Or.inl ⟨by rfl, ?_⟩) (by first | exact Or.inr (by assumption) | exact Or.inl (by kernel_rfl)) ?_
          rotate_left
          · ((intro w8 _; go_simp); try with_reducible rfl)
          try simp only [Act.put]
          try simp only [List.setIfInBounds_toArray]
          try simp only [List.set_cons_succ]
          try simp only [List.set_cons_zero]
          refine takeP (i := 5) (d := some 100) (v := ?_) rfl rfl (by kernel_rfl) (by kernel_rfl) (by kernel_rfl) (by kernel_rfl) (by kernel_rfl) (fun _ _ _ h => h) (Or.inl ⟨by rfl, ?_⟩) (by first | exact Or.inr (by assumption) | exact Or.inl (by kernel_rfl)) ?_
          rotate_left
          · ((intro w8 _; go_simp); try with_reducible rfl)
          try simp only [Act.put]
          try simp only [List.setIfInBounds_toArray]
          try simp only [List.set_cons_succ]
          try simp only [List.set_cons_zero]
          refine takeP (i := 6) (d := some 101) (v := ?_) rfl rfl (by kernel_rfl) (by kernel_rfl) (by kernel_rfl) (by kernel_rfl) (by kernel_rfl) (fun _ _ _ h => h) (Or.inl ⟨by rfl, ?_⟩) (by first | exact Or.inr (by assumption) | exact Or.inl (by kernel_rfl)) ?_
          rotate_left
          · ((intro w8 _; go_simp); try with_reducible rfl)
          try simp only [Act.put]
          try simp only [List.setIfInBounds_toArray]
          try simp only [List.set_cons_succ]
          try simp only [List.set_cons_zero]
          refine takeL (i := 7) (d := some 102) (v := ?_) rfl rfl (by kernel_rfl) (by kernel_rfl) (by kernel_rfl) (by kernel_rfl) (by kernel_rfl) (fun _ _ _ h => h) (Or.inl ⟨by rfl, ?_⟩) (by assumption) ?_
          rotate_left
          · ((intro w8 hSw; rw [HS8.out] at hSw; obtain ⟨s1, s2, s3⟩ := hSw; have r1 := s1.c1; have r2 := s1.c2; have r3 := s1.c3; have r4 := s1.c4; have r5 := s1.c5; have r6 := s1.c6; have t1 := s2.c1; have t2 := s2.c2; have t3 := s2.c3; have t4 := s2.c4; have t5 := s2.c5; have t6 := s2.c6; have z0 := s3.c 0; have z1 := s3.c 1; have z2 := s3.c 2; simp only [List.getElem?_toArray, List.getElem?_cons_zero, List.getElem?_cons_succ] at z0 z1 z2; go_simp); try with_reducible rfl)
          try simp only [Act.put]
          try simp only [List.setIfInBounds_toArray]
          try simp only [List.set_cons_succ]
          try simp only [List.set_cons_zero]
          refine oneL (i := 8) rfl (by kernel_rfl) (fun K8 hK8 => ?_)
          go_simp
          go_at_call 5; refine (C1.out _ E0.out).mono ?_; rintro e9 n1 ⟨rfl, f9⟩
          have E1 := Lib.hid (E0.out.trans f9)
          clear f9
          have hS1 : S n1 := by rw [HS8.out]; exact ⟨QX.out.on E1.out, QY.out.on E1.out, QA.out.on E1.out⟩
          refine hK8 _ _ hS1 ?_
          try simp only [Act.put]
          try simp only [List.setIfInBounds_toArray]
          try simp only [List.set_cons_succ]
          try simp only [List.set_cons_zero]
          refine takeP (i := 9) (d := some 104) (v := ?_) rfl rfl (by kernel_rfl) (by kernel_rfl) (by kernel_rfl) (by kernel_rfl) (by kernel_rfl) (fun _ _ _ h => h) (Or.inl ⟨by rfl, ?_⟩) (by first | exact Or.inr (by assumption) | exact Or.inl (by kernel_rfl)) ?_
          rotate_left
          · ((intro w8 _; go_simp); try with_reducible rfl)
          try simp only [Act.put]
          try simp only [List.setIfInBounds_toArray]
          try simp only [List.set_cons_succ]
          try simp only [List.set_cons_zero]
          refine takeP (i := 10) (d := some 105) (v := ?_) rfl rfl (by kernel_rfl) (by kernel_rfl) (by kernel_rfl) (by kernel_rfl) (by kernel_rfl) (fun _ _ _ h => h) (Or.inl ⟨by rfl, ?_⟩) (by first | exact Or.inr (by assumption) | exact Or.inl (by kernel_rfl)) ?_
          rotate_left
          · ((intro w8 _; go_simp); try with_reducible rfl)
          try simp only [Act.put]
          try simp only [List.setIfInBounds_toArray]
          try simp only [List.set_cons_succ]
          try simp only [List.set_cons_zero]
          refine takeL (i := 11) (d := some 106) (v := ?_) rfl rfl (by kernel_rfl) (by kernel_rfl) (by kernel_rfl) (by kernel_rfl) (by kernel_rfl) (fun _ _ _ h => h) (Or.inl ⟨by rfl, ?_⟩) (by assumption) ?_
          rotate_left
          · ((intro w8 hSw; rw [HS8.out] at hSw; obtain ⟨s1, s2, s3⟩ := hSw; have r1 := s1.c1; have r2 := s1.c2; have r3 := s1.c3; have r4 := s1.c4; have r5 := s1.c5; have r6 := s1.c6; have t1 := s2.c1; have t2 := s2.c2; have t3 := s2.c3; have t4 := s2.c4; have t5 := s2.c5; have t6 := s2.c6; have z0 := s3.c 0; have z1 := s3.c 1; have z2 := s3.c 2; simp only [List.getElem?_toArray, List.getElem?_cons_zero, List.getElem?_cons_succ] at z0 z1 z2; go_simp); try with_reducible rfl)
          try simp only [Act.put]
          try simp only [List.setIfInBounds_toArray]
          try simp only [List.set_cons_succ]
          try simp only [List.set_cons_zero]
          refine oneL (i := 12) rfl (by kernel_rfl) (fun K8 hK8 => ?_)
          go_simp
          go_at_call 5; refine (C2.out _ E1.out).mono ?_; rintro e9 n2 ⟨rfl, f9⟩
          have E2 := Lib.hid (E1.out.trans f9)
          clear f9
          have hS2 : S n2 := by rw [HS8.out]; exact ⟨QX.out.on E2.out, QY.out.on E2.out, QA.out.on E2.out⟩
          refine hK8 _ _ hS2 ?_
          try simp only [Act.put]
          try simp only [List.setIfInBounds_toArray]
          try simp only [List.set_cons_succ]
          try simp only [List.set_cons_zero]
          refine takeP (i := 13) (d := some 108) (v := ?_) rfl rfl (by kernel_rfl) (by kernel_rfl) (by kernel_rfl) (by kernel_rfl) (by kernel_rfl) (fun _ _ _ h => h) (Or.inl ⟨by rfl, ?_⟩) (by first | exact Or.inr (by assumption) | exact Or.inl (by kernel_rfl)) ?_
          rotate_left
          · ((intro w8 _; go_simp); try with_reducible rfl)
          try simp only [Act.put]
          try simp only [List.setIfInBounds_toArray]
          try simp only [List.set_cons_succ]
          try simp only [List.set_cons_zero]
          refine takeP (i := 14) (d := some 109) (v := ?_) rfl rfl (by kernel_rfl) (by kernel_rfl) (by kernel_rfl) (by kernel_rfl) (by kernel_rfl) (fun _ _ _ h => h) (Or.inl ⟨by rfl, ?_⟩) (by first | exact Or.inr (by assumption) | exact Or.inl (by kernel_rfl)) ?_
          rotate_left
          · ((intro w8 _; go_simp); try with_reducible rfl)
          try simp only [Act.put]
          try simp only [List.setIfInBounds_toArray]
          try simp only [List.set_cons_succ]
          try simp only [List.set_cons_zero]
          refine takeP (i := 15) (d := some 110) (v := ?_) rfl rfl (by kernel_rfl) (by kernel_rfl) (by kernel_rfl) (by kernel_rfl) (by kernel_rfl) (fun _ _ _ h => h) (Or.inl ⟨by rfl, ?_⟩) (by first | exact Or.inr (by assumption) | exact Or.inl (by kernel_rfl)) ?_
          rotate_left
          · ((intro w8 _; go_simp); try with_reducible rfl)
          try simp only [Act.put]
          try simp only [List.setIfInBounds_toArray]
          try simp only [List.set_cons_succ]
          try simp only [List.set_cons_zero]
          refine takeL (i := 16) (d := some 111) (v := ?_) rfl rfl (by kernel_rfl) (by kernel_rfl) (by kernel_rfl) (by kernel_rfl) (by kernel_rfl) (fun _ _ _ h => h) (Or.inl ⟨by rfl, ?_⟩) (by assumption) ?_
          rotate_left
          · ((intro w8 hSw; rw [HS8.out] at hSw; obtain ⟨s1, s2, s3⟩ := hSw; have r1 := s1.c1; have r2 := s1.c2; have r3 := s1.c3; have r4 := s1.c4; have r5 := s1.c5; have r6 := s1.c6; have t1 := s2.c1; have t2 := s2.c2; have t3 := s2.c3; have t4 := s2.c4; have t5 := s2.c5; have t6 := s2.c6; have z0 := s3.c 0; have z1 := s3.c 1; have z2 := s3.c 2; simp only [List.getElem?_toArray, List.getElem?_cons_zero, List.getElem?_cons_succ] at z0 z1 z2; go_simp); try with_reducible rfl)
          try simp only [Act.put]
          try simp only [List.setIfInBounds_toArray]
          try simp only [List.set_cons_succ]
          try simp only [List.set_cons_zero]
          refine takeL (i := 18) (d := some 113) (v := ?_) rfl rfl (by kernel_rfl) (by kernel_rfl) (by kernel_rfl) (by kernel_rfl) (by kernel_rfl) (fun _ _ _ h => h) (Or.inl ⟨by rfl, ?_⟩) (by assumption) ?_
          rotate_left
          · ((intro w8 hSw; rw [HS8.out] at hSw; obtain ⟨s1, s2, s3⟩ := hSw; have r1 := s1.c1; have r2 := s1.c2; have r3 := s1.c3; have r4 := s1.c4; have r5 := s1.c5; have r6 := s1.c6; have t1 := s2.c1; have t2 := s2.c2; have t3 := s2.c3; have t4 := s2.c4; have t5 := s2.c5; have t6 := s2.c6; have z0 := s3.c 0; have z1 := s3.c 1; have z2 := s3.c 2; simp only [List.getElem?_toArray, List.getElem?_cons_zero, List.getElem?_cons_succ] at z0 z1 z2; go_simp); try with_reducible rfl)
          try simp only [Act.put]
          try simp only [List.setIfInBounds_toArray]
          try simp only [List.set_cons_succ]
          try simp only [List.set_cons_zero]
          refine oneL (i := 17) rfl (by kernel_rfl) (fun K8 hK8 => ?_)
          go_simp
          go_at_call 7; refine (C3.out _ E2.out).mono ?_; rintro e9 n3 ⟨g9, k9, rfl, hs9, f9⟩
          have E3 := Lib.hid (E2.out.trans f9)
          have LZ := Lib.hid hs9
          clear hs9
          clear f9
          have hS3 : S n3 := by rw [HS8.out]; exact ⟨QX.out.on E3.out, QY.out.on E3.out, QA.out.on E3.out⟩
          refine hK8 _ _ hS3 ?_
          try simp only [Act.put]
          try simp only [List.setIfInBounds_toArray]
          try simp only [List.set_cons_succ]
          try simp only [List.set_cons_zero]
          refine oneL (i := 19) rfl (by kernel_rfl) (fun K8 hK8 => ?_)
          go_simp
          go_at_call 11; refine (C5.out _ g9 k9 _ E3.out LZ.out HFD.out.mo).mono ?_; rintro e9 n4 ⟨rfl, f9⟩
          have E4 := Lib.hid (E3.out.trans f9)
          clear f9
          have hS4 : S n4 := by rw [HS8.out]; exact ⟨QX.out.on E4.out, QY.out.on E4.out, QA.out.on E4.out⟩
          refine hK8 _ _ hS4 ?_
          try simp only [Act.put]
          try simp only [List.setIfInBounds_toArray]
          try simp only [List.set_cons_succ]
          try simp only [List.set_cons_zero]
          refine takeP (i := 20) (d := some 115) (v := ?_) rfl rfl (by kernel_rfl) (by kernel_rfl) (by kernel_rfl) (by kernel_rfl) (by kernel_rfl) (fun _ _ _ h => h) (Or.inl ⟨by rfl, ?_⟩) (by first | exact Or.inr (by assumption) | exact Or.inl (by kernel_rfl)) ?_
          rotate_left
          · ((intro w8 _; go_simp); try with_reducible rfl)
          try simp only [Act.put]
          try simp only [List.setIfInBounds_toArray]
          try simp only [List.set_cons_succ]
          try simp only [List.set_cons_zero]
          refine takeP (i := 21) (d := some 116) (v := ?_) rfl rfl (by kernel_rfl) (by kernel_rfl) (by kernel_rfl) (by kernel_rfl) (by kernel_rfl) (fun _ _ _ h => h) (Or.inl ⟨by rfl, ?_⟩) (by first | exact Or.inr (by assumption) | exact Or.inl (by kernel_rfl)) ?_
          rotate_left
          · ((intro w8 _; go_simp); try with_reducible rfl)
          try simp only [Act.put]
          try simp only [List.setIfInBounds_toArray]
          try simp only [List.set_cons_succ]
          try simp only [List.set_cons_zero]
          refine takeL (i := 22) (d := some 117) (v := ?_) rfl rfl (by kernel_rfl) (by kernel_rfl) (by kernel_rfl) (by kernel_rfl) (by kernel_rfl) (fun _ _ _ h => h) (Or.inl ⟨by rfl, ?_⟩) (by assumption) ?_
          rotate_left
          · ((intro w8 hSw; rw [HS8.out] at hSw; obtain ⟨s1, s2, s3⟩ := hSw; have r1 := s1.c1; have r2 := s1.c2; have r3 := s1.c3; have r4 := s1.c4; have r5 := s1.c5; have r6 := s1.c6; have t1 := s2.c1; have t2 := s2.c2; have t3 := s2.c3; have t4 := s2.c4; have t5 := s2.c5; have t6 := s2.c6; have z0 := s3.c 0; have z1 := s3.c 1; have z2 := s3.c 2; simp only [List.getElem?_toArray, List.getElem?_cons_zero, List.getElem?_cons_succ] at z0 z1 z2; go_simp); try with_reducible rfl)
          try simp only [Act.put]
          try simp only [List.setIfInBounds_toArray]
          try simp only [List.set_cons_succ]
          try simp only [List.set_cons_zero]
          refine takeP (i := 24) (d := some 119) (v := ?_) rfl rfl (by kernel_rfl) (by kernel_rfl) (by kernel_rfl) (by kernel_rfl) (by kernel_rfl) (fun _ _ _ h => h) (Or.inl ⟨by rfl, ?_⟩) (by first | exact Or.inr (by assumption) | exact Or.inl (by kernel_rfl)) ?_
          rotate_left
          · ((intro w8 _; go_simp); try with_reducible rfl)
          try simp only [Act.put]
          try simp only [List.setIfInBounds_toArray]
          try simp only [List.set_cons_succ]
          try simp only [List.set_cons_zero]
          refine oneL (i := 23) rfl (by kernel_rfl) (fun K8 hK8 => ?_)
          go_simp
          go_at_call 7; refine (C4.out _ E4.out).mono ?_; rintro e9 n5 ⟨g8, k8, rfl, hs9, f9⟩
          have E5 := Lib.hid (E4.out.trans f9)
          have LV := Lib.hid hs9
          clear hs9
          clear f9
          have hS5 : S n5 := by rw [HS8.out]; exact ⟨QX.out.on E5.out, QY.out.on E5.out, QA.out.on E5.out⟩
          refine hK8 _ _ hS5 ?_
          try simp only [Act.put]
          try simp only [List.setIfInBounds_toArray]
          try simp only [List.set_cons_succ]
          try simp only [List.set_cons_zero]
          refine oneL (i := 25) rfl (by kernel_rfl) (fun K8 hK8 => ?_)
          go_simp
          go_at_call 10; refine (C6.out _ g8 k8 _ E5.out LV.out HFD.out.ev).mono ?_; rintro e9 n6 ⟨rfl, f9⟩
          have E6 := Lib.hid (E5.out.trans f9)
          clear f9
          have hS6 : S n6 := by rw [HS8.out]; exact ⟨QX.out.on E6.out, QY.out.on E6.out, QA.out.on E6.out⟩
          refine hK8 _ _ hS6 ?_
          try simp only [Act.put]
          try simp only [List.setIfInBounds_toArray]
          try simp only [List.set_cons_succ]
          try simp only [List.set_cons_zero]
          refine takeP (i := 26) (d := some 121) (v := ?_) rfl rfl (by kernel_rfl) (by kernel_rfl) (by kernel_rfl) (by kernel_rfl) (by kernel_rfl) (fun _ _ _ h => h) (Or.inl ⟨by rfl, ?_⟩) (by first | exact Or.inr (by assumption) | exact Or.inl (by kernel_rfl)) ?_
          rotate_left
          · ((intro w8 _; go_simp); try with_reducible rfl)
          try simp only [Act.put]
          try simp only [List.setIfInBounds_toArray]
          try simp only [List.set_cons_succ]
          try simp only [List.set_cons_zero]
          refine takeP (i := 27) (d := some 122) (v := ?_) rfl rfl (by kernel_rfl) (by kernel_rfl) (by kernel_rfl) (by kernel_rfl) (by kernel_rfl) (fun _ _ _ h => h) (Or.inl ⟨by rfl, ?_⟩) (by first | exact Or.inr (by assumption) | exact Or.inl (by kernel_rfl)) ?_
          rotate_left
          · ((intro w8 _; go_simp); try with_reducible rfl)
          try simp only [Act.put]
          try simp only [List.setIfInBounds_toArray]
          try simp only [List.set_cons_succ]
          try simp only [List.set_cons_zero]
          refine outL (i := 28) rfl (by kernel_rfl) (by kernel_rfl) (fun K8 hK8 => ?_)
          go_simp
          go_at_call 6; refine (alive_any _).mono ?_; rintro e9 n7 ⟨rfl, f9⟩
          have FZ := Lib.hid ((W5.out.trans E6.out).trans f9)
          clear f9
          refine hK8 _ _ ?_
          try simp only [Act.put]
          try simp only [List.setIfInBounds_toArray]
          try simp only [List.set_cons_succ]
          try simp only [List.set_cons_zero]
          refine takeP (i := 29) (d := some 124) (v := ?_) rfl rfl (by kernel_rfl) (by kernel_rfl) (by kernel_rfl) (by kernel_rfl) (by kernel_rfl) (fun _ _ _ h => h) (Or.inl ⟨by rfl, ?_⟩) (by first | exact Or.inr (by assumption) | exact Or.inl (by kernel_rfl)) ?_
          rotate_left
          · ((intro w8 _; go_simp); try with_reducible rfl)
          try simp only [Act.put]
          try simp only [List.setIfInBounds_toArray]
          try simp only [List.set_cons_succ]
          try simp only [List.set_cons_zero]
          refine takeP (i := 30) (d := some 6) (v := ?_) rfl rfl (by kernel_rfl) (by kernel_rfl) (by kernel_rfl) (by kernel_rfl) (by kernel_rfl) (fun _ _ _ h => h) (Or.inl ⟨by rfl, ?_⟩) (by first | exact Or.inr (by assumption) | exact Or.inl (by kernel_rfl)) ?_
          rotate_left
          · ((intro w8 _; go_simp); try with_reducible rfl)
          try simp only [Act.put]
          try simp only [List.setIfInBounds_toArray]
          try simp only [List.set_cons_succ]
          try simp only [List.set_cons_zero]
          refine lst_done (by kernel_rfl) ?_ _
          go_wp2
          go_ret
          exact ⟨ret_bool (by simp), FZ.out⟩
end Go.Proofs.Ytpamdlkagmlahaa
