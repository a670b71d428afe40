/-
  The reference of package value: Less of every two values in memory. Nothing that was there turns.
-/
import Derived.Test.YtenmideffecdnaaGreatDoorRvP
import Derived.Test.YtenmideffecdnaaGreatDoorLvN
namespace Go.Proofs.YtenmideffecdnaaGreatDoor
open Go.RowKit

theorem cls_kd {a b : Int} (ha : 0 ≤ a ∧ a ≤ 8) (hb : 0 ≤ b ∧ b ≤ 8) (h : classV a = classV b) : a = b ∨ (classV a = 2 ∧ classV b = 2) := by
  have h1 : a = 0 ∨ a = 1 ∨ a = 2 ∨ a = 3 ∨ a = 4 ∨ a = 5 ∨ a = 6 ∨ a = 7 ∨ a = 8 := by omega
  have h2 : b = 0 ∨ b = 1 ∨ b = 2 ∨ b = 3 ∨ b = 4 ∨ b = 5 ∨ b = 6 ∨ b = 7 ∨ b = 8 := by omega
  rcases h1 with rfl | rfl | rfl | rfl | rfl | rfl | rfl | rfl | rfl <;> rcases h2 with rfl | rfl | rfl | rfl | rfl | rfl | rfl | rfl | rfl <;> first | exact .inl rfl | exact .inr ⟨rfl, rfl⟩ | exact absurd h (by decide)
theorem less_n {x y : Vl} (hx : okX x = true) (hy : okX y = true) (nx : isNum x = true) (ny : isNum y = true) : lessV x y = if decide (cmpQ (fz (nmN x) (nmD x)) (fz (nmN y) (nmD y)) < 0) = true then 2 else 0 := by
  have c := (num_class hx).1 nx
  have c' := (num_class hy).1 ny
  rw [← ordV_num hx hy (by rw [c, c']) nx]
  exact if_pos ⟨hx, hy, by rw [c, c'], .inr (.inl c)⟩
theorem less_k {x y : Vl} (hx : okX x = true) (hy : okX y = true) (hn : ¬ (isNum x = true ∧ isNum y = true)) (hk : x.kd ≠ y.kd) : lessV x y = 1 :=
  if_neg fun t => (cls_kd (kind_in hx) (kind_in hy) t.2.2.1).elim hk fun e => hn ⟨(num_class hx).2 e.1, (num_class hy).2 e.2⟩
theorem less_s {x y : Vl} (hx : okX x = true) (hy : okX y = true) (hk : x.kd = 4) (hk' : y.kd = 4) : lessV x y = if decide (strc x.ss y.ss < 0) = true then 2 else 0 := by
  have e : ordV x y = strc x.ss y.ss := by rw [ordV_eq hx hy, hk, hk']; rfl
  rw [← e]
  exact if_pos ⟨hx, hy, by rw [hk, hk'], by rw [hk]; exact .inr (.inr rfl)⟩
theorem less_b {x y : Vl} (hx : okX x = true) (hy : okX y = true) (hk : x.kd = 1) (hk' : y.kd = 1) : lessV x y = if decide (x.nn < y.nn) = true then 2 else 0 := by
  have e : ordV x y = intc x.nn y.nn := by rw [ordV_eq hx hy, hk, hk']; rfl
  have e2 : decide (ordV x y < 0) = decide (x.nn < y.nn) := by
    rw [e]; unfold intc
    by_cases h : x.nn < y.nn
    · rw [if_pos h, decide_eq_true h]; rfl
    · rw [if_neg h, decide_eq_false h]; split <;> rfl
  rw [← e2]
  exact if_pos ⟨hx, hy, by rw [hk, hk'], by rw [hk]; exact .inl rfl⟩
theorem less_o {x y : Vl} (hx : okX x = true) (hn : isNum x = false) (h1 : x.kd ≠ 1) (h4 : x.kd ≠ 4) : lessV x y = 1 :=
  if_neg fun t => by
    have k := kind_in hx
    have c2 : classV x.kd ≠ 2 := fun e => by rw [(num_class hx).2 e] at hn; cases hn
    have h : x.kd = 0 ∨ x.kd = 1 ∨ x.kd = 2 ∨ x.kd = 3 ∨ x.kd = 4 ∨ x.kd = 5 ∨ x.kd = 6 ∨ x.kd = 7 ∨ x.kd = 8 := by omega
    have t4 := t.2.2.2
    rcases h with e | e | e | e | e | e | e | e | e <;> rw [e] at h1 h4 c2 t4 <;> first | exact absurd rfl h1 | exact absurd rfl h4 | exact absurd rfl c2 | exact absurd t4 (by decide)
theorem num_kd {x y : Vl} (hx : okX x = true) (hy : okX y = true) (hk : x.kd = y.kd) : isNum x = isNum y := by
  have a := num_class hx
  have b := num_class hy
  rw [hk] at a
  rw [Bool.eq_iff_iff, a, b]
theorem ryes_w (b : Bool) (w : World) : Calls Tryz.prog 62 #[.bool b] w (RwI w (if b = true then 2 else 0)) :=
  (ryes_any b w).mono fun _ _ ⟨he, hw⟩ => ⟨he, hw ▸ Fuw.refl _⟩
set_option maxHeartbeats 6400000 in
set_option maxRecDepth 100000 in
theorem rless_any (x y : Vl) (ao bo : Option Addr) (ca cb : Nat) (w : World) (hi : Vin x) (hi' : Vin y) (hs : SlV w ao x.ll ca) (hs' : SlV w bo y.ll cb) :
    Calls Tryz.prog 22 #[vlv x ao ca, vlv y bo cb] w (RwI w (lessV x y)) := by
  obtain ⟨p0, p1, f0⟩ := bx2 w x y ao bo ca cb
  have hne : ¬ (w.heap.size = w.heap.size + 1) := by omega
  have hne2 : ¬ (w.heap.size + 1 = w.heap.size) := by omega
  have VA := Lib.hid (fun w' (hf : Fur w w') => rokV_any x ao ca w' hi (hs.on hf))
  have VB := Lib.hid (fun w' (hf : Fur w w') => rokV_any y bo cb w' hi' (hs'.on hf))
  have NA := Lib.hid (fun w' (hf : Fur w w') => rnum_v x ao ca w' hi (hs.on hf))
  have NB := Lib.hid (fun w' (hf : Fur w w') => rnum_v y bo cb w' hi' (hs'.on hf))
  have YT := Lib.hid (fun w => ryes_w true w)
  have YF := Lib.hid (fun w => ryes_w false w)
  have I1 := Lib.hid (fun (h : okX x = false) => show lessV x y = 1 from if_neg (fun t => by rw [h] at t; cases t.1))
  have I2 := Lib.hid (fun (h : okX y = false) => show lessV x y = 1 from if_neg (fun t => by rw [h] at t; cases t.2.1))
  have LN := Lib.hid (fun hx hy => @less_n x y hx hy)
  have LK := Lib.hid (fun hx hy => @less_k x y hx hy)
  have LS := Lib.hid (fun hx hy => @less_s x y hx hy)
  have LB := Lib.hid (fun hx hy => @less_b x y hx hy)
  have LO := Lib.hid (fun hx => @less_o x y hx)
  have KN := Lib.hid (fun hx hy => @num_kd x y hx hy)
  have SL := Lib.hid (str_less x.ss y.ss)
  clear hs hs' hi hi'
  obtain ⟨W, hW⟩ : ∃ W, ((w.alloc (.cells #[.int .i64 x.kd, .int .i64 x.nn, .int .i64 x.dd, .string (bs x.ss), .slice ao x.ll.length ca] 24)).alloc (.cells #[.int .i64 y.kd, .int .i64 y.nn, .int .i64 y.dd, .string (bs y.ss), .slice bo y.ll.length cb] 24)) = W := ⟨_, rfl⟩
  rw [hW] at p0 p1 f0
  unfold vlv at *
  generalize lessV x y = R at *
  generalize okX x = p at *
  generalize okX y = q at *
  go_enter Tryz.func22, Tryz.ntmps22
  go_upto_region 1 with fail
  clear hW
  have c0 := p0.c0; have c1 := p0.c1; have c2 := p0.c2; have c3 := p0.c3; have c4 := p0.c4
  have d0 := p1.c0; have d1 := p1.c1; have d2 := p1.c2; have d3 := p1.c3; have d4 := p1.c4
  cases p
  · have HE := Lib.hid (I1.out rfl)
    clear I1 I2 LN LK LS LB LO SL NA NB VB YT YF KN
    go_wp2_with fail
    go_at_call 12; refine (VA.out _ f0).mono ?_; rintro e1 w1 ⟨rfl, ff⟩
    clear c0 c1 c2 c3 c4 d0 d1 d2 d3 d4
    replace p0 := p0.on ff
    replace p1 := p1.on ff
    replace f0 := f0.trans ff
    clear ff
    have c0 := p0.c0; have c1 := p0.c1; have c2 := p0.c2; have c3 := p0.c3; have c4 := p0.c4
    have d0 := p1.c0; have d1 := p1.c1; have d2 := p1.c2; have d3 := p1.c3; have d4 := p1.c4
    go_wp2
    go_ret
    exact ⟨ret_int HE.out.symm, f0.b⟩
  go_wp2_with fail
  go_at_call 12; refine (VA.out _ f0).mono ?_; rintro e1 w1 ⟨rfl, ff⟩
  clear c0 c1 c2 c3 c4 d0 d1 d2 d3 d4
  replace p0 := p0.on ff
  replace p1 := p1.on ff
  replace f0 := f0.trans ff
  clear ff
  have c0 := p0.c0; have c1 := p0.c1; have c2 := p0.c2; have c3 := p0.c3; have c4 := p0.c4
  have d0 := p1.c0; have d1 := p1.c1; have d2 := p1.c2; have d3 := p1.c3; have d4 := p1.c4
  cases q
  · have HE := Lib.hid (I2.out rfl)
    clear I1 I2 LN LK LS LB LO SL NA NB VA YT YF KN
    go_wp2_with fail
    go_at_call 12; refine (VB.out _ f0).mono ?_; rintro e1 w1 ⟨rfl, ff⟩
    clear c0 c1 c2 c3 c4 d0 d1 d2 d3 d4
    replace p0 := p0.on ff
    replace p1 := p1.on ff
    replace f0 := f0.trans ff
    clear ff
    have c0 := p0.c0; have c1 := p0.c1; have c2 := p0.c2; have c3 := p0.c3; have c4 := p0.c4
    have d0 := p1.c0; have d1 := p1.c1; have d2 := p1.c2; have d3 := p1.c3; have d4 := p1.c4
    go_wp2
    go_ret
    exact ⟨ret_int HE.out.symm, f0.b⟩
  go_wp2_with fail
  go_at_call 12; refine (VB.out _ f0).mono ?_; rintro e1 w1 ⟨rfl, ff⟩
  clear c0 c1 c2 c3 c4 d0 d1 d2 d3 d4
  replace p0 := p0.on ff
  replace p1 := p1.on ff
  replace f0 := f0.trans ff
  clear ff
  have c0 := p0.c0; have c1 := p0.c1; have c2 := p0.c2; have c3 := p0.c3; have c4 := p0.c4
  have d0 := p1.c0; have d1 := p1.c1; have d2 := p1.c2; have d3 := p1.c3; have d4 := p1.c4
  replace LN := Lib.hid (LN.out (by simp) (by simp))
  replace LK := Lib.hid (LK.out (by simp) (by simp))
  replace LS := Lib.hid (LS.out (by simp) (by simp))
  replace LB := Lib.hid (LB.out (by simp) (by simp))
  replace LO := Lib.hid (LO.out (by simp))
  replace KN := Lib.hid (KN.out (by simp) (by simp))
  clear VA VB I1 I2
  go_wp2_with fail
  go_at_call 10; refine (NA.out _ f0).mono ?_; rintro e1 w7 ⟨rfl, ff⟩
  clear c0 c1 c2 c3 c4 d0 d1 d2 d3 d4
  replace p0 := p0.on ff
  replace p1 := p1.on ff
  replace f0 := f0.trans ff
  clear ff
  have c0 := p0.c0; have c1 := p0.c1; have c2 := p0.c2; have c3 := p0.c3; have c4 := p0.c4
  have d0 := p1.c0; have d1 := p1.c1; have d2 := p1.c2; have d3 := p1.c3; have d4 := p1.c4
  go_upto_region 4 with fail
  obtain ⟨bfx, ff⟩ := box1 w7 (nmN x) (nmD x)
  obtain ⟨W8, hW8⟩ : ∃ W8, (w7.alloc (.cells #[.int .i64 (nmN x), .int .i64 (nmD x)] 28)) = W8 := ⟨_, rfl⟩
  rw [hW8] at bfx ff ⊢
  clear hW8
  clear c0 c1 c2 c3 c4 d0 d1 d2 d3 d4
  replace p0 := p0.on ff
  replace p1 := p1.on ff
  replace f0 := f0.trans ff
  clear ff
  have c0 := p0.c0; have c1 := p0.c1; have c2 := p0.c2; have c3 := p0.c3; have c4 := p0.c4
  have d0 := p1.c0; have d1 := p1.c1; have d2 := p1.c2; have d3 := p1.c3; have d4 := p1.c4
  go_wp2_with fail
  go_at_call 10; refine (NB.out _ f0).mono ?_; rintro e1 w9 ⟨rfl, ff⟩
  replace bfx := bfx.on ff
  clear c0 c1 c2 c3 c4 d0 d1 d2 d3 d4
  replace p0 := p0.on ff
  replace p1 := p1.on ff
  replace f0 := f0.trans ff
  clear ff
  have c0 := p0.c0; have c1 := p0.c1; have c2 := p0.c2; have c3 := p0.c3; have c4 := p0.c4
  have d0 := p1.c0; have d1 := p1.c1; have d2 := p1.c2; have d3 := p1.c3; have d4 := p1.c4
  clear NA NB
  cases nx : isNum x <;> cases ny : isNum y
  rotate_right
  · have HE := Lib.hid (LN.out nx ny)
    clear LN LK LS LB LO SL KN nx ny
    go_upto_region 6 with fail
    obtain ⟨bfy, ff⟩ := box1 w9 (nmN y) (nmD y)
    obtain ⟨Wa, hWa⟩ : ∃ Wa, (w9.alloc (.cells #[.int .i64 (nmN y), .int .i64 (nmD y)] 28)) = Wa := ⟨_, rfl⟩
    rw [hWa] at bfy ff ⊢
    clear hWa
    replace bfx := bfx.on ff
    clear c0 c1 c2 c3 c4 d0 d1 d2 d3 d4
    replace p0 := p0.on ff
    replace p1 := p1.on ff
    replace f0 := f0.trans ff
    clear ff
    have c0 := p0.c0; have c1 := p0.c1; have c2 := p0.c2; have c3 := p0.c3; have c4 := p0.c4
    have d0 := p1.c0; have d1 := p1.c1; have d2 := p1.c2; have d3 := p1.c3; have d4 := p1.c4
    have a0 := bfx.c0; have a1 := bfx.c1; have b0 := bfy.c0; have b1 := bfy.c1
    go_wp2_with fail
    go_at_call 63; refine (rcmp_any _ _ _ _ _).mono ?_; rintro eb wb ⟨rfl, fb⟩
    generalize cmpQ (fz (nmN x) (nmD x)) (fz (nmN y) (nmD y)) = T at *
    by_cases hT : T < 0
    · have HQ := Lib.hid (show R = 2 by rw [HE.out, decide_eq_true hT]; rfl)
      go_wp2_with fail
      go_at_call 62; refine (YT.out _).mono ?_; rintro ec wc ⟨rfl, fc⟩
      go_wp2
      go_ret
      exact ⟨ret_int HQ.out.symm, (Fuw.trans f0.b fb).trans fc⟩
    · have HQ := Lib.hid (show R = 0 by rw [HE.out, decide_eq_false hT]; rfl)
      have hd : decide (T < 0) = false := decide_eq_false hT
      go_wp2_with fail
      go_at_call 62; refine (YF.out _).mono ?_; rintro ec wc ⟨rfl, fc⟩
      go_wp2
      go_ret
      exact ⟨ret_int HQ.out.symm, (Fuw.trans f0.b fb).trans fc⟩
  all_goals
    clear LN
    have NN := Lib.hid (show ¬ (isNum x = true ∧ isNum y = true) by rw [nx, ny]; simp)
    go_upto_region 7 with fail
    obtain ⟨bfy, ff⟩ := box1 w9 (nmN y) (nmD y)
    obtain ⟨Wa, hWa⟩ : ∃ Wa, (w9.alloc (.cells #[.int .i64 (nmN y), .int .i64 (nmD y)] 28)) = Wa := ⟨_, rfl⟩
    rw [hWa] at bfy ff ⊢
    clear hWa
    clear c0 c1 c2 c3 c4 d0 d1 d2 d3 d4
    replace p0 := p0.on ff
    replace p1 := p1.on ff
    replace f0 := f0.trans ff
    clear ff
    have c0 := p0.c0; have c1 := p0.c1; have c2 := p0.c2; have c3 := p0.c3; have c4 := p0.c4
    have d0 := p1.c0; have d1 := p1.c1; have d2 := p1.c2; have d3 := p1.c3; have d4 := p1.c4
    by_cases hk : x.kd = y.kd
    rotate_left
    · have HE := Lib.hid (LK.out NN.out hk)
      have g : (x.kd != y.kd) = true := by rw [bne_iff_ne]; exact hk
      clear hk LK LS LB LO SL KN
      go_wp2
      go_ret
      exact ⟨ret_int HE.out.symm, f0.b⟩
    have g : (x.kd != y.kd) = false := by rw [bne_eq_false_iff_eq]; exact hk
    have nz : isNum x = false := by first | exact nx | exact (KN.out hk).trans ny
    clear KN LK NN
    by_cases h4 : x.kd = 4
    · have g4 : (x.kd == 4) = true := beq_iff_eq.2 h4
      have HE := Lib.hid (LS.out h4 (hk ▸ h4))
      clear h4 hk LS LB LO
      rcases SL.out with ⟨e, s1, -, -⟩ | ⟨e, s1, -, -⟩ | ⟨e, s1, -, -⟩
      · have HQ := Lib.hid (show R = 2 by rw [HE.out, e]; rfl)
        have s2 : Op.bytesLess (bs x.ss).toList (bs y.ss).toList = true := by rw [bs_list, bs_list]; exact s1
        clear SL HE e s1
        go_wp2_with fail
        go_at_call 62; refine (YT.out _).mono ?_; rintro ec wc ⟨rfl, fc⟩
        go_wp2
        go_ret
        exact ⟨ret_int HQ.out.symm, Fuw.trans f0.b fc⟩
      all_goals
        have HQ := Lib.hid (show R = 0 by rw [HE.out, e]; rfl)
        have s2 : Op.bytesLess (bs x.ss).toList (bs y.ss).toList = false := by rw [bs_list, bs_list]; exact s1
        clear SL HE e s1
        go_wp2_with fail
        go_at_call 62; refine (YF.out _).mono ?_; rintro ec wc ⟨rfl, fc⟩
        go_wp2
        go_ret
        exact ⟨ret_int HQ.out.symm, Fuw.trans f0.b fc⟩
    have g4 : (x.kd == 4) = false := beq_eq_false_iff_ne.2 h4
    by_cases h1 : x.kd = 1
    · have g1 : (x.kd == 1) = true := beq_iff_eq.2 h1
      have HE := Lib.hid (LB.out h1 (hk ▸ h1))
      clear h4 h1 hk LS LB LO SL
      by_cases hT : x.nn < y.nn
      · have HQ := Lib.hid (show R = 2 by rw [HE.out, decide_eq_true hT]; rfl)
        clear HE
        go_wp2_with fail
        go_at_call 62; refine (YT.out _).mono ?_; rintro ec wc ⟨rfl, fc⟩
        go_wp2
        go_ret
        exact ⟨ret_int HQ.out.symm, Fuw.trans f0.b fc⟩
      · have HQ := Lib.hid (show R = 0 by rw [HE.out, decide_eq_false hT]; rfl)
        clear HE
        go_wp2_with fail
        go_at_call 62; refine (YF.out _).mono ?_; rintro ec wc ⟨rfl, fc⟩
        go_wp2
        go_ret
        exact ⟨ret_int HQ.out.symm, Fuw.trans f0.b fc⟩
    have g1 : (x.kd == 1) = false := beq_eq_false_iff_ne.2 h1
    have HE := Lib.hid (LO.out nz h1 h4)
    clear h4 h1 hk LS LB LO SL
    go_wp2
    go_ret
    exact ⟨ret_int HE.out.symm, f0.b⟩
end Go.Proofs.YtenmideffecdnaaGreatDoor
