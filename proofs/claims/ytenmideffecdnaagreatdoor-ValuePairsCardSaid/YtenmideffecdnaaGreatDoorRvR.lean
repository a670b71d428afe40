/-
  The reference of package value: Equal of every two values in memory. Nothing that was there turns.
-/
import Derived.Test.YtenmideffecdnaaGreatDoorRvQ
import Derived.Test.YtenmideffecdnaaGreatDoorLvJ
namespace Go.Proofs.YtenmideffecdnaaGreatDoor
open Go.RowKit

theorem eqv_ok {x y : Vl} (hx : okX x = true) (hy : okX y = true) (h0 : x.kd ≠ 0) (h0' : y.kd ≠ 0) : eqV x y =
    if isNum x = true ∧ isNum y = true then yesV (decide (cmpQ (fz (nmN x) (nmD x)) (fz (nmN y) (nmD y)) = 0))
    else if x.kd ≠ y.kd then 0
    else if x.kd = 4 then yesV (decide (x.ss = y.ss))
    else if x.kd ≠ 8 ∧ x.kd ≠ 7 then yesV (decide (x.nn = y.nn))
    else if x.ll.length ≠ y.ll.length then 0
    else eqL x.ll y.ll := by
  obtain ⟨k, n, d, s, l⟩ := x
  obtain ⟨k', n', d', s', l'⟩ := y
  rw [eqV_mk, if_neg]
  · rfl
  · rintro (h | h | h | h)
    · exact h0 h
    · exact h0' h
    · rw [hx] at h; cases h
    · rw [hy] at h; cases h
/-- What Equal answers of a value. -/
def EQ (x : Vl) : Prop := ∀ (y : Vl) (ao bo : Option Addr) (ca cb : Nat) (w : World), Vin x → Vin y → SlV w ao x.ll ca → SlV w bo y.ll cb → Calls Tryz.prog 20 #[vlv x ao ca, vlv y bo cb] w (RwI w (eqV x y))
theorem keep12w {v v' : World} {m0 m1 p0 p1 p2 p3 p4 q0 q1 q2 q3 q4 : Addr} {z0 z1 x0 x1 x2 x3 x4 y0 y1 y2 y3 y4 : Value} (hf : Fuw v v') (k0 : v.cell? m0 = some z0) (k1 : v.cell? m1 = some z1) (h0 : v.cell? p0 = some x0) (h1 : v.cell? p1 = some x1) (h2 : v.cell? p2 = some x2) (h3 : v.cell? p3 = some x3) (h4 : v.cell? p4 = some x4) (g0 : v.cell? q0 = some y0) (g1 : v.cell? q1 = some y1) (g2 : v.cell? q2 = some y2) (g3 : v.cell? q3 = some y3) (g4 : v.cell? q4 = some y4) :
    Fuw v v' ∧ v'.cell? m0 = some z0 ∧ v'.cell? m1 = some z1 ∧ v'.cell? p0 = some x0 ∧ v'.cell? p1 = some x1 ∧ v'.cell? p2 = some x2 ∧ v'.cell? p3 = some x3 ∧ v'.cell? p4 = some x4 ∧ v'.cell? q0 = some y0 ∧ v'.cell? q1 = some y1 ∧ v'.cell? q2 = some y2 ∧ v'.cell? q3 = some y3 ∧ v'.cell? q4 = some y4 :=
  ⟨hf, cellOnw hf k0, cellOnw hf k1, cellOnw hf h0, cellOnw hf h1, cellOnw hf h2, cellOnw hf h3, cellOnw hf h4, cellOnw hf g0, cellOnw hf g1, cellOnw hf g2, cellOnw hf g3, cellOnw hf g4⟩
theorem rand_w (a b : Int) (ha : 0 ≤ a ∧ a ≤ 2) (hb : 0 ≤ b ∧ b ≤ 2) (w : World) : Calls Tryz.prog 64 #[.int .i64 a, .int .i64 b] w (RwI w (min a b)) :=
  (rand_any a b w).mono fun _ _ ⟨he, hw⟩ => ⟨by rw [he, tri_02 ha, tri_02 hb], hw ▸ Fuw.refl _⟩
set_option maxHeartbeats 12800000 in
set_option maxRecDepth 100000 in
theorem requal_by (x : Vl) (hO : ∀ z, z ∈ x.ll → EQ z) : EQ x := fun y ao bo ca cb w hi hi' hs hs' => by
  obtain ⟨p0, p1, f0⟩ := bx2 w x y ao bo ca cb
  have hne : ¬ (w.heap.size = w.heap.size + 1) := by omega
  have hne2 : ¬ (w.heap.size + 1 = w.heap.size) := by omega
  have VA := Lib.hid (fun w' (hf : Fur w w') => rokV_any x ao ca w' hi (hs.on hf))
  have VB := Lib.hid (fun w' (hf : Fur w w') => rokV_any y bo cb w' hi' (hs'.on hf))
  have NA := Lib.hid (fun w' (hf : Fur w w') => rnum_v x ao ca w' hi (hs.on hf))
  have NB := Lib.hid (fun w' (hf : Fur w w') => rnum_v y bo cb w' hi' (hs'.on hf))
  have YT := Lib.hid (fun w => ryes_w true w)
  have YF := Lib.hid (fun w => ryes_w false w)
  have EN := Lib.hid (fun h => eq_null (x := x) (y := y) h)
  have EI := Lib.hid (fun h => eq_inv (x := x) (y := y) h)
  have EO := Lib.hid (fun hx hy => @eqv_ok x y hx hy)
  have HO := Lib.hid hO
  have HS := Lib.hid hs
  have HS' := Lib.hid hs'
  have l1 := hs.le
  have l2 := hs.max
  have l3 := hs'.le
  have l4 := hs'.max
  unfold maxLen at l2 l4
  clear hs hs' hi hi' hO
  obtain ⟨W, hW⟩ : ∃ W, ((w.alloc (.cells #[.int .i64 x.kd, .int .i64 x.nn, .int .i64 x.dd, .string (bs x.ss), .slice ao x.ll.length ca] 24)).alloc (.cells #[.int .i64 y.kd, .int .i64 y.nn, .int .i64 y.dd, .string (bs y.ss), .slice bo y.ll.length cb] 24)) = W := ⟨_, rfl⟩
  rw [hW] at p0 p1 f0
  unfold vlv at *
  generalize eqV x y = R at *
  generalize okX x = p at *
  generalize okX y = q at *
  go_enter Tryz.func20, Tryz.ntmps20
  go_upto_region 1 with fail
  clear hW
  have c0 := p0.c0; have c1 := p0.c1; have c2 := p0.c2; have c3 := p0.c3; have c4 := p0.c4
  have d0 := p1.c0; have d1 := p1.c1; have d2 := p1.c2; have d3 := p1.c3; have d4 := p1.c4
  by_cases h0 : x.kd = 0
  · have HE := Lib.hid (EN.out (.inl h0))
    have g0 : (x.kd == 0) = true := beq_iff_eq.2 h0
    clear h0 EN EI EO NA NB VA VB YT YF HO HS HS'
    go_wp2
    go_ret
    exact ⟨ret_int HE.out.symm, f0.b⟩
  have g0 : (x.kd == 0) = false := beq_eq_false_iff_ne.2 h0
  by_cases h0' : y.kd = 0
  · have HE := Lib.hid (EN.out (.inr h0'))
    have g0' : (y.kd == 0) = true := beq_iff_eq.2 h0'
    clear h0 h0' EN EI EO NA NB VA VB YT YF HO HS HS'
    go_wp2
    go_ret
    exact ⟨ret_int HE.out.symm, f0.b⟩
  have g0' : (y.kd == 0) = false := beq_eq_false_iff_ne.2 h0'
  have H0 := Lib.hid (And.intro h0 h0')
  clear h0 h0' EN
  cases p
  · have HE := Lib.hid (EI.out (.inl rfl))
    clear EI EO NA NB VB YT YF HO HS HS'
    go_wp2_with fail
    go_at_call 12; refine (VA.out _ f0).mono ?_; rintro e1 w1 ⟨rfl, ff⟩
    clear c0 c1 c2 c3 c4 d0 d1 d2 d3 d4
    replace p0 := p0.on ff
    replace p1 := p1.on ff
    replace f0 := f0.trans ff
    clear ff
    have c0 := p0.c0; have c1 := p0.c1; have c2 := p0.c2; have c3 := p0.c3; have c4 := p0.c4
    have d0 := p1.c0; have d1 := p1.c1; have d2 := p1.c2; have d3 := p1.c3; have d4 := p1.c4
    go_wp2
    go_ret
    exact ⟨ret_int HE.out.symm, f0.b⟩
  go_wp2_with fail
  go_at_call 12; refine (VA.out _ f0).mono ?_; rintro e1 w1 ⟨rfl, ff⟩
  clear c0 c1 c2 c3 c4 d0 d1 d2 d3 d4
  replace p0 := p0.on ff
  replace p1 := p1.on ff
  replace f0 := f0.trans ff
  clear ff
  have c0 := p0.c0; have c1 := p0.c1; have c2 := p0.c2; have c3 := p0.c3; have c4 := p0.c4
  have d0 := p1.c0; have d1 := p1.c1; have d2 := p1.c2; have d3 := p1.c3; have d4 := p1.c4
  cases q
  · have HE := Lib.hid (EI.out (.inr rfl))
    clear EI EO NA NB VA YT YF HO HS HS'
    go_wp2_with fail
    go_at_call 12; refine (VB.out _ f0).mono ?_; rintro e1 w1 ⟨rfl, ff⟩
    clear c0 c1 c2 c3 c4 d0 d1 d2 d3 d4
    replace p0 := p0.on ff
    replace p1 := p1.on ff
    replace f0 := f0.trans ff
    clear ff
    have c0 := p0.c0; have c1 := p0.c1; have c2 := p0.c2; have c3 := p0.c3; have c4 := p0.c4
    have d0 := p1.c0; have d1 := p1.c1; have d2 := p1.c2; have d3 := p1.c3; have d4 := p1.c4
    go_wp2
    go_ret
    exact ⟨ret_int HE.out.symm, f0.b⟩
  go_wp2_with fail
  go_at_call 12; refine (VB.out _ f0).mono ?_; rintro e1 w1 ⟨rfl, ff⟩
  clear c0 c1 c2 c3 c4 d0 d1 d2 d3 d4
  replace p0 := p0.on ff
  replace p1 := p1.on ff
  replace f0 := f0.trans ff
  clear ff
  have c0 := p0.c0; have c1 := p0.c1; have c2 := p0.c2; have c3 := p0.c3; have c4 := p0.c4
  have d0 := p1.c0; have d1 := p1.c1; have d2 := p1.c2; have d3 := p1.c3; have d4 := p1.c4
  replace EO := Lib.hid (EO.out (by simp) (by simp) H0.out.1 H0.out.2)
  clear VA VB EI H0
  go_wp2_with fail
  go_at_call 10; refine (NA.out _ f0).mono ?_; rintro e1 w7 ⟨rfl, ff⟩
  clear c0 c1 c2 c3 c4 d0 d1 d2 d3 d4
  replace p0 := p0.on ff
  replace p1 := p1.on ff
  replace f0 := f0.trans ff
  clear ff
  have c0 := p0.c0; have c1 := p0.c1; have c2 := p0.c2; have c3 := p0.c3; have c4 := p0.c4
  have d0 := p1.c0; have d1 := p1.c1; have d2 := p1.c2; have d3 := p1.c3; have d4 := p1.c4
  go_upto_region 4 with fail
  obtain ⟨bfx, ff⟩ := box1 w7 (nmN x) (nmD x)
  obtain ⟨W8, hW8⟩ : ∃ W8, (w7.alloc (.cells #[.int .i64 (nmN x), .int .i64 (nmD x)] 28)) = W8 := ⟨_, rfl⟩
  rw [hW8] at bfx ff ⊢
  clear hW8
  clear c0 c1 c2 c3 c4 d0 d1 d2 d3 d4
  replace p0 := p0.on ff
  replace p1 := p1.on ff
  replace f0 := f0.trans ff
  clear ff
  have c0 := p0.c0; have c1 := p0.c1; have c2 := p0.c2; have c3 := p0.c3; have c4 := p0.c4
  have d0 := p1.c0; have d1 := p1.c1; have d2 := p1.c2; have d3 := p1.c3; have d4 := p1.c4
  go_wp2_with fail
  go_at_call 10; refine (NB.out _ f0).mono ?_; rintro e1 w9 ⟨rfl, ff⟩
  replace bfx := bfx.on ff
  clear c0 c1 c2 c3 c4 d0 d1 d2 d3 d4
  replace p0 := p0.on ff
  replace p1 := p1.on ff
  replace f0 := f0.trans ff
  clear ff
  have c0 := p0.c0; have c1 := p0.c1; have c2 := p0.c2; have c3 := p0.c3; have c4 := p0.c4
  have d0 := p1.c0; have d1 := p1.c1; have d2 := p1.c2; have d3 := p1.c3; have d4 := p1.c4
  clear NA NB
  cases nx : isNum x <;> cases ny : isNum y
  rotate_right
  · have HE := Lib.hid (EO.out.trans (if_pos ⟨nx, ny⟩))
    clear EO HO HS HS' nx ny
    go_upto_region 6 with fail
    obtain ⟨bfy, ff⟩ := box1 w9 (nmN y) (nmD y)
    obtain ⟨Wa, hWa⟩ : ∃ Wa, (w9.alloc (.cells #[.int .i64 (nmN y), .int .i64 (nmD y)] 28)) = Wa := ⟨_, rfl⟩
    rw [hWa] at bfy ff ⊢
    clear hWa
    replace bfx := bfx.on ff
    clear c0 c1 c2 c3 c4 d0 d1 d2 d3 d4
    replace p0 := p0.on ff
    replace p1 := p1.on ff
    replace f0 := f0.trans ff
    clear ff
    have c0 := p0.c0; have c1 := p0.c1; have c2 := p0.c2; have c3 := p0.c3; have c4 := p0.c4
    have d0 := p1.c0; have d1 := p1.c1; have d2 := p1.c2; have d3 := p1.c3; have d4 := p1.c4
    have a0 := bfx.c0; have a1 := bfx.c1; have b0 := bfy.c0; have b1 := bfy.c1
    go_wp2_with fail
    go_at_call 63; refine (rcmp_any _ _ _ _ _).mono ?_; rintro eb wb ⟨rfl, fb⟩
    generalize cmpQ (fz (nmN x) (nmD x)) (fz (nmN y) (nmD y)) = T at *
    by_cases hT : T = 0
    · have HQ := Lib.hid (show R = 2 by rw [HE.out, decide_eq_true hT]; rfl)
      have g : (T == 0) = true := beq_iff_eq.2 hT
      clear hT HE
      go_wp2_with fail
      go_at_call 62; refine (YT.out _).mono ?_; rintro ec wc ⟨rfl, fc⟩
      go_wp2
      go_ret
      exact ⟨ret_int HQ.out.symm, (Fuw.trans f0.b fb).trans fc⟩
    · have HQ := Lib.hid (show R = 0 by rw [HE.out, decide_eq_false hT]; rfl)
      have g : (T == 0) = false := beq_eq_false_iff_ne.2 hT
      clear hT HE
      go_wp2_with fail
      go_at_call 62; refine (YF.out _).mono ?_; rintro ec wc ⟨rfl, fc⟩
      go_wp2
      go_ret
      exact ⟨ret_int HQ.out.symm, (Fuw.trans f0.b fb).trans fc⟩
  all_goals
    replace EO := Lib.hid (EO.out.trans (if_neg (show ¬ (isNum x = true ∧ isNum y = true) by rw [nx, ny]; simp)))
    clear nx ny
    go_upto_region 7 with fail
    obtain ⟨bfy, ff⟩ := box1 w9 (nmN y) (nmD y)
    obtain ⟨Wa, hWa⟩ : ∃ Wa, (w9.alloc (.cells #[.int .i64 (nmN y), .int .i64 (nmD y)] 28)) = Wa := ⟨_, rfl⟩
    rw [hWa] at bfy ff ⊢
    clear hWa
    clear c0 c1 c2 c3 c4 d0 d1 d2 d3 d4
    replace p0 := p0.on ff
    replace p1 := p1.on ff
    replace f0 := f0.trans ff
    clear ff
    have c0 := p0.c0; have c1 := p0.c1; have c2 := p0.c2; have c3 := p0.c3; have c4 := p0.c4
    have d0 := p1.c0; have d1 := p1.c1; have d2 := p1.c2; have d3 := p1.c3; have d4 := p1.c4
    by_cases hk : x.kd = y.kd
    rotate_left
    · have HE := Lib.hid (EO.out.trans (if_pos hk))
      have g : (x.kd != y.kd) = true := by rw [bne_iff_ne]; exact hk
      clear hk EO HO HS HS'
      go_wp2
      go_ret
      exact ⟨ret_int HE.out.symm, f0.b⟩
    replace EO := Lib.hid (EO.out.trans (if_neg (fun t => t hk)))
    have g : (x.kd != y.kd) = false := by rw [bne_eq_false_iff_eq]; exact hk
    clear hk
    by_cases h4 : x.kd = 4
    · have HE := Lib.hid (EO.out.trans (if_pos h4))
      have g4 : (x.kd == 4) = true := beq_iff_eq.2 h4
      clear EO HO HS HS' h4
      by_cases hT : x.ss = y.ss
      · have HQ := Lib.hid (show R = 2 by rw [HE.out, decide_eq_true hT]; rfl)
        have s2 : ((bs x.ss).toList == (bs y.ss).toList) = true := by rw [bs_list, bs_list, beq_iff_eq]; exact hT
        clear hT HE
        go_wp2_with fail
        go_at_call 62; refine (YT.out _).mono ?_; rintro ec wc ⟨rfl, fc⟩
        go_wp2
        go_ret
        exact ⟨ret_int HQ.out.symm, Fuw.trans f0.b fc⟩
      · have HQ := Lib.hid (show R = 0 by rw [HE.out, decide_eq_false hT]; rfl)
        have s2 : ((bs x.ss).toList == (bs y.ss).toList) = false := by rw [bs_list, bs_list, beq_eq_false_iff_ne]; exact hT
        clear hT HE
        go_wp2_with fail
        go_at_call 62; refine (YF.out _).mono ?_; rintro ec wc ⟨rfl, fc⟩
        go_wp2
        go_ret
        exact ⟨ret_int HQ.out.symm, Fuw.trans f0.b fc⟩
    replace EO := Lib.hid (EO.out.trans (if_neg h4))
    have g4 : (x.kd == 4) = false := beq_eq_false_iff_ne.2 h4
    clear h4
    by_cases h8 : x.kd ≠ 8 ∧ x.kd ≠ 7
    · have HE := Lib.hid (EO.out.trans (if_pos h8))
      have g8 : (x.kd != 8) = true := by rw [bne_iff_ne]; exact h8.1
      have g7 : (x.kd != 7) = true := by rw [bne_iff_ne]; exact h8.2
      clear EO HO HS HS' h8
      by_cases hT : x.nn = y.nn
      · have HQ := Lib.hid (show R = 2 by rw [HE.out, decide_eq_true hT]; rfl)
        have s2 : (x.nn == y.nn) = true := beq_iff_eq.2 hT
        clear hT HE
        go_wp2_with fail
        go_at_call 62; refine (YT.out _).mono ?_; rintro ec wc ⟨rfl, fc⟩
        go_wp2
        go_ret
        exact ⟨ret_int HQ.out.symm, Fuw.trans f0.b fc⟩
      · have HQ := Lib.hid (show R = 0 by rw [HE.out, decide_eq_false hT]; rfl)
        have s2 : (x.nn == y.nn) = false := beq_eq_false_iff_ne.2 hT
        clear hT HE
        go_wp2_with fail
        go_at_call 62; refine (YF.out _).mono ?_; rintro ec wc ⟨rfl, fc⟩
        go_wp2
        go_ret
        exact ⟨ret_int HQ.out.symm, Fuw.trans f0.b fc⟩
    replace EO := Lib.hid (EO.out.trans (if_neg h8))
    have h8' : x.kd = 8 ∨ x.kd = 7 := by omega
    have g87 : ((x.kd != 8) = false) ∨ ((x.kd != 8) = true ∧ (x.kd != 7) = false) := by
      rcases h8' with e | e
      · left; rw [bne_eq_false_iff_eq]; exact e
      · right; exact ⟨by rw [bne_iff_ne]; omega, by rw [bne_eq_false_iff_eq]; exact e⟩
    clear h8 h8' YT YF bfx bfy
    by_cases hl : x.ll.length = y.ll.length
    rotate_left
    · have HE := Lib.hid (EO.out.trans (if_pos hl))
      have gl : ((x.ll.length : Int) != y.ll.length) = true := by rw [bne_iff_ne]; omega
      clear EO HO HS HS' hl
      rcases g87 with g8 | ⟨g8, g7⟩
      all_goals
        go_wp2
        go_ret
        exact ⟨ret_int HE.out.symm, f0.b⟩
    replace EO := Lib.hid (EO.out.trans (if_neg (fun t => t hl)))
    have gl : ((x.ll.length : Int) != y.ll.length) = false := by rw [bne_eq_false_iff_eq]; omega
    have HLN := Lib.hid hl
    clear hl
    rcases g87 with g8 | ⟨g8, g7⟩
    all_goals
      go_wp2
      go_loopw [9, 10] (fun av iv wr => ∃ (i : Nat) (a : Int), iv = .int .i64 i ∧ av = .int .i64 a ∧ i ≤ x.ll.length ∧ Hid ((0 ≤ a ∧ a ≤ 2) ∧ R = min a (eqL (x.ll.drop i) (y.ll.drop i))) ∧ Fuw Wa wr) (fun _ iv _ => x.ll.length - (RowKit.intOf iv).toNat)
      case atStart => exact ⟨0, 2, rfl, rfl, Nat.zero_le _, ⟨by omega, by have := eqL_r x.ll y.ll; have := EO.out; simp only [List.drop_zero]; omega⟩, Fuw.refl _⟩
      case round =>
        obtain ⟨i, a, rfl, rfl, hi, HN, hf⟩ := hrel
        have m0 := (p0.onw hf).c4
        have m1 := (p1.onw hf).c4
        clear c0 c1 c2 c3 c4 d0 d1 d2 d3 d4
        by_cases hlt : i < x.ll.length
        · have hlt' : i < y.ll.length := by have := HLN.out; omega
          obtain ⟨b, o, rfl, hv⟩ := (HS.out.onw (Fuw.trans f0.b hf)).get hlt
          obtain ⟨b', o', rfl, hv'⟩ := (HS'.out.onw (Fuw.trans f0.b hf)).get hlt'
          have hA := eqL_drop x.ll y.ll i hlt hlt'
          have hm := HO.out x.ll[i] (List.getElem_mem hlt)
          obtain ⟨hy, c0, c1, c2, c3, a1, k1, c4, hs2⟩ := VC_of hv
          obtain ⟨hy', d0, d1, d2, d3, a2, k2, d4, hs2'⟩ := VC_of hv'
          have HR := Lib.hid (eqV_r x.ll[i] y.ll[i])
          have HC := Lib.hid (fun w' (hf' : Fuw wr w') => hm y.ll[i] a1 a2 k1 k2 w' hy hy' (hs2.onw hf') (hs2'.onw hf'))
          have HE := Lib.hid (show R = min (min a (eqV x.ll[i] y.ll[i])) (eqL (x.ll.drop (i + 1)) (y.ll.drop (i + 1))) by rw [HN.out.2, hA]; omega)
          have HB := Lib.hid HN.out.1
          unfold vlv at HC
          clear hv hv' hs2 hs2' hy hy' hA hm HN
          generalize x.ll[i] = u at *
          generalize y.ll[i] = v at *
          generalize eqV u v = r at *
          have ff : Fuw wr wr.drew := Fuw.drew (Fuw.refl wr)
          go_wp2_with fail
          go_region_held3 (fun w' => Fuw wr w' ∧ w'.cell? ⟨w.heap.size, 4, none⟩ = some (.slice (some ⟨b, o, none⟩) x.ll.length ca) ∧ w'.cell? ⟨w.heap.size + 1, 4, none⟩ = some (.slice (some ⟨b', o', none⟩) y.ll.length cb) ∧ w'.cell? ⟨b, o + i * 5, none⟩ = some (.int .i64 u.kd) ∧ w'.cell? ⟨b, o + i * 5 + 1, none⟩ = some (.int .i64 u.nn) ∧ w'.cell? ⟨b, o + i * 5 + 2, none⟩ = some (.int .i64 u.dd) ∧ w'.cell? ⟨b, o + i * 5 + 3, none⟩ = some (.string (bs u.ss)) ∧ w'.cell? ⟨b, o + i * 5 + 4, none⟩ = some (.slice a1 u.ll.length k1) ∧ w'.cell? ⟨b', o' + i * 5, none⟩ = some (.int .i64 v.kd) ∧ w'.cell? ⟨b', o' + i * 5 + 1, none⟩ = some (.int .i64 v.nn) ∧ w'.cell? ⟨b', o' + i * 5 + 2, none⟩ = some (.int .i64 v.dd) ∧ w'.cell? ⟨b', o' + i * 5 + 3, none⟩ = some (.string (bs v.ss)) ∧ w'.cell? ⟨b', o' + i * 5 + 4, none⟩ = some (.slice a2 v.ll.length k2))
            (first
              | exact keep12w ff m0 m1 c0 c1 c2 c3 c4 d0 d1 d2 d3 d4)
            (first
              | (go_at_call 20; refine (HC.out _ ff).mono ?_; rintro e1 w1 ⟨rfl, f1⟩; replace ff := ff.trans f1)
              | (go_at_call 64; refine (rand_w _ _ HB.out HR.out _).mono ?_; rintro e2 w2 ⟨rfl, f2⟩; replace ff := ff.trans f2))
          have HB2 := Lib.hid (show 0 ≤ min a r ∧ min a r ≤ 2 by have := HB.out; have := HR.out; omega)
          generalize min a r = z at *
          go_wp2
          go_roundw
          case rel => exact ⟨i + 1, z, by go_num, rfl, by omega, ⟨HB2.out, HE.out⟩, hf.trans ff⟩
          case measure => simp [RowKit.intOf]; omega
        · have HE := Lib.hid (show R = a by
            rw [HN.out.2, List.drop_of_length_le (by omega)]
            unfold eqL
            have := HN.out.1
            omega)
          go_wp2
          go_ret
          exact ⟨ret_int HE.out.symm, Fuw.trans f0.b hf⟩
end Go.Proofs.YtenmideffecdnaaGreatDoor
