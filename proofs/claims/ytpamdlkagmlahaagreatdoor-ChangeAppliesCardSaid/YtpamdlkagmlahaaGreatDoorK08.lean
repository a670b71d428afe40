/-
  LvG; M16: texts of one kind in one file; each part says what it holds.
-/
import Derived.Test.YtpamdlkagmlahaaGreatDoorK07
import Derived.Test.YtpamdlkagmlahaaGreatDoorK05

namespace Go.Proofs.YtpamdlkagmlahaaGreatDoor
open Go.RowKit
theorem keep10 {v v' : World} {p0 p1 p2 p3 p4 q0 q1 q2 q3 q4 : Addr} {x0 x1 x2 x3 x4 y0 y1 y2 y3 y4 : Value} (hf : Fur v v') (h0 : v.cell? p0 = some x0) (h1 : v.cell? p1 = some x1) (h2 : v.cell? p2 = some x2) (h3 : v.cell? p3 = some x3) (h4 : v.cell? p4 = some x4) (g0 : v.cell? q0 = some y0) (g1 : v.cell? q1 = some y1) (g2 : v.cell? q2 = some y2) (g3 : v.cell? q3 = some y3) (g4 : v.cell? q4 = some y4) :
  Fur v v' ∧ v'.cell? p0 = some x0 ∧ v'.cell? p1 = some x1 ∧ v'.cell? p2 = some x2 ∧ v'.cell? p3 = some x3 ∧ v'.cell? p4 = some x4 ∧ v'.cell? q0 = some y0 ∧ v'.cell? q1 = some y1 ∧ v'.cell? q2 = some y2 ∧ v'.cell? q3 = some y3 ∧ v'.cell? q4 = some y4 :=
 ⟨hf, cellOn hf h0, cellOn hf h1, cellOn hf h2, cellOn hf h3, cellOn hf h4, cellOn hf g0, cellOn hf g1, cellOn hf g2, cellOn hf g3, cellOn hf g4⟩
theorem kind_in {x : Vl} (h : okX x = true) : 0 ≤ x.kd ∧ x.kd ≤ 8 := by
 obtain ⟨k, n, d, s, l⟩ := x
 show 0 ≤ k ∧ k ≤ 8
 rcases kinds h with h | h | h | h | h | h | h | h | h <;> omega
theorem ordV_mk {k n d : Int} {s : List UInt8} {l : List Vl} {k' n' d' : Int} {s' : List UInt8} {l' : List Vl} (hx : okX (.mk k n d s l) = true) (hy : okX (.mk k' n' d' s' l') = true) : ordV (.mk k n d s l) (.mk k' n' d' s' l') =
  if classV k ≠ classV k' then intc (classV k) (classV k') else if classV k = 2 then cmpQ (fz n (frD k d)) (fz n' (frD k' d')) else if classV k = 3 then strc s s' else if classV k = 6 ∨ classV k = 7 then ordL l l' else intc n n' := by
 have nx : isNum (.mk k n d s l) = true ↔ classV k = 2 := num_class hx
 have ny : isNum (.mk k' n' d' s' l') = true ↔ classV k' = 2 := num_class hy
 unfold ordV
 show (if okX (.mk k n d s l) ≠ okX (.mk k' n' d' s' l') then (if okX (.mk k n d s l) = true then -1 else 1) else if okX (.mk k' n' d' s' l') = true ∧ classV k ≠ classV k' then intc (classV k) (classV k') else if okX (.mk k' n' d' s' l') = true ∧ isNum (.mk k n d s l) = true then cmpQ (fz (nmN (.mk k n d s l)) (nmD (.mk k n d s l))) (fz (nmN (.mk k' n' d' s' l')) (nmD (.mk k' n' d' s' l'))) else thn (intc k k') (thn (intc n n') (thn (intc d d') (thn (strc s s') (ordL l l'))))) = _
 rw [if_neg (show ¬ (okX (.mk k n d s l) ≠ okX (.mk k' n' d' s' l')) by rw [hx, hy]; simp)]
 by_cases hc : classV k = classV k'
 ·rw [if_neg (show ¬ (okX (.mk k' n' d' s' l') = true ∧ classV k ≠ classV k') from fun t => t.2 hc), if_neg (show ¬ (classV k ≠ classV k') from fun t => t hc)]
  by_cases h2 : classV k = 2
  ·have i1 := nx.2 h2
   have i2 := ny.2 (hc ▸ h2)
   rw [if_pos ⟨hy, i1⟩, if_pos h2]
   unfold nmN nmD frD
   rw [if_pos i1, if_pos i1, if_pos i2, if_pos i2]
   rfl
  ·rw [if_neg (show ¬ (okX (.mk k' n' d' s' l') = true ∧ isNum (.mk k n d s l) = true) from fun t => h2 (nx.1 t.2)), if_neg h2]
   clear nx ny
   rcases kinds hx with ⟨k0, a1, a2, a3, a4⟩ | ⟨k0, a1, a2, a3, a4⟩ | ⟨k0, a1, a2, a3, a4⟩ | ⟨k0, a1, a2, a3, a4⟩ | ⟨k0, a1, a2, a4⟩ | ⟨k0, a1, a2, a3, a4⟩ | ⟨k0, a1, a2, a3, a4⟩ | ⟨k0, a1, a2, a3, a4⟩ | ⟨k0, a1, a2, a3, a4⟩ <;>
   rcases kinds hy with ⟨q0, b1, b2, b3, b4⟩ | ⟨q0, b1, b2, b3, b4⟩ | ⟨q0, b1, b2, b3, b4⟩ | ⟨q0, b1, b2, b3, b4⟩ | ⟨q0, b1, b2, b4⟩ | ⟨q0, b1, b2, b3, b4⟩ | ⟨q0, b1, b2, b3, b4⟩ | ⟨q0, b1, b2, b3, b4⟩ | ⟨q0, b1, b2, b3, b4⟩ <;>
   (rw [k0, q0] at hc) <;> first
   | (exact absurd hc (by decide))
   | (rw [k0] at h2; exact absurd rfl h2)
   | skip
   ·subst k0 a1 a2 a3 a4 q0 b1 b2 b3 b4
    rfl
   ·subst k0 a2 a3 a4 q0 b2 b3 b4
    simp only [intc_self, thn_0, strc, ordL, thn_r]
    rfl
   ·subst k0 a1 a2 a4 q0 b1 b2 b4
    simp only [intc_self, thn_0, ordL, thn_r]
    rfl
   ·subst k0 a2 a3 a4 q0 b2 b3 b4
    simp only [intc_self, thn_0, strc, ordL, thn_r]
    rfl
   ·subst k0 a2 a3 a4 q0 b2 b3 b4
    simp only [intc_self, thn_0, strc, ordL, thn_r]
    rfl
   ·subst k0 a1 a2 a3 q0 b1 b2 b3
    simp only [intc_self, thn_0, strc]
    rfl
   ·subst k0 a1 a2 a3 q0 b1 b2 b3
    simp only [intc_self, thn_0, strc]
    rfl
 ·rw [if_pos (show okX (.mk k' n' d' s' l') = true ∧ classV k ≠ classV k' from ⟨hy, hc⟩), if_pos hc]
theorem ordV_eq {x y : Vl} (hx : okX x = true) (hy : okX y = true) : ordV x y = if classV x.kd ≠ classV y.kd then intc (classV x.kd) (classV y.kd) else if classV x.kd = 2 then cmpQ (fz x.nn (frD x.kd x.dd)) (fz y.nn (frD y.kd y.dd)) else if classV x.kd = 3 then strc x.ss y.ss else if classV x.kd = 6 ∨ classV x.kd = 7 then ordL x.ll y.ll else intc x.nn y.nn := by
 obtain ⟨k, n, d, s, l⟩ := x
 obtain ⟨k', n', d', s', l'⟩ := y
 exact ordV_mk hx hy
theorem lcmpi_r (a b : Int) (w : World) : Calls Tryz.prog 132 #[.int .i64 a, .int .i64 b] w (RetI w (intc a b)) :=
 (lcmpi_any a b w).mono fun _ _ ⟨he, hw⟩ => ⟨he, hw ▸ Fur.refl _⟩
theorem intc_ne {a b : Int} (h : a ≠ b) : (intc a b != 0) = true := by
 rw [bne_iff_ne]
 intro e
 exact h (intc_z.1 e)
set_option maxHeartbeats 6400000 in
set_option maxRecDepth 100000 in
theorem lov_by (x y : Vl) (hL : ∀ u, u ∈ x.ll → ∀ v, v ∈ y.ll → CmpAt 96 u v) (hx : okX x = true) (hy : okX y = true) (ao bo : Option Addr) (ca cb : Nat) (w : World) (hs : SlV w ao x.ll ca) (hs' : SlV w bo y.ll cb) :
  Calls Tryz.prog 96 #[vlv x ao ca, vlv y bo cb] w (RetI w (ordV x y)) := by
 obtain ⟨p0, p1, f0⟩ := bx2' w x y ao bo ca cb
 have hne : ¬ (w.heap.size = w.heap.size + 1) := by omega
 have hne2 : ¬ (w.heap.size + 1 = w.heap.size) := by omega
 have HE := Lib.hid (ordV_eq hx hy)
 rw [← classG_ok (kind_in hx).1 (kind_in hx).2, ← classG_ok (kind_in hy).1 (kind_in hy).2] at HE
 have VC := Lib.hid (fun w' (hf : Fur w w') => lcf_valid x.ll y.ll hL ao bo ca cb w' (hs.on hf) (hs'.on hf))
 clear hs hs' hx hy hL
 generalize ordV x y = R at *
 obtain ⟨W, hW⟩ : ∃ W, ((w.alloc (.cells #[.int .i64 x.kd, .int .i64 x.nn, .int .i64 x.dd, .string (bs x.ss), .slice ao x.ll.length ca] 28)).alloc (.cells #[.int .i64 y.kd, .int .i64 y.nn, .int .i64 y.dd, .string (bs y.ss), .slice bo y.ll.length cb] 28)) = W := ⟨_, rfl⟩
 rw [hW] at p0 p1 f0
 unfold vlv
 go_enter Tryz.func96, Tryz.ntmps96
 go_upto_region 1 with fail
 clear hW
 have c0 := p0.c0; have c1 := p0.c1; have c2 := p0.c2; have c3 := p0.c3; have c4 := p0.c4
 have d0 := p1.c0; have d1 := p1.c1; have d2 := p1.c2; have d3 := p1.c3; have d4 := p1.c4
 have ff : Fur W W.drew := Fur.drew (Fur.refl W)
 go_region_held3 (fun w' => Fur W w' ∧ w'.cell? ⟨w.heap.size, 0, none⟩ = some (.int .i64 x.kd) ∧ w'.cell? ⟨w.heap.size, 1, none⟩ = some (.int .i64 x.nn) ∧ w'.cell? ⟨w.heap.size, 2, none⟩ = some (.int .i64 x.dd) ∧ w'.cell? ⟨w.heap.size, 3, none⟩ = some (.string (bs x.ss)) ∧ w'.cell? ⟨w.heap.size, 4, none⟩ = some (.slice ao x.ll.length ca) ∧ w'.cell? ⟨w.heap.size + 1, 0, none⟩ = some (.int .i64 y.kd) ∧ w'.cell? ⟨w.heap.size + 1, 1, none⟩ = some (.int .i64 y.nn) ∧ w'.cell? ⟨w.heap.size + 1, 2, none⟩ = some (.int .i64 y.dd) ∧ w'.cell? ⟨w.heap.size + 1, 3, none⟩ = some (.string (bs y.ss)) ∧ w'.cell? ⟨w.heap.size + 1, 4, none⟩ = some (.slice bo y.ll.length cb))
  (first
   | exact keep10 ff c0 c1 c2 c3 c4 d0 d1 d2 d3 d4)
  (first
   | (go_at_call 133; refine (lclass_any _ _ _ _).mono ?_; rintro e4 w4 ⟨rfl, f4⟩; replace ff := ff.trans f4)
   | (go_at_call 132; refine (lcmpi_r _ _ _).mono ?_; rintro e5 w5 ⟨rfl, f5⟩; replace ff := ff.trans f5))
 have CX := Lib.hid (fun w => lclass_any x ao ca w)
 unfold vlv at CX
 generalize classG x.kd = cx at *
 generalize classG y.kd = cy at *
 clear f4 f5
 clear c0 c1 c2 c3 c4 d0 d1 d2 d3 d4
 replace p0 := p0.on ff
 replace p1 := p1.on ff
 replace f0 := f0.trans ff
 clear ff
 have c0 := p0.c0; have c1 := p0.c1; have c2 := p0.c2; have c3 := p0.c3; have c4 := p0.c4
 have d0 := p1.c0; have d1 := p1.c1; have d2 := p1.c2; have d3 := p1.c3; have d4 := p1.c4
 by_cases hc : cx = cy
 rotate_left
 ·have g := intc_ne hc
  have HR := Lib.hid (show R = intc cx cy by rw [HE.out, if_pos hc])
  clear hc HE VC CX
  go_wp2
  go_ret
  exact ⟨ret_int HR.out.symm, f0⟩
 subst hc
 have e0 : intc cx cx = 0 := intc_self cx
 replace HE := Lib.hid (HE.out.trans (if_neg (fun t => t rfl)))
 go_wp2_with fail
 go_at_call 133; refine (CX.out _).mono ?_; rintro e6 w6 ⟨rfl, f6⟩
 clear c0 c1 c2 c3 c4 d0 d1 d2 d3 d4
 replace p0 := p0.on f6
 replace p1 := p1.on f6
 replace f0 := f0.trans f6
 clear f6
 have c0 := p0.c0; have c1 := p0.c1; have c2 := p0.c2; have c3 := p0.c3; have c4 := p0.c4
 have d0 := p1.c0; have d1 := p1.c1; have d2 := p1.c2; have d3 := p1.c3; have d4 := p1.c4
 clear CX e0
 by_cases h2 : cx = 2
 ·subst h2
  replace HE := Lib.hid (HE.out.trans (if_pos rfl))
  clear VC
  go_upto_region 6 with fail
  have ff : Fur w6 w6.drew := Fur.drew (Fur.refl w6)
  go_region_held3 (fun w' => Fur w6 w' ∧ w'.cell? ⟨w.heap.size, 0, none⟩ = some (.int .i64 x.kd) ∧ w'.cell? ⟨w.heap.size, 1, none⟩ = some (.int .i64 x.nn) ∧ w'.cell? ⟨w.heap.size, 2, none⟩ = some (.int .i64 x.dd) ∧ w'.cell? ⟨w.heap.size, 3, none⟩ = some (.string (bs x.ss)) ∧ w'.cell? ⟨w.heap.size, 4, none⟩ = some (.slice ao x.ll.length ca) ∧ w'.cell? ⟨w.heap.size + 1, 0, none⟩ = some (.int .i64 y.kd) ∧ w'.cell? ⟨w.heap.size + 1, 1, none⟩ = some (.int .i64 y.nn) ∧ w'.cell? ⟨w.heap.size + 1, 2, none⟩ = some (.int .i64 y.dd) ∧ w'.cell? ⟨w.heap.size + 1, 3, none⟩ = some (.string (bs y.ss)) ∧ w'.cell? ⟨w.heap.size + 1, 4, none⟩ = some (.slice bo y.ll.length cb))
   (first
    | exact keep10 ff c0 c1 c2 c3 c4 d0 d1 d2 d3 d4)
   (first
    | (go_at_call 119; refine (lfrac_any _ _ _ _).mono ?_; rintro e7 w7 ⟨rfl, f7⟩; replace ff := ff.trans f7)
    | (go_at_call 134; refine (nf_cmp _ _ _ _ _).mono ?_; rintro e8 w8 ⟨rfl, f8⟩; replace ff := ff.trans f8))
  go_wp2
  go_ret
  exact ⟨ret_int HE.out.symm, f0.trans ff⟩
 replace HE := Lib.hid (HE.out.trans (if_neg h2))
 have g2 : (cx == 2) = false := beq_eq_false_iff_ne.2 h2
 clear h2
 by_cases h3 : cx = 3
 ·subst h3
  replace HE := Lib.hid (HE.out.trans (if_pos rfl))
  have CS := Lib.hid (fun w => lcmps_any (bs x.ss) (bs y.ss) w)
  rw [show (bs x.ss).data.toList = x.ss from rfl, show (bs y.ss).data.toList = y.ss from rfl] at CS
  clear VC
  go_wp2_with fail
  go_at_call 135; refine (CS.out _).mono ?_; rintro e7 w7 ⟨rfl, rfl⟩
  go_wp2
  go_ret
  exact ⟨ret_int HE.out.symm, f0⟩
 replace HE := Lib.hid (HE.out.trans (if_neg h3))
 have g3 : (cx == 3) = false := beq_eq_false_iff_ne.2 h3
 clear h3
 by_cases h6 : cx = 6
 ·subst h6
  replace HE := Lib.hid (HE.out.trans (if_pos (.inl rfl)))
  go_wp2_with fail
  go_at_call 136; refine (VC.out _ f0).mono ?_; rintro e7 w7 ⟨rfl, f7⟩
  go_wp2
  go_ret
  exact ⟨ret_int HE.out.symm, f0.trans f7⟩
 have g6 : (cx == 6) = false := beq_eq_false_iff_ne.2 h6
 by_cases h7 : cx = 7
 ·subst h7
  replace HE := Lib.hid (HE.out.trans (if_pos (.inr rfl)))
  clear h6
  go_wp2_with fail
  go_at_call 136; refine (VC.out _ f0).mono ?_; rintro e7 w7 ⟨rfl, f7⟩
  go_wp2
  go_ret
  exact ⟨ret_int HE.out.symm, f0.trans f7⟩
 have g7 : (cx == 7) = false := beq_eq_false_iff_ne.2 h7
 replace HE := Lib.hid (HE.out.trans (if_neg (by omega)))
 clear h6 h7 VC
 have CI := Lib.hid (fun w => lcmpi_r x.nn y.nn w)
 go_wp2_with fail
 go_at_call 132; refine (CI.out _).mono ?_; rintro e7 w7 ⟨rfl, f7⟩
 go_wp2
 go_ret
 exact ⟨ret_int HE.out.symm, f0.trans f7⟩
def OVP (x : Vl) : Prop := ∀ y, okX x = true → okX y = true → CmpAt 96 x y
theorem ll_ok {k n d : Int} {s : List UInt8} {l : List Vl} (h : okX (.mk k n d s l) = true) : AllOk l := by
 rcases kinds h with ⟨-, -, -, -, e⟩ | ⟨-, -, -, -, e⟩ | ⟨-, -, -, -, e⟩ | ⟨-, -, -, -, e⟩ | ⟨-, -, -, e⟩ | ⟨-, -, -, -, e⟩ | ⟨-, -, -, -, e⟩ | ⟨-, -, -, -, e⟩ | ⟨-, -, -, -, e⟩
 all_goals first | exact e | (rw [e]; intro v hv; cases hv)
theorem ll_ok' {x : Vl} (h : okX x = true) : AllOk x.ll := by
 obtain ⟨k, n, d, s, l⟩ := x
 exact ll_ok h
mutual
theorem lov_all : ∀ x : Vl, OVP x
 | .mk k n d s l => fun y hx hy ao bo ca cb w _ _ hs hs' =>
  lov_by (.mk k n d s l) y (fun u hu v hv => lov_list l u hu v (ll_ok hx u hu) (ll_ok' hy v hv)) hx hy ao bo ca cb w hs hs'
theorem lov_list : ∀ l : List Vl, ∀ u, u ∈ l → OVP u
 | [], _, hu => by cases hu
 | x :: r, u, hu => (List.mem_cons.1 hu).elim (fun e => e ▸ lov_all x) (fun e => lov_list r u e)
end
end Go.Proofs.YtpamdlkagmlahaaGreatDoor

namespace Go.Proofs.YtpamdlkagmlahaaGreatDoor
open Go.RowKit
def orL : List Int → Int
 | [] => 0
 | x :: r => thn x (orL r)
theorem orL_drop (l : List Int) (i : Nat) (h : i < l.length) : orL (l.drop i) = thn (l.getD i 0) (orL (l.drop (i + 1))) := by
 rw [List.drop_eq_getElem_cons h, getD_at h]; rfl
set_option maxHeartbeats 1600000 in
theorem lor_any_s (l : List Int) (ao : Option Addr) (cap : Nat) (w : World) (hs : IsS w ao l cap) :
  Calls Tryz.prog 137 #[.slice ao l.length cap] w (RetI w (orL l)) := by
 have HS := Lib.hid hs
 have h1 := hs.le
 have h2 := hs.max
 unfold maxLen at h2
 clear hs
 go_enter Tryz.func137, Tryz.ntmps137
 go_wp2
 go_loopw [8] (fun iv wr => ∃ i : Nat, iv = .int .i64 i ∧ i ≤ l.length ∧ Hid (orL l = orL (l.drop i)) ∧ Fur w wr) (fun iv _ => l.length - (RowKit.intOf iv).toNat)
 case atStart => exact ⟨0, rfl, Nat.zero_le _, rfl, Fur.refl _⟩
 case round =>
  obtain ⟨i, rfl, hi, HN, hf⟩ := hrel
  by_cases hlt : i < l.length
  ·obtain ⟨b, o, rfl, -, hc⟩ := (HS.out.on hf).at_ (by omega)
   have c := hc i hlt
   have HA := Lib.hid (HN.out.trans (orL_drop l i hlt))
   clear hc HN
   generalize l.getD i 0 = r at *
   by_cases hr : r = 0
   ·subst hr
    go_wp2
    go_roundw
    case rel => exact ⟨i + 1, by go_num, by omega, HA.out, hf⟩
    case measure => simp [RowKit.intOf]; omega
   ·have hr' : (r != 0) = true := by rw [bne_iff_ne]; exact hr
    have HF := Lib.hid (HA.out.trans (thn_n hr _))
    clear hr
    go_wp2
    go_ret
    exact ⟨ret_int HF.out.symm, hf⟩
  ·have HE := Lib.hid (show orL l = 0 by rw [HN.out, List.drop_of_length_le (by omega)]; rfl)
   go_wp2
   go_ret
   exact ⟨ret_int HE.out.symm, hf⟩
theorem lor4 (a b c d : Int) (w : World) : Calls Tryz.prog 137 #[.slice (some ⟨w.heap.size, 0, none⟩) 4 4] (w.alloc (.cells #[.int .i64 a, .int .i64 b, .int .i64 c, .int .i64 d] 3)) (RetI w (thn a (thn b (thn c d)))) := by
 have hh : (w.alloc (.cells #[.int .i64 a, .int .i64 b, .int .i64 c, .int .i64 d] 3)).heap[w.heap.size]? = some (.cells #[.int .i64 a, .int .i64 b, .int .i64 c, .int .i64 d] 3) := by
  show (w.heap.push _)[w.heap.size]? = _
  rw [Array.getElem?_push, if_pos rfl]
 have hI : IsS (w.alloc (.cells #[.int .i64 a, .int .i64 b, .int .i64 c, .int .i64 d] 3)) (some ⟨w.heap.size, 0, none⟩) [a, b, c, d] 4 :=
  ⟨Nat.le_refl _, by unfold maxLen; decide, (fun h => by cases h), fun _ => ⟨w.heap.size, 0, rfl, by simp, fun j hj => by
   have h4 : j = 0 ∨ j = 1 ∨ j = 2 ∨ j = 3 := by simp at hj; omega
   rcases h4 with rfl | rfl | rfl | rfl <;> (unfold World.cell?; rw [hh]; rfl)⟩⟩
 have e : thn a (thn b (thn c d)) = orL [a, b, c, d] := by
  show _ = thn a (thn b (thn c (thn d 0)))
  rw [thn_r]
 rw [e]
 exact (lor_any_s [a, b, c, d] _ 4 _ hI).mono fun _ _ ⟨he, hf⟩ => ⟨he, ((Fur.refl w).alloc _).trans hf⟩
theorem lcmps_r (s t : ByteArray) (w : World) : Calls Tryz.prog 135 #[.string s, .string t] w (RetI w (strc s.data.toList t.data.toList)) :=
 (lcmps_any s t w).mono fun _ _ ⟨he, hw⟩ => ⟨he, hw ▸ Fur.refl _⟩
def fldV (x y : Vl) : Int := thn (intc x.kd y.kd) (thn (intc x.nn y.nn) (thn (intc x.dd y.dd) (thn (strc x.ss y.ss) (ordL x.ll y.ll))))
theorem fldV_4 (x y : Vl) : fldV x y = thn (thn (intc x.kd y.kd) (thn (intc x.nn y.nn) (thn (intc x.dd y.dd) (strc x.ss y.ss)))) (ordL x.ll y.ll) := by
 unfold fldV
 simp only [thn_assoc]
theorem ordV_inv {x y : Vl} (hx : okX x = false) (hy : okX y = false) : ordV x y = fldV x y := by
 obtain ⟨k, n, d, s, l⟩ := x
 unfold ordV
 rw [hx, hy]
 rfl
theorem ordV_tf {x y : Vl} (hx : okX x = true) (hy : okX y = false) : ordV x y = -1 := by
 obtain ⟨k, n, d, s, l⟩ := x
 unfold ordV
 rw [hx, hy]
 rfl
theorem ordV_ft {x y : Vl} (hx : okX x = false) (hy : okX y = true) : ordV x y = 1 := by
 obtain ⟨k, n, d, s, l⟩ := x
 unfold ordV
 rw [hx, hy]
 rfl
set_option maxHeartbeats 6400000 in
set_option maxRecDepth 100000 in
theorem loi_by (x y : Vl) (hL : ∀ u, u ∈ x.ll → ∀ v, v ∈ y.ll → CmpAt 59 u v) (ao bo : Option Addr) (ca cb : Nat) (w : World) (hs : SlV w ao x.ll ca) (hs' : SlV w bo y.ll cb) :
  Calls Tryz.prog 97 #[vlv x ao ca, vlv y bo cb] w (RetI w (fldV x y)) := by
 obtain ⟨p0, p1, f0⟩ := bx2' w x y ao bo ca cb
 have hne : ¬ (w.heap.size = w.heap.size + 1) := by omega
 have hne2 : ¬ (w.heap.size + 1 = w.heap.size) := by omega
 have HE := Lib.hid (show fldV x y = thn (thn (intc x.kd y.kd) (thn (intc x.nn y.nn) (thn (intc x.dd y.dd) (strc (bs x.ss).data.toList (bs y.ss).data.toList)))) (ordL x.ll y.ll) from fldV_4 x y)
 have VC := Lib.hid (fun w' (hf : Fur w w') => lcf_order x.ll y.ll hL ao bo ca cb w' (hs.on hf) (hs'.on hf))
 clear hs hs' hL
 generalize fldV x y = R at *
 obtain ⟨W, hW⟩ : ∃ W, ((w.alloc (.cells #[.int .i64 x.kd, .int .i64 x.nn, .int .i64 x.dd, .string (bs x.ss), .slice ao x.ll.length ca] 28)).alloc (.cells #[.int .i64 y.kd, .int .i64 y.nn, .int .i64 y.dd, .string (bs y.ss), .slice bo y.ll.length cb] 28)) = W := ⟨_, rfl⟩
 rw [hW] at p0 p1 f0
 unfold vlv
 go_enter Tryz.func97, Tryz.ntmps97
 go_upto_region 1 with fail
 clear hW
 have c0 := p0.c0; have c1 := p0.c1; have c2 := p0.c2; have c3 := p0.c3; have c4 := p0.c4
 have d0 := p1.c0; have d1 := p1.c1; have d2 := p1.c2; have d3 := p1.c3; have d4 := p1.c4
 have ff : Fur W W.drew := Fur.drew (Fur.refl W)
 go_region_held3 (fun w' => Fur W w' ∧ w'.cell? ⟨w.heap.size, 0, none⟩ = some (.int .i64 x.kd) ∧ w'.cell? ⟨w.heap.size, 1, none⟩ = some (.int .i64 x.nn) ∧ w'.cell? ⟨w.heap.size, 2, none⟩ = some (.int .i64 x.dd) ∧ w'.cell? ⟨w.heap.size, 3, none⟩ = some (.string (bs x.ss)) ∧ w'.cell? ⟨w.heap.size, 4, none⟩ = some (.slice ao x.ll.length ca) ∧ w'.cell? ⟨w.heap.size + 1, 0, none⟩ = some (.int .i64 y.kd) ∧ w'.cell? ⟨w.heap.size + 1, 1, none⟩ = some (.int .i64 y.nn) ∧ w'.cell? ⟨w.heap.size + 1, 2, none⟩ = some (.int .i64 y.dd) ∧ w'.cell? ⟨w.heap.size + 1, 3, none⟩ = some (.string (bs y.ss)) ∧ w'.cell? ⟨w.heap.size + 1, 4, none⟩ = some (.slice bo y.ll.length cb))
  (first
   | exact keep10 ff c0 c1 c2 c3 c4 d0 d1 d2 d3 d4
   | exact keep10 (ff.alloc _) c0 c1 c2 c3 c4 d0 d1 d2 d3 d4)
  (first
   | (go_at_call 132; refine (lcmpi_r _ _ _).mono ?_; rintro e4 w4 ⟨rfl, f4⟩; replace ff := ff.trans f4)
   | (go_at_call 135; refine (lcmps_r _ _ _).mono ?_; rintro e4 w4 ⟨rfl, f4⟩; replace ff := ff.trans f4)
   | (go_at_call 137; refine (lor4 _ _ _ _ _).mono ?_; rintro e5 w5 ⟨rfl, f5⟩; replace ff := ff.trans f5))
 generalize thn (intc x.kd y.kd) (thn (intc x.nn y.nn) (thn (intc x.dd y.dd) (strc (bs x.ss).data.toList (bs y.ss).data.toList))) = T at *
 clear c0 c1 c2 c3 c4 d0 d1 d2 d3 d4
 replace p0 := p0.on ff
 replace p1 := p1.on ff
 replace f0 := f0.trans ff
 clear ff
 have c0 := p0.c0; have c1 := p0.c1; have c2 := p0.c2; have c3 := p0.c3; have c4 := p0.c4
 have d0 := p1.c0; have d1 := p1.c1; have d2 := p1.c2; have d3 := p1.c3; have d4 := p1.c4
 by_cases hr : T = 0
 ·subst hr
  replace HE := Lib.hid (HE.out.trans (thn_0 _))
  go_wp2_with fail
  go_at_call 136; refine (VC.out _ f0).mono ?_; rintro e7 w7 ⟨rfl, f7⟩
  go_wp2
  go_ret
  exact ⟨ret_int HE.out.symm, f0.trans f7⟩
 ·have g : (T != 0) = true := by rw [bne_iff_ne]; exact hr
  replace HE := Lib.hid (HE.out.trans (thn_n hr _))
  clear hr VC
  go_wp2
  go_ret
  exact ⟨ret_int HE.out.symm, f0⟩
set_option maxHeartbeats 6400000 in
set_option maxRecDepth 100000 in
theorem lo_by (x y : Vl) (hL : ∀ u, u ∈ x.ll → ∀ v, v ∈ y.ll → CmpAt 59 u v) (ao bo : Option Addr) (ca cb : Nat) (w : World) (hi : Vin x) (hi' : Vin y) (hs : SlV w ao x.ll ca) (hs' : SlV w bo y.ll cb) :
  Calls Tryz.prog 59 #[vlv x ao ca, vlv y bo cb] w (RetI w (ordV x y)) := by
 obtain ⟨p0, p1, f0⟩ := bx2' w x y ao bo ca cb
 have hne : ¬ (w.heap.size = w.heap.size + 1) := by omega
 have hne2 : ¬ (w.heap.size + 1 = w.heap.size) := by omega
 have ETF := Lib.hid (fun hp hq => ordV_tf (x := x) (y := y) hp hq)
 have EFT := Lib.hid (fun hp hq => ordV_ft (x := x) (y := y) hp hq)
 have VV := Lib.hid (fun w' (hf : Fur w w') (hp : okX x = true) (hq : okX y = true) => lov_all x y hp hq ao bo ca cb w' hi hi' (hs.on hf) (hs'.on hf))
 have VI := Lib.hid (fun w' (hf : Fur w w') => loi_by x y hL ao bo ca cb w' (hs.on hf) (hs'.on hf))
 have EI := Lib.hid (fun hp hq => ordV_inv (x := x) (y := y) hp hq)
 have HI := Lib.hid (And.intro hi hi')
 have HS := Lib.hid (And.intro hs hs')
 clear hs hs' hL hi hi'
 obtain ⟨W, hW⟩ : ∃ W, ((w.alloc (.cells #[.int .i64 x.kd, .int .i64 x.nn, .int .i64 x.dd, .string (bs x.ss), .slice ao x.ll.length ca] 28)).alloc (.cells #[.int .i64 y.kd, .int .i64 y.nn, .int .i64 y.dd, .string (bs y.ss), .slice bo y.ll.length cb] 28)) = W := ⟨_, rfl⟩
 rw [hW] at p0 p1 f0
 unfold vlv at *
 go_enter Tryz.func59, Tryz.ntmps59
 go_upto_region 1 with fail
 clear hW
 have c0 := p0.c0; have c1 := p0.c1; have c2 := p0.c2; have c3 := p0.c3; have c4 := p0.c4
 have d0 := p1.c0; have d1 := p1.c1; have d2 := p1.c2; have d3 := p1.c3; have d4 := p1.c4
 have ff : Fur W W.drew := Fur.drew (Fur.refl W)
 go_region_held3 (fun w' => Fur W w' ∧ w'.cell? ⟨w.heap.size, 0, none⟩ = some (.int .i64 x.kd) ∧ w'.cell? ⟨w.heap.size, 1, none⟩ = some (.int .i64 x.nn) ∧ w'.cell? ⟨w.heap.size, 2, none⟩ = some (.int .i64 x.dd) ∧ w'.cell? ⟨w.heap.size, 3, none⟩ = some (.string (bs x.ss)) ∧ w'.cell? ⟨w.heap.size, 4, none⟩ = some (.slice ao x.ll.length ca) ∧ w'.cell? ⟨w.heap.size + 1, 0, none⟩ = some (.int .i64 y.kd) ∧ w'.cell? ⟨w.heap.size + 1, 1, none⟩ = some (.int .i64 y.nn) ∧ w'.cell? ⟨w.heap.size + 1, 2, none⟩ = some (.int .i64 y.dd) ∧ w'.cell? ⟨w.heap.size + 1, 3, none⟩ = some (.string (bs y.ss)) ∧ w'.cell? ⟨w.heap.size + 1, 4, none⟩ = some (.slice bo y.ll.length cb))
  (first
   | exact keep10 ff c0 c1 c2 c3 c4 d0 d1 d2 d3 d4)
  (first
   | (go_at_call 61; refine (lvalid_any _ _ _ _ ?_ ?_).mono ?_; (first | exact HI.out.1 | exact HI.out.2); (first | exact HS.out.1.on (f0.trans ff) | exact HS.out.2.on (f0.trans ff)); rintro e4 w4 ⟨rfl, f4⟩; replace ff := ff.trans f4))
 clear HI HS
 generalize okX x = p at *
 generalize okX y = q at *
 clear c0 c1 c2 c3 c4 d0 d1 d2 d3 d4
 replace p0 := p0.on ff
 replace p1 := p1.on ff
 replace f0 := f0.trans ff
 clear ff
 have c0 := p0.c0; have c1 := p0.c1; have c2 := p0.c2; have c3 := p0.c3; have c4 := p0.c4
 have d0 := p1.c0; have d1 := p1.c1; have d2 := p1.c2; have d3 := p1.c3; have d4 := p1.c4
 cases p <;> cases q
 ·have HE := Lib.hid (EI.out rfl rfl)
  go_wp2_with fail
  go_at_call 97; refine (VI.out _ f0).mono ?_; rintro e7 w7 ⟨rfl, f7⟩
  go_wp2
  go_ret
  exact ⟨ret_int HE.out.symm, f0.trans f7⟩
 ·have HE := Lib.hid (EFT.out rfl rfl)
  clear VV VI ETF EFT EI
  go_wp2
  go_ret
  exact ⟨ret_int HE.out.symm, f0⟩
 ·have HE := Lib.hid (ETF.out rfl rfl)
  clear VV VI ETF EFT EI
  go_wp2
  go_ret
  exact ⟨ret_int HE.out.symm, f0⟩
 ·go_wp2_with fail
  go_at_call 96; refine (VV.out _ f0 (by simp) (by simp)).mono ?_; rintro e7 w7 ⟨rfl, f7⟩
  go_wp2
  go_ret
  exact ⟨rfl, f0.trans f7⟩
mutual
theorem lo_all : ∀ x y : Vl, CmpAt 59 x y
 | .mk k n d s l, y => fun ao bo ca cb w hi hi' hs hs' =>
  lo_by (.mk k n d s l) y (fun u hu v _ => lo_list l u hu v) ao bo ca cb w hi hi' hs hs'
theorem lo_list : ∀ l : List Vl, ∀ u, u ∈ l → ∀ v, CmpAt 59 u v
 | [], _, hu, _ => by cases hu
 | x :: r, u, hu, v => (List.mem_cons.1 hu).elim (fun e => e ▸ lo_all x v) (fun e => lo_list r u e v)
end
end Go.Proofs.YtpamdlkagmlahaaGreatDoor
namespace Go.Proofs.YtpamdlkagmlahaaGreatDoor
open Go.RowKit
end Go.Proofs.YtpamdlkagmlahaaGreatDoor
namespace Go.Proofs.YtpamdlkagmlahaaGreatDoor
open Go.RowKit
def RwI (w : World) (n : Int) (e : Ending) (w' : World) : Prop := e = .returned (.int .i64 n) ∧ Fuw w w'
def RwB (w : World) (b : Bool) (e : Ending) (w' : World) : Prop := e = .returned (.bool b) ∧ Fuw w w'
theorem RetI.w {w : World} {n : Int} {e : Ending} {w' : World} (h : RetI w n e w') : RwI w n e w' := ⟨h.1, h.2.b⟩
theorem RetB.w {w : World} {b : Bool} {e : Ending} {w' : World} (h : RetB w b e w') : RwB w b e w' := ⟨h.1, h.2.b⟩
def RwW (w : World) (n : Nat) (e : Ending) (w' : World) : Prop := ∃ zs ao cap, Wide zs n ∧ e = .returned (.slice ao 14 cap) ∧ IsS w' ao zs cap ∧ Fuw w w'
theorem IsS.onw {w w' : World} {ao : Option Addr} {zs : List Int} {cap : Nat} (h : IsS w ao zs cap) (hf : Fuw w w') : IsS w' ao zs cap :=
 ⟨h.le, h.max, h.nil, fun hp => by
  obtain ⟨b, off, e, hb, hc⟩ := h.at_ hp
  exact ⟨b, off, e, Nat.lt_of_lt_of_le hb hf.size, fun j hj => (Below.cell hf (p := ⟨b, off + j, none⟩) hb).trans (hc j hj)⟩⟩
theorem Box.onw {W W' : World} {B : Nat} {n d : Int} (h : Box W B n d) (hf : Fuw W W') : Box W' B n d := by
 have k := h.lt
 unfold Box at *
 rw [Below.block hf B k]; exact h
theorem fuw_set {w w1 : World} {g j : Nat} {u : Value} (hf : Fuw w w1) (hg : w.heap.size ≤ g) : Fuw w (w1.setCell ⟨g, j, none⟩ u) := Below.setCell hf hg u
theorem fuw_drewN (w : World) (n : Nat) : Fuw w (w.drewN n) := (fur_drewN w n).b
theorem fuw_put {w W : World} {B : Nat} (hf : Fuw w W) (hB : w.heap.size ≤ B) (u v : Value) : Fuw w ((W.setCell ⟨B, 0, none⟩ u).setCell ⟨B, 1, none⟩ v) := fuw_set (fuw_set hf hB) hB
theorem bx1w (w : World) (x : Vl) (ao : Option Addr) (cap : Nat) :
  Bx (w.alloc (.cells #[.int .i64 x.kd, .int .i64 x.nn, .int .i64 x.dd, .string (bs x.ss), .slice ao x.ll.length cap] 28)) w.heap.size x ao cap ∧ Fuw w (w.alloc (.cells #[.int .i64 x.kd, .int .i64 x.nn, .int .i64 x.dd, .string (bs x.ss), .slice ao x.ll.length cap] 28)) :=
 ⟨(bx1 w x ao cap).1, (bx1 w x ao cap).2.b⟩
end Go.Proofs.YtpamdlkagmlahaaGreatDoor
namespace Go.Proofs.YtpamdlkagmlahaaGreatDoor
open Go.RowKit
theorem ryes_any (b : Bool) (w : World) : Calls Tryz.prog 99 #[.bool b] w fun e w' => e = .returned (.int .i64 (if b = true then 2 else 0)) ∧ w' = w := by
 cases b
 ·go_enter Tryz.func99, Tryz.ntmps99
  go_wp2
  go_ret
  exact ⟨rfl, rfl⟩
 ·go_enter Tryz.func99, Tryz.ntmps99
  go_wp2
  go_ret
  exact ⟨rfl, rfl⟩
theorem rints_any (a b : Int) (w : World) : Calls Tryz.prog 101 #[.int .i64 a, .int .i64 b] w fun e w' => e = .returned (.int .i64 (intc a b)) ∧ w' = w := by
 by_cases h1 : a < b
 ·rw [show intc a b = -1 by unfold intc; rw [if_pos h1]]
  go_enter Tryz.func101, Tryz.ntmps101
  go_wp2
  go_ret
  exact ⟨rfl, rfl⟩
 ·by_cases h2 : b < a
  ·rw [show intc a b = 1 by unfold intc; rw [if_neg h1, if_pos h2]]
   go_enter Tryz.func101, Tryz.ntmps101
   go_wp2
   go_ret
   exact ⟨rfl, rfl⟩
  ·rw [show intc a b = 0 by unfold intc; rw [if_neg h1, if_neg h2]]
   go_enter Tryz.func101, Tryz.ntmps101
   go_wp2
   go_ret
   exact ⟨rfl, rfl⟩
end Go.Proofs.YtpamdlkagmlahaaGreatDoor
namespace Go.Proofs.YtpamdlkagmlahaaGreatDoor
open Go.RowKit
theorem rclass_any (k : Int) (w : World) : Calls Tryz.prog 102 #[.int .i64 k] w fun e w' => e = .returned (.int .i64 (classV k)) ∧ w' = w := by
 by_cases h0 : k = 0
 ·subst h0
  go_enter Tryz.func102, Tryz.ntmps102
  go_wp2
  go_ret
  exact ⟨rfl, rfl⟩
 by_cases h1 : k = 1
 ·subst h1
  go_enter Tryz.func102, Tryz.ntmps102
  go_wp2
  go_ret
  exact ⟨rfl, rfl⟩
 by_cases h2 : k = 2
 ·subst h2
  go_enter Tryz.func102, Tryz.ntmps102
  go_wp2
  go_ret
  exact ⟨rfl, rfl⟩
 by_cases h3 : k = 3
 ·subst h3
  go_enter Tryz.func102, Tryz.ntmps102
  go_wp2
  go_ret
  exact ⟨rfl, rfl⟩
 by_cases h4 : k = 4
 ·subst h4
  go_enter Tryz.func102, Tryz.ntmps102
  go_wp2
  go_ret
  exact ⟨rfl, rfl⟩
 by_cases h5 : k = 5
 ·subst h5
  go_enter Tryz.func102, Tryz.ntmps102
  go_wp2
  go_ret
  exact ⟨rfl, rfl⟩
 by_cases h6 : k = 6
 ·subst h6
  go_enter Tryz.func102, Tryz.ntmps102
  go_wp2
  go_ret
  exact ⟨rfl, rfl⟩
 by_cases h8 : k = 8
 ·subst h8
  go_enter Tryz.func102, Tryz.ntmps102
  go_wp2
  go_ret
  exact ⟨rfl, rfl⟩
 have g0 : (k == 0) = false := beq_eq_false_iff_ne.2 h0
 have g1 : (k == 1) = false := beq_eq_false_iff_ne.2 h1
 have g2 : (k == 2) = false := beq_eq_false_iff_ne.2 h2
 have g3 : (k == 3) = false := beq_eq_false_iff_ne.2 h3
 have g4 : (k == 4) = false := beq_eq_false_iff_ne.2 h4
 have g5 : (k == 5) = false := beq_eq_false_iff_ne.2 h5
 have g6 : (k == 6) = false := beq_eq_false_iff_ne.2 h6
 have g8 : (k == 8) = false := beq_eq_false_iff_ne.2 h8
 rw [show classV k = 7 by unfold classV; rw [if_neg h0, if_neg h1, if_neg (by omega), if_neg h4, if_neg h5, if_neg h6, if_neg h8]]
 clear h0 h1 h2 h3 h4 h5 h6 h8
 go_enter Tryz.func102, Tryz.ntmps102
 go_wp2
 go_ret
 exact ⟨rfl, rfl⟩
set_option maxHeartbeats 6400000 in
theorem rbare_any (x : Vl) (ao : Option Addr) (cap : Nat) (w : World) (bn bd b2 bl : Bool) : Calls Tryz.prog 150 #[vlv x ao cap, .bool bn, .bool bd, .bool b2, .bool bl] w (RetB w (bareV x.nn x.dd x.ss x.ll bn bd b2 bl)) := by
 unfold vlv
 cases bn <;> cases bd <;> cases b2 <;> cases bl
 all_goals
  go_enter Tryz.func150, Tryz.ntmps150
  go_wp2
  all_goals
   go_ret
   refine ⟨ret_bool ?_, (Fur.refl _).alloc _⟩
   unfold bareV
   (try rw [len0])
   simp_all [bs_list]
end Go.Proofs.YtpamdlkagmlahaaGreatDoor
namespace Go.Proofs.YtpamdlkagmlahaaGreatDoor
open Go.RowKit
def inV (n : Int) : Bool := decide (-1000000000000000 ≤ n) && decide (n ≤ 1000000000000000)
theorem rin_any (n : Int) (w : World) : Calls Tryz.prog 151 #[.int .i64 n] w fun e w' => e = .returned (.bool (inV n)) ∧ w' = w := by
 unfold inV
 go_enter Tryz.func151, Tryz.ntmps151
 go_wp2
 all_goals
  go_ret
  exact ⟨ret_bool (by rw [Bool.eq_iff_iff]; simp; omega), rfl⟩
theorem rbyte (s : ByteArray) (k : Nat) (h : k < s.size) : s.data.toList.drop k = s[k] :: s.data.toList.drop (k + 1) := by
 rw [List.drop_eq_getElem_cons (by simpa using h)]
 rfl
set_option maxHeartbeats 1600000 in
theorem rstr_any (s : ByteArray) (hs : s.size ≤ maxLen) (w : World) :
  Calls Tryz.prog 152 #[.string s] w fun e w' => e = .returned (.bool (okStr s.data.toList)) ∧ w' = w := by
 unfold maxLen at hs
 have HLN := Lib.hid (show s.data.toList.length = s.size from Array.length_toList)
 go_enter Tryz.func152, Tryz.ntmps152
 go_wp2
 go_loop [3] (fun iv => ∃ i : Nat, iv = .int .i64 i ∧ i ≤ s.size ∧ Hid (s.data.toList.all okC = (s.data.toList.drop i).all okC)) (fun iv => s.size - (RowKit.intOf iv).toNat)
 case atStart => exact ⟨0, rfl, Nat.zero_le _, rfl⟩
 case round =>
  obtain ⟨i, rfl, hi, HN⟩ := hrel
  by_cases hlt : i < s.size
  ·have hb := rbyte s i hlt
   have hA : s.data.toList.all okC = (okC s[i] && (s.data.toList.drop (i + 1)).all okC) := by
    rw [HN.out, hb]; rfl
   clear hb HN
   rcases (show (s[i].toNat : Int) < 32 ∨ 126 < (s[i].toNat : Int) ∨ (32 ≤ (s[i].toNat : Int) ∧ (s[i].toNat : Int) ≤ 126) by omega) with g | g | ⟨g1, g2⟩
   ·have HE := Lib.hid (show okStr s.data.toList = false by
     rw [okStr_eq, hA]
     have : okC s[i] = false := by unfold okC; rw [decide_eq_false (by omega)]; rfl
     rw [this]; rfl)
    clear hA
    go_wp2
    go_ret
    exact ⟨ret_bool HE.out.symm, rfl⟩
   ·have HE := Lib.hid (show okStr s.data.toList = false by
     rw [okStr_eq, hA]
     have : okC s[i] = false := by unfold okC; rw [decide_eq_false (show ¬ s[i].toNat ≤ 126 by omega), Bool.and_false]
     rw [this]; rfl)
    have g' : 32 ≤ (s[i].toNat : Int) := by omega
    clear hA
    go_wp2
    go_ret
    exact ⟨ret_bool HE.out.symm, rfl⟩
   ·have HE := Lib.hid (show s.data.toList.all okC = (s.data.toList.drop (i + 1)).all okC by
     rw [hA]
     have : okC s[i] = true := by unfold okC; rw [decide_eq_true (show 32 ≤ s[i].toNat by omega), decide_eq_true (show s[i].toNat ≤ 126 by omega)]; rfl
     rw [this]; rfl)
    clear hA
    go_wp2
    go_round
    case rel => exact ⟨i + 1, by go_num, by omega, HE.out⟩
    case measure => simp [RowKit.intOf]; omega
  ·have HE := Lib.hid (show okStr s.data.toList = decide ((s.size : Int) ≤ 100) by
    rw [okStr_eq, HN.out, List.drop_of_length_le (by rw [HLN.out]; omega), HLN.out]
    by_cases h : s.size ≤ 100
    ·rw [decide_eq_true h, decide_eq_true (by omega)]; rfl
    ·rw [decide_eq_false h, decide_eq_false (by omega)]; rfl)
   have hge : s.size ≤ i := by omega
   clear hlt HN
   go_wp2
   go_ret
   exact ⟨ret_bool HE.out.symm, rfl⟩
end Go.Proofs.YtpamdlkagmlahaaGreatDoor
