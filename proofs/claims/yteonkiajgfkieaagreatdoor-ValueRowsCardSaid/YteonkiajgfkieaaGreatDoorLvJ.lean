/-
  Package value: equalValid, Equal, Truth of every values in memory. Nothing that was there turns.
-/
import Derived.Test.YteonkiajgfkieaaGreatDoorLvI
namespace Go.Proofs.YteonkiajgfkieaaGreatDoor
open Go.RowKit

theorem eq_list' {x y : Vl} (hx : okX x = true) (hy : okX y = true) (h : x.kd = 8) (h' : y.kd = 8) : eqV x y = if x.ll.length ≠ y.ll.length then 0 else eqL x.ll y.ll := by
  obtain ⟨k, n, d, s, l⟩ := x
  obtain ⟨k', n', d', s', l'⟩ := y
  have h : k = 8 := h
  have h' : k' = 8 := h'
  subst h h'
  exact eq_list hx hy
set_option maxHeartbeats 6400000 in
set_option maxRecDepth 100000 in
theorem lev_by (x y : Vl) (hL : ∀ u, u ∈ x.ll → ∀ v, v ∈ y.ll → EqAt u v) (hx : okX x = true) (hy : okX y = true) (ao bo : Option Addr) (ca cb : Nat) (w : World) (hi : Vin x) (hi' : Vin y) (hs : SlV w ao x.ll ca) (hs' : SlV w bo y.ll cb) :
    Calls Tryz.prog 32 #[vlv x ao ca, vlv y bo cb] w (RetI w (eqV x y)) := by
  obtain ⟨p0, p1, f0⟩ := bx2' w x y ao bo ca cb
  have EN := Lib.hid (fun h => eq_null (x := x) (y := y) h)
  have EK := Lib.hid (fun h0 h0' hk => eq_kinds hx hy h0 h0' hk)
  have EO := Lib.hid (fun h0 h0' h8 => eq_ord hx hy h0 h0' h8)
  have EL := Lib.hid (fun h h' => eq_list' hx hy h h')
  have VL := Lib.hid (fun w' (hf : Fur w w') => lel_any x.ll y.ll hL ao bo ca cb w' (hs.on hf) (hs'.on hf))
  have VO := Lib.hid (fun w' (hf : Fur w w') => lov_all x y hx hy ao bo ca cb w' hi hi' (hs.on hf) (hs'.on hf))
  clear hs hs' hx hy hL hi hi'
  obtain ⟨W, hW⟩ : ∃ W, ((w.alloc (.cells #[.int .i64 x.kd, .int .i64 x.nn, .int .i64 x.dd, .string (bs x.ss), .slice ao x.ll.length ca] 34)).alloc (.cells #[.int .i64 y.kd, .int .i64 y.nn, .int .i64 y.dd, .string (bs y.ss), .slice bo y.ll.length cb] 34)) = W := ⟨_, rfl⟩
  rw [hW] at p0 p1 f0
  have c0 := p0.c0; have c1 := p0.c1; have c2 := p0.c2; have c3 := p0.c3; have c4 := p0.c4
  have d0 := p1.c0; have d1 := p1.c1; have d2 := p1.c2; have d3 := p1.c3; have d4 := p1.c4
  clear p0 p1
  unfold vlv at *
  generalize eqV x y = R at *
  generalize ordV x y = T at *
  generalize eqL x.ll y.ll = Q at *
  generalize x.kd = kx at *
  generalize y.kd = ky at *
  go_enter Tryz.func32, Tryz.ntmps32
  go_upto_region 1 with fail
  clear hW
  by_cases h0 : kx = 0
  · have HE := Lib.hid (EN.out (.inl h0))
    subst h0
    clear EN EK EO EL VL VO
    go_wp2
    go_ret
    exact ⟨ret_int HE.out.symm, f0⟩
  have g0 : (kx == 0) = false := beq_eq_false_iff_ne.2 h0
  by_cases h0' : ky = 0
  · have HE := Lib.hid (EN.out (.inr h0'))
    subst h0'
    clear EN EK EO EL VL VO h0
    go_wp2
    go_ret
    exact ⟨ret_int HE.out.symm, f0⟩
  have g0' : (ky == 0) = false := beq_eq_false_iff_ne.2 h0'
  by_cases hk : kx = ky
  rotate_left
  · have HE := Lib.hid (EK.out h0 h0' hk)
    have g : (kx != ky) = true := by rw [bne_iff_ne]; exact hk
    clear EN EK EO EL VL VO h0 h0' hk
    go_wp2
    go_ret
    exact ⟨ret_int HE.out.symm, f0⟩
  subst hk
  by_cases h8 : kx = 8
  · have HE := Lib.hid (EL.out h8 h8)
    subst h8
    clear EN EK EO EL VO h0 h0'
    go_wp2_with fail
    go_at_call 43; refine (VL.out _ f0).mono ?_; rintro e7 w7 ⟨rfl, f7⟩
    generalize (if x.ll.length ≠ y.ll.length then (0 : Int) else Q) = z at *
    go_wp2
    go_ret
    exact ⟨ret_int HE.out.symm, f0.trans f7⟩
  have HE := Lib.hid (EO.out h0 h0' h8)
  have g8 : (kx == 8) = false := beq_eq_false_iff_ne.2 h8
  clear EN EK EO EL VL h0 h0' h8
  go_wp2_with fail
  go_at_call 35; refine (VO.out _ f0).mono ?_; rintro e7 w7 ⟨rfl, f7⟩
  have KN := Lib.hid (fun b w => lknown_r b w)
  by_cases hT : T = 0
  · subst hT
    replace HE := Lib.hid (show R = 2 by rw [HE.out]; rfl)
    go_wp2_with fail
    go_at_call 34; refine (KN.out _ _).mono ?_; rintro e8 w8 ⟨rfl, f8⟩
    go_wp2
    go_ret
    exact ⟨ret_int HE.out.symm, (f0.trans f7).trans f8⟩
  · replace HE := Lib.hid (show R = 0 by rw [HE.out, decide_eq_false hT]; rfl)
    have g : (T == 0) = false := beq_eq_false_iff_ne.2 hT
    clear hT
    go_wp2_with fail
    go_at_call 34; refine (KN.out _ _).mono ?_; rintro e8 w8 ⟨rfl, f8⟩
    go_wp2
    go_ret
    exact ⟨ret_int HE.out.symm, (f0.trans f7).trans f8⟩
/-- What equalValid answers of two valid values. -/
def EVP (x : Vl) : Prop := ∀ y, okX x = true → okX y = true → EqAt x y
mutual
theorem lev_all : ∀ x : Vl, EVP x
  | .mk k n d s l => fun y hx hy ao bo ca cb w hi hi' hs hs' =>
    lev_by (.mk k n d s l) y (fun u hu v hv => lev_list l u hu v (ll_ok hx u hu) (ll_ok' hy v hv)) hx hy ao bo ca cb w hi hi' hs hs'
theorem lev_list : ∀ l : List Vl, ∀ u, u ∈ l → EVP u
  | [], _, hu => by cases hu
  | x :: r, u, hu => (List.mem_cons.1 hu).elim (fun e => e ▸ lev_all x) (fun e => lev_list r u e)
end

set_option maxHeartbeats 3200000 in
set_option maxRecDepth 100000 in
theorem leq_any (x y : Vl) (ao bo : Option Addr) (ca cb : Nat) (w : World) (hi : Vin x) (hi' : Vin y) (hs : SlV w ao x.ll ca) (hs' : SlV w bo y.ll cb) :
    Calls Tryz.prog 20 #[vlv x ao ca, vlv y bo cb] w (RetI w (eqV x y)) := by
  obtain ⟨p0, p1, f0⟩ := bx2' w x y ao bo ca cb
  have EI := Lib.hid (fun h => eq_inv (x := x) (y := y) h)
  have VA := Lib.hid (fun w' (hf : Fur w w') => lvalid_any x ao ca w' hi (hs.on hf))
  have VB := Lib.hid (fun w' (hf : Fur w w') => lvalid_any y bo cb w' hi' (hs'.on hf))
  have VE := Lib.hid (fun w' (hf : Fur w w') (hp : okX x = true) (hq : okX y = true) => lev_all x y hp hq ao bo ca cb w' hi hi' (hs.on hf) (hs'.on hf))
  clear hs hs' hi hi'
  obtain ⟨W, hW⟩ : ∃ W, ((w.alloc (.cells #[.int .i64 x.kd, .int .i64 x.nn, .int .i64 x.dd, .string (bs x.ss), .slice ao x.ll.length ca] 34)).alloc (.cells #[.int .i64 y.kd, .int .i64 y.nn, .int .i64 y.dd, .string (bs y.ss), .slice bo y.ll.length cb] 34)) = W := ⟨_, rfl⟩
  rw [hW] at p0 p1 f0
  unfold vlv at *
  generalize eqV x y = R at *
  generalize okX x = p at *
  generalize okX y = q at *
  go_enter Tryz.func20, Tryz.ntmps20
  go_upto_region 1 with fail
  clear hW
  have c0 := p0.c0; have c1 := p0.c1; have c2 := p0.c2; have c3 := p0.c3; have c4 := p0.c4
  have d0 := p1.c0; have d1 := p1.c1; have d2 := p1.c2; have d3 := p1.c3; have d4 := p1.c4
  cases p
  · have HE := Lib.hid (EI.out (.inl rfl))
    clear VB VE EI
    go_wp2_with fail
    go_at_call 25; refine (VA.out _ f0).mono ?_; rintro e1 w1 ⟨rfl, ff⟩
    go_wp2
    go_ret
    exact ⟨ret_int HE.out.symm, f0.trans ff⟩
  go_wp2_with fail
  go_at_call 25; refine (VA.out _ f0).mono ?_; rintro e1 w1 ⟨rfl, ff⟩
  clear c0 c1 c2 c3 c4 d0 d1 d2 d3 d4
  replace p0 := p0.on ff
  replace p1 := p1.on ff
  replace f0 := f0.trans ff
  clear ff
  have c0 := p0.c0; have c1 := p0.c1; have c2 := p0.c2; have c3 := p0.c3; have c4 := p0.c4
  have d0 := p1.c0; have d1 := p1.c1; have d2 := p1.c2; have d3 := p1.c3; have d4 := p1.c4
  clear VA
  cases q
  · have HE := Lib.hid (EI.out (.inr rfl))
    clear VE EI
    go_wp2_with fail
    go_at_call 25; refine (VB.out _ f0).mono ?_; rintro e1 w1 ⟨rfl, ff⟩
    go_wp2
    go_ret
    exact ⟨ret_int HE.out.symm, f0.trans ff⟩
  go_wp2_with fail
  go_at_call 25; refine (VB.out _ f0).mono ?_; rintro e1 w1 ⟨rfl, ff⟩
  clear c0 c1 c2 c3 c4 d0 d1 d2 d3 d4
  replace p0 := p0.on ff
  replace p1 := p1.on ff
  replace f0 := f0.trans ff
  clear ff
  have c0 := p0.c0; have c1 := p0.c1; have c2 := p0.c2; have c3 := p0.c3; have c4 := p0.c4
  have d0 := p1.c0; have d1 := p1.c1; have d2 := p1.c2; have d3 := p1.c3; have d4 := p1.c4
  clear VB EI
  go_wp2_with fail
  go_at_call 32; refine (VE.out _ f0 (by simp) (by simp)).mono ?_; rintro e1 w1 ⟨rfl, ff⟩
  go_wp2
  go_ret
  exact ⟨rfl, f0.trans ff⟩

/-- The truth value of a value. -/
def truV (x : Vl) : Int := if okX x = true ∧ x.kd = 1 then (if (x.nn == 1) = true then 2 else 0) else 1
end Go.Proofs.YteonkiajgfkieaaGreatDoor
