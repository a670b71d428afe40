/-
  Package value: cmp.Or of ints, orderInvalid, Order: the order of all values, for every two values in memory. Nothing that was there turns.
-/
import Derived.Test.YteonkiajgfkieaaGreatDoorLvG
import Derived.Test.YteonkiajgfkieaaGreatDoorLvE
namespace Go.Proofs.YteonkiajgfkieaaGreatDoor
open Go.RowKit

/-- The first that is not zero. -/
def orL : List Int → Int
  | [] => 0
  | x :: r => thn x (orL r)
theorem orL_drop (l : List Int) (i : Nat) (h : i < l.length) : orL (l.drop i) = thn (l.getD i 0) (orL (l.drop (i + 1))) := by
  rw [List.drop_eq_getElem_cons h, getD_at h]; rfl
set_option maxHeartbeats 1600000 in
theorem lor_any_s (l : List Int) (ao : Option Addr) (cap : Nat) (w : World) (hs : IsS w ao l cap) :
    Calls Tryz.prog 49 #[.slice ao l.length cap] w (RetI w (orL l)) := by
  have HS := Lib.hid hs
  have h1 := hs.le
  have h2 := hs.max
  unfold maxLen at h2
  clear hs
  go_enter Tryz.func49, Tryz.ntmps49
  go_wp2
  go_loopw [8] (fun iv wr => ∃ i : Nat, iv = .int .i64 i ∧ i ≤ l.length ∧ Hid (orL l = orL (l.drop i)) ∧ Fur w wr) (fun iv _ => l.length - (RowKit.intOf iv).toNat)
  case atStart => exact ⟨0, rfl, Nat.zero_le _, rfl, Fur.refl _⟩
  case round =>
    obtain ⟨i, rfl, hi, HN, hf⟩ := hrel
    by_cases hlt : i < l.length
    · obtain ⟨b, o, rfl, -, hc⟩ := (HS.out.on hf).at_ (by omega)
      have c := hc i hlt
      have HA := Lib.hid (HN.out.trans (orL_drop l i hlt))
      clear hc HN
      generalize l.getD i 0 = r at *
      by_cases hr : r = 0
      · subst hr
        go_wp2
        go_roundw
        case rel => exact ⟨i + 1, by go_num, by omega, HA.out, hf⟩
        case measure => simp [RowKit.intOf]; omega
      · have hr' : (r != 0) = true := by rw [bne_iff_ne]; exact hr
        have HF := Lib.hid (HA.out.trans (thn_n hr _))
        clear hr
        go_wp2
        go_ret
        exact ⟨ret_int HF.out.symm, hf⟩
    · have HE := Lib.hid (show orL l = 0 by rw [HN.out, List.drop_of_length_le (by omega)]; rfl)
      go_wp2
      go_ret
      exact ⟨ret_int HE.out.symm, hf⟩
/-- Of four. -/
theorem lor4 (a b c d : Int) (w : World) : Calls Tryz.prog 49 #[.slice (some ⟨w.heap.size, 0, none⟩) 4 4] (w.alloc (.cells #[.int .i64 a, .int .i64 b, .int .i64 c, .int .i64 d] 3)) (RetI w (thn a (thn b (thn c d)))) := by
  have hh : (w.alloc (.cells #[.int .i64 a, .int .i64 b, .int .i64 c, .int .i64 d] 3)).heap[w.heap.size]? = some (.cells #[.int .i64 a, .int .i64 b, .int .i64 c, .int .i64 d] 3) := by
    show (w.heap.push _)[w.heap.size]? = _
    rw [Array.getElem?_push, if_pos rfl]
  have hI : IsS (w.alloc (.cells #[.int .i64 a, .int .i64 b, .int .i64 c, .int .i64 d] 3)) (some ⟨w.heap.size, 0, none⟩) [a, b, c, d] 4 :=
    ⟨Nat.le_refl _, by unfold maxLen; decide, (fun h => by cases h), fun _ => ⟨w.heap.size, 0, rfl, by simp, fun j hj => by
      have h4 : j = 0 ∨ j = 1 ∨ j = 2 ∨ j = 3 := by simp at hj; omega
      rcases h4 with rfl | rfl | rfl | rfl <;> (unfold World.cell?; rw [hh]; rfl)⟩⟩
  have e : thn a (thn b (thn c d)) = orL [a, b, c, d] := by
    show _ = thn a (thn b (thn c (thn d 0)))
    rw [thn_r]
  rw [e]
  exact (lor_any_s [a, b, c, d] _ 4 _ hI).mono fun _ _ ⟨he, hf⟩ => ⟨he, ((Fur.refl w).alloc _).trans hf⟩
theorem lcmps_r (s t : ByteArray) (w : World) : Calls Tryz.prog 47 #[.string s, .string t] w (RetI w (strc s.data.toList t.data.toList)) :=
  (lcmps_any s t w).mono fun _ _ ⟨he, hw⟩ => ⟨he, hw ▸ Fur.refl _⟩
/-- All fields in order. -/
def fldV (x y : Vl) : Int := thn (intc x.kd y.kd) (thn (intc x.nn y.nn) (thn (intc x.dd y.dd) (thn (strc x.ss y.ss) (ordL x.ll y.ll))))
theorem fldV_4 (x y : Vl) : fldV x y = thn (thn (intc x.kd y.kd) (thn (intc x.nn y.nn) (thn (intc x.dd y.dd) (strc x.ss y.ss)))) (ordL x.ll y.ll) := by
  unfold fldV
  simp only [thn_assoc]
theorem ordV_inv {x y : Vl} (hx : okX x = false) (hy : okX y = false) : ordV x y = fldV x y := by
  obtain ⟨k, n, d, s, l⟩ := x
  unfold ordV
  rw [hx, hy]
  rfl
theorem ordV_tf {x y : Vl} (hx : okX x = true) (hy : okX y = false) : ordV x y = -1 := by
  obtain ⟨k, n, d, s, l⟩ := x
  unfold ordV
  rw [hx, hy]
  rfl
theorem ordV_ft {x y : Vl} (hx : okX x = false) (hy : okX y = true) : ordV x y = 1 := by
  obtain ⟨k, n, d, s, l⟩ := x
  unfold ordV
  rw [hx, hy]
  rfl

set_option maxHeartbeats 6400000 in
set_option maxRecDepth 100000 in
theorem loi_by (x y : Vl) (hL : ∀ u, u ∈ x.ll → ∀ v, v ∈ y.ll → CmpAt 22 u v) (ao bo : Option Addr) (ca cb : Nat) (w : World) (hs : SlV w ao x.ll ca) (hs' : SlV w bo y.ll cb) :
    Calls Tryz.prog 36 #[vlv x ao ca, vlv y bo cb] w (RetI w (fldV x y)) := by
  obtain ⟨p0, p1, f0⟩ := bx2' w x y ao bo ca cb
  have hne : ¬ (w.heap.size = w.heap.size + 1) := by omega
  have hne2 : ¬ (w.heap.size + 1 = w.heap.size) := by omega
  have HE := Lib.hid (show fldV x y = thn (thn (intc x.kd y.kd) (thn (intc x.nn y.nn) (thn (intc x.dd y.dd) (strc (bs x.ss).data.toList (bs y.ss).data.toList)))) (ordL x.ll y.ll) from fldV_4 x y)
  have VC := Lib.hid (fun w' (hf : Fur w w') => lcf_order x.ll y.ll hL ao bo ca cb w' (hs.on hf) (hs'.on hf))
  clear hs hs' hL
  generalize fldV x y = R at *
  obtain ⟨W, hW⟩ : ∃ W, ((w.alloc (.cells #[.int .i64 x.kd, .int .i64 x.nn, .int .i64 x.dd, .string (bs x.ss), .slice ao x.ll.length ca] 34)).alloc (.cells #[.int .i64 y.kd, .int .i64 y.nn, .int .i64 y.dd, .string (bs y.ss), .slice bo y.ll.length cb] 34)) = W := ⟨_, rfl⟩
  rw [hW] at p0 p1 f0
  unfold vlv
  go_enter Tryz.func36, Tryz.ntmps36
  go_upto_region 1 with fail
  clear hW
  have c0 := p0.c0; have c1 := p0.c1; have c2 := p0.c2; have c3 := p0.c3; have c4 := p0.c4
  have d0 := p1.c0; have d1 := p1.c1; have d2 := p1.c2; have d3 := p1.c3; have d4 := p1.c4
  have ff : Fur W W.drew := Fur.drew (Fur.refl W)
  go_region_held3 (fun w' => Fur W w' ∧ w'.cell? ⟨w.heap.size, 0, none⟩ = some (.int .i64 x.kd) ∧ w'.cell? ⟨w.heap.size, 1, none⟩ = some (.int .i64 x.nn) ∧ w'.cell? ⟨w.heap.size, 2, none⟩ = some (.int .i64 x.dd) ∧ w'.cell? ⟨w.heap.size, 3, none⟩ = some (.string (bs x.ss)) ∧ w'.cell? ⟨w.heap.size, 4, none⟩ = some (.slice ao x.ll.length ca) ∧ w'.cell? ⟨w.heap.size + 1, 0, none⟩ = some (.int .i64 y.kd) ∧ w'.cell? ⟨w.heap.size + 1, 1, none⟩ = some (.int .i64 y.nn) ∧ w'.cell? ⟨w.heap.size + 1, 2, none⟩ = some (.int .i64 y.dd) ∧ w'.cell? ⟨w.heap.size + 1, 3, none⟩ = some (.string (bs y.ss)) ∧ w'.cell? ⟨w.heap.size + 1, 4, none⟩ = some (.slice bo y.ll.length cb))
    (first
      | exact keep10 ff c0 c1 c2 c3 c4 d0 d1 d2 d3 d4
      | exact keep10 (ff.alloc _) c0 c1 c2 c3 c4 d0 d1 d2 d3 d4)
    (first
      | (go_at_call 44; refine (lcmpi_r _ _ _).mono ?_; rintro e4 w4 ⟨rfl, f4⟩; replace ff := ff.trans f4)
      | (go_at_call 47; refine (lcmps_r _ _ _).mono ?_; rintro e4 w4 ⟨rfl, f4⟩; replace ff := ff.trans f4)
      | (go_at_call 49; refine (lor4 _ _ _ _ _).mono ?_; rintro e5 w5 ⟨rfl, f5⟩; replace ff := ff.trans f5))
  generalize thn (intc x.kd y.kd) (thn (intc x.nn y.nn) (thn (intc x.dd y.dd) (strc (bs x.ss).data.toList (bs y.ss).data.toList))) = T at *
  clear c0 c1 c2 c3 c4 d0 d1 d2 d3 d4
  replace p0 := p0.on ff
  replace p1 := p1.on ff
  replace f0 := f0.trans ff
  clear ff
  have c0 := p0.c0; have c1 := p0.c1; have c2 := p0.c2; have c3 := p0.c3; have c4 := p0.c4
  have d0 := p1.c0; have d1 := p1.c1; have d2 := p1.c2; have d3 := p1.c3; have d4 := p1.c4
  by_cases hr : T = 0
  · subst hr
    replace HE := Lib.hid (HE.out.trans (thn_0 _))
    go_wp2_with fail
    go_at_call 48; refine (VC.out _ f0).mono ?_; rintro e7 w7 ⟨rfl, f7⟩
    go_wp2
    go_ret
    exact ⟨ret_int HE.out.symm, f0.trans f7⟩
  · have g : (T != 0) = true := by rw [bne_iff_ne]; exact hr
    replace HE := Lib.hid (HE.out.trans (thn_n hr _))
    clear hr VC
    go_wp2
    go_ret
    exact ⟨ret_int HE.out.symm, f0⟩

set_option maxHeartbeats 6400000 in
set_option maxRecDepth 100000 in
theorem lo_by (x y : Vl) (hL : ∀ u, u ∈ x.ll → ∀ v, v ∈ y.ll → CmpAt 22 u v) (ao bo : Option Addr) (ca cb : Nat) (w : World) (hi : Vin x) (hi' : Vin y) (hs : SlV w ao x.ll ca) (hs' : SlV w bo y.ll cb) :
    Calls Tryz.prog 22 #[vlv x ao ca, vlv y bo cb] w (RetI w (ordV x y)) := by
  obtain ⟨p0, p1, f0⟩ := bx2' w x y ao bo ca cb
  have hne : ¬ (w.heap.size = w.heap.size + 1) := by omega
  have hne2 : ¬ (w.heap.size + 1 = w.heap.size) := by omega
  have ETF := Lib.hid (fun hp hq => ordV_tf (x := x) (y := y) hp hq)
  have EFT := Lib.hid (fun hp hq => ordV_ft (x := x) (y := y) hp hq)
  have VV := Lib.hid (fun w' (hf : Fur w w') (hp : okX x = true) (hq : okX y = true) => lov_all x y hp hq ao bo ca cb w' hi hi' (hs.on hf) (hs'.on hf))
  have VI := Lib.hid (fun w' (hf : Fur w w') => loi_by x y hL ao bo ca cb w' (hs.on hf) (hs'.on hf))
  have EI := Lib.hid (fun hp hq => ordV_inv (x := x) (y := y) hp hq)
  have HI := Lib.hid (And.intro hi hi')
  have HS := Lib.hid (And.intro hs hs')
  clear hs hs' hL hi hi'
  obtain ⟨W, hW⟩ : ∃ W, ((w.alloc (.cells #[.int .i64 x.kd, .int .i64 x.nn, .int .i64 x.dd, .string (bs x.ss), .slice ao x.ll.length ca] 34)).alloc (.cells #[.int .i64 y.kd, .int .i64 y.nn, .int .i64 y.dd, .string (bs y.ss), .slice bo y.ll.length cb] 34)) = W := ⟨_, rfl⟩
  rw [hW] at p0 p1 f0
  unfold vlv at *
  go_enter Tryz.func22, Tryz.ntmps22
  go_upto_region 1 with fail
  clear hW
  have c0 := p0.c0; have c1 := p0.c1; have c2 := p0.c2; have c3 := p0.c3; have c4 := p0.c4
  have d0 := p1.c0; have d1 := p1.c1; have d2 := p1.c2; have d3 := p1.c3; have d4 := p1.c4
  have ff : Fur W W.drew := Fur.drew (Fur.refl W)
  go_region_held3 (fun w' => Fur W w' ∧ w'.cell? ⟨w.heap.size, 0, none⟩ = some (.int .i64 x.kd) ∧ w'.cell? ⟨w.heap.size, 1, none⟩ = some (.int .i64 x.nn) ∧ w'.cell? ⟨w.heap.size, 2, none⟩ = some (.int .i64 x.dd) ∧ w'.cell? ⟨w.heap.size, 3, none⟩ = some (.string (bs x.ss)) ∧ w'.cell? ⟨w.heap.size, 4, none⟩ = some (.slice ao x.ll.length ca) ∧ w'.cell? ⟨w.heap.size + 1, 0, none⟩ = some (.int .i64 y.kd) ∧ w'.cell? ⟨w.heap.size + 1, 1, none⟩ = some (.int .i64 y.nn) ∧ w'.cell? ⟨w.heap.size + 1, 2, none⟩ = some (.int .i64 y.dd) ∧ w'.cell? ⟨w.heap.size + 1, 3, none⟩ = some (.string (bs y.ss)) ∧ w'.cell? ⟨w.heap.size + 1, 4, none⟩ = some (.slice bo y.ll.length cb))
    (first
      | exact keep10 ff c0 c1 c2 c3 c4 d0 d1 d2 d3 d4)
    (first
      | (go_at_call 25; refine (lvalid_any _ _ _ _ ?_ ?_).mono ?_; (first | exact HI.out.1 | exact HI.out.2); (first | exact HS.out.1.on (f0.trans ff) | exact HS.out.2.on (f0.trans ff)); rintro e4 w4 ⟨rfl, f4⟩; replace ff := ff.trans f4))
  clear HI HS
  generalize okX x = p at *
  generalize okX y = q at *
  clear c0 c1 c2 c3 c4 d0 d1 d2 d3 d4
  replace p0 := p0.on ff
  replace p1 := p1.on ff
  replace f0 := f0.trans ff
  clear ff
  have c0 := p0.c0; have c1 := p0.c1; have c2 := p0.c2; have c3 := p0.c3; have c4 := p0.c4
  have d0 := p1.c0; have d1 := p1.c1; have d2 := p1.c2; have d3 := p1.c3; have d4 := p1.c4
  cases p <;> cases q
  · have HE := Lib.hid (EI.out rfl rfl)
    go_wp2_with fail
    go_at_call 36; refine (VI.out _ f0).mono ?_; rintro e7 w7 ⟨rfl, f7⟩
    go_wp2
    go_ret
    exact ⟨ret_int HE.out.symm, f0.trans f7⟩
  · have HE := Lib.hid (EFT.out rfl rfl)
    clear VV VI ETF EFT EI
    go_wp2
    go_ret
    exact ⟨ret_int HE.out.symm, f0⟩
  · have HE := Lib.hid (ETF.out rfl rfl)
    clear VV VI ETF EFT EI
    go_wp2
    go_ret
    exact ⟨ret_int HE.out.symm, f0⟩
  · go_wp2_with fail
    go_at_call 35; refine (VV.out _ f0 (by simp) (by simp)).mono ?_; rintro e7 w7 ⟨rfl, f7⟩
    go_wp2
    go_ret
    exact ⟨rfl, f0.trans f7⟩
mutual
/-- Order of every two values. -/
theorem lo_all : ∀ x y : Vl, CmpAt 22 x y
  | .mk k n d s l, y => fun ao bo ca cb w hi hi' hs hs' =>
    lo_by (.mk k n d s l) y (fun u hu v _ => lo_list l u hu v) ao bo ca cb w hi hi' hs hs'
theorem lo_list : ∀ l : List Vl, ∀ u, u ∈ l → ∀ v, CmpAt 22 u v
  | [], _, hu, _ => by cases hu
  | x :: r, u, hu, v => (List.mem_cons.1 hu).elim (fun e => e ▸ lo_all x v) (fun e => lo_list r u e v)
end
end Go.Proofs.YteonkiajgfkieaaGreatDoor
