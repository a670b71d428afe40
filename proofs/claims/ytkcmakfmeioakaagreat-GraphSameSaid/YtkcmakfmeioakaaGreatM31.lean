/-
  GrS; GtT: texts of one kind in one file; each part says what it holds.
-/
import Derived.Test.YtkcmakfmeioakaaGreatM30
import Derived.Test.YtkcmakfmeioakaaGreatM28
import Derived.Test.YtkcmakfmeioakaaGreatM29

/-! The laws of package graph: alive (the worked examples of the chapter hold). Nothing that was there turns. -/
namespace Go.Proofs.YtkcmakfmeioakaaGreat
open Go.RowKit

/-- A result slice of entries that holds a list. -/
theorem slJ_blk {w : World} {B : Nat} {x y : Int × Int × Int} {t : TypeId} (h : Bk w B #[.int .i64 x.1, .int .i64 x.2.1, .int .i64 x.2.2, .int .i64 y.1, .int .i64 y.2.1, .int .i64 y.2.2] t) : SlJ w (some ⟨B, 0, none⟩) [x, y] 2 :=
  ⟨Nat.le_refl _, m2, (fun h => by cases h), fun _ => ⟨B, 0, rfl, fun i hi => by
    have hi' : i < 2 := hi
    rcases (show i = 0 ∨ i = 1 by omega) with rfl | rfl
    · exact ⟨h.c 0, h.c 1, h.c 2⟩
    · exact ⟨h.c 3, h.c 4, h.c 5⟩⟩⟩
theorem slS_blk {w : World} {B : Nat} {t : TypeId} (h : Bk w B #[.string ⟨#[84]⟩] t) : SlS w (some ⟨B, 0, none⟩) [[84]] 1 :=
  ⟨Nat.le_refl _, m1, (fun h => by cases h), fun _ => ⟨B, 0, rfl, fun i hi => by
    have hi' : i < 1 := hi
    obtain rfl : i = 0 := by omega
    exact ⟨m1, h.c 0⟩⟩⟩
theorem samJ_ex : samJ [(2, 1, 1), (2, 2, 2)] [(2, 1, 1), (2, 2, 2)] = true := samJ_self _
set_option maxHeartbeats 6400000 in
set_option maxRecDepth 100000 in
theorem alive_any (w : World) : Calls Tryz.prog 5 #[] w (FwB w true) := by
  go_enter Tryz.func5, Tryz.ntmps5
  go_wp2_with fail
  go_at_call 10; refine (example_any _).mono ?_; rintro e1 w1 ⟨b1, b2, rfl, p1, p2, l1, l2, hb, f1⟩
  go_upto_region 2 with fail
  obtain ⟨W2, hW2⟩ : ∃ W, W = w1.alloc (.cells #[.slice (some ⟨b1, 0, none⟩) 2 2, .slice (some ⟨b2, 0, none⟩) 2 2, .int .i64 3, .int .i64 3] 25) := ⟨_, rfl⟩
  have f2 : Fuw w1 W2 := by rw [hW2]; exact fuwA _ _
  have B1 : Bk W2 w1.heap.size #[.slice (some ⟨b1, 0, none⟩) 2 2, .slice (some ⟨b2, 0, none⟩) 2 2, .int .i64 3, .int .i64 3] 25 := by rw [hW2]; exact Bk.new _ _ _
  rw [← hW2]
  clear hW2
  go_wp2_with fail
  go_at_call 10; refine (example_any _).mono ?_; rintro e3 w3 ⟨c1, c2, rfl, p3, p4, l3, l4, hc, f3⟩
  go_upto_region 3 with fail
  obtain ⟨W4, hW4⟩ : ∃ W, W = w3.alloc (.cells #[.slice (some ⟨c1, 0, none⟩) 2 2, .slice (some ⟨c2, 0, none⟩) 2 2, .int .i64 3, .int .i64 3] 25) := ⟨_, rfl⟩
  have f4 : Fuw w3 W4 := by rw [hW4]; exact fuwA _ _
  have B2 : Bk W4 w3.heap.size #[.slice (some ⟨c1, 0, none⟩) 2 2, .slice (some ⟨c2, 0, none⟩) 2 2, .int .i64 3, .int .i64 3] 25 := by rw [hW4]; exact Bk.new _ _ _
  rw [← hW4]
  clear hW4
  have q1 : W4.cell? ⟨w3.heap.size, 1, none⟩ = some (.slice (some ⟨c2, 0, none⟩) 2 2) := B2.c 1
  have P4 := p4.on f4
  have P3 := p3.on f4
  have k2 : W4.cell? ⟨c2, 2, none⟩ = some (.int .i64 2) := P4.c 2
  have k2' := P4.f 2
  have lt1 := p1.lt
  have lt2 := p2.lt
  have lt4 := p4.lt
  have z1 := f1.size
  have z2 := f2.size
  have z3 := f3.size
  have G1 : Bk (W4.setCell ⟨c2, 2, none⟩ (.int .i64 9)) b1 exN 33 := (((p1.on f2).on f3).on f4).far (p := ⟨c2, 2, none⟩) (by show b1 ≠ c2; omega) _
  have G2 : Bk (W4.setCell ⟨c2, 2, none⟩ (.int .i64 9)) b2 (exE 2) 35 := (((p2.on f2).on f3).on f4).far (p := ⟨c2, 2, none⟩) (by show b2 ≠ c2; omega) _
  have G3 : Bk (W4.setCell ⟨c2, 2, none⟩ (.int .i64 9)) c1 exN 33 := P3.far (p := ⟨c2, 2, none⟩) (by show c1 ≠ c2; exact hc) _
  have G4 : Bk (W4.setCell ⟨c2, 2, none⟩ (.int .i64 9)) c2 (exE 9) 35 := P4.set_ 2 _
  have X1 := (((B1.on f3).on f4).far (p := ⟨c2, 2, none⟩) (by show w1.heap.size ≠ c2; have := B1.lt; omega) (.int .i64 9))
  have X2 := (B2.far (p := ⟨c2, 2, none⟩) (by show w3.heap.size ≠ c2; omega) (.int .i64 9))
  have FW : Fuw w (W4.setCell ⟨c2, 2, none⟩ (.int .i64 9)) := fuwS (((f1.trans f2).trans f3).trans f4) (by omega)
  have I1 := Lib.hid (ex_in G1 G2 (by decide) (by decide))
  have I2 := Lib.hid (ex_in G3 G4 (by decide) (by decide))
  have HX1 := Lib.hid X1
  have HX2 := Lib.hid X2
  have F0 := Lib.hid FW
  clear p1 p2 p3 p4 l1 l2 l3 l4 hb hc f1 f2 f3 f4 B1 P4 P3 lt1 lt2 lt4 z1 z2 z3 G1 G2 G3 G4 X1 X2 FW B2
  go_upto_region 4 with fail
  clear q1 k2 k2'
  generalize W4.setCell ⟨c2, 2, none⟩ (.int .i64 9) = W at *
  have a0 : W.cell? ⟨w1.heap.size, 0, none⟩ = some (.slice (some ⟨b1, 0, none⟩) 2 2) := HX1.out.c 0
  have a1 : W.cell? ⟨w1.heap.size, 1, none⟩ = some (.slice (some ⟨b2, 0, none⟩) 2 2) := HX1.out.c 1
  have a2 : W.cell? ⟨w1.heap.size, 2, none⟩ = some (.int .i64 3) := HX1.out.c 2
  have a3 : W.cell? ⟨w1.heap.size, 3, none⟩ = some (.int .i64 3) := HX1.out.c 3
  have S1 := Lib.hid (fun w' (hf : Fuw W w') => steps_any (exG 2) (some ⟨b1, 0, none⟩) (some ⟨b2, 0, none⟩) 2 2 2 [] none 0 3 w' (I1.out.on hf) (Sl.empty _) (by decide))
  unfold grv at S1
  rw [ex_both] at S1
  go_wp2_with fail
  go_at_call 11; refine (S1.out _ (Fuw.refl _)).mono ?_; rintro e5 w5 ⟨ao5, k5, rfl, h5, f5⟩
  have H5 := Lib.hid h5
  have F5 := Lib.hid f5
  clear h5 f5 a0 a1 a2 a3 S1
  have a0 : w5.cell? ⟨w1.heap.size, 0, none⟩ = some (.slice (some ⟨b1, 0, none⟩) 2 2) := (HX1.out.on F5.out).c 0
  have a1 : w5.cell? ⟨w1.heap.size, 1, none⟩ = some (.slice (some ⟨b2, 0, none⟩) 2 2) := (HX1.out.on F5.out).c 1
  have a2 : w5.cell? ⟨w1.heap.size, 2, none⟩ = some (.int .i64 3) := (HX1.out.on F5.out).c 2
  have a3 : w5.cell? ⟨w1.heap.size, 3, none⟩ = some (.int .i64 3) := (HX1.out.on F5.out).c 3
  have S2 := Lib.hid (fun w' (hf : Fuw W w') B t (hb : Bk w' B #[.string ⟨#[84]⟩] t) => steps_any (exG 2) (some ⟨b1, 0, none⟩) (some ⟨b2, 0, none⟩) 2 2 2 [[84]] (some ⟨B, 0, none⟩) 1 2 w' (I1.out.on hf) (slS_blk hb) (by decide))
  unfold grv at S2
  rw [ex_inn] at S2
  go_wp2_with fail
  go_at_call 11; refine (S2.out _ (F5.out.trans (fuwA _ _)) _ _ (Bk.new _ _ _)).mono ?_; rintro e6 w6 ⟨ao6, k6, rfl, h6, f6⟩
  have H6 := Lib.hid h6
  have F6 := Lib.hid (F5.out.trans ((fuwA _ _).trans f6))
  have F56 := Lib.hid ((fuwA _ _).trans f6)
  clear h6 f6 a0 a1 a2 a3 S2
  have a0 : w6.cell? ⟨w1.heap.size, 0, none⟩ = some (.slice (some ⟨b1, 0, none⟩) 2 2) := (HX1.out.on F6.out).c 0
  have a1 : w6.cell? ⟨w1.heap.size, 1, none⟩ = some (.slice (some ⟨b2, 0, none⟩) 2 2) := (HX1.out.on F6.out).c 1
  have a2 : w6.cell? ⟨w1.heap.size, 2, none⟩ = some (.int .i64 3) := (HX1.out.on F6.out).c 2
  have a3 : w6.cell? ⟨w1.heap.size, 3, none⟩ = some (.int .i64 3) := (HX1.out.on F6.out).c 3
  have C1 := Lib.hid (fun w' (hf : Fuw W w') => check_any (exG 2) (some ⟨b1, 0, none⟩) (some ⟨b2, 0, none⟩) 2 2 w' (I1.out.on hf))
  unfold grv at C1
  rw [ex_ok] at C1
  go_wp2_with fail
  go_at_call 12; refine (C1.out _ F6.out).mono ?_; rintro e7 w7 ⟨rfl, f7⟩
  have F7 := Lib.hid (F6.out.trans f7)
  have F57 := Lib.hid (F56.out.trans f7)
  have F67 := Lib.hid f7
  clear f7 a0 a1 a2 a3 C1
  have a0 : w7.cell? ⟨w3.heap.size, 0, none⟩ = some (.slice (some ⟨c1, 0, none⟩) 2 2) := (HX2.out.on F7.out).c 0
  have a1 : w7.cell? ⟨w3.heap.size, 1, none⟩ = some (.slice (some ⟨c2, 0, none⟩) 2 2) := (HX2.out.on F7.out).c 1
  have a2 : w7.cell? ⟨w3.heap.size, 2, none⟩ = some (.int .i64 3) := (HX2.out.on F7.out).c 2
  have a3 : w7.cell? ⟨w3.heap.size, 3, none⟩ = some (.int .i64 3) := (HX2.out.on F7.out).c 3
  have C2 := Lib.hid (fun w' (hf : Fuw W w') => check_any (exG 9) (some ⟨c1, 0, none⟩) (some ⟨c2, 0, none⟩) 2 2 w' (I2.out.on hf))
  unfold grv at C2
  rw [ex_bad] at C2
  go_wp2_with fail
  go_at_call 12; refine (C2.out _ F7.out).mono ?_; rintro e8 w8 ⟨rfl, f8⟩
  have F8 := Lib.hid (F7.out.trans f8)
  have F58 := Lib.hid (F57.out.trans f8)
  have F68 := Lib.hid (F67.out.trans f8)
  clear f8 a0 a1 a2 a3 C2
  have J1 := Lib.hid (fun w' (hf : Fuw w5 w') B t (hb : Bk w' B #[.int .i64 2, .int .i64 1, .int .i64 1, .int .i64 2, .int .i64 2, .int .i64 2] t) => samj_any (jL 2 [(1, 1), (2, 2)]) [(2, 1, 1), (2, 2, 2)] ao5 (some ⟨B, 0, none⟩) k5 2 w' (slJ_on hf H5.out) (slJ_blk hb))
  rw [show samJ (jL 2 [(1, 1), (2, 2)]) [(2, 1, 1), (2, 2, 2)] = true from samJ_ex] at J1
  go_wp2_with fail
  go_at_call 13; refine (J1.out _ (F58.out.trans (fuwA _ _)) _ _ (Bk.new _ _ _)).mono ?_; rintro e9 w9 ⟨rfl, f9⟩
  have F9 := Lib.hid (F8.out.trans ((fuwA _ _).trans f9))
  have F59 := Lib.hid (F58.out.trans ((fuwA _ _).trans f9))
  have F69 := Lib.hid (F68.out.trans ((fuwA _ _).trans f9))
  clear f9 J1
  have J2 := Lib.hid (fun w' (hf : Fuw w6 w') (hf5 : Fuw w5 w') => samj_any (jL 2 [(1, 1), (2, 2)]) (jL 2 [(1, 1), (2, 2)]) ao6 ao5 k6 k5 w' (slJ_on hf H6.out) (slJ_on hf5 H5.out))
  rw [samJ_self] at J2
  go_wp2_with fail
  go_at_call 13; refine (J2.out _ F69.out F59.out).mono ?_; rintro e10 w10 ⟨rfl, f10⟩
  have F10 := Lib.hid (F9.out.trans f10)
  clear f10 J2
  have a0 : w10.cell? ⟨w1.heap.size, 0, none⟩ = some (.slice (some ⟨b1, 0, none⟩) 2 2) := (HX1.out.on F10.out).c 0
  have a1 : w10.cell? ⟨w1.heap.size, 1, none⟩ = some (.slice (some ⟨b2, 0, none⟩) 2 2) := (HX1.out.on F10.out).c 1
  have a2 : w10.cell? ⟨w1.heap.size, 2, none⟩ = some (.int .i64 3) := (HX1.out.on F10.out).c 2
  have a3 : w10.cell? ⟨w1.heap.size, 3, none⟩ = some (.int .i64 3) := (HX1.out.on F10.out).c 3
  have S3 := Lib.hid (fun w' (hf : Fuw W w') => steps_any (exG 2) (some ⟨b1, 0, none⟩) (some ⟨b2, 0, none⟩) 2 2 2 [] none 0 1 w' (I1.out.on hf) (Sl.empty _) (by decide))
  unfold grv at S3
  rw [ex_out] at S3
  go_wp2_with fail
  go_at_call 11; refine (S3.out _ F10.out).mono ?_; rintro e11 w11 ⟨ao11, k11, rfl, -, f11⟩
  have F11 := Lib.hid (F10.out.trans f11)
  clear f11 a0 a1 a2 a3 S3
  go_wp2_with fail
  go_at_call 14; refine (new_any _).mono ?_; rintro e12 w12 ⟨an12, ae12, cn12, ce12, rfl, g12, f12⟩
  have F12 := Lib.hid (F11.out.trans f12)
  have C3 := Lib.hid (check_any nilG an12 ae12 cn12 ce12 w12 g12)
  unfold grv at C3 ⊢
  rw [ex_nil] at C3
  clear f12 g12
  go_wp2_with fail
  go_at_call 12; refine C3.out.mono ?_; rintro e13 w13 ⟨rfl, f13⟩
  have F13 := Lib.hid (F12.out.trans f13)
  clear f13 C3
  have N1 := Lib.hid (name_any ⟨#[97, 95, 49]⟩ w13 (by unfold maxLen; decide))
  have N2 := Lib.hid (name_any ⟨#[49, 97]⟩ w13 (by unfold maxLen; decide))
  rw [show nameV (⟨#[97, 95, 49]⟩ : ByteArray).data.toList = true from ex_a1] at N1
  rw [show nameV (⟨#[49, 97]⟩ : ByteArray).data.toList = false from ex_1a] at N2
  go_wp2_with fail
  go_at_call 15; refine N1.out.mono ?_; rintro e14 w14 ⟨rfl, rfl⟩
  go_wp2_with fail
  go_at_call 15; refine N2.out.mono ?_; rintro e15 w15 ⟨rfl, rfl⟩
  go_wp2
  go_ret
  exact ⟨rfl, F0.out.trans F13.out⟩
end Go.Proofs.YtkcmakfmeioakaaGreat

/-! The laws of package graph: GraphSame where one of the graphs is not small. Nothing that was there turns. -/
namespace Go.Proofs.YtkcmakfmeioakaaGreat
open Go.RowKit

set_option maxHeartbeats 3200000 in
set_option maxRecDepth 100000 in
theorem sameg_out (g h : Gr) (an ae bn be : Option Addr) (cn ce dn de : Nat) (at_ : Int) (w : World) (hg : GIn w g an ae cn ce) (hh : GIn w h bn be dn de) (hs : smlV g 60 100 = false ∨ smlV h 60 100 = false) :
    Calls Tryz.prog 3 #[grv g an ae cn ce, grv h bn be dn de, .int .u8 at_] w (FwB w true) := by
  obtain ⟨W, hW⟩ : ∃ W, ((w.alloc (.cells #[.slice an g.ns.length cn, .slice ae g.es.length ce, .int .i64 g.nn, .int .i64 g.ne] 25)).alloc (.cells #[.slice bn h.ns.length dn, .slice be h.es.length de, .int .i64 h.nn, .int .i64 h.ne] 25)) = W := ⟨_, rfl⟩
  have p0 : Bk W w.heap.size #[.slice an g.ns.length cn, .slice ae g.es.length ce, .int .i64 g.nn, .int .i64 g.ne] 25 := by rw [← hW]; exact (Bk.new w _ _).on (fuwA _ _)
  have p1 : Bk W (w.heap.size + 1) #[.slice bn h.ns.length dn, .slice be h.es.length de, .int .i64 h.nn, .int .i64 h.ne] 25 := by rw [← hW]; exact bkw2 _ _ _ _
  have f0 : Fuw w W := by rw [← hW]; exact (fuwA w _).trans (fuwA _ _)
  have HC := Lib.hid (fun w' (hf : Fuw w w') => small_any g an ae cn ce 60 100 w' (hg.on hf))
  have HD := Lib.hid (fun w' (hf : Fuw w w') => small_any h bn be dn de 60 100 w' (hh.on hf))
  clear hg hh
  unfold grv at *
  generalize smlV g 60 100 = r0 at *
  generalize smlV h 60 100 = r1 at *
  go_enter Tryz.func3, Tryz.ntmps3
  go_upto_region 1 with fail
  clear hW
  have c0 : W.cell? ⟨w.heap.size, 0, none⟩ = some (.slice an g.ns.length cn) := p0.c 0
  have c1 : W.cell? ⟨w.heap.size, 1, none⟩ = some (.slice ae g.es.length ce) := p0.c 1
  have c2 : W.cell? ⟨w.heap.size, 2, none⟩ = some (.int .i64 g.nn) := p0.c 2
  have c3 : W.cell? ⟨w.heap.size, 3, none⟩ = some (.int .i64 g.ne) := p0.c 3
  have F0 := Lib.hid f0
  have P1 := Lib.hid p1
  clear p0 p1 f0
  go_wp2_with fail
  go_at_call 4; refine (HC.out _ F0.out).mono ?_; rintro e0 w0 ⟨rfl, f1⟩
  have F1 := Lib.hid (F0.out.trans f1)
  have P2 := Lib.hid (P1.out.on f1)
  clear f1 c0 c1 c2 c3
  have d0 : w0.cell? ⟨w.heap.size + 1, 0, none⟩ = some (.slice bn h.ns.length dn) := P2.out.c 0
  have d1 : w0.cell? ⟨w.heap.size + 1, 1, none⟩ = some (.slice be h.es.length de) := P2.out.c 1
  have d2 : w0.cell? ⟨w.heap.size + 1, 2, none⟩ = some (.int .i64 h.nn) := P2.out.c 2
  have d3 : w0.cell? ⟨w.heap.size + 1, 3, none⟩ = some (.int .i64 h.ne) := P2.out.c 3
  cases r0 with
  | false =>
    clear hs
    go_wp2_with fail
    go_at_call 5; refine (alive_any _).mono ?_; rintro e2 w2 ⟨rfl, f2⟩
    have F2 := Lib.hid (F1.out.trans f2)
    clear f2 d0 d1 d2 d3
    go_wp2
    go_ret
    exact ⟨rfl, F2.out⟩
  | true =>
    have e1 : r1 = false := by rcases hs with k | k; cases k; exact k
    subst e1
    clear hs
    go_wp2_with fail
    go_at_call 4; refine (HD.out _ F1.out).mono ?_; rintro e1 w1 ⟨rfl, f2⟩
    have F2 := Lib.hid (F1.out.trans f2)
    clear f2 d0 d1 d2 d3
    go_wp2_with fail
    go_at_call 5; refine (alive_any _).mono ?_; rintro e2 w2 ⟨rfl, f3⟩
    have F3 := Lib.hid (F2.out.trans f3)
    clear f3
    go_wp2
    go_ret
    exact ⟨rfl, F3.out⟩
end Go.Proofs.YtkcmakfmeioakaaGreat
