/-
  The statements of layer 3: the helper lives() gives true: the chapter's examples hold by the contracts of package frac.
-/
import Derived.Test.YtdkmfhlmeildmaaDoorFracZ
import Derived.Deep.Cut
namespace Go.Proofs.YtdkmfhlmeildmaaDoor
open Go.RowKit

theorem live0 : rN (ofO 6 (-4)) = (-3) ∧ rD (ofO 6 (-4)) = 2 ∧ rB (ofO 6 (-4)) = true := by decide +kernel
theorem live1 : rN (addO 1 1000000000000000 (-1) 1000000000000000) = 0 ∧ rD (addO 1 1000000000000000 (-1) 1000000000000000) = 1 ∧ rB (addO 1 1000000000000000 (-1) 1000000000000000) = true := by decide +kernel
theorem live2 : rN (addO 1 6 1 10) = 4 ∧ rD (addO 1 6 1 10) = 15 ∧ rB (addO 1 6 1 10) = true := by decide +kernel
theorem live3 : rN (divO 1 2 (-3) 4) = (-2) ∧ rD (divO 1 2 (-3) 4) = 3 ∧ rB (divO 1 2 (-3) 4) = true := by decide +kernel
theorem live4 : rN (mulO 1000000000000000 1 2 1) = 0 ∧ rD (mulO 1000000000000000 1 2 1) = 0 ∧ rB (mulO 1000000000000000 1 2 1) = false := by decide +kernel
theorem live5 : prN ({ data := #[45, 51, 47, 50] } : ByteArray) = (-3) ∧ prD ({ data := #[45, 51, 47, 50] } : ByteArray) = 2 ∧ prB ({ data := #[45, 51, 47, 50] } : ByteArray) = true := by decide +kernel
theorem live6 : prN ({ data := #[54, 47, 52] } : ByteArray) = 0 ∧ prD ({ data := #[54, 47, 52] } : ByteArray) = 0 ∧ prB ({ data := #[54, 47, 52] } : ByteArray) = false := by decide +kernel
theorem live7 : rN (subO 1 2 1 3) = 1 ∧ rD (subO 1 2 1 3) = 6 ∧ rB (subO 1 2 1 3) = true := by decide +kernel
theorem live_v0 : okF 2 4 = false := by decide +kernel
theorem live_v1 : okF (-3) 2 = true := by decide +kernel
theorem live_c : cmpQ (fz 1 3) (fz 2 5) = -1 := by decide +kernel
theorem live_f : flV (-3) 2 = -2 := by decide +kernel
theorem live_t : texV (-3) 2 = { data := #[45, 51, 47, 50] } := by decide +kernel

set_option maxHeartbeats 4000000 in
theorem lives_any (w : World) (G : Good w) : Calls Tryd.prog 13 #[] w (RetB w true) := by
  have GG := Lib.hid G
  clear G
  go_enter Tryd.func13, Tryd.ntmps13
  go_wp2_with fail
  go_at_call 9; refine (nf_of _ _ _).mono ?_; rintro e1 w1 ⟨rfl, h1⟩
  rw [live0.1, live0.2.1, live0.2.2]
  have f1 := h1
  clear h1
  go_wp2_with fail
  obtain ⟨p1, g1⟩ := box1 w1 (-3) 2
  replace f1 := f1.trans g1
  clear g1
  generalize w1.alloc (.cells #[.int .i64 (-3), .int .i64 2] 23) = v1 at *
  go_at_call 14; refine (nf_add _ _ _ _ _).mono ?_; rintro e2 w2 ⟨rfl, h2⟩
  rw [live1.1, live1.2.1, live1.2.2]
  have f2 := f1.trans h2
  replace p1 := p1.on h2
  clear f1
  clear h2
  go_wp2_with fail
  obtain ⟨p2, g2⟩ := box1 w2 0 1
  replace f2 := f2.trans g2
  replace p1 := p1.on g2
  clear g2
  generalize w2.alloc (.cells #[.int .i64 0, .int .i64 1] 23) = v2 at *
  go_at_call 14; refine (nf_add _ _ _ _ _).mono ?_; rintro e3 w3 ⟨rfl, h3⟩
  rw [live2.1, live2.2.1, live2.2.2]
  have f3 := f2.trans h3
  replace p1 := p1.on h3
  replace p2 := p2.on h3
  clear f2
  clear h3
  go_wp2_with fail
  obtain ⟨p3, g3⟩ := box1 w3 4 15
  replace f3 := f3.trans g3
  replace p1 := p1.on g3
  replace p2 := p2.on g3
  clear g3
  generalize w3.alloc (.cells #[.int .i64 4, .int .i64 15] 23) = v3 at *
  go_at_call 20; refine (nf_div _ _ _ _ _).mono ?_; rintro e4 w4 ⟨rfl, h4⟩
  rw [live3.1, live3.2.1, live3.2.2]
  have f4 := f3.trans h4
  replace p1 := p1.on h4
  replace p2 := p2.on h4
  replace p3 := p3.on h4
  clear f3
  clear h4
  go_wp2_with fail
  obtain ⟨p4, g4⟩ := box1 w4 (-2) 3
  replace f4 := f4.trans g4
  replace p1 := p1.on g4
  replace p2 := p2.on g4
  replace p3 := p3.on g4
  clear g4
  generalize w4.alloc (.cells #[.int .i64 (-2), .int .i64 3] 23) = v4 at *
  go_at_call 18; refine (nf_mul _ _ _ _ _).mono ?_; rintro e5 w5 ⟨rfl, h5⟩
  rw [live4.1, live4.2.1, live4.2.2]
  have f5 := f4.trans h5
  replace p1 := p1.on h5
  replace p2 := p2.on h5
  replace p3 := p3.on h5
  replace p4 := p4.on h5
  clear f4
  clear h5
  go_wp2_with fail
  obtain ⟨p5, g5⟩ := box1 w5 0 0
  replace f5 := f5.trans g5
  replace p1 := p1.on g5
  replace p2 := p2.on g5
  replace p3 := p3.on g5
  replace p4 := p4.on g5
  clear g5
  generalize w5.alloc (.cells #[.int .i64 0, .int .i64 0] 23) = v5 at *
  go_at_call 24; refine (nf_parse _ (by decide) _ (GG.out.on f5)).mono ?_; rintro e6 w6 ⟨rfl, h6⟩
  rw [live5.1, live5.2.1, live5.2.2]
  have f6 := f5.trans h6
  replace p1 := p1.on h6
  replace p2 := p2.on h6
  replace p3 := p3.on h6
  replace p4 := p4.on h6
  replace p5 := p5.on h6
  clear f5
  clear h6
  go_wp2_with fail
  obtain ⟨p6, g6⟩ := box1 w6 (-3) 2
  replace f6 := f6.trans g6
  replace p1 := p1.on g6
  replace p2 := p2.on g6
  replace p3 := p3.on g6
  replace p4 := p4.on g6
  replace p5 := p5.on g6
  clear g6
  generalize w6.alloc (.cells #[.int .i64 (-3), .int .i64 2] 23) = v6 at *
  go_at_call 24; refine (nf_parse _ (by decide) _ (GG.out.on f6)).mono ?_; rintro e7 w7 ⟨rfl, h7⟩
  rw [live6.1, live6.2.1, live6.2.2]
  have f7 := f6.trans h7
  replace p1 := p1.on h7
  replace p2 := p2.on h7
  replace p3 := p3.on h7
  replace p4 := p4.on h7
  replace p5 := p5.on h7
  replace p6 := p6.on h7
  clear f6
  clear h7
  go_wp2_with fail
  obtain ⟨p7, g7⟩ := box1 w7 0 0
  replace f7 := f7.trans g7
  replace p1 := p1.on g7
  replace p2 := p2.on g7
  replace p3 := p3.on g7
  replace p4 := p4.on g7
  replace p5 := p5.on g7
  replace p6 := p6.on g7
  clear g7
  generalize w7.alloc (.cells #[.int .i64 0, .int .i64 0] 23) = v7 at *
  go_at_call 16; refine (nf_sub _ _ _ _ (by decide) (by decide) _).mono ?_; rintro e8 w8 ⟨rfl, h8⟩
  rw [live7.1, live7.2.1, live7.2.2]
  have f8 := f7.trans h8
  replace p1 := p1.on h8
  replace p2 := p2.on h8
  replace p3 := p3.on h8
  replace p4 := p4.on h8
  replace p5 := p5.on h8
  replace p6 := p6.on h8
  replace p7 := p7.on h8
  clear f7
  clear h8
  clear p5 p7
  go_upto_region 9 with fail
  obtain ⟨p8, g8⟩ := box1 w8 1 6
  replace f8 := f8.trans g8
  replace p1 := p1.on g8
  replace p2 := p2.on g8
  replace p3 := p3.on g8
  replace p4 := p4.on g8
  replace p6 := p6.on g8
  clear g8
  generalize w8.alloc (.cells #[.int .i64 1, .int .i64 6] 23) = v8 at *
  simp only [List.append_eq, List.cons_append, List.nil_append]
  go_wp2_with fail
  go_at_call 11; refine (nf_valid _ _ _).mono ?_; rintro e9 w9 ⟨rfl, h9⟩
  rw [live_v0]
  have f9 := f8.trans h9
  replace p1 := p1.on h9
  replace p2 := p2.on h9
  replace p3 := p3.on h9
  replace p4 := p4.on h9
  replace p6 := p6.on h9
  replace p8 := p8.on h9
  clear h9 f8
  have a1 := p1.c0
  have b1 := p1.c1
  have a2 := p2.c0
  have b2 := p2.c1
  have a3 := p3.c0
  have b3 := p3.c1
  have a4 := p4.c0
  have b4 := p4.c1
  have a6 := p6.c0
  have b6 := p6.c1
  have a8 := p8.c0
  have b8 := p8.c1
  go_wp2_with fail
  clear a1 b1 a2 b2 a3 b3 a4 b4 a6 b6 a8 b8
  go_at_call 11; refine (nf_valid _ _ _).mono ?_; rintro e10 w10 ⟨rfl, h10⟩
  rw [live_v1]
  have f10 := f9.trans h10
  replace p1 := p1.on h10
  replace p2 := p2.on h10
  replace p3 := p3.on h10
  replace p4 := p4.on h10
  replace p6 := p6.on h10
  replace p8 := p8.on h10
  clear h10 f9
  have a1 := p1.c0
  have b1 := p1.c1
  have a2 := p2.c0
  have b2 := p2.c1
  have a3 := p3.c0
  have b3 := p3.c1
  have a4 := p4.c0
  have b4 := p4.c1
  have a6 := p6.c0
  have b6 := p6.c1
  have a8 := p8.c0
  have b8 := p8.c1
  go_wp2_with fail
  clear a1 b1 a2 b2 a3 b3 a4 b4 a6 b6 a8 b8
  go_at_call 22; refine (nf_cmp _ _ _ _ _).mono ?_; rintro e11 w11 ⟨rfl, h11⟩
  rw [live_c]
  have f11 := f10.trans h11
  replace p1 := p1.on h11
  replace p2 := p2.on h11
  replace p3 := p3.on h11
  replace p4 := p4.on h11
  replace p6 := p6.on h11
  replace p8 := p8.on h11
  clear h11 f10
  have a1 := p1.c0
  have b1 := p1.c1
  have a2 := p2.c0
  have b2 := p2.c1
  have a3 := p3.c0
  have b3 := p3.c1
  have a4 := p4.c0
  have b4 := p4.c1
  have a6 := p6.c0
  have b6 := p6.c1
  have a8 := p8.c0
  have b8 := p8.c1
  go_wp2_with fail
  clear a1 b1 a2 b2 a3 b3 a4 b4 a6 b6 a8 b8
  go_at_call 28; refine (nf_floor _ _ _).mono ?_; rintro e12 w12 ⟨rfl, h12⟩
  rw [live_f]
  have f12 := f11.trans h12
  replace p1 := p1.on h12
  replace p2 := p2.on h12
  replace p3 := p3.on h12
  replace p4 := p4.on h12
  replace p6 := p6.on h12
  replace p8 := p8.on h12
  clear h12 f11
  have a1 := p1.c0
  have b1 := p1.c1
  have a2 := p2.c0
  have b2 := p2.c1
  have a3 := p3.c0
  have b3 := p3.c1
  have a4 := p4.c0
  have b4 := p4.c1
  have a6 := p6.c0
  have b6 := p6.c1
  have a8 := p8.c0
  have b8 := p8.c1
  go_wp2_with fail
  clear a1 b1 a2 b2 a3 b3 a4 b4 a6 b6 a8 b8
  go_at_call 26; refine (nf_text _ _ _ (GG.out.on f12)).mono ?_; rintro e13 w13 ⟨rfl, h13⟩
  rw [live_t]
  have f13 := f12.trans h13
  replace p1 := p1.on h13
  replace p2 := p2.on h13
  replace p3 := p3.on h13
  replace p4 := p4.on h13
  replace p6 := p6.on h13
  replace p8 := p8.on h13
  clear h13 f12
  have a1 := p1.c0
  have b1 := p1.c1
  have a2 := p2.c0
  have b2 := p2.c1
  have a3 := p3.c0
  have b3 := p3.c1
  have a4 := p4.c0
  have b4 := p4.c1
  have a6 := p6.c0
  have b6 := p6.c1
  have a8 := p8.c0
  have b8 := p8.c1
  go_wp2
  go_ret
  exact ⟨rfl, f13⟩

theorem keep6 {v v' : World} {p0 p1 p2 p3 p4 p5 : Addr} {x0 x1 x2 x3 x4 x5 : Value} (hf : Fur v v') (h0 : v.cell? p0 = some x0) (h1 : v.cell? p1 = some x1) (h2 : v.cell? p2 = some x2) (h3 : v.cell? p3 = some x3) (h4 : v.cell? p4 = some x4) (h5 : v.cell? p5 = some x5) :
    Fur v v' ∧ v'.cell? p0 = some x0 ∧ v'.cell? p1 = some x1 ∧ v'.cell? p2 = some x2 ∧ v'.cell? p3 = some x3 ∧ v'.cell? p4 = some x4 ∧ v'.cell? p5 = some x5 := ⟨hf, cellOn hf h0, cellOn hf h1, cellOn hf h2, cellOn hf h3, cellOn hf h4, cellOn hf h5⟩
theorem keep8 {v v' : World} {p0 p1 p2 p3 p4 p5 p6 p7 : Addr} {x0 x1 x2 x3 x4 x5 x6 x7 : Value} (hf : Fur v v') (h0 : v.cell? p0 = some x0) (h1 : v.cell? p1 = some x1) (h2 : v.cell? p2 = some x2) (h3 : v.cell? p3 = some x3) (h4 : v.cell? p4 = some x4) (h5 : v.cell? p5 = some x5) (h6 : v.cell? p6 = some x6) (h7 : v.cell? p7 = some x7) :
    Fur v v' ∧ v'.cell? p0 = some x0 ∧ v'.cell? p1 = some x1 ∧ v'.cell? p2 = some x2 ∧ v'.cell? p3 = some x3 ∧ v'.cell? p4 = some x4 ∧ v'.cell? p5 = some x5 ∧ v'.cell? p6 = some x6 ∧ v'.cell? p7 = some x7 := ⟨hf, cellOn hf h0, cellOn hf h1, cellOn hf h2, cellOn hf h3, cellOn hf h4, cellOn hf h5, cellOn hf h6, cellOn hf h7⟩
end Go.Proofs.YtdkmfhlmeildmaaDoor
