/-
  FracComputes gives true by the contracts of package frac and of its reference.
-/
import Derived.Test.YtdkmfhlmeildmaaDoorFracAlive
import Derived.Test.YtdkmfhlmeildmaaDoorFrPut
import Derived.Deep.RegionHeld3
namespace Go.Proofs.YtdkmfhlmeildmaaDoor
open Go.RowKit

set_option maxHeartbeats 8000000 in
theorem computes_any (an ad bn bd : Int) (hb0 : -9223372036854775808 ≤ bn) (hb1 : bn ≤ 9223372036854775807) (w : World) (G : Good w) : Calls Tryd.prog 4 #[.agg #[.int .i64 an, .int .i64 ad], .agg #[.int .i64 bn, .int .i64 bd]] w (RetB w true) := by
  have C0 := Lib.hid (fun w => nf_add an ad bn bd w)
  have R0 := Lib.hid (fun w => radd_any an ad bn bd w)
  generalize rN (addO an ad bn bd) = N0 at *
  generalize rD (addO an ad bn bd) = D0 at *
  generalize rB (addO an ad bn bd) = B0 at *
  have C1 := Lib.hid (fun w => nf_sub an ad bn bd hb0 hb1 w)
  clear hb0 hb1
  have R1 := Lib.hid (fun w => rsub_any an ad bn bd w)
  generalize rN (subO an ad bn bd) = N1 at *
  generalize rD (subO an ad bn bd) = D1 at *
  generalize rB (subO an ad bn bd) = B1 at *
  have C2 := Lib.hid (fun w => nf_mul an ad bn bd w)
  have R2 := Lib.hid (fun w => rmul_any an ad bn bd w)
  generalize rN (mulO an ad bn bd) = N2 at *
  generalize rD (mulO an ad bn bd) = D2 at *
  generalize rB (mulO an ad bn bd) = B2 at *
  have C3 := Lib.hid (fun w => nf_div an ad bn bd w)
  have R3 := Lib.hid (fun w => rdiv_any an ad bn bd w)
  generalize rN (divO an ad bn bd) = N3 at *
  generalize rD (divO an ad bn bd) = D3 at *
  generalize rB (divO an ad bn bd) = B3 at *
  have V1 := Lib.hid (fun w => nf_cmp an ad bn bd w)
  have V2 := Lib.hid (fun w => rcmp_any an ad bn bd w)
  generalize cmpQ (fz an ad) (fz bn bd) = V at *
  obtain ⟨pa, pb, f0⟩ := box2 w an ad bn bd
  go_enter Tryd.func4, Tryd.ntmps4
  go_wp2_with fail
  generalize (w.alloc (.cells #[.int .i64 an, .int .i64 ad] 23)).alloc (.cells #[.int .i64 bn, .int .i64 bd] 23) = v0 at *
  go_at_call 14; refine (C0.out _).mono ?_; rintro e1 w1 ⟨rfl, h1⟩
  replace pa := pa.on h1
  replace pb := pb.on h1
  replace f0 := f0.trans h1
  clear h1
  have l1 := pb.lt
  go_upto_region 2 with fail
  obtain ⟨px, h2⟩ := box1 w1 N0 D0
  replace pa := pa.on h2
  replace pb := pb.on h2
  replace f0 := f0.trans h2
  clear h2
  generalize w1.alloc (.cells #[.int .i64 N0, .int .i64 D0] 23) = v1 at *
  have pa0 := pa.c0
  have pa1 := pa.c1
  have pb0 := pb.c0
  have pb1 := pb.c1
  go_wp2_with fail
  go_at_call 15; refine (R0.out _).mono ?_; rintro e2 w2 ⟨rfl, h3⟩
  clear pa0 pa1 pb0 pb1
  replace pa := pa.on h3
  replace pb := pb.on h3
  replace px := px.on h3
  replace f0 := f0.trans h3
  clear h3
  have l2 := px.lt
  go_upto_region 3 with fail
  obtain ⟨py, h4⟩ := box1 w2 N0 D0
  replace pa := pa.on h4
  replace pb := pb.on h4
  replace px := px.on h4
  replace f0 := f0.trans h4
  clear h4
  generalize w2.alloc (.cells #[.int .i64 N0, .int .i64 D0] 23) = v2 at *
  have ne1 : w1.heap.size ≠ w2.heap.size := by omega
  have ne2 : w.heap.size ≠ w1.heap.size := by omega
  have ne3 : w.heap.size + 1 ≠ w1.heap.size := by omega
  have ne4 : w.heap.size ≠ w2.heap.size := by omega
  have ne5 : w.heap.size + 1 ≠ w2.heap.size := by omega
  have le1 : w.heap.size ≤ w1.heap.size := by omega
  have le2 : w.heap.size ≤ w2.heap.size := by omega
  have pa0 := pa.c0
  have pa1 := pa.c1
  have pb0 := pb.c0
  have pb1 := pb.c1
  have px0 := px.c0
  have px1 := px.c1
  have py0 := py.c0
  have py1 := py.c1
  go_wp2_with fail
  go_at_call 16; refine (C1.out _).mono ?_; rintro e3 w3 ⟨rfl, h3⟩
  clear pa0 pa1 pb0 pb1 px0 px1 py0 py1
  replace pa := pa.on h3
  replace pb := pb.on h3
  replace px := px.on h3
  replace py := py.on h3
  replace f0 := f0.trans h3
  clear h3
  have px0 := px.c0
  have px1 := px.c1
  have z0 := px.f0 0
  have z1 := px.f0 1
  go_upto_region 6 with fail
  clear px0 px1
  clear z0 z1
  replace f0 := fur_put f0 (B := w1.heap.size) (by omega) (.int .i64 N1) (.int .i64 D1)
  replace pa := pa.other (B' := w1.heap.size) (by omega) (.int .i64 N1) (.int .i64 D1)
  replace pb := pb.other (B' := w1.heap.size) (by omega) (.int .i64 N1) (.int .i64 D1)
  replace py := py.other (B' := w1.heap.size) (by omega) (.int .i64 N1) (.int .i64 D1)
  replace px := px.put N1 D1
  generalize (w3.setCell ⟨w1.heap.size, 0, none⟩ (.int .i64 N1)).setCell ⟨w1.heap.size, 1, none⟩ (.int .i64 D1) = v3 at *
  have pa0 := pa.c0
  have pa1 := pa.c1
  have pb0 := pb.c0
  have pb1 := pb.c1
  have px0 := px.c0
  have px1 := px.c1
  have py0 := py.c0
  have py1 := py.c1
  go_wp2_with fail
  go_at_call 17; refine (R1.out _).mono ?_; rintro e4 w4 ⟨rfl, h4⟩
  clear pa0 pa1 pb0 pb1 px0 px1 py0 py1
  replace pa := pa.on h4
  replace pb := pb.on h4
  replace px := px.on h4
  replace py := py.on h4
  replace f0 := f0.trans h4
  clear h4
  have py0 := py.c0
  have py1 := py.c1
  have z0 := py.f0 0
  have z1 := py.f0 1
  go_upto_region 7 with fail
  clear py0 py1
  clear z0 z1
  replace f0 := fur_put f0 (B := w2.heap.size) (by omega) (.int .i64 N1) (.int .i64 D1)
  replace pa := pa.other (B' := w2.heap.size) (by omega) (.int .i64 N1) (.int .i64 D1)
  replace pb := pb.other (B' := w2.heap.size) (by omega) (.int .i64 N1) (.int .i64 D1)
  replace px := px.other (B' := w2.heap.size) (by omega) (.int .i64 N1) (.int .i64 D1)
  replace py := py.put N1 D1
  generalize (w4.setCell ⟨w2.heap.size, 0, none⟩ (.int .i64 N1)).setCell ⟨w2.heap.size, 1, none⟩ (.int .i64 D1) = v4 at *
  have pa0 := pa.c0
  have pa1 := pa.c1
  have pb0 := pb.c0
  have pb1 := pb.c1
  have px0 := px.c0
  have px1 := px.c1
  have py0 := py.c0
  have py1 := py.c1
  go_wp2_with fail
  go_at_call 18; refine (C2.out _).mono ?_; rintro e5 w5 ⟨rfl, h5⟩
  clear pa0 pa1 pb0 pb1 px0 px1 py0 py1
  replace pa := pa.on h5
  replace pb := pb.on h5
  replace px := px.on h5
  replace py := py.on h5
  replace f0 := f0.trans h5
  clear h5
  have px0 := px.c0
  have px1 := px.c1
  have z0 := px.f0 0
  have z1 := px.f0 1
  go_upto_region 10 with fail
  clear px0 px1
  clear z0 z1
  replace f0 := fur_put f0 (B := w1.heap.size) (by omega) (.int .i64 N2) (.int .i64 D2)
  replace pa := pa.other (B' := w1.heap.size) (by omega) (.int .i64 N2) (.int .i64 D2)
  replace pb := pb.other (B' := w1.heap.size) (by omega) (.int .i64 N2) (.int .i64 D2)
  replace py := py.other (B' := w1.heap.size) (by omega) (.int .i64 N2) (.int .i64 D2)
  replace px := px.put N2 D2
  generalize (w5.setCell ⟨w1.heap.size, 0, none⟩ (.int .i64 N2)).setCell ⟨w1.heap.size, 1, none⟩ (.int .i64 D2) = v5 at *
  have pa0 := pa.c0
  have pa1 := pa.c1
  have pb0 := pb.c0
  have pb1 := pb.c1
  have px0 := px.c0
  have px1 := px.c1
  have py0 := py.c0
  have py1 := py.c1
  go_wp2_with fail
  go_at_call 19; refine (R2.out _).mono ?_; rintro e6 w6 ⟨rfl, h6⟩
  clear pa0 pa1 pb0 pb1 px0 px1 py0 py1
  replace pa := pa.on h6
  replace pb := pb.on h6
  replace px := px.on h6
  replace py := py.on h6
  replace f0 := f0.trans h6
  clear h6
  have py0 := py.c0
  have py1 := py.c1
  have z0 := py.f0 0
  have z1 := py.f0 1
  go_upto_region 11 with fail
  clear py0 py1
  clear z0 z1
  replace f0 := fur_put f0 (B := w2.heap.size) (by omega) (.int .i64 N2) (.int .i64 D2)
  replace pa := pa.other (B' := w2.heap.size) (by omega) (.int .i64 N2) (.int .i64 D2)
  replace pb := pb.other (B' := w2.heap.size) (by omega) (.int .i64 N2) (.int .i64 D2)
  replace px := px.other (B' := w2.heap.size) (by omega) (.int .i64 N2) (.int .i64 D2)
  replace py := py.put N2 D2
  generalize (w6.setCell ⟨w2.heap.size, 0, none⟩ (.int .i64 N2)).setCell ⟨w2.heap.size, 1, none⟩ (.int .i64 D2) = v6 at *
  have pa0 := pa.c0
  have pa1 := pa.c1
  have pb0 := pb.c0
  have pb1 := pb.c1
  have px0 := px.c0
  have px1 := px.c1
  have py0 := py.c0
  have py1 := py.c1
  go_wp2_with fail
  go_at_call 20; refine (C3.out _).mono ?_; rintro e7 w7 ⟨rfl, h7⟩
  clear pa0 pa1 pb0 pb1 px0 px1 py0 py1
  replace pa := pa.on h7
  replace pb := pb.on h7
  replace px := px.on h7
  replace py := py.on h7
  replace f0 := f0.trans h7
  clear h7
  have px0 := px.c0
  have px1 := px.c1
  have z0 := px.f0 0
  have z1 := px.f0 1
  go_upto_region 14 with fail
  clear px0 px1
  clear z0 z1
  replace f0 := fur_put f0 (B := w1.heap.size) (by omega) (.int .i64 N3) (.int .i64 D3)
  replace pa := pa.other (B' := w1.heap.size) (by omega) (.int .i64 N3) (.int .i64 D3)
  replace pb := pb.other (B' := w1.heap.size) (by omega) (.int .i64 N3) (.int .i64 D3)
  replace py := py.other (B' := w1.heap.size) (by omega) (.int .i64 N3) (.int .i64 D3)
  replace px := px.put N3 D3
  generalize (w7.setCell ⟨w1.heap.size, 0, none⟩ (.int .i64 N3)).setCell ⟨w1.heap.size, 1, none⟩ (.int .i64 D3) = v7 at *
  have pa0 := pa.c0
  have pa1 := pa.c1
  have pb0 := pb.c0
  have pb1 := pb.c1
  have px0 := px.c0
  have px1 := px.c1
  have py0 := py.c0
  have py1 := py.c1
  go_wp2_with fail
  go_at_call 21; refine (R3.out _).mono ?_; rintro e8 w8 ⟨rfl, h8⟩
  clear pa0 pa1 pb0 pb1 px0 px1 py0 py1
  replace pa := pa.on h8
  replace pb := pb.on h8
  replace px := px.on h8
  replace py := py.on h8
  replace f0 := f0.trans h8
  clear h8
  have py0 := py.c0
  have py1 := py.c1
  have z0 := py.f0 0
  have z1 := py.f0 1
  go_upto_region 15 with fail
  clear py0 py1
  clear z0 z1
  replace f0 := fur_put f0 (B := w2.heap.size) (by omega) (.int .i64 N3) (.int .i64 D3)
  replace pa := pa.other (B' := w2.heap.size) (by omega) (.int .i64 N3) (.int .i64 D3)
  replace pb := pb.other (B' := w2.heap.size) (by omega) (.int .i64 N3) (.int .i64 D3)
  replace px := px.other (B' := w2.heap.size) (by omega) (.int .i64 N3) (.int .i64 D3)
  replace py := py.put N3 D3
  generalize (w8.setCell ⟨w2.heap.size, 0, none⟩ (.int .i64 N3)).setCell ⟨w2.heap.size, 1, none⟩ (.int .i64 D3) = v8 at *
  have pa0 := pa.c0
  have pa1 := pa.c1
  have pb0 := pb.c0
  have pb1 := pb.c1
  have px0 := px.c0
  have px1 := px.c1
  have py0 := py.c0
  have py1 := py.c1
  have G2 := Lib.hid (G.on f0)
  have ff : Fur v8 v8.drew := Fur.drew (Fur.refl v8)
  clear pa pb px py
  go_region_held3 (fun w' => Fur v8 w' ∧ w'.cell? ⟨w.heap.size, 0, none⟩ = some (.int .i64 an) ∧ w'.cell? ⟨w.heap.size, 1, none⟩ = some (.int .i64 ad) ∧ w'.cell? ⟨w.heap.size + 1, 0, none⟩ = some (.int .i64 bn) ∧ w'.cell? ⟨w.heap.size + 1, 1, none⟩ = some (.int .i64 bd) ∧ w'.cell? ⟨w1.heap.size, 0, none⟩ = some (.int .i64 N3) ∧ w'.cell? ⟨w1.heap.size, 1, none⟩ = some (.int .i64 D3) ∧ w'.cell? ⟨w2.heap.size, 0, none⟩ = some (.int .i64 N3) ∧ w'.cell? ⟨w2.heap.size, 1, none⟩ = some (.int .i64 D3))
    (first | exact keep8 ff pa0 pa1 pb0 pb1 px0 px1 py0 py1)
    (first
      | (go_at_call 22; refine (V1.out _).mono ?_; rintro e x1 ⟨rfl, g1⟩; replace ff := ff.trans g1)
      | (go_at_call 23; refine (V2.out _).mono ?_; rintro e x2 ⟨rfl, g2⟩; replace ff := ff.trans g2)
      | (go_at_call 13; refine (lives_any _ (G2.out.on ff)).mono ?_; rintro e x3 ⟨rfl, g3⟩; replace ff := ff.trans g3))
  go_wp2
  go_ret
  exact ⟨rfl, f0.trans ff⟩
end Go.Proofs.YtdkmfhlmeildmaaDoor
