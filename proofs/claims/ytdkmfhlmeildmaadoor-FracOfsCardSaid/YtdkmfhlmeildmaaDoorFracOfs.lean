/-
  FracOfs gives true by the contracts of package frac and of its reference.
-/
import Derived.Test.YtdkmfhlmeildmaaDoorFracAlive
import Derived.Deep.RegionHeld3
namespace Go.Proofs.YtdkmfhlmeildmaaDoor
open Go.RowKit

set_option maxHeartbeats 4000000 in
theorem ofs_any (n d an ad : Int) (w : World) (G : Good w) : Calls Tryd.prog 3 #[.int .i64 n, .int .i64 d, .agg #[.int .i64 an, .int .i64 ad]] w (RetB w true) := by
  have C1 := Lib.hid (fun w => nf_of n d w)
  have C2 := Lib.hid (fun w => rof_any n d w)
  generalize rN (ofO n d) = N at *
  generalize rD (ofO n d) = D at *
  generalize rB (ofO n d) = B at *
  have V1 := Lib.hid (fun w => nf_valid an ad w)
  have V2 := Lib.hid (fun w => rvalid_any an ad w)
  generalize okF an ad = V at *
  obtain ⟨p0, f0⟩ := box1 w an ad
  go_enter Tryd.func3, Tryd.ntmps3
  go_wp2_with fail
  generalize w.alloc (.cells #[.int .i64 an, .int .i64 ad] 23) = v0 at *
  go_at_call 9; refine (C1.out _).mono ?_; rintro e1 w1 ⟨rfl, h1⟩
  replace p0 := p0.on h1
  replace f0 := f0.trans h1
  clear h1
  go_wp2_with fail
  obtain ⟨p1, h2⟩ := box1 w1 N D
  replace p0 := p0.on h2
  replace f0 := f0.trans h2
  clear h2
  generalize w1.alloc (.cells #[.int .i64 N, .int .i64 D] 23) = v1 at *
  go_at_call 10; refine (C2.out _).mono ?_; rintro e2 w2 ⟨rfl, h3⟩
  replace p0 := p0.on h3
  replace p1 := p1.on h3
  replace f0 := f0.trans h3
  clear h3
  go_upto_region 3 with fail
  obtain ⟨p2, h4⟩ := box1 w2 N D
  replace p0 := p0.on h4
  replace p1 := p1.on h4
  replace f0 := f0.trans h4
  clear h4
  generalize w2.alloc (.cells #[.int .i64 N, .int .i64 D] 23) = v2 at *
  have a0 := p0.c0
  have b0 := p0.c1
  have a1 := p1.c0
  have b1 := p1.c1
  have a2 := p2.c0
  have b2 := p2.c1
  have G2 := Lib.hid (G.on f0)
  have ff : Fur v2 v2.drew := Fur.drew (Fur.refl v2)
  clear p0 p1 p2 C1 C2
  go_region_held3 (fun w' => Fur v2 w' ∧ w'.cell? ⟨w.heap.size, 0, none⟩ = some (.int .i64 an) ∧ w'.cell? ⟨w.heap.size, 1, none⟩ = some (.int .i64 ad) ∧ w'.cell? ⟨w1.heap.size, 0, none⟩ = some (.int .i64 N) ∧ w'.cell? ⟨w1.heap.size, 1, none⟩ = some (.int .i64 D) ∧ w'.cell? ⟨w2.heap.size, 0, none⟩ = some (.int .i64 N) ∧ w'.cell? ⟨w2.heap.size, 1, none⟩ = some (.int .i64 D))
    (first | exact keep6 ff a0 b0 a1 b1 a2 b2)
    (first
      | (go_at_call 11; refine (V1.out _).mono ?_; rintro e w3 ⟨rfl, h5⟩; replace ff := ff.trans h5)
      | (go_at_call 12; refine (V2.out _).mono ?_; rintro e w4 ⟨rfl, h6⟩; replace ff := ff.trans h6)
      | (go_at_call 13; refine (lives_any _ (G2.out.on ff)).mono ?_; rintro e w5 ⟨rfl, h7⟩; replace ff := ff.trans h7))
  go_wp2
  go_ret
  exact ⟨rfl, f0.trans ff⟩
end Go.Proofs.YtdkmfhlmeildmaaDoor
