/-
  FracTexts gives true by the contracts of package frac and of its reference.
-/
import Derived.Test.YtdkmfhlmeildmaaDoorFracAlive
import Derived.Deep.RegionHeld3
namespace Go.Proofs.YtdkmfhlmeildmaaDoor
open Go.RowKit

set_option maxHeartbeats 4000000 in
theorem texts_any (an ad : Int) (s : ByteArray) (hs : s.size ≤ 281474976710656) (w : World) (G : Good w) : Calls Tryd.prog 5 #[.agg #[.int .i64 an, .int .i64 ad], .string s] w (RetB w true) := by
  have C1 := Lib.hid (fun w (G : Good w) => nf_parse s hs w G)
  have C2 := Lib.hid (fun w => rparse_any s (by unfold maxLen; omega) w)
  generalize prN s = N at *
  generalize prD s = D at *
  generalize prB s = B at *
  have V1 := Lib.hid (fun w (G : Good w) => nf_text an ad w G)
  have V2 := Lib.hid (fun w => rtext_any an ad w)
  generalize texV an ad = V at *
  have V3 := Lib.hid (fun w => nf_floor an ad w)
  have V4 := Lib.hid (fun w => rfloor_any an ad w)
  generalize flV an ad = F at *
  obtain ⟨p0, f0⟩ := box1 w an ad
  go_enter Tryd.func5, Tryd.ntmps5
  go_wp2_with fail
  generalize w.alloc (.cells #[.int .i64 an, .int .i64 ad] 23) = v0 at *
  go_at_call 24; refine (C1.out _ (G.on f0)).mono ?_; rintro e1 w1 ⟨rfl, h1⟩
  replace p0 := p0.on h1
  replace f0 := f0.trans h1
  clear h1
  go_wp2_with fail
  obtain ⟨p1, h2⟩ := box1 w1 N D
  replace p0 := p0.on h2
  replace f0 := f0.trans h2
  clear h2
  generalize w1.alloc (.cells #[.int .i64 N, .int .i64 D] 23) = v1 at *
  go_at_call 25; refine (C2.out _).mono ?_; rintro e2 w2 ⟨rfl, h3⟩
  replace p0 := p0.on h3
  replace p1 := p1.on h3
  replace f0 := f0.trans h3
  clear h3
  go_upto_region 3 with fail
  obtain ⟨p2, h4⟩ := box1 w2 N D
  replace p0 := p0.on h4
  replace p1 := p1.on h4
  replace f0 := f0.trans h4
  clear h4
  generalize w2.alloc (.cells #[.int .i64 N, .int .i64 D] 23) = v2 at *
  have a0 := p0.c0
  have b0 := p0.c1
  have a1 := p1.c0
  have b1 := p1.c1
  have a2 := p2.c0
  have b2 := p2.c1
  have G2 := Lib.hid (G.on f0)
  have ff : Fur v2 v2.drew := Fur.drew (Fur.refl v2)
  clear p0 p1 p2 C1 C2
  go_region_held3 (fun w' => Fur v2 w' ∧ w'.cell? ⟨w.heap.size, 0, none⟩ = some (.int .i64 an) ∧ w'.cell? ⟨w.heap.size, 1, none⟩ = some (.int .i64 ad) ∧ w'.cell? ⟨w1.heap.size, 0, none⟩ = some (.int .i64 N) ∧ w'.cell? ⟨w1.heap.size, 1, none⟩ = some (.int .i64 D) ∧ w'.cell? ⟨w2.heap.size, 0, none⟩ = some (.int .i64 N) ∧ w'.cell? ⟨w2.heap.size, 1, none⟩ = some (.int .i64 D))
    (first | exact keep6 ff a0 b0 a1 b1 a2 b2)
    (first
      | (go_at_call 26; refine (V1.out _ (G2.out.on ff)).mono ?_; rintro e w3 ⟨rfl, h5⟩; replace ff := ff.trans h5)
      | (go_at_call 27; refine (V2.out _).mono ?_; rintro e w4 ⟨rfl, h6⟩; replace ff := ff.trans h6)
      | (go_at_call 28; refine (V3.out _).mono ?_; rintro e w6 ⟨rfl, h8⟩; replace ff := ff.trans h8)
      | (go_at_call 29; refine (V4.out _).mono ?_; rintro e w7 ⟨rfl, h9⟩; replace ff := ff.trans h9)
      | (go_at_call 13; refine (lives_any _ (G2.out.on ff)).mono ?_; rintro e w5 ⟨rfl, h7⟩; replace ff := ff.trans h7))
  go_wp2
  go_ret
  exact ⟨rfl, f0.trans ff⟩
end Go.Proofs.YtdkmfhlmeildmaaDoor
