/-
  Package change and its reference: Same of any two changes.
-/
import Derived.Test.YtfbijdoomkgodaaGreatDoorTK39
import Derived.Test.YtfbijdoomkgodaaGreatDoorTK40
namespace Go.Proofs.YtfbijdoomkgodaaGreatDoor
open Go.RowKit

set_option maxHeartbeats 6400000 in
set_option maxRecDepth 100000 in
theorem lsame8_any (a b : Ch) (a1 b1 : Option Addr) (k1 k2 : Nat) (w : World) (ha : ChIn w a a1 k1) (hb : ChIn w b b1 k2) :
    Calls Tryz.prog 24 #[.agg (chC a a1 k1), .agg (chC b b1 k2)] w (FwB w (samC a b)) := by
  obtain ⟨W, hW⟩ : ∃ W, W = (w.alloc (.cells (chC a a1 k1) 30)).alloc (.cells (chC b b1 k2) 30) := ⟨_, rfl⟩
  have fW : Fuw w W := by rw [hW]; exact (fuwA _ _).trans (fuwA _ _)
  have HB := Lib.hid (show Bk W w.heap.size (chC a a1 k1) 30 from by rw [hW]; exact (Bk.new _ _ _).on (fuwA _ _))
  have HC := Lib.hid (show Bk W (w.heap.size + 1) (chC b b1 k2) 30 from by
    rw [hW]
    have := Bk.new (w.alloc (.cells (chC a a1 k1) 30)) (chC b b1 k2) 30
    simpa using this)
  have HO := Lib.hid (fun (w' : World) (hf : Fuw w w') => show Calls Tryz.prog 59 #[vlv a.v a1 k1, vlv b.v b1 k2] w' (RwI w' (ordV a.v b.v)) from (lo_all a.v b.v a1 b1 k1 k2 w' ha.v hb.v (ha.s.onw hf) (hb.s.onw hf)).mono fun _ _ h => h.w)
  have y1 : ((bs a.nm).toList == (bs b.nm).toList) = (a.nm == b.nm) := by rw [bs_list, bs_list]
  have HF := Lib.hid fW
  have HR := Lib.hid (show samC a b = ((a.op == b.op) && ((a.id == b.id) && ((a.fr == b.fr) && ((a.tt == b.tt) && ((a.nm == b.nm) && (ordV a.v b.v == 0)))))) from rfl)
  generalize samC a b = R at *
  obtain ⟨op, id, fr, tt, nm, v⟩ := a
  obtain ⟨op', id', fr', tt', nm', v'⟩ := b
  unfold vlv at HO
  unfold chC at *
  simp only at *
  generalize ordV v v' = q at *
  generalize (nm == nm') = z at *
  clear ha hb fW
  by_cases h0 : op = op'
  rotate_left
  · have HE := Lib.hid (show R = false from by rw [HR.out]; simp [h0])
    go_enter Tryz.func24, Tryz.ntmps24
    go_upto_region 1 with fail
    rw [← hW]
    clear hW
    have c0 := HB.out.c 0; have c1 := HB.out.c 1; have c2 := HB.out.c 2; have c3 := HB.out.c 3; have c4 := HB.out.c 4; have c5 := HB.out.c 5; have c6 := HB.out.c 6; have c7 := HB.out.c 7; have c8 := HB.out.c 8; have c9 := HB.out.c 9
    have d0 := HC.out.c 0; have d1 := HC.out.c 1; have d2 := HC.out.c 2; have d3 := HC.out.c 3; have d4 := HC.out.c 4; have d5 := HC.out.c 5; have d6 := HC.out.c 6; have d7 := HC.out.c 7; have d8 := HC.out.c 8; have d9 := HC.out.c 9
    go_wp2
    go_ret
    exact ⟨ret_bool HE.out.symm, HF.out⟩
  subst h0
  by_cases h1 : id = id'
  rotate_left
  · have HE := Lib.hid (show R = false from by rw [HR.out]; simp [h1])
    go_enter Tryz.func24, Tryz.ntmps24
    go_upto_region 1 with fail
    rw [← hW]
    clear hW
    have c0 := HB.out.c 0; have c1 := HB.out.c 1; have c2 := HB.out.c 2; have c3 := HB.out.c 3; have c4 := HB.out.c 4; have c5 := HB.out.c 5; have c6 := HB.out.c 6; have c7 := HB.out.c 7; have c8 := HB.out.c 8; have c9 := HB.out.c 9
    have d0 := HC.out.c 0; have d1 := HC.out.c 1; have d2 := HC.out.c 2; have d3 := HC.out.c 3; have d4 := HC.out.c 4; have d5 := HC.out.c 5; have d6 := HC.out.c 6; have d7 := HC.out.c 7; have d8 := HC.out.c 8; have d9 := HC.out.c 9
    go_wp2
    go_ret
    exact ⟨ret_bool HE.out.symm, HF.out⟩
  subst h1
  by_cases h2 : fr = fr'
  rotate_left
  · have HE := Lib.hid (show R = false from by rw [HR.out]; simp [h2])
    go_enter Tryz.func24, Tryz.ntmps24
    go_upto_region 1 with fail
    rw [← hW]
    clear hW
    have c0 := HB.out.c 0; have c1 := HB.out.c 1; have c2 := HB.out.c 2; have c3 := HB.out.c 3; have c4 := HB.out.c 4; have c5 := HB.out.c 5; have c6 := HB.out.c 6; have c7 := HB.out.c 7; have c8 := HB.out.c 8; have c9 := HB.out.c 9
    have d0 := HC.out.c 0; have d1 := HC.out.c 1; have d2 := HC.out.c 2; have d3 := HC.out.c 3; have d4 := HC.out.c 4; have d5 := HC.out.c 5; have d6 := HC.out.c 6; have d7 := HC.out.c 7; have d8 := HC.out.c 8; have d9 := HC.out.c 9
    go_wp2
    go_ret
    exact ⟨ret_bool HE.out.symm, HF.out⟩
  subst h2
  by_cases h3 : tt = tt'
  rotate_left
  · have HE := Lib.hid (show R = false from by rw [HR.out]; simp [h3])
    go_enter Tryz.func24, Tryz.ntmps24
    go_upto_region 1 with fail
    rw [← hW]
    clear hW
    have c0 := HB.out.c 0; have c1 := HB.out.c 1; have c2 := HB.out.c 2; have c3 := HB.out.c 3; have c4 := HB.out.c 4; have c5 := HB.out.c 5; have c6 := HB.out.c 6; have c7 := HB.out.c 7; have c8 := HB.out.c 8; have c9 := HB.out.c 9
    have d0 := HC.out.c 0; have d1 := HC.out.c 1; have d2 := HC.out.c 2; have d3 := HC.out.c 3; have d4 := HC.out.c 4; have d5 := HC.out.c 5; have d6 := HC.out.c 6; have d7 := HC.out.c 7; have d8 := HC.out.c 8; have d9 := HC.out.c 9
    go_wp2
    go_ret
    exact ⟨ret_bool HE.out.symm, HF.out⟩
  subst h3
  cases z with
  | false =>
    have HE := Lib.hid (show R = false from by rw [HR.out]; simp)
    go_enter Tryz.func24, Tryz.ntmps24
    go_upto_region 1 with fail
    rw [← hW]
    clear hW
    have c0 := HB.out.c 0; have c1 := HB.out.c 1; have c2 := HB.out.c 2; have c3 := HB.out.c 3; have c4 := HB.out.c 4; have c5 := HB.out.c 5; have c6 := HB.out.c 6; have c7 := HB.out.c 7; have c8 := HB.out.c 8; have c9 := HB.out.c 9
    have d0 := HC.out.c 0; have d1 := HC.out.c 1; have d2 := HC.out.c 2; have d3 := HC.out.c 3; have d4 := HC.out.c 4; have d5 := HC.out.c 5; have d6 := HC.out.c 6; have d7 := HC.out.c 7; have d8 := HC.out.c 8; have d9 := HC.out.c 9
    go_wp2
    go_ret
    exact ⟨ret_bool HE.out.symm, HF.out⟩
  | true =>
    have HE := Lib.hid (show R = (q == 0) from by rw [HR.out]; simp)
    go_enter Tryz.func24, Tryz.ntmps24
    go_upto_region 1 with fail
    rw [← hW]
    clear hW
    have c0 := HB.out.c 0; have c1 := HB.out.c 1; have c2 := HB.out.c 2; have c3 := HB.out.c 3; have c4 := HB.out.c 4; have c5 := HB.out.c 5; have c6 := HB.out.c 6; have c7 := HB.out.c 7; have c8 := HB.out.c 8; have c9 := HB.out.c 9
    have d0 := HC.out.c 0; have d1 := HC.out.c 1; have d2 := HC.out.c 2; have d3 := HC.out.c 3; have d4 := HC.out.c 4; have d5 := HC.out.c 5; have d6 := HC.out.c 6; have d7 := HC.out.c 7; have d8 := HC.out.c 8; have d9 := HC.out.c 9
    go_wp2_with fail
    go_at_call 59; refine (HO.out _ HF.out).mono ?_; rintro e1 w1 ⟨rfl, f1⟩
    have HF2 := Lib.hid (HF.out.trans f1)
    clear f1
    go_wp2
    go_ret
    exact ⟨ret_bool (by rw [HE.out]; try simp), HF2.out⟩
set_option maxHeartbeats 6400000 in
set_option maxRecDepth 100000 in
theorem rsame8_any (a b : Ch) (a1 b1 : Option Addr) (k1 k2 : Nat) (w : World) (ha : ChIn w a a1 k1) (hb : ChIn w b b1 k2) :
    Calls Tryz.prog 25 #[.agg (chC a a1 k1), .agg (chC b b1 k2)] w (FwB w (samC a b)) := by
  obtain ⟨W, hW⟩ : ∃ W, W = (w.alloc (.cells (chC a a1 k1) 30)).alloc (.cells (chC b b1 k2) 30) := ⟨_, rfl⟩
  have fW : Fuw w W := by rw [hW]; exact (fuwA _ _).trans (fuwA _ _)
  have HB := Lib.hid (show Bk W w.heap.size (chC a a1 k1) 30 from by rw [hW]; exact (Bk.new _ _ _).on (fuwA _ _))
  have HC := Lib.hid (show Bk W (w.heap.size + 1) (chC b b1 k2) 30 from by
    rw [hW]
    have := Bk.new (w.alloc (.cells (chC a a1 k1) 30)) (chC b b1 k2) 30
    simpa using this)
  have HO := Lib.hid (fun (w' : World) (hf : Fuw w w') => show Calls Tryz.prog 60 #[vlv a.v a1 k1, vlv b.v b1 k2] w' (RwI w' (ordV a.v b.v)) from rorder_all a.v b.v a1 b1 k1 k2 w' ha.v hb.v (ha.s.onw hf) (hb.s.onw hf))
  have y1 : ((bs a.nm).toList == (bs b.nm).toList) = (a.nm == b.nm) := by rw [bs_list, bs_list]
  have HF := Lib.hid fW
  have HR := Lib.hid (show samC a b = ((a.op == b.op) && ((a.id == b.id) && ((a.fr == b.fr) && ((a.tt == b.tt) && ((a.nm == b.nm) && (ordV a.v b.v == 0)))))) from rfl)
  generalize samC a b = R at *
  obtain ⟨op, id, fr, tt, nm, v⟩ := a
  obtain ⟨op', id', fr', tt', nm', v'⟩ := b
  unfold vlv at HO
  unfold chC at *
  simp only at *
  generalize ordV v v' = q at *
  generalize (nm == nm') = z at *
  clear ha hb fW
  by_cases h0 : op = op'
  rotate_left
  · have HE := Lib.hid (show R = false from by rw [HR.out]; simp [h0])
    go_enter Tryz.func25, Tryz.ntmps25
    go_upto_region 1 with fail
    rw [← hW]
    clear hW
    have c0 := HB.out.c 0; have c1 := HB.out.c 1; have c2 := HB.out.c 2; have c3 := HB.out.c 3; have c4 := HB.out.c 4; have c5 := HB.out.c 5; have c6 := HB.out.c 6; have c7 := HB.out.c 7; have c8 := HB.out.c 8; have c9 := HB.out.c 9
    have d0 := HC.out.c 0; have d1 := HC.out.c 1; have d2 := HC.out.c 2; have d3 := HC.out.c 3; have d4 := HC.out.c 4; have d5 := HC.out.c 5; have d6 := HC.out.c 6; have d7 := HC.out.c 7; have d8 := HC.out.c 8; have d9 := HC.out.c 9
    go_wp2
    go_ret
    exact ⟨ret_bool HE.out.symm, HF.out⟩
  subst h0
  by_cases h1 : id = id'
  rotate_left
  · have HE := Lib.hid (show R = false from by rw [HR.out]; simp [h1])
    go_enter Tryz.func25, Tryz.ntmps25
    go_upto_region 1 with fail
    rw [← hW]
    clear hW
    have c0 := HB.out.c 0; have c1 := HB.out.c 1; have c2 := HB.out.c 2; have c3 := HB.out.c 3; have c4 := HB.out.c 4; have c5 := HB.out.c 5; have c6 := HB.out.c 6; have c7 := HB.out.c 7; have c8 := HB.out.c 8; have c9 := HB.out.c 9
    have d0 := HC.out.c 0; have d1 := HC.out.c 1; have d2 := HC.out.c 2; have d3 := HC.out.c 3; have d4 := HC.out.c 4; have d5 := HC.out.c 5; have d6 := HC.out.c 6; have d7 := HC.out.c 7; have d8 := HC.out.c 8; have d9 := HC.out.c 9
    go_wp2
    go_ret
    exact ⟨ret_bool HE.out.symm, HF.out⟩
  subst h1
  by_cases h2 : fr = fr'
  rotate_left
  · have HE := Lib.hid (show R = false from by rw [HR.out]; simp [h2])
    go_enter Tryz.func25, Tryz.ntmps25
    go_upto_region 1 with fail
    rw [← hW]
    clear hW
    have c0 := HB.out.c 0; have c1 := HB.out.c 1; have c2 := HB.out.c 2; have c3 := HB.out.c 3; have c4 := HB.out.c 4; have c5 := HB.out.c 5; have c6 := HB.out.c 6; have c7 := HB.out.c 7; have c8 := HB.out.c 8; have c9 := HB.out.c 9
    have d0 := HC.out.c 0; have d1 := HC.out.c 1; have d2 := HC.out.c 2; have d3 := HC.out.c 3; have d4 := HC.out.c 4; have d5 := HC.out.c 5; have d6 := HC.out.c 6; have d7 := HC.out.c 7; have d8 := HC.out.c 8; have d9 := HC.out.c 9
    go_wp2
    go_ret
    exact ⟨ret_bool HE.out.symm, HF.out⟩
  subst h2
  by_cases h3 : tt = tt'
  rotate_left
  · have HE := Lib.hid (show R = false from by rw [HR.out]; simp [h3])
    go_enter Tryz.func25, Tryz.ntmps25
    go_upto_region 1 with fail
    rw [← hW]
    clear hW
    have c0 := HB.out.c 0; have c1 := HB.out.c 1; have c2 := HB.out.c 2; have c3 := HB.out.c 3; have c4 := HB.out.c 4; have c5 := HB.out.c 5; have c6 := HB.out.c 6; have c7 := HB.out.c 7; have c8 := HB.out.c 8; have c9 := HB.out.c 9
    have d0 := HC.out.c 0; have d1 := HC.out.c 1; have d2 := HC.out.c 2; have d3 := HC.out.c 3; have d4 := HC.out.c 4; have d5 := HC.out.c 5; have d6 := HC.out.c 6; have d7 := HC.out.c 7; have d8 := HC.out.c 8; have d9 := HC.out.c 9
    go_wp2
    go_ret
    exact ⟨ret_bool HE.out.symm, HF.out⟩
  subst h3
  cases z with
  | false =>
    have HE := Lib.hid (show R = false from by rw [HR.out]; simp)
    go_enter Tryz.func25, Tryz.ntmps25
    go_upto_region 1 with fail
    rw [← hW]
    clear hW
    have c0 := HB.out.c 0; have c1 := HB.out.c 1; have c2 := HB.out.c 2; have c3 := HB.out.c 3; have c4 := HB.out.c 4; have c5 := HB.out.c 5; have c6 := HB.out.c 6; have c7 := HB.out.c 7; have c8 := HB.out.c 8; have c9 := HB.out.c 9
    have d0 := HC.out.c 0; have d1 := HC.out.c 1; have d2 := HC.out.c 2; have d3 := HC.out.c 3; have d4 := HC.out.c 4; have d5 := HC.out.c 5; have d6 := HC.out.c 6; have d7 := HC.out.c 7; have d8 := HC.out.c 8; have d9 := HC.out.c 9
    go_wp2
    go_ret
    exact ⟨ret_bool HE.out.symm, HF.out⟩
  | true =>
    have HE := Lib.hid (show R = (q == 0) from by rw [HR.out]; simp)
    go_enter Tryz.func25, Tryz.ntmps25
    go_upto_region 1 with fail
    rw [← hW]
    clear hW
    have c0 := HB.out.c 0; have c1 := HB.out.c 1; have c2 := HB.out.c 2; have c3 := HB.out.c 3; have c4 := HB.out.c 4; have c5 := HB.out.c 5; have c6 := HB.out.c 6; have c7 := HB.out.c 7; have c8 := HB.out.c 8; have c9 := HB.out.c 9
    have d0 := HC.out.c 0; have d1 := HC.out.c 1; have d2 := HC.out.c 2; have d3 := HC.out.c 3; have d4 := HC.out.c 4; have d5 := HC.out.c 5; have d6 := HC.out.c 6; have d7 := HC.out.c 7; have d8 := HC.out.c 8; have d9 := HC.out.c 9
    go_wp2_with fail
    go_at_call 60; refine (HO.out _ HF.out).mono ?_; rintro e1 w1 ⟨rfl, f1⟩
    have HF2 := Lib.hid (HF.out.trans f1)
    clear f1
    go_wp2
    go_ret
    exact ⟨ret_bool (by rw [HE.out]; try simp), HF2.out⟩
end Go.Proofs.YtfbijdoomkgodaaGreatDoor
