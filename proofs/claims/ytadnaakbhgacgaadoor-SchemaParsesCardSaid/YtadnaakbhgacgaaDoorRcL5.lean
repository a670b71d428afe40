/-
  The reference of package schema: the only rule that can have some words as its text (guess), for 5 words. Nothing that was there turns.
-/
import Derived.Test.YtadnaakbhgacgaaDoorRcL
namespace Go.Proofs.YtadnaakbhgacgaaDoor
open Go.RowKit

set_option maxHeartbeats 6400000 in
set_option maxRecDepth 100000 in
theorem gs_5_EX (x0 x1 x2 x3 x4 : List UInt8) (hE : x0 = [101, 100, 103, 101]) (h1 : x1 = [101, 120, 105, 115, 116, 115]) (_hl2 : x2.length ≤ maxLen) (g cap : Nat) (w : World) (e0 : w.cell? ⟨g, 0, none⟩ = some (.string (bs x0))) (e1 : w.cell? ⟨g, 1, none⟩ = some (.string (bs x1))) (e2 : w.cell? ⟨g, 2, none⟩ = some (.string (bs x2))) (e3 : w.cell? ⟨g, 3, none⟩ = some (.string (bs x3))) (e4 : w.cell? ⟨g, 4, none⟩ = some (.string (bs x4))) : Calls Tryd.prog 45 #[.slice (some ⟨g, 0, none⟩) 5 cap] w (RetG w ⟨4, 0, x2, x3, [], []⟩) := by
  have hg : g < w.heap.size := World.block_lt_of_cell? w _ e0
  have bE : ((bs x0).toList == [101, 100, 103, 101]) = true := by rw [cmpw]; exact decide_eq_true hE
  have b1 : ((bs x1).toList == [101, 120, 105, 115, 116, 115]) = true := by rw [cmpw]; exact decide_eq_true h1
  clear hE h1
  obtain ⟨W, hW⟩ : ∃ W, w.alloc (.cells #[.int .i64 0, .int .i64 0, .string ⟨#[]⟩, .string ⟨#[]⟩, .string ⟨#[]⟩, .string ⟨#[]⟩] 23) = W := ⟨_, rfl⟩
  have PB := Lib.hid (show Bk W w.heap.size #[.int .i64 0, .int .i64 0, .string ⟨#[]⟩, .string ⟨#[]⟩, .string ⟨#[]⟩, .string ⟨#[]⟩] 23 from by rw [← hW]; exact Bk.new w _ _)
  have F := Lib.hid (show Fuw w W from by rw [← hW]; exact fuwA _ _)
  have HG := Lib.hid (show g ≠ w.heap.size from by omega)
  have hgf : w.heap.size ≠ g := fun e => HG.out e.symm
  have e0 := cellOnw F.out e0
  have e1 := cellOnw F.out e1
  have e2 := cellOnw F.out e2
  have e3 := cellOnw F.out e3
  have e4 := cellOnw F.out e4
  go_enter Tryd.func45, Tryd.ntmps45
  go_upto_region 1 with fail
  clear hW
  have p0 := PB.out.c 0; have p1 := PB.out.c 1; have p2 := PB.out.c 2; have p3 := PB.out.c 3; have p4 := PB.out.c 4; have p5 := PB.out.c 5
  have q0 := PB.out.f 0; have q1 := PB.out.f 1; have q2 := PB.out.f 2; have q3 := PB.out.f 3; have q4 := PB.out.f 4; have q5 := PB.out.f 5
  go_upto_region 5 with fail
  refine wp_region_held (S := (fun w8 => w8.cell? ⟨g, 2, none⟩ = some (.string (bs x2)) ∧ w8.cell? ⟨g, 3, none⟩ = some (.string (bs x3)))) (by kernel_rfl) ?_
  have hSS : (fun w8 => w8.cell? ⟨g, 2, none⟩ = some (.string (bs x2)) ∧ w8.cell? ⟨g, 3, none⟩ = some (.string (bs x3))) W.drew := ⟨e2, e3⟩
  refine takeH (i := 0) (d := some 22) (v := ?_) rfl rfl (by kernel_rfl) (by kernel_rfl) (by kernel_rfl) (fun _ _ _ h => h) (Or.inl ⟨by rfl, ?_⟩) (by assumption) ?_
  rotate_left
  · ((intro w8 hSw; (try dsimp only at hSw); go_simp); try with_reducible rfl)
  try simp only [Act.put]
  try simp only [List.setIfInBounds_toArray]
  try simp only [List.set_cons_succ]
  try simp only [List.set_cons_zero]
  refine takeH (i := 1) (d := some 23) (v := ?_) rfl rfl (by kernel_rfl) (by kernel_rfl) (by kernel_rfl) (fun _ _ _ h => h) (Or.inl ⟨by rfl, ?_⟩) (by assumption) ?_
  rotate_left
  · ((intro w8 hSw; (try dsimp only at hSw); go_simp); try with_reducible rfl)
  try simp only [Act.put]
  try simp only [List.setIfInBounds_toArray]
  try simp only [List.set_cons_succ]
  try simp only [List.set_cons_zero]
  refine takeH (i := 2) (d := some 24) (v := ?_) rfl rfl (by kernel_rfl) (by kernel_rfl) (by kernel_rfl) (fun _ _ _ h => h) (Or.inl ⟨by rfl, ?_⟩) (by assumption) ?_
  rotate_left
  · ((intro w8 hSw; (try dsimp only at hSw); go_simp); try with_reducible rfl)
  try simp only [Act.put]
  try simp only [List.setIfInBounds_toArray]
  try simp only [List.set_cons_succ]
  try simp only [List.set_cons_zero]
  refine takeH (i := 3) (d := some 25) (v := ?_) rfl rfl (by kernel_rfl) (by kernel_rfl) (by kernel_rfl) (fun _ _ _ h => h) (Or.inl ⟨by rfl, ?_⟩) (by assumption) ?_
  rotate_left
  · ((intro w8 hSw; (try dsimp only at hSw); go_simp); try with_reducible rfl)
  try simp only [Act.put]
  try simp only [List.setIfInBounds_toArray]
  try simp only [List.set_cons_succ]
  try simp only [List.set_cons_zero]
  refine takeH (i := 4) (d := some 26) (v := ?_) rfl rfl (by kernel_rfl) (by kernel_rfl) (by kernel_rfl) (fun _ _ _ h => h) (Or.inl ⟨by rfl, ?_⟩) (by assumption) ?_
  rotate_left
  · ((intro w8 hSw; (try dsimp only at hSw); go_simp); try with_reducible rfl)
  try simp only [Act.put]
  try simp only [List.setIfInBounds_toArray]
  try simp only [List.set_cons_succ]
  try simp only [List.set_cons_zero]
  refine takeH (i := 5) (d := some 27) (v := ?_) rfl rfl (by kernel_rfl) (by kernel_rfl) (by kernel_rfl) (fun _ _ _ h => h) (Or.inl ⟨by rfl, ?_⟩) (by assumption) ?_
  rotate_left
  · ((intro w8 hSw; (try dsimp only at hSw); go_simp); try with_reducible rfl)
  try simp only [Act.put]
  try simp only [List.setIfInBounds_toArray]
  try simp only [List.set_cons_succ]
  try simp only [List.set_cons_zero]
  refine takeH (i := 6) (d := some 28) (v := ?_) rfl rfl (by kernel_rfl) (by kernel_rfl) (by kernel_rfl) (fun _ _ _ h => h) (Or.inl ⟨by rfl, ?_⟩) (by assumption) ?_
  rotate_left
  · ((intro w8 hSw; (try dsimp only at hSw); go_simp); try with_reducible rfl)
  try simp only [Act.put]
  try simp only [List.setIfInBounds_toArray]
  try simp only [List.set_cons_succ]
  try simp only [List.set_cons_zero]
  refine oneH (i := 7) rfl (by kernel_rfl) (fun K8 hK8 => ?_)
  go_simp
  refine hK8 _ _ ?_ ?_
  · exact ⟨far6d e2 hgf _ _ _ _ _ _, far6d e3 hgf _ _ _ _ _ _⟩
  try simp only [Act.put]
  try simp only [List.setIfInBounds_toArray]
  try simp only [List.set_cons_succ]
  try simp only [List.set_cons_zero]
  refine wpAnyH_done (by kernel_rfl) ?_ _
  go_wp2
  refine g_ret rfl rfl (B := w.heap.size) (r := ⟨4, 0, x2, x3, [], []⟩) ⟨Bk.on (bk_put6 (show Bk _ w.heap.size #[.int .i64 0, .int .i64 0, .string ⟨#[]⟩, .string ⟨#[]⟩, .string ⟨#[]⟩, .string ⟨#[]⟩] _ from PB.out) _ _ _ _ _ _) (Fuw.drew (Fuw.refl _))⟩ ⟨rfl, Fuw.drew (fuw_put6 F.out (Nat.le_refl _) _ _ _ _ _ _)⟩
set_option maxHeartbeats 6400000 in
set_option maxRecDepth 100000 in
theorem gs_5_EO (x0 x1 x2 x3 x4 : List UInt8) (hE : x0 = [101, 100, 103, 101]) (h1 : ¬ x1 = [101, 120, 105, 115, 116, 115]) (_hl2 : x2.length ≤ maxLen) (g cap : Nat) (w : World) (e0 : w.cell? ⟨g, 0, none⟩ = some (.string (bs x0))) (e1 : w.cell? ⟨g, 1, none⟩ = some (.string (bs x1))) (e2 : w.cell? ⟨g, 2, none⟩ = some (.string (bs x2))) (e3 : w.cell? ⟨g, 3, none⟩ = some (.string (bs x3))) (e4 : w.cell? ⟨g, 4, none⟩ = some (.string (bs x4))) : Calls Tryd.prog 45 #[.slice (some ⟨g, 0, none⟩) 5 cap] w (RetG w ⟨5, kwN x4, x2, x3, [], []⟩) := by
  have hg : g < w.heap.size := World.block_lt_of_cell? w _ e0
  have bE : ((bs x0).toList == [101, 100, 103, 101]) = true := by rw [cmpw]; exact decide_eq_true hE
  have b1 : ((bs x1).toList == [101, 120, 105, 115, 116, 115]) = false := by rw [cmpw]; exact decide_eq_false h1
  clear hE h1
  have HW := Lib.hid (fun w' => rkind x4 w')
  obtain ⟨W, hW⟩ : ∃ W, w.alloc (.cells #[.int .i64 0, .int .i64 0, .string ⟨#[]⟩, .string ⟨#[]⟩, .string ⟨#[]⟩, .string ⟨#[]⟩] 23) = W := ⟨_, rfl⟩
  have PB := Lib.hid (show Bk W w.heap.size #[.int .i64 0, .int .i64 0, .string ⟨#[]⟩, .string ⟨#[]⟩, .string ⟨#[]⟩, .string ⟨#[]⟩] 23 from by rw [← hW]; exact Bk.new w _ _)
  have F := Lib.hid (show Fuw w W from by rw [← hW]; exact fuwA _ _)
  have HG := Lib.hid (show g ≠ w.heap.size from by omega)
  have hgf : w.heap.size ≠ g := fun e => HG.out e.symm
  have e0 := cellOnw F.out e0
  have e1 := cellOnw F.out e1
  have e2 := cellOnw F.out e2
  have e3 := cellOnw F.out e3
  have e4 := cellOnw F.out e4
  go_enter Tryd.func45, Tryd.ntmps45
  go_upto_region 1 with fail
  clear hW
  have p0 := PB.out.c 0; have p1 := PB.out.c 1; have p2 := PB.out.c 2; have p3 := PB.out.c 3; have p4 := PB.out.c 4; have p5 := PB.out.c 5
  have q0 := PB.out.f 0; have q1 := PB.out.f 1; have q2 := PB.out.f 2; have q3 := PB.out.f 3; have q4 := PB.out.f 4; have q5 := PB.out.f 5
  go_upto_region 7 with fail
  refine wp_region_held (S := (fun w8 => w8.cell? ⟨g, 2, none⟩ = some (.string (bs x2)) ∧ w8.cell? ⟨g, 3, none⟩ = some (.string (bs x3)) ∧ w8.cell? ⟨g, 4, none⟩ = some (.string (bs x4)))) (by kernel_rfl) ?_
  have hSS : (fun w8 => w8.cell? ⟨g, 2, none⟩ = some (.string (bs x2)) ∧ w8.cell? ⟨g, 3, none⟩ = some (.string (bs x3)) ∧ w8.cell? ⟨g, 4, none⟩ = some (.string (bs x4))) W.drew := ⟨e2, e3, e4⟩
  refine takeH (i := 0) (d := some 32) (v := ?_) rfl rfl (by kernel_rfl) (by kernel_rfl) (by kernel_rfl) (fun _ _ _ h => h) (Or.inl ⟨by rfl, ?_⟩) (by assumption) ?_
  rotate_left
  · ((intro w8 hSw; (try dsimp only at hSw); go_simp); try with_reducible rfl)
  try simp only [Act.put]
  try simp only [List.setIfInBounds_toArray]
  try simp only [List.set_cons_succ]
  try simp only [List.set_cons_zero]
  refine takeH (i := 1) (d := some 33) (v := ?_) rfl rfl (by kernel_rfl) (by kernel_rfl) (by kernel_rfl) (fun _ _ _ h => h) (Or.inl ⟨by rfl, ?_⟩) (by assumption) ?_
  rotate_left
  · ((intro w8 hSw; (try dsimp only at hSw); go_simp); try with_reducible rfl)
  try simp only [Act.put]
  try simp only [List.setIfInBounds_toArray]
  try simp only [List.set_cons_succ]
  try simp only [List.set_cons_zero]
  refine takeH (i := 2) (d := some 34) (v := ?_) rfl rfl (by kernel_rfl) (by kernel_rfl) (by kernel_rfl) (fun _ _ _ h => h) (Or.inl ⟨by rfl, ?_⟩) (by assumption) ?_
  rotate_left
  · ((intro w8 hSw; (try dsimp only at hSw); go_simp); try with_reducible rfl)
  try simp only [Act.put]
  try simp only [List.setIfInBounds_toArray]
  try simp only [List.set_cons_succ]
  try simp only [List.set_cons_zero]
  refine takeH (i := 3) (d := some 35) (v := ?_) rfl rfl (by kernel_rfl) (by kernel_rfl) (by kernel_rfl) (fun _ _ _ h => h) (Or.inl ⟨by rfl, ?_⟩) (by assumption) ?_
  rotate_left
  · ((intro w8 hSw; (try dsimp only at hSw); go_simp); try with_reducible rfl)
  try simp only [Act.put]
  try simp only [List.setIfInBounds_toArray]
  try simp only [List.set_cons_succ]
  try simp only [List.set_cons_zero]
  refine takeH (i := 4) (d := some 36) (v := ?_) rfl rfl (by kernel_rfl) (by kernel_rfl) (by kernel_rfl) (fun _ _ _ h => h) (Or.inl ⟨by rfl, ?_⟩) (by assumption) ?_
  rotate_left
  · ((intro w8 hSw; (try dsimp only at hSw); go_simp); try with_reducible rfl)
  try simp only [Act.put]
  try simp only [List.setIfInBounds_toArray]
  try simp only [List.set_cons_succ]
  try simp only [List.set_cons_zero]
  refine takeH (i := 5) (d := some 37) (v := ?_) rfl rfl (by kernel_rfl) (by kernel_rfl) (by kernel_rfl) (fun _ _ _ h => h) (Or.inl ⟨by rfl, ?_⟩) (by assumption) ?_
  rotate_left
  · ((intro w8 hSw; (try dsimp only at hSw); go_simp); try with_reducible rfl)
  try simp only [Act.put]
  try simp only [List.setIfInBounds_toArray]
  try simp only [List.set_cons_succ]
  try simp only [List.set_cons_zero]
  refine takeH (i := 6) (d := some 38) (v := ?_) rfl rfl (by kernel_rfl) (by kernel_rfl) (by kernel_rfl) (fun _ _ _ h => h) (Or.inl ⟨by rfl, ?_⟩) (by assumption) ?_
  rotate_left
  · ((intro w8 hSw; (try dsimp only at hSw); go_simp); try with_reducible rfl)
  try simp only [Act.put]
  try simp only [List.setIfInBounds_toArray]
  try simp only [List.set_cons_succ]
  try simp only [List.set_cons_zero]
  refine takeH (i := 7) (d := some 39) (v := ?_) rfl rfl (by kernel_rfl) (by kernel_rfl) (by kernel_rfl) (fun _ _ _ h => h) (Or.inl ⟨by rfl, ?_⟩) (by assumption) ?_
  rotate_left
  · ((intro w8 hSw; (try dsimp only at hSw); go_simp); try with_reducible rfl)
  try simp only [Act.put]
  try simp only [List.setIfInBounds_toArray]
  try simp only [List.set_cons_succ]
  try simp only [List.set_cons_zero]
  refine takeH (i := 8) (d := some 40) (v := ?_) rfl rfl (by kernel_rfl) (by kernel_rfl) (by kernel_rfl) (fun _ _ _ h => h) (Or.inl ⟨by rfl, ?_⟩) (by assumption) ?_
  rotate_left
  · ((intro w8 hSw; (try dsimp only at hSw); go_simp); try with_reducible rfl)
  try simp only [Act.put]
  try simp only [List.setIfInBounds_toArray]
  try simp only [List.set_cons_succ]
  try simp only [List.set_cons_zero]
  refine oneH (i := 9) rfl (by kernel_rfl) (fun K8 hK8 => ?_)
  go_simp
  go_at_call 65; refine (HW.out _).mono ?_; rintro g1 v1 ⟨rfl, rfl⟩
  refine hK8 _ _ hSS ?_
  try simp only [Act.put]
  try simp only [List.setIfInBounds_toArray]
  try simp only [List.set_cons_succ]
  try simp only [List.set_cons_zero]
  refine takeH (i := 10) (d := some 42) (v := ?_) rfl rfl (by kernel_rfl) (by kernel_rfl) (by kernel_rfl) (fun _ _ _ h => h) (Or.inl ⟨by rfl, ?_⟩) (by assumption) ?_
  rotate_left
  · ((intro w8 hSw; (try dsimp only at hSw); go_simp); try with_reducible rfl)
  try simp only [Act.put]
  try simp only [List.setIfInBounds_toArray]
  try simp only [List.set_cons_succ]
  try simp only [List.set_cons_zero]
  refine oneH (i := 11) rfl (by kernel_rfl) (fun K8 hK8 => ?_)
  go_simp
  refine hK8 _ _ ?_ ?_
  · exact ⟨far6d e2 hgf _ _ _ _ _ _, far6d e3 hgf _ _ _ _ _ _, far6d e4 hgf _ _ _ _ _ _⟩
  try simp only [Act.put]
  try simp only [List.setIfInBounds_toArray]
  try simp only [List.set_cons_succ]
  try simp only [List.set_cons_zero]
  refine wpAnyH_done (by kernel_rfl) ?_ _
  go_wp2
  refine g_ret rfl rfl (B := w.heap.size) (r := ⟨5, kwN x4, x2, x3, [], []⟩) ⟨Bk.on (bk_put6 (show Bk _ w.heap.size #[.int .i64 0, .int .i64 0, .string ⟨#[]⟩, .string ⟨#[]⟩, .string ⟨#[]⟩, .string ⟨#[]⟩] _ from PB.out) _ _ _ _ _ _) (Fuw.drew (Fuw.refl _))⟩ ⟨rfl, Fuw.drew (fuw_put6 F.out (Nat.le_refl _) _ _ _ _ _ _)⟩
set_option maxHeartbeats 6400000 in
set_option maxRecDepth 100000 in
theorem gs_5_U (x0 x1 x2 x3 x4 : List UInt8) (hE : ¬ x0 = [101, 100, 103, 101]) (hU : x0 = [117, 110, 105, 113, 117, 101]) (_hl2 : x2.length ≤ maxLen) (g cap : Nat) (w : World) (e0 : w.cell? ⟨g, 0, none⟩ = some (.string (bs x0))) (e1 : w.cell? ⟨g, 1, none⟩ = some (.string (bs x1))) (e2 : w.cell? ⟨g, 2, none⟩ = some (.string (bs x2))) (e3 : w.cell? ⟨g, 3, none⟩ = some (.string (bs x3))) (e4 : w.cell? ⟨g, 4, none⟩ = some (.string (bs x4))) : Calls Tryd.prog 45 #[.slice (some ⟨g, 0, none⟩) 5 cap] w (RetG w ⟨1, 0, x1, x2, [], []⟩) := by
  have hg : g < w.heap.size := World.block_lt_of_cell? w _ e0
  have bE : ((bs x0).toList == [101, 100, 103, 101]) = false := by rw [cmpw]; exact decide_eq_false hE
  have bU : ((bs x0).toList == [117, 110, 105, 113, 117, 101]) = true := by rw [cmpw]; exact decide_eq_true hU
  clear hE hU
  obtain ⟨W, hW⟩ : ∃ W, w.alloc (.cells #[.int .i64 0, .int .i64 0, .string ⟨#[]⟩, .string ⟨#[]⟩, .string ⟨#[]⟩, .string ⟨#[]⟩] 23) = W := ⟨_, rfl⟩
  have PB := Lib.hid (show Bk W w.heap.size #[.int .i64 0, .int .i64 0, .string ⟨#[]⟩, .string ⟨#[]⟩, .string ⟨#[]⟩, .string ⟨#[]⟩] 23 from by rw [← hW]; exact Bk.new w _ _)
  have F := Lib.hid (show Fuw w W from by rw [← hW]; exact fuwA _ _)
  have HG := Lib.hid (show g ≠ w.heap.size from by omega)
  have hgf : w.heap.size ≠ g := fun e => HG.out e.symm
  have e0 := cellOnw F.out e0
  have e1 := cellOnw F.out e1
  have e2 := cellOnw F.out e2
  have e3 := cellOnw F.out e3
  have e4 := cellOnw F.out e4
  go_enter Tryd.func45, Tryd.ntmps45
  go_upto_region 1 with fail
  clear hW
  have p0 := PB.out.c 0; have p1 := PB.out.c 1; have p2 := PB.out.c 2; have p3 := PB.out.c 3; have p4 := PB.out.c 4; have p5 := PB.out.c 5
  have q0 := PB.out.f 0; have q1 := PB.out.f 1; have q2 := PB.out.f 2; have q3 := PB.out.f 3; have q4 := PB.out.f 4; have q5 := PB.out.f 5
  go_upto_region 10 with fail
  refine wp_region_held (S := (fun w8 => w8.cell? ⟨g, 1, none⟩ = some (.string (bs x1)) ∧ w8.cell? ⟨g, 2, none⟩ = some (.string (bs x2)))) (by kernel_rfl) ?_
  have hSS : (fun w8 => w8.cell? ⟨g, 1, none⟩ = some (.string (bs x1)) ∧ w8.cell? ⟨g, 2, none⟩ = some (.string (bs x2))) W.drew := ⟨e1, e2⟩
  refine takeH (i := 0) (d := some 48) (v := ?_) rfl rfl (by kernel_rfl) (by kernel_rfl) (by kernel_rfl) (fun _ _ _ h => h) (Or.inl ⟨by rfl, ?_⟩) (by assumption) ?_
  rotate_left
  · ((intro w8 hSw; (try dsimp only at hSw); go_simp); try with_reducible rfl)
  try simp only [Act.put]
  try simp only [List.setIfInBounds_toArray]
  try simp only [List.set_cons_succ]
  try simp only [List.set_cons_zero]
  refine takeH (i := 1) (d := some 49) (v := ?_) rfl rfl (by kernel_rfl) (by kernel_rfl) (by kernel_rfl) (fun _ _ _ h => h) (Or.inl ⟨by rfl, ?_⟩) (by assumption) ?_
  rotate_left
  · ((intro w8 hSw; (try dsimp only at hSw); go_simp); try with_reducible rfl)
  try simp only [Act.put]
  try simp only [List.setIfInBounds_toArray]
  try simp only [List.set_cons_succ]
  try simp only [List.set_cons_zero]
  refine takeH (i := 2) (d := some 50) (v := ?_) rfl rfl (by kernel_rfl) (by kernel_rfl) (by kernel_rfl) (fun _ _ _ h => h) (Or.inl ⟨by rfl, ?_⟩) (by assumption) ?_
  rotate_left
  · ((intro w8 hSw; (try dsimp only at hSw); go_simp); try with_reducible rfl)
  try simp only [Act.put]
  try simp only [List.setIfInBounds_toArray]
  try simp only [List.set_cons_succ]
  try simp only [List.set_cons_zero]
  refine takeH (i := 3) (d := some 51) (v := ?_) rfl rfl (by kernel_rfl) (by kernel_rfl) (by kernel_rfl) (fun _ _ _ h => h) (Or.inl ⟨by rfl, ?_⟩) (by assumption) ?_
  rotate_left
  · ((intro w8 hSw; (try dsimp only at hSw); go_simp); try with_reducible rfl)
  try simp only [Act.put]
  try simp only [List.setIfInBounds_toArray]
  try simp only [List.set_cons_succ]
  try simp only [List.set_cons_zero]
  refine takeH (i := 4) (d := some 52) (v := ?_) rfl rfl (by kernel_rfl) (by kernel_rfl) (by kernel_rfl) (fun _ _ _ h => h) (Or.inl ⟨by rfl, ?_⟩) (by assumption) ?_
  rotate_left
  · ((intro w8 hSw; (try dsimp only at hSw); go_simp); try with_reducible rfl)
  try simp only [Act.put]
  try simp only [List.setIfInBounds_toArray]
  try simp only [List.set_cons_succ]
  try simp only [List.set_cons_zero]
  refine takeH (i := 5) (d := some 53) (v := ?_) rfl rfl (by kernel_rfl) (by kernel_rfl) (by kernel_rfl) (fun _ _ _ h => h) (Or.inl ⟨by rfl, ?_⟩) (by assumption) ?_
  rotate_left
  · ((intro w8 hSw; (try dsimp only at hSw); go_simp); try with_reducible rfl)
  try simp only [Act.put]
  try simp only [List.setIfInBounds_toArray]
  try simp only [List.set_cons_succ]
  try simp only [List.set_cons_zero]
  refine takeH (i := 6) (d := some 54) (v := ?_) rfl rfl (by kernel_rfl) (by kernel_rfl) (by kernel_rfl) (fun _ _ _ h => h) (Or.inl ⟨by rfl, ?_⟩) (by assumption) ?_
  rotate_left
  · ((intro w8 hSw; (try dsimp only at hSw); go_simp); try with_reducible rfl)
  try simp only [Act.put]
  try simp only [List.setIfInBounds_toArray]
  try simp only [List.set_cons_succ]
  try simp only [List.set_cons_zero]
  refine oneH (i := 7) rfl (by kernel_rfl) (fun K8 hK8 => ?_)
  go_simp
  refine hK8 _ _ ?_ ?_
  · exact ⟨far6d e1 hgf _ _ _ _ _ _, far6d e2 hgf _ _ _ _ _ _⟩
  try simp only [Act.put]
  try simp only [List.setIfInBounds_toArray]
  try simp only [List.set_cons_succ]
  try simp only [List.set_cons_zero]
  refine wpAnyH_done (by kernel_rfl) ?_ _
  go_wp2
  refine g_ret rfl rfl (B := w.heap.size) (r := ⟨1, 0, x1, x2, [], []⟩) ⟨Bk.on (bk_put6 (show Bk _ w.heap.size #[.int .i64 0, .int .i64 0, .string ⟨#[]⟩, .string ⟨#[]⟩, .string ⟨#[]⟩, .string ⟨#[]⟩] _ from PB.out) _ _ _ _ _ _) (Fuw.drew (Fuw.refl _))⟩ ⟨rfl, Fuw.drew (fuw_put6 F.out (Nat.le_refl _) _ _ _ _ _ _)⟩
set_option maxHeartbeats 6400000 in
set_option maxRecDepth 100000 in
theorem gs_5_X (x0 x1 x2 x3 x4 : List UInt8) (hE : ¬ x0 = [101, 100, 103, 101]) (hU : ¬ x0 = [117, 110, 105, 113, 117, 101]) (hX : x0 = [101, 120, 105, 115, 116, 115]) (_hl2 : x2.length ≤ maxLen) (g cap : Nat) (w : World) (e0 : w.cell? ⟨g, 0, none⟩ = some (.string (bs x0))) (e1 : w.cell? ⟨g, 1, none⟩ = some (.string (bs x1))) (e2 : w.cell? ⟨g, 2, none⟩ = some (.string (bs x2))) (e3 : w.cell? ⟨g, 3, none⟩ = some (.string (bs x3))) (e4 : w.cell? ⟨g, 4, none⟩ = some (.string (bs x4))) : Calls Tryd.prog 45 #[.slice (some ⟨g, 0, none⟩) 5 cap] w (RetG w ⟨2, 0, x1, x2, [], []⟩) := by
  have hg : g < w.heap.size := World.block_lt_of_cell? w _ e0
  have bE : ((bs x0).toList == [101, 100, 103, 101]) = false := by rw [cmpw]; exact decide_eq_false hE
  have bU : ((bs x0).toList == [117, 110, 105, 113, 117, 101]) = false := by rw [cmpw]; exact decide_eq_false hU
  have bX : ((bs x0).toList == [101, 120, 105, 115, 116, 115]) = true := by rw [cmpw]; exact decide_eq_true hX
  clear hE hU hX
  obtain ⟨W, hW⟩ : ∃ W, w.alloc (.cells #[.int .i64 0, .int .i64 0, .string ⟨#[]⟩, .string ⟨#[]⟩, .string ⟨#[]⟩, .string ⟨#[]⟩] 23) = W := ⟨_, rfl⟩
  have PB := Lib.hid (show Bk W w.heap.size #[.int .i64 0, .int .i64 0, .string ⟨#[]⟩, .string ⟨#[]⟩, .string ⟨#[]⟩, .string ⟨#[]⟩] 23 from by rw [← hW]; exact Bk.new w _ _)
  have F := Lib.hid (show Fuw w W from by rw [← hW]; exact fuwA _ _)
  have HG := Lib.hid (show g ≠ w.heap.size from by omega)
  have hgf : w.heap.size ≠ g := fun e => HG.out e.symm
  have e0 := cellOnw F.out e0
  have e1 := cellOnw F.out e1
  have e2 := cellOnw F.out e2
  have e3 := cellOnw F.out e3
  have e4 := cellOnw F.out e4
  go_enter Tryd.func45, Tryd.ntmps45
  go_upto_region 1 with fail
  clear hW
  have p0 := PB.out.c 0; have p1 := PB.out.c 1; have p2 := PB.out.c 2; have p3 := PB.out.c 3; have p4 := PB.out.c 4; have p5 := PB.out.c 5
  have q0 := PB.out.f 0; have q1 := PB.out.f 1; have q2 := PB.out.f 2; have q3 := PB.out.f 3; have q4 := PB.out.f 4; have q5 := PB.out.f 5
  go_upto_region 12 with fail
  refine wp_region_held (S := (fun w8 => w8.cell? ⟨g, 1, none⟩ = some (.string (bs x1)) ∧ w8.cell? ⟨g, 2, none⟩ = some (.string (bs x2)))) (by kernel_rfl) ?_
  have hSS : (fun w8 => w8.cell? ⟨g, 1, none⟩ = some (.string (bs x1)) ∧ w8.cell? ⟨g, 2, none⟩ = some (.string (bs x2))) W.drew := ⟨e1, e2⟩
  refine takeH (i := 0) (d := some 59) (v := ?_) rfl rfl (by kernel_rfl) (by kernel_rfl) (by kernel_rfl) (fun _ _ _ h => h) (Or.inl ⟨by rfl, ?_⟩) (by assumption) ?_
  rotate_left
  · ((intro w8 hSw; (try dsimp only at hSw); go_simp); try with_reducible rfl)
  try simp only [Act.put]
  try simp only [List.setIfInBounds_toArray]
  try simp only [List.set_cons_succ]
  try simp only [List.set_cons_zero]
  refine takeH (i := 1) (d := some 60) (v := ?_) rfl rfl (by kernel_rfl) (by kernel_rfl) (by kernel_rfl) (fun _ _ _ h => h) (Or.inl ⟨by rfl, ?_⟩) (by assumption) ?_
  rotate_left
  · ((intro w8 hSw; (try dsimp only at hSw); go_simp); try with_reducible rfl)
  try simp only [Act.put]
  try simp only [List.setIfInBounds_toArray]
  try simp only [List.set_cons_succ]
  try simp only [List.set_cons_zero]
  refine takeH (i := 2) (d := some 61) (v := ?_) rfl rfl (by kernel_rfl) (by kernel_rfl) (by kernel_rfl) (fun _ _ _ h => h) (Or.inl ⟨by rfl, ?_⟩) (by assumption) ?_
  rotate_left
  · ((intro w8 hSw; (try dsimp only at hSw); go_simp); try with_reducible rfl)
  try simp only [Act.put]
  try simp only [List.setIfInBounds_toArray]
  try simp only [List.set_cons_succ]
  try simp only [List.set_cons_zero]
  refine takeH (i := 3) (d := some 62) (v := ?_) rfl rfl (by kernel_rfl) (by kernel_rfl) (by kernel_rfl) (fun _ _ _ h => h) (Or.inl ⟨by rfl, ?_⟩) (by assumption) ?_
  rotate_left
  · ((intro w8 hSw; (try dsimp only at hSw); go_simp); try with_reducible rfl)
  try simp only [Act.put]
  try simp only [List.setIfInBounds_toArray]
  try simp only [List.set_cons_succ]
  try simp only [List.set_cons_zero]
  refine takeH (i := 4) (d := some 63) (v := ?_) rfl rfl (by kernel_rfl) (by kernel_rfl) (by kernel_rfl) (fun _ _ _ h => h) (Or.inl ⟨by rfl, ?_⟩) (by assumption) ?_
  rotate_left
  · ((intro w8 hSw; (try dsimp only at hSw); go_simp); try with_reducible rfl)
  try simp only [Act.put]
  try simp only [List.setIfInBounds_toArray]
  try simp only [List.set_cons_succ]
  try simp only [List.set_cons_zero]
  refine takeH (i := 5) (d := some 64) (v := ?_) rfl rfl (by kernel_rfl) (by kernel_rfl) (by kernel_rfl) (fun _ _ _ h => h) (Or.inl ⟨by rfl, ?_⟩) (by assumption) ?_
  rotate_left
  · ((intro w8 hSw; (try dsimp only at hSw); go_simp); try with_reducible rfl)
  try simp only [Act.put]
  try simp only [List.setIfInBounds_toArray]
  try simp only [List.set_cons_succ]
  try simp only [List.set_cons_zero]
  refine takeH (i := 6) (d := some 65) (v := ?_) rfl rfl (by kernel_rfl) (by kernel_rfl) (by kernel_rfl) (fun _ _ _ h => h) (Or.inl ⟨by rfl, ?_⟩) (by assumption) ?_
  rotate_left
  · ((intro w8 hSw; (try dsimp only at hSw); go_simp); try with_reducible rfl)
  try simp only [Act.put]
  try simp only [List.setIfInBounds_toArray]
  try simp only [List.set_cons_succ]
  try simp only [List.set_cons_zero]
  refine oneH (i := 7) rfl (by kernel_rfl) (fun K8 hK8 => ?_)
  go_simp
  refine hK8 _ _ ?_ ?_
  · exact ⟨far6d e1 hgf _ _ _ _ _ _, far6d e2 hgf _ _ _ _ _ _⟩
  try simp only [Act.put]
  try simp only [List.setIfInBounds_toArray]
  try simp only [List.set_cons_succ]
  try simp only [List.set_cons_zero]
  refine wpAnyH_done (by kernel_rfl) ?_ _
  go_wp2
  refine g_ret rfl rfl (B := w.heap.size) (r := ⟨2, 0, x1, x2, [], []⟩) ⟨Bk.on (bk_put6 (show Bk _ w.heap.size #[.int .i64 0, .int .i64 0, .string ⟨#[]⟩, .string ⟨#[]⟩, .string ⟨#[]⟩, .string ⟨#[]⟩] _ from PB.out) _ _ _ _ _ _) (Fuw.drew (Fuw.refl _))⟩ ⟨rfl, Fuw.drew (fuw_put6 F.out (Nat.le_refl _) _ _ _ _ _ _)⟩
set_option maxHeartbeats 6400000 in
set_option maxRecDepth 100000 in
theorem gs_5_M (x0 x1 x2 x3 x4 : List UInt8) (hE : ¬ x0 = [101, 100, 103, 101]) (hU : ¬ x0 = [117, 110, 105, 113, 117, 101]) (hX : ¬ x0 = [101, 120, 105, 115, 116, 115]) (hl2 : x2.length ≤ maxLen) (g cap : Nat) (w : World) (e0 : w.cell? ⟨g, 0, none⟩ = some (.string (bs x0))) (e1 : w.cell? ⟨g, 1, none⟩ = some (.string (bs x1))) (e2 : w.cell? ⟨g, 2, none⟩ = some (.string (bs x2))) (e3 : w.cell? ⟨g, 3, none⟩ = some (.string (bs x3))) (e4 : w.cell? ⟨g, 4, none⟩ = some (.string (bs x4))) : Calls Tryd.prog 45 #[.slice (some ⟨g, 0, none⟩) 5 cap] w (RetG w ⟨7, numG x2 0, x1, [], [], []⟩) := by
  have hg : g < w.heap.size := World.block_lt_of_cell? w _ e0
  have bE : ((bs x0).toList == [101, 100, 103, 101]) = false := by rw [cmpw]; exact decide_eq_false hE
  have bU : ((bs x0).toList == [117, 110, 105, 113, 117, 101]) = false := by rw [cmpw]; exact decide_eq_false hU
  have bX : ((bs x0).toList == [101, 120, 105, 115, 116, 115]) = false := by rw [cmpw]; exact decide_eq_false hX
  clear hE hU hX
  obtain ⟨vK, bK⟩ : ∃ v, ((bs x0).toList == [107, 105, 110, 100]) = v := ⟨_, rfl⟩
  obtain ⟨vN, bN⟩ : ∃ v, ((bs x0).toList == [101, 110, 100, 115]) = v := ⟨_, rfl⟩
  obtain ⟨W, hW⟩ : ∃ W, w.alloc (.cells #[.int .i64 0, .int .i64 0, .string ⟨#[]⟩, .string ⟨#[]⟩, .string ⟨#[]⟩, .string ⟨#[]⟩] 23) = W := ⟨_, rfl⟩
  have PB := Lib.hid (show Bk W w.heap.size #[.int .i64 0, .int .i64 0, .string ⟨#[]⟩, .string ⟨#[]⟩, .string ⟨#[]⟩, .string ⟨#[]⟩] 23 from by rw [← hW]; exact Bk.new w _ _)
  have F := Lib.hid (show Fuw w W from by rw [← hW]; exact fuwA _ _)
  have HG := Lib.hid (show g ≠ w.heap.size from by omega)
  have e0 := cellOnw F.out e0
  have e1 := cellOnw F.out e1
  have e2 := cellOnw F.out e2
  have e3 := cellOnw F.out e3
  have e4 := cellOnw F.out e4
  cases vK <;> cases vN
  all_goals
    go_enter Tryd.func45, Tryd.ntmps45
    go_upto_region 1 with fail
    clear hW
    have p0 := PB.out.c 0; have p1 := PB.out.c 1; have p2 := PB.out.c 2; have p3 := PB.out.c 3; have p4 := PB.out.c 4; have p5 := PB.out.c 5
    have q0 := PB.out.f 0; have q1 := PB.out.f 1; have q2 := PB.out.f 2; have q3 := PB.out.f 3; have q4 := PB.out.f 4; have q5 := PB.out.f 5
    have hz : (bs x2).size ≤ 9223372036854775807 := by rw [bs_size]; unfold maxLen at hl2; omega
    go_wp2
    go_loop [3, 4] (fun nv iv => ∃ (n : Int) (i : Nat), nv = .int .i64 n ∧ iv = .int .i64 i ∧ i ≤ (bs x2).size ∧ Hid (numG x2 0 = numG ((bs x2).data.toList.drop i) n) ∧ I64 n) (fun _ iv => (bs x2).size - (RowKit.intOf iv).toNat)
    case atStart => exact ⟨0, 0, rfl, rfl, Nat.zero_le _, Lib.hid (by rw [bs_data, List.drop_zero]), i0⟩
    case round =>
      obtain ⟨n, i, rfl, rfl, hi, HN, hn⟩ := hrel
      obtain ⟨hn1, hn2⟩ := hn
      by_cases hlt : i < (bs x2).size
      · have hltI : (i : Int) < ((bs x2).size : Int) := by omega
        by_cases h4 : n ≤ 4000
        · have HS := Lib.hid (HN.out.trans (numG_step (bs x2) i hlt n h4))
          have hI := Lib.hid (show I64 (wrap64 (wrap64 (wrap64 (n * 10) + wrap64 ((bs x2)[i].toNat : Int)) - 48)) from w64_in _)
          clear HN
          go_wp2
          go_round
          case rel => exact ⟨_, i + 1, rfl, by go_num, by omega, HS, hI.out⟩
          case measure => simp [RowKit.intOf]; omega
        · have h4' : 4000 < n := by omega
          have HR := Lib.hid (show numG x2 0 = n by rw [HN.out]; exact numG_big _ n h4)
          go_wp2
          refine g_ret rfl rfl (B := w.heap.size) (r := ⟨7, n, x1, [], [], []⟩) ⟨bk_put6 (show Bk _ w.heap.size #[.int .i64 0, .int .i64 0, .string ⟨#[]⟩, .string ⟨#[]⟩, .string ⟨#[]⟩, .string ⟨#[]⟩] _ from PB.out) _ _ _ _ _ _⟩ ⟨by rw [HR.out], fuw_put6 (F.out) (Nat.le_refl _) _ _ _ _ _ _⟩
      · have hltI : ¬ (i : Int) < ((bs x2).size : Int) := by omega
        have HR := Lib.hid (show numG x2 0 = n by rw [HN.out]; exact numG_end _ i (by omega) n)
        go_wp2
        refine g_ret rfl rfl (B := w.heap.size) (r := ⟨7, n, x1, [], [], []⟩) ⟨bk_put6 (show Bk _ w.heap.size #[.int .i64 0, .int .i64 0, .string ⟨#[]⟩, .string ⟨#[]⟩, .string ⟨#[]⟩, .string ⟨#[]⟩] _ from PB.out) _ _ _ _ _ _⟩ ⟨by rw [HR.out], fuw_put6 (F.out) (Nat.le_refl _) _ _ _ _ _ _⟩
end Go.Proofs.YtadnaakbhgacgaaDoor
