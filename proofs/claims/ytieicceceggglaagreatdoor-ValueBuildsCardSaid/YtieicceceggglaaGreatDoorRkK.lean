/-
  The reference of package value: the constructors that copy nothing, and FromTruth. Nothing that was there turns.
-/
import Derived.Test.YtieicceceggglaaGreatDoorRvA
import Derived.Test.YtieicceceggglaaGreatDoorLvK
namespace Go.Proofs.YtieicceceggglaaGreatDoor
open Go.RowKit

theorem rcnull_any (w : World) : Calls Tryz.prog 28 #[] w (RetA w #[.int .i64 0, .int .i64 0, .int .i64 0, .string ⟨#[]⟩, .slice none 0 0]) := by
  obtain ⟨h, f0⟩ := bx0 w
  obtain ⟨W, hW⟩ : ∃ W, (w.alloc (.cells #[.int .i64 0, .int .i64 0, .int .i64 0, .string ⟨#[]⟩, .slice none 0 0] 24)) = W := ⟨_, rfl⟩
  rw [hW] at h f0
  have z : ∀ j, W.frozen? ⟨w.heap.size, j, none⟩ = false := fun j => by simp [World.frozen?, h]
  have z0 := z 0; have z1 := z 1; have z2 := z 2; have z3 := z 3; have z4 := z 4
  have c0 : W.cell? ⟨w.heap.size, 0, none⟩ = some (.int .i64 0) := by simp [World.cell?, h]
  have c1 : W.cell? ⟨w.heap.size, 1, none⟩ = some (.int .i64 0) := by simp [World.cell?, h]
  have c2 : W.cell? ⟨w.heap.size, 2, none⟩ = some (.int .i64 0) := by simp [World.cell?, h]
  have c3 : W.cell? ⟨w.heap.size, 3, none⟩ = some (.string ⟨#[]⟩) := by simp [World.cell?, h]
  have c4 : W.cell? ⟨w.heap.size, 4, none⟩ = some (.slice none 0 0) := by simp [World.cell?, h]
  have H := Lib.hid h
  clear h z
  go_enter Tryz.func28, Tryz.ntmps28
  go_upto_region 1 with fail
  clear hW
  go_wp2
  try simp only [Exit.inBlock, Exit.then]
  exact v_ret rfl rfl (val_put W _ _ _ _ _ _ _ _ _ _ _ _ _ H.out) (fur_put5 f0 (Nat.le_refl _) _ _ _ _ _)
theorem rcint_any (n : Int) (w : World) : Calls Tryz.prog 32 #[.int .i64 n] w (RetA w #[.int .i64 2, .int .i64 n, .int .i64 0, .string ⟨#[]⟩, .slice none 0 0]) := by
  obtain ⟨h, f0⟩ := bx0 w
  obtain ⟨W, hW⟩ : ∃ W, (w.alloc (.cells #[.int .i64 0, .int .i64 0, .int .i64 0, .string ⟨#[]⟩, .slice none 0 0] 24)) = W := ⟨_, rfl⟩
  rw [hW] at h f0
  have z : ∀ j, W.frozen? ⟨w.heap.size, j, none⟩ = false := fun j => by simp [World.frozen?, h]
  have z0 := z 0; have z1 := z 1; have z2 := z 2; have z3 := z 3; have z4 := z 4
  have c0 : W.cell? ⟨w.heap.size, 0, none⟩ = some (.int .i64 0) := by simp [World.cell?, h]
  have c1 : W.cell? ⟨w.heap.size, 1, none⟩ = some (.int .i64 0) := by simp [World.cell?, h]
  have c2 : W.cell? ⟨w.heap.size, 2, none⟩ = some (.int .i64 0) := by simp [World.cell?, h]
  have c3 : W.cell? ⟨w.heap.size, 3, none⟩ = some (.string ⟨#[]⟩) := by simp [World.cell?, h]
  have c4 : W.cell? ⟨w.heap.size, 4, none⟩ = some (.slice none 0 0) := by simp [World.cell?, h]
  have H := Lib.hid h
  clear h z
  go_enter Tryz.func32, Tryz.ntmps32
  go_upto_region 1 with fail
  clear hW
  go_wp2
  try simp only [Exit.inBlock, Exit.then]
  exact v_ret rfl rfl (val_put W _ _ _ _ _ _ _ _ _ _ _ _ _ H.out) (fur_put5 f0 (Nat.le_refl _) _ _ _ _ _)
theorem rcstr_any (s : ByteArray) (w : World) : Calls Tryz.prog 36 #[.string s] w (RetA w #[.int .i64 4, .int .i64 0, .int .i64 0, .string s, .slice none 0 0]) := by
  obtain ⟨h, f0⟩ := bx0 w
  obtain ⟨W, hW⟩ : ∃ W, (w.alloc (.cells #[.int .i64 0, .int .i64 0, .int .i64 0, .string ⟨#[]⟩, .slice none 0 0] 24)) = W := ⟨_, rfl⟩
  rw [hW] at h f0
  have z : ∀ j, W.frozen? ⟨w.heap.size, j, none⟩ = false := fun j => by simp [World.frozen?, h]
  have z0 := z 0; have z1 := z 1; have z2 := z 2; have z3 := z 3; have z4 := z 4
  have c0 : W.cell? ⟨w.heap.size, 0, none⟩ = some (.int .i64 0) := by simp [World.cell?, h]
  have c1 : W.cell? ⟨w.heap.size, 1, none⟩ = some (.int .i64 0) := by simp [World.cell?, h]
  have c2 : W.cell? ⟨w.heap.size, 2, none⟩ = some (.int .i64 0) := by simp [World.cell?, h]
  have c3 : W.cell? ⟨w.heap.size, 3, none⟩ = some (.string ⟨#[]⟩) := by simp [World.cell?, h]
  have c4 : W.cell? ⟨w.heap.size, 4, none⟩ = some (.slice none 0 0) := by simp [World.cell?, h]
  have H := Lib.hid h
  clear h z
  go_enter Tryz.func36, Tryz.ntmps36
  go_upto_region 1 with fail
  clear hW
  go_wp2
  try simp only [Exit.inBlock, Exit.then]
  exact v_ret rfl rfl (val_put W _ _ _ _ _ _ _ _ _ _ _ _ _ H.out) (fur_put5 f0 (Nat.le_refl _) _ _ _ _ _)
theorem rcnode_any (n : Int) (w : World) : Calls Tryz.prog 38 #[.int .i64 n] w (RetA w #[.int .i64 5, .int .i64 n, .int .i64 0, .string ⟨#[]⟩, .slice none 0 0]) := by
  obtain ⟨h, f0⟩ := bx0 w
  obtain ⟨W, hW⟩ : ∃ W, (w.alloc (.cells #[.int .i64 0, .int .i64 0, .int .i64 0, .string ⟨#[]⟩, .slice none 0 0] 24)) = W := ⟨_, rfl⟩
  rw [hW] at h f0
  have z : ∀ j, W.frozen? ⟨w.heap.size, j, none⟩ = false := fun j => by simp [World.frozen?, h]
  have z0 := z 0; have z1 := z 1; have z2 := z 2; have z3 := z 3; have z4 := z 4
  have c0 : W.cell? ⟨w.heap.size, 0, none⟩ = some (.int .i64 0) := by simp [World.cell?, h]
  have c1 : W.cell? ⟨w.heap.size, 1, none⟩ = some (.int .i64 0) := by simp [World.cell?, h]
  have c2 : W.cell? ⟨w.heap.size, 2, none⟩ = some (.int .i64 0) := by simp [World.cell?, h]
  have c3 : W.cell? ⟨w.heap.size, 3, none⟩ = some (.string ⟨#[]⟩) := by simp [World.cell?, h]
  have c4 : W.cell? ⟨w.heap.size, 4, none⟩ = some (.slice none 0 0) := by simp [World.cell?, h]
  have H := Lib.hid h
  clear h z
  go_enter Tryz.func38, Tryz.ntmps38
  go_upto_region 1 with fail
  clear hW
  go_wp2
  try simp only [Exit.inBlock, Exit.then]
  exact v_ret rfl rfl (val_put W _ _ _ _ _ _ _ _ _ _ _ _ _ H.out) (fur_put5 f0 (Nat.le_refl _) _ _ _ _ _)
theorem rcedge_any (n : Int) (w : World) : Calls Tryz.prog 40 #[.int .i64 n] w (RetA w #[.int .i64 6, .int .i64 n, .int .i64 0, .string ⟨#[]⟩, .slice none 0 0]) := by
  obtain ⟨h, f0⟩ := bx0 w
  obtain ⟨W, hW⟩ : ∃ W, (w.alloc (.cells #[.int .i64 0, .int .i64 0, .int .i64 0, .string ⟨#[]⟩, .slice none 0 0] 24)) = W := ⟨_, rfl⟩
  rw [hW] at h f0
  have z : ∀ j, W.frozen? ⟨w.heap.size, j, none⟩ = false := fun j => by simp [World.frozen?, h]
  have z0 := z 0; have z1 := z 1; have z2 := z 2; have z3 := z 3; have z4 := z 4
  have c0 : W.cell? ⟨w.heap.size, 0, none⟩ = some (.int .i64 0) := by simp [World.cell?, h]
  have c1 : W.cell? ⟨w.heap.size, 1, none⟩ = some (.int .i64 0) := by simp [World.cell?, h]
  have c2 : W.cell? ⟨w.heap.size, 2, none⟩ = some (.int .i64 0) := by simp [World.cell?, h]
  have c3 : W.cell? ⟨w.heap.size, 3, none⟩ = some (.string ⟨#[]⟩) := by simp [World.cell?, h]
  have c4 : W.cell? ⟨w.heap.size, 4, none⟩ = some (.slice none 0 0) := by simp [World.cell?, h]
  have H := Lib.hid h
  clear h z
  go_enter Tryz.func40, Tryz.ntmps40
  go_upto_region 1 with fail
  clear hW
  go_wp2
  try simp only [Exit.inBlock, Exit.then]
  exact v_ret rfl rfl (val_put W _ _ _ _ _ _ _ _ _ _ _ _ _ H.out) (fur_put5 f0 (Nat.le_refl _) _ _ _ _ _)
theorem rcbool_any (b : Bool) (w : World) : Calls Tryz.prog 30 #[.bool b] w (RetA w #[.int .i64 1, .int .i64 (if b = true then 1 else 0), .int .i64 0, .string ⟨#[]⟩, .slice none 0 0]) := by
  obtain ⟨h, f0⟩ := bx0 w
  obtain ⟨W, hW⟩ : ∃ W, (w.alloc (.cells #[.int .i64 0, .int .i64 0, .int .i64 0, .string ⟨#[]⟩, .slice none 0 0] 24)) = W := ⟨_, rfl⟩
  rw [hW] at h f0
  have z : ∀ j, W.frozen? ⟨w.heap.size, j, none⟩ = false := fun j => by simp [World.frozen?, h]
  have z0 := z 0; have z1 := z 1; have z2 := z 2; have z3 := z 3; have z4 := z 4
  have c0 : W.cell? ⟨w.heap.size, 0, none⟩ = some (.int .i64 0) := by simp [World.cell?, h]
  have c1 : W.cell? ⟨w.heap.size, 1, none⟩ = some (.int .i64 0) := by simp [World.cell?, h]
  have c2 : W.cell? ⟨w.heap.size, 2, none⟩ = some (.int .i64 0) := by simp [World.cell?, h]
  have c3 : W.cell? ⟨w.heap.size, 3, none⟩ = some (.string ⟨#[]⟩) := by simp [World.cell?, h]
  have c4 : W.cell? ⟨w.heap.size, 4, none⟩ = some (.slice none 0 0) := by simp [World.cell?, h]
  have H := Lib.hid h
  clear h z
  cases b
  · rw [if_neg (by decide)]
    go_enter Tryz.func30, Tryz.ntmps30
    go_upto_region 1 with fail
    clear hW
    go_wp2
    try simp only [Exit.inBlock, Exit.then]
    exact v_ret rfl rfl (val_put W _ _ _ _ _ _ _ _ _ _ _ _ _ H.out) (fur_put5 f0 (Nat.le_refl _) _ _ _ _ _)
  · rw [if_pos rfl]
    go_enter Tryz.func30, Tryz.ntmps30
    go_upto_region 1 with fail
    clear hW
    go_wp2
    try simp only [Exit.inBlock, Exit.then]
    exact v_ret rfl rfl (val_put W _ _ _ _ _ _ _ _ _ _ _ _ _ H.out) (fur_put5 f0 (Nat.le_refl _) _ _ _ _ _)
set_option maxHeartbeats 800000 in
theorem rcrat_any (n d : Int) (w : World) : Calls Tryz.prog 34 #[.agg #[.int .i64 n, .int .i64 d]] w (RetA w #[.int .i64 (ratK d), .int .i64 n, .int .i64 (ratD d), .string ⟨#[]⟩, .slice none 0 0]) := by
  obtain ⟨p0, q0⟩ := box1 w n d
  obtain ⟨h, f0⟩ := bx0 (w.alloc (.cells #[.int .i64 n, .int .i64 d] 28))
  have s0 : (w.alloc (.cells #[.int .i64 n, .int .i64 d] 28)).heap.size = w.heap.size + 1 := by simp
  rw [s0] at h
  replace p0 := p0.on f0
  replace f0 := q0.trans f0
  clear q0 s0
  obtain ⟨W, hW⟩ : ∃ W, ((w.alloc (.cells #[.int .i64 n, .int .i64 d] 28)).alloc (.cells #[.int .i64 0, .int .i64 0, .int .i64 0, .string ⟨#[]⟩, .slice none 0 0] 24)) = W := ⟨_, rfl⟩
  rw [hW] at h f0 p0
  have z : ∀ j, W.frozen? ⟨w.heap.size + 1, j, none⟩ = false := fun j => by simp [World.frozen?, h]
  have z0 := z 0; have z1 := z 1; have z2 := z 2; have z3 := z 3; have z4 := z 4
  have c0 : W.cell? ⟨w.heap.size + 1, 0, none⟩ = some (.int .i64 0) := by simp [World.cell?, h]
  have c1 : W.cell? ⟨w.heap.size + 1, 1, none⟩ = some (.int .i64 0) := by simp [World.cell?, h]
  have c2 : W.cell? ⟨w.heap.size + 1, 2, none⟩ = some (.int .i64 0) := by simp [World.cell?, h]
  have c3 : W.cell? ⟨w.heap.size + 1, 3, none⟩ = some (.string ⟨#[]⟩) := by simp [World.cell?, h]
  have c4 : W.cell? ⟨w.heap.size + 1, 4, none⟩ = some (.slice none 0 0) := by simp [World.cell?, h]
  have H := Lib.hid h
  clear h z
  have k0 := p0.c0; have k1 := p0.c1
  have LI := Lib.hid (fun n w => rcint_any n w)
  by_cases hd : d = 1
  · subst hd
    rw [show ratK 1 = 2 from rfl, show ratD 1 = 0 from rfl]
    go_enter Tryz.func34, Tryz.ntmps34
    go_upto_region 1 with fail
    clear hW
    go_wp2_with fail
    go_at_call 32; refine (LI.out _ _).mono ?_; rintro e1 w1 ⟨rfl, f1⟩
    clear z0 z1 z2 z3 z4 c0 c1 c2 c3 c4 k0 k1
    have h := H.out
    have hlt : w.heap.size + 1 < W.heap.size := by
      rcases Nat.lt_or_ge (w.heap.size + 1) W.heap.size with k | k
      · exact k
      · rw [Array.getElem?_eq_none k] at h; cases h
    rw [← Below.block f1.b (w.heap.size + 1) hlt] at h
    clear H hlt
    have z : ∀ j, w1.frozen? ⟨w.heap.size + 1, j, none⟩ = false := fun j => by simp [World.frozen?, h]
    have z0 := z 0; have z1 := z 1; have z2 := z 2; have z3 := z 3; have z4 := z 4
    have c0 : w1.cell? ⟨w.heap.size + 1, 0, none⟩ = some (.int .i64 0) := by simp [World.cell?, h]
    have c1 : w1.cell? ⟨w.heap.size + 1, 1, none⟩ = some (.int .i64 0) := by simp [World.cell?, h]
    have c2 : w1.cell? ⟨w.heap.size + 1, 2, none⟩ = some (.int .i64 0) := by simp [World.cell?, h]
    have c3 : w1.cell? ⟨w.heap.size + 1, 3, none⟩ = some (.string ⟨#[]⟩) := by simp [World.cell?, h]
    have c4 : w1.cell? ⟨w.heap.size + 1, 4, none⟩ = some (.slice none 0 0) := by simp [World.cell?, h]
    have H := Lib.hid h
    clear h z
    replace f0 := f0.trans f1
    go_wp2
    try simp only [Exit.inBlock, Exit.then]
    exact v_ret rfl rfl (val_put w1 _ _ _ _ _ _ _ _ _ _ _ _ _ H.out) (fur_put5 f0 (Nat.le_succ _) _ _ _ _ _)
  · rw [show ratK d = 3 from if_neg hd, show ratD d = d from if_neg hd]
    have g : (d == 1) = false := beq_eq_false_iff_ne.2 hd
    clear hd LI
    go_enter Tryz.func34, Tryz.ntmps34
    go_upto_region 1 with fail
    clear hW
    go_wp2
    try simp only [Exit.inBlock, Exit.then]
    exact v_ret rfl rfl (val_put W _ _ _ _ _ _ _ _ _ _ _ _ _ H.out) (fur_put5 f0 (Nat.le_succ _) _ _ _ _ _)
end Go.Proofs.YtieicceceggglaaGreatDoor
