/-
  The reference of package value: the constructors that copy nothing, and FromTruth. Nothing that was there turns.
-/
import Derived.Test.YtomkanmmfgiemaaDoorRvA
import Derived.Test.YtomkanmmfgiemaaDoorLvK
namespace Go.Proofs.YtomkanmmfgiemaaDoor
open Go.RowKit

theorem rcnull_any (w : World) : Calls Tryd.prog 39 #[] w (RetA w #[.int .i64 0, .int .i64 0, .int .i64 0, .string ⟨#[]⟩, .slice none 0 0]) := by
  obtain ⟨h, f0⟩ := bx0 w
  obtain ⟨W, hW⟩ : ∃ W, (w.alloc (.cells #[.int .i64 0, .int .i64 0, .int .i64 0, .string ⟨#[]⟩, .slice none 0 0] 24)) = W := ⟨_, rfl⟩
  rw [hW] at h f0
  have z : ∀ j, W.frozen? ⟨w.heap.size, j, none⟩ = false := fun j => by simp [World.frozen?, h]
  have z0 := z 0; have z1 := z 1; have z2 := z 2; have z3 := z 3; have z4 := z 4
  have c0 : W.cell? ⟨w.heap.size, 0, none⟩ = some (.int .i64 0) := by simp [World.cell?, h]
  have c1 : W.cell? ⟨w.heap.size, 1, none⟩ = some (.int .i64 0) := by simp [World.cell?, h]
  have c2 : W.cell? ⟨w.heap.size, 2, none⟩ = some (.int .i64 0) := by simp [World.cell?, h]
  have c3 : W.cell? ⟨w.heap.size, 3, none⟩ = some (.string ⟨#[]⟩) := by simp [World.cell?, h]
  have c4 : W.cell? ⟨w.heap.size, 4, none⟩ = some (.slice none 0 0) := by simp [World.cell?, h]
  have H := Lib.hid h
  clear h z
  go_enter Tryd.func39, Tryd.ntmps39
  go_upto_region 1 with fail
  clear hW
  go_wp2
  try simp only [Exit.inBlock, Exit.then]
  exact v_ret rfl rfl (val_put W _ _ _ _ _ _ _ _ _ _ _ _ _ H.out) (fur_put5 f0 (Nat.le_refl _) _ _ _ _ _)
theorem rcbool_any (b : Bool) (w : World) : Calls Tryd.prog 40 #[.bool b] w (RetA w #[.int .i64 1, .int .i64 (if b = true then 1 else 0), .int .i64 0, .string ⟨#[]⟩, .slice none 0 0]) := by
  obtain ⟨h, f0⟩ := bx0 w
  obtain ⟨W, hW⟩ : ∃ W, (w.alloc (.cells #[.int .i64 0, .int .i64 0, .int .i64 0, .string ⟨#[]⟩, .slice none 0 0] 24)) = W := ⟨_, rfl⟩
  rw [hW] at h f0
  have z : ∀ j, W.frozen? ⟨w.heap.size, j, none⟩ = false := fun j => by simp [World.frozen?, h]
  have z0 := z 0; have z1 := z 1; have z2 := z 2; have z3 := z 3; have z4 := z 4
  have c0 : W.cell? ⟨w.heap.size, 0, none⟩ = some (.int .i64 0) := by simp [World.cell?, h]
  have c1 : W.cell? ⟨w.heap.size, 1, none⟩ = some (.int .i64 0) := by simp [World.cell?, h]
  have c2 : W.cell? ⟨w.heap.size, 2, none⟩ = some (.int .i64 0) := by simp [World.cell?, h]
  have c3 : W.cell? ⟨w.heap.size, 3, none⟩ = some (.string ⟨#[]⟩) := by simp [World.cell?, h]
  have c4 : W.cell? ⟨w.heap.size, 4, none⟩ = some (.slice none 0 0) := by simp [World.cell?, h]
  have H := Lib.hid h
  clear h z
  cases b
  · rw [if_neg (by decide)]
    go_enter Tryd.func40, Tryd.ntmps40
    go_upto_region 1 with fail
    clear hW
    go_wp2
    try simp only [Exit.inBlock, Exit.then]
    exact v_ret rfl rfl (val_put W _ _ _ _ _ _ _ _ _ _ _ _ _ H.out) (fur_put5 f0 (Nat.le_refl _) _ _ _ _ _)
  · rw [if_pos rfl]
    go_enter Tryd.func40, Tryd.ntmps40
    go_upto_region 1 with fail
    clear hW
    go_wp2
    try simp only [Exit.inBlock, Exit.then]
    exact v_ret rfl rfl (val_put W _ _ _ _ _ _ _ _ _ _ _ _ _ H.out) (fur_put5 f0 (Nat.le_refl _) _ _ _ _ _)
theorem rtri_s (a : Int) (w : World) : Calls Tryd.prog 37 #[.int .i64 a] w fun e w' => e = .returned (.int .i64 (triV a)) ∧ w = w' := (rtri_any a w).mono fun _ _ ⟨he, hw⟩ => ⟨he, hw.symm⟩
set_option maxHeartbeats 800000 in
theorem rcft_any (t : Int) (w : World) : Calls Tryd.prog 21 #[.int .i64 t] w (RetA w #[.int .i64 (ftK (triV t)), .int .i64 (ftN (triV t)), .int .i64 0, .string ⟨#[]⟩, .slice none 0 0]) := by
  obtain ⟨h, f0⟩ := bx0 w
  obtain ⟨W, hW⟩ : ∃ W, (w.alloc (.cells #[.int .i64 0, .int .i64 0, .int .i64 0, .string ⟨#[]⟩, .slice none 0 0] 24)) = W := ⟨_, rfl⟩
  rw [hW] at h f0
  have z : ∀ j, W.frozen? ⟨w.heap.size, j, none⟩ = false := fun j => by simp [World.frozen?, h]
  have z0 := z 0; have z1 := z 1; have z2 := z 2; have z3 := z 3; have z4 := z 4
  have c0 : W.cell? ⟨w.heap.size, 0, none⟩ = some (.int .i64 0) := by simp [World.cell?, h]
  have c1 : W.cell? ⟨w.heap.size, 1, none⟩ = some (.int .i64 0) := by simp [World.cell?, h]
  have c2 : W.cell? ⟨w.heap.size, 2, none⟩ = some (.int .i64 0) := by simp [World.cell?, h]
  have c3 : W.cell? ⟨w.heap.size, 3, none⟩ = some (.string ⟨#[]⟩) := by simp [World.cell?, h]
  have c4 : W.cell? ⟨w.heap.size, 4, none⟩ = some (.slice none 0 0) := by simp [World.cell?, h]
  have H := Lib.hid h
  clear h z
  have TR := Lib.hid (fun w => rtri_s t w)
  have LN := Lib.hid (fun w => rcnull_any w)
  have LB := Lib.hid (fun b w => rcbool_any b w)
  rcases triV_d t with ⟨rfl, e⟩ | ⟨rfl, e⟩ | ⟨g0, g2, e⟩
  · rw [e] at TR ⊢
    clear e LN
    go_enter Tryd.func21, Tryd.ntmps21
    go_upto_region 1 with fail
    clear hW
    go_wp2_with fail
    go_at_call 37; refine (TR.out _).mono ?_; rintro e2 w2 ⟨rfl, rfl⟩
    go_wp2_with fail
    go_at_call 40; refine (LB.out _ _).mono ?_; rintro e1 w1 ⟨rfl, f1⟩
    clear z0 z1 z2 z3 z4 c0 c1 c2 c3 c4
    have h := H.out
    have hlt : w.heap.size < W.heap.size := by
      rcases Nat.lt_or_ge w.heap.size W.heap.size with k | k
      · exact k
      · rw [Array.getElem?_eq_none k] at h; cases h
    rw [← Below.block f1.b w.heap.size hlt] at h
    clear H hlt
    have z : ∀ j, w1.frozen? ⟨w.heap.size, j, none⟩ = false := fun j => by simp [World.frozen?, h]
    have z0 := z 0; have z1 := z 1; have z2 := z 2; have z3 := z 3; have z4 := z 4
    have c0 : w1.cell? ⟨w.heap.size, 0, none⟩ = some (.int .i64 0) := by simp [World.cell?, h]
    have c1 : w1.cell? ⟨w.heap.size, 1, none⟩ = some (.int .i64 0) := by simp [World.cell?, h]
    have c2 : w1.cell? ⟨w.heap.size, 2, none⟩ = some (.int .i64 0) := by simp [World.cell?, h]
    have c3 : w1.cell? ⟨w.heap.size, 3, none⟩ = some (.string ⟨#[]⟩) := by simp [World.cell?, h]
    have c4 : w1.cell? ⟨w.heap.size, 4, none⟩ = some (.slice none 0 0) := by simp [World.cell?, h]
    have H := Lib.hid h
    clear h z
    replace f0 := f0.trans f1
    go_wp2
    try simp only [Exit.inBlock, Exit.then]
    exact v_ret rfl rfl (val_put w1 _ _ _ _ _ _ _ _ _ _ _ _ _ H.out) (fur_put5 f0 (Nat.le_refl _) _ _ _ _ _)
  · rw [e] at TR ⊢
    clear e LN
    go_enter Tryd.func21, Tryd.ntmps21
    go_upto_region 1 with fail
    clear hW
    go_wp2_with fail
    go_at_call 37; refine (TR.out _).mono ?_; rintro e2 w2 ⟨rfl, rfl⟩
    go_wp2_with fail
    go_at_call 40; refine (LB.out _ _).mono ?_; rintro e1 w1 ⟨rfl, f1⟩
    clear z0 z1 z2 z3 z4 c0 c1 c2 c3 c4
    have h := H.out
    have hlt : w.heap.size < W.heap.size := by
      rcases Nat.lt_or_ge w.heap.size W.heap.size with k | k
      · exact k
      · rw [Array.getElem?_eq_none k] at h; cases h
    rw [← Below.block f1.b w.heap.size hlt] at h
    clear H hlt
    have z : ∀ j, w1.frozen? ⟨w.heap.size, j, none⟩ = false := fun j => by simp [World.frozen?, h]
    have z0 := z 0; have z1 := z 1; have z2 := z 2; have z3 := z 3; have z4 := z 4
    have c0 : w1.cell? ⟨w.heap.size, 0, none⟩ = some (.int .i64 0) := by simp [World.cell?, h]
    have c1 : w1.cell? ⟨w.heap.size, 1, none⟩ = some (.int .i64 0) := by simp [World.cell?, h]
    have c2 : w1.cell? ⟨w.heap.size, 2, none⟩ = some (.int .i64 0) := by simp [World.cell?, h]
    have c3 : w1.cell? ⟨w.heap.size, 3, none⟩ = some (.string ⟨#[]⟩) := by simp [World.cell?, h]
    have c4 : w1.cell? ⟨w.heap.size, 4, none⟩ = some (.slice none 0 0) := by simp [World.cell?, h]
    have H := Lib.hid h
    clear h z
    replace f0 := f0.trans f1
    go_wp2
    try simp only [Exit.inBlock, Exit.then]
    exact v_ret rfl rfl (val_put w1 _ _ _ _ _ _ _ _ _ _ _ _ _ H.out) (fur_put5 f0 (Nat.le_refl _) _ _ _ _ _)
  · rw [e] at TR ⊢
    clear e LB
    go_enter Tryd.func21, Tryd.ntmps21
    go_upto_region 1 with fail
    clear hW
    go_wp2_with fail
    go_at_call 37; refine (TR.out _).mono ?_; rintro e2 w2 ⟨rfl, rfl⟩
    go_wp2_with fail
    go_at_call 39; refine (LN.out _).mono ?_; rintro e1 w1 ⟨rfl, f1⟩
    clear z0 z1 z2 z3 z4 c0 c1 c2 c3 c4
    have h := H.out
    have hlt : w.heap.size < W.heap.size := by
      rcases Nat.lt_or_ge w.heap.size W.heap.size with k | k
      · exact k
      · rw [Array.getElem?_eq_none k] at h; cases h
    rw [← Below.block f1.b w.heap.size hlt] at h
    clear H hlt
    have z : ∀ j, w1.frozen? ⟨w.heap.size, j, none⟩ = false := fun j => by simp [World.frozen?, h]
    have z0 := z 0; have z1 := z 1; have z2 := z 2; have z3 := z 3; have z4 := z 4
    have c0 : w1.cell? ⟨w.heap.size, 0, none⟩ = some (.int .i64 0) := by simp [World.cell?, h]
    have c1 : w1.cell? ⟨w.heap.size, 1, none⟩ = some (.int .i64 0) := by simp [World.cell?, h]
    have c2 : w1.cell? ⟨w.heap.size, 2, none⟩ = some (.int .i64 0) := by simp [World.cell?, h]
    have c3 : w1.cell? ⟨w.heap.size, 3, none⟩ = some (.string ⟨#[]⟩) := by simp [World.cell?, h]
    have c4 : w1.cell? ⟨w.heap.size, 4, none⟩ = some (.slice none 0 0) := by simp [World.cell?, h]
    have H := Lib.hid h
    clear h z
    replace f0 := f0.trans f1
    go_wp2
    try simp only [Exit.inBlock, Exit.then]
    exact v_ret rfl rfl (val_put w1 _ _ _ _ _ _ _ _ _ _ _ _ _ H.out) (fur_put5 f0 (Nat.le_refl _) _ _ _ _ _)
end Go.Proofs.YtomkanmmfgiemaaDoor
