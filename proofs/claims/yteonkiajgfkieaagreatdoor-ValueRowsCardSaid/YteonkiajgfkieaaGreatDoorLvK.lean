/-
  Package value: the constructors and FromTruth. Nothing that was there turns.
-/
import Derived.Test.YteonkiajgfkieaaGreatDoorLvJ
namespace Go.Proofs.YteonkiajgfkieaaGreatDoor
open Go.RowKit

/-- A result of five cells. -/
def RetA (w : World) (a : Array Value) (e : Ending) (w' : World) : Prop := e = .returned (.agg a) ∧ Fur w w'
theorem load_val (w : World) (b : Nat) (k n d : Int) (s : ByteArray) (ao : Option Addr) (len cap : Nat) (h0 : w.cell? ⟨b, 0, none⟩ = some (.int .i64 k)) (h1 : w.cell? ⟨b, 1, none⟩ = some (.int .i64 n)) (h2 : w.cell? ⟨b, 2, none⟩ = some (.int .i64 d)) (h3 : w.cell? ⟨b, 3, none⟩ = some (.string s)) (h4 : w.cell? ⟨b, 4, none⟩ = some (.slice ao len cap)) :
    (loadVar 34 ⟨b, 0, none⟩).run Tryz.prog w = .ok (.agg #[.int .i64 k, .int .i64 n, .int .i64 d, .string s, .slice ao len cap]) w := by
  go_simp
theorem v_ret {fn : Func} {p : Tmp} (hres : fn.results = #[.cell p 34]) {tmps : Array Value} {B : Nat} {k n d : Int} {s : ByteArray} {ao : Option Addr} {len cap : Nat} {w W : World}
    (hp : tmps.getD p undef = .pointer (some ⟨B, 0, none⟩)) (h : W.heap[B]? = some (.cells #[.int .i64 k, .int .i64 n, .int .i64 d, .string s, .slice ao len cap] 34 (0, 0))) (hf : Fur w W) :
    bodyPost Tryz.prog fn (RetA w #[.int .i64 k, .int .i64 n, .int .i64 d, .string s, .slice ao len cap]) Exit.ret { tmps := tmps, defers := [] } W := by
  refine bodyPost_ret (v := .agg #[.int .i64 k, .int .i64 n, .int .i64 d, .string s, .slice ao len cap]) ?_ rfl ⟨rfl, hf⟩
  have e : (asAddr (.pointer (some ⟨B, 0, none⟩))).run Tryz.prog W = .ok ⟨B, 0, none⟩ W := by go_simp
  have L := load_val W B k n d s ao len cap (by simp [World.cell?, h]) (by simp [World.cell?, h]) (by simp [World.cell?, h]) (by simp [World.cell?, h]) (by simp [World.cell?, h])
  rw [results_cell hres, hp, e]
  simp only [Result.andThen]
  exact L
/-- Five stores. -/
theorem val_put (W : World) (B : Nat) (a0 a1 a2 a3 a4 b0 b1 b2 b3 b4 : Value) (t : TypeId) (fz : Nat × Nat) (h : W.heap[B]? = some (.cells #[a0, a1, a2, a3, a4] t fz)) :
    (((((W.setCell ⟨B, 0, none⟩ b0).setCell ⟨B, 1, none⟩ b1).setCell ⟨B, 2, none⟩ b2).setCell ⟨B, 3, none⟩ b3).setCell ⟨B, 4, none⟩ b4).heap[B]? = some (.cells #[b0, b1, b2, b3, b4] t fz) := by
  simp [World.setCell, Array.getElem?_modify, h]
theorem fur_put5 {w W : World} {B : Nat} (hf : Fur w W) (hB : w.heap.size ≤ B) (b0 b1 b2 b3 b4 : Value) : Fur w (((((W.setCell ⟨B, 0, none⟩ b0).setCell ⟨B, 1, none⟩ b1).setCell ⟨B, 2, none⟩ b2).setCell ⟨B, 3, none⟩ b3).setCell ⟨B, 4, none⟩ b4) :=
  fur_set (fur_set (fur_set (fur_set (fur_set hf hB) hB) hB) hB) hB
/-- An empty box. -/
theorem bx0 (w : World) : (w.alloc (.cells #[.int .i64 0, .int .i64 0, .int .i64 0, .string ⟨#[]⟩, .slice none 0 0] 34)).heap[w.heap.size]? = some (.cells #[.int .i64 0, .int .i64 0, .int .i64 0, .string ⟨#[]⟩, .slice none 0 0] 34 (0, 0)) ∧ Fur w (w.alloc (.cells #[.int .i64 0, .int .i64 0, .int .i64 0, .string ⟨#[]⟩, .slice none 0 0] 34)) := by
  refine ⟨?_, (Fur.refl w).alloc _⟩
  show (w.heap.push _)[w.heap.size]? = _
  rw [Array.getElem?_push, if_pos rfl]

theorem lnull_any (w : World) : Calls Tryz.prog 17 #[] w (RetA w #[.int .i64 0, .int .i64 0, .int .i64 0, .string ⟨#[]⟩, .slice none 0 0]) := by
  obtain ⟨h, f0⟩ := bx0 w
  obtain ⟨W, hW⟩ : ∃ W, (w.alloc (.cells #[.int .i64 0, .int .i64 0, .int .i64 0, .string ⟨#[]⟩, .slice none 0 0] 34)) = W := ⟨_, rfl⟩
  rw [hW] at h f0
  have z : ∀ j, W.frozen? ⟨w.heap.size, j, none⟩ = false := fun j => by simp [World.frozen?, h]
  have z0 := z 0; have z1 := z 1; have z2 := z 2; have z3 := z 3; have z4 := z 4
  have c0 : W.cell? ⟨w.heap.size, 0, none⟩ = some (.int .i64 0) := by simp [World.cell?, h]
  have c1 : W.cell? ⟨w.heap.size, 1, none⟩ = some (.int .i64 0) := by simp [World.cell?, h]
  have c2 : W.cell? ⟨w.heap.size, 2, none⟩ = some (.int .i64 0) := by simp [World.cell?, h]
  have c3 : W.cell? ⟨w.heap.size, 3, none⟩ = some (.string ⟨#[]⟩) := by simp [World.cell?, h]
  have c4 : W.cell? ⟨w.heap.size, 4, none⟩ = some (.slice none 0 0) := by simp [World.cell?, h]
  have H := Lib.hid h
  clear h z
  go_enter Tryz.func17, Tryz.ntmps17
  go_upto_region 1 with fail
  clear hW
  go_wp2
  try simp only [Exit.inBlock, Exit.then]
  exact v_ret rfl rfl (val_put W _ _ _ _ _ _ _ _ _ _ _ _ _ H.out) (fur_put5 f0 (Nat.le_refl _) _ _ _ _ _)
theorem lint_any (n : Int) (w : World) : Calls Tryz.prog 16 #[.int .i64 n] w (RetA w #[.int .i64 2, .int .i64 n, .int .i64 0, .string ⟨#[]⟩, .slice none 0 0]) := by
  obtain ⟨h, f0⟩ := bx0 w
  obtain ⟨W, hW⟩ : ∃ W, (w.alloc (.cells #[.int .i64 0, .int .i64 0, .int .i64 0, .string ⟨#[]⟩, .slice none 0 0] 34)) = W := ⟨_, rfl⟩
  rw [hW] at h f0
  have z : ∀ j, W.frozen? ⟨w.heap.size, j, none⟩ = false := fun j => by simp [World.frozen?, h]
  have z0 := z 0; have z1 := z 1; have z2 := z 2; have z3 := z 3; have z4 := z 4
  have c0 : W.cell? ⟨w.heap.size, 0, none⟩ = some (.int .i64 0) := by simp [World.cell?, h]
  have c1 : W.cell? ⟨w.heap.size, 1, none⟩ = some (.int .i64 0) := by simp [World.cell?, h]
  have c2 : W.cell? ⟨w.heap.size, 2, none⟩ = some (.int .i64 0) := by simp [World.cell?, h]
  have c3 : W.cell? ⟨w.heap.size, 3, none⟩ = some (.string ⟨#[]⟩) := by simp [World.cell?, h]
  have c4 : W.cell? ⟨w.heap.size, 4, none⟩ = some (.slice none 0 0) := by simp [World.cell?, h]
  have H := Lib.hid h
  clear h z
  go_enter Tryz.func16, Tryz.ntmps16
  go_upto_region 1 with fail
  clear hW
  go_wp2
  try simp only [Exit.inBlock, Exit.then]
  exact v_ret rfl rfl (val_put W _ _ _ _ _ _ _ _ _ _ _ _ _ H.out) (fur_put5 f0 (Nat.le_refl _) _ _ _ _ _)
theorem lstr_any (s : ByteArray) (w : World) : Calls Tryz.prog 18 #[.string s] w (RetA w #[.int .i64 4, .int .i64 0, .int .i64 0, .string s, .slice none 0 0]) := by
  obtain ⟨h, f0⟩ := bx0 w
  obtain ⟨W, hW⟩ : ∃ W, (w.alloc (.cells #[.int .i64 0, .int .i64 0, .int .i64 0, .string ⟨#[]⟩, .slice none 0 0] 34)) = W := ⟨_, rfl⟩
  rw [hW] at h f0
  have z : ∀ j, W.frozen? ⟨w.heap.size, j, none⟩ = false := fun j => by simp [World.frozen?, h]
  have z0 := z 0; have z1 := z 1; have z2 := z 2; have z3 := z 3; have z4 := z 4
  have c0 : W.cell? ⟨w.heap.size, 0, none⟩ = some (.int .i64 0) := by simp [World.cell?, h]
  have c1 : W.cell? ⟨w.heap.size, 1, none⟩ = some (.int .i64 0) := by simp [World.cell?, h]
  have c2 : W.cell? ⟨w.heap.size, 2, none⟩ = some (.int .i64 0) := by simp [World.cell?, h]
  have c3 : W.cell? ⟨w.heap.size, 3, none⟩ = some (.string ⟨#[]⟩) := by simp [World.cell?, h]
  have c4 : W.cell? ⟨w.heap.size, 4, none⟩ = some (.slice none 0 0) := by simp [World.cell?, h]
  have H := Lib.hid h
  clear h z
  go_enter Tryz.func18, Tryz.ntmps18
  go_upto_region 1 with fail
  clear hW
  go_wp2
  try simp only [Exit.inBlock, Exit.then]
  exact v_ret rfl rfl (val_put W _ _ _ _ _ _ _ _ _ _ _ _ _ H.out) (fur_put5 f0 (Nat.le_refl _) _ _ _ _ _)
theorem lnode_any (n : Int) (w : World) : Calls Tryz.prog 19 #[.int .i64 n] w (RetA w #[.int .i64 5, .int .i64 n, .int .i64 0, .string ⟨#[]⟩, .slice none 0 0]) := by
  obtain ⟨h, f0⟩ := bx0 w
  obtain ⟨W, hW⟩ : ∃ W, (w.alloc (.cells #[.int .i64 0, .int .i64 0, .int .i64 0, .string ⟨#[]⟩, .slice none 0 0] 34)) = W := ⟨_, rfl⟩
  rw [hW] at h f0
  have z : ∀ j, W.frozen? ⟨w.heap.size, j, none⟩ = false := fun j => by simp [World.frozen?, h]
  have z0 := z 0; have z1 := z 1; have z2 := z 2; have z3 := z 3; have z4 := z 4
  have c0 : W.cell? ⟨w.heap.size, 0, none⟩ = some (.int .i64 0) := by simp [World.cell?, h]
  have c1 : W.cell? ⟨w.heap.size, 1, none⟩ = some (.int .i64 0) := by simp [World.cell?, h]
  have c2 : W.cell? ⟨w.heap.size, 2, none⟩ = some (.int .i64 0) := by simp [World.cell?, h]
  have c3 : W.cell? ⟨w.heap.size, 3, none⟩ = some (.string ⟨#[]⟩) := by simp [World.cell?, h]
  have c4 : W.cell? ⟨w.heap.size, 4, none⟩ = some (.slice none 0 0) := by simp [World.cell?, h]
  have H := Lib.hid h
  clear h z
  go_enter Tryz.func19, Tryz.ntmps19
  go_upto_region 1 with fail
  clear hW
  go_wp2
  try simp only [Exit.inBlock, Exit.then]
  exact v_ret rfl rfl (val_put W _ _ _ _ _ _ _ _ _ _ _ _ _ H.out) (fur_put5 f0 (Nat.le_refl _) _ _ _ _ _)
theorem llist_any (ao : Option Addr) (len cap : Nat) (w : World) : Calls Tryz.prog 15 #[.slice ao len cap] w (RetA w #[.int .i64 8, .int .i64 0, .int .i64 0, .string ⟨#[]⟩, .slice ao len cap]) := by
  obtain ⟨h, f0⟩ := bx0 w
  obtain ⟨W, hW⟩ : ∃ W, (w.alloc (.cells #[.int .i64 0, .int .i64 0, .int .i64 0, .string ⟨#[]⟩, .slice none 0 0] 34)) = W := ⟨_, rfl⟩
  rw [hW] at h f0
  have z : ∀ j, W.frozen? ⟨w.heap.size, j, none⟩ = false := fun j => by simp [World.frozen?, h]
  have z0 := z 0; have z1 := z 1; have z2 := z 2; have z3 := z 3; have z4 := z 4
  have c0 : W.cell? ⟨w.heap.size, 0, none⟩ = some (.int .i64 0) := by simp [World.cell?, h]
  have c1 : W.cell? ⟨w.heap.size, 1, none⟩ = some (.int .i64 0) := by simp [World.cell?, h]
  have c2 : W.cell? ⟨w.heap.size, 2, none⟩ = some (.int .i64 0) := by simp [World.cell?, h]
  have c3 : W.cell? ⟨w.heap.size, 3, none⟩ = some (.string ⟨#[]⟩) := by simp [World.cell?, h]
  have c4 : W.cell? ⟨w.heap.size, 4, none⟩ = some (.slice none 0 0) := by simp [World.cell?, h]
  have H := Lib.hid h
  clear h z
  go_enter Tryz.func15, Tryz.ntmps15
  go_upto_region 1 with fail
  clear hW
  go_wp2
  try simp only [Exit.inBlock, Exit.then]
  exact v_ret rfl rfl (val_put W _ _ _ _ _ _ _ _ _ _ _ _ _ H.out) (fur_put5 f0 (Nat.le_refl _) _ _ _ _ _)
theorem lbool_any (b : Bool) (w : World) : Calls Tryz.prog 24 #[.bool b] w (RetA w #[.int .i64 1, .int .i64 (if b = true then 1 else 0), .int .i64 0, .string ⟨#[]⟩, .slice none 0 0]) := by
  obtain ⟨h, f0⟩ := bx0 w
  obtain ⟨W, hW⟩ : ∃ W, (w.alloc (.cells #[.int .i64 0, .int .i64 0, .int .i64 0, .string ⟨#[]⟩, .slice none 0 0] 34)) = W := ⟨_, rfl⟩
  rw [hW] at h f0
  have z : ∀ j, W.frozen? ⟨w.heap.size, j, none⟩ = false := fun j => by simp [World.frozen?, h]
  have z0 := z 0; have z1 := z 1; have z2 := z 2; have z3 := z 3; have z4 := z 4
  have c0 : W.cell? ⟨w.heap.size, 0, none⟩ = some (.int .i64 0) := by simp [World.cell?, h]
  have c1 : W.cell? ⟨w.heap.size, 1, none⟩ = some (.int .i64 0) := by simp [World.cell?, h]
  have c2 : W.cell? ⟨w.heap.size, 2, none⟩ = some (.int .i64 0) := by simp [World.cell?, h]
  have c3 : W.cell? ⟨w.heap.size, 3, none⟩ = some (.string ⟨#[]⟩) := by simp [World.cell?, h]
  have c4 : W.cell? ⟨w.heap.size, 4, none⟩ = some (.slice none 0 0) := by simp [World.cell?, h]
  have H := Lib.hid h
  clear h z
  cases b
  · rw [if_neg (by decide)]
    go_enter Tryz.func24, Tryz.ntmps24
    go_upto_region 1 with fail
    clear hW
    go_wp2
    try simp only [Exit.inBlock, Exit.then]
    exact v_ret rfl rfl (val_put W _ _ _ _ _ _ _ _ _ _ _ _ _ H.out) (fur_put5 f0 (Nat.le_refl _) _ _ _ _ _)
  · rw [if_pos rfl]
    go_enter Tryz.func24, Tryz.ntmps24
    go_upto_region 1 with fail
    clear hW
    go_wp2
    try simp only [Exit.inBlock, Exit.then]
    exact v_ret rfl rfl (val_put W _ _ _ _ _ _ _ _ _ _ _ _ _ H.out) (fur_put5 f0 (Nat.le_refl _) _ _ _ _ _)
/-- The kind and the denominator of a number's value. -/
def ratK (d : Int) : Int := if d = 1 then 2 else 3
def ratD (d : Int) : Int := if d = 1 then 0 else d
set_option maxHeartbeats 800000 in
theorem lrat_any (n d : Int) (w : World) : Calls Tryz.prog 14 #[.agg #[.int .i64 n, .int .i64 d]] w (RetA w #[.int .i64 (ratK d), .int .i64 n, .int .i64 (ratD d), .string ⟨#[]⟩, .slice none 0 0]) := by
  obtain ⟨p0, q0⟩ := box1 w n d
  obtain ⟨h, f0⟩ := bx0 (w.alloc (.cells #[.int .i64 n, .int .i64 d] 37))
  have s0 : (w.alloc (.cells #[.int .i64 n, .int .i64 d] 37)).heap.size = w.heap.size + 1 := by simp
  rw [s0] at h
  replace p0 := p0.on f0
  replace f0 := q0.trans f0
  clear q0 s0
  obtain ⟨W, hW⟩ : ∃ W, ((w.alloc (.cells #[.int .i64 n, .int .i64 d] 37)).alloc (.cells #[.int .i64 0, .int .i64 0, .int .i64 0, .string ⟨#[]⟩, .slice none 0 0] 34)) = W := ⟨_, rfl⟩
  rw [hW] at h f0 p0
  have z : ∀ j, W.frozen? ⟨w.heap.size + 1, j, none⟩ = false := fun j => by simp [World.frozen?, h]
  have z0 := z 0; have z1 := z 1; have z2 := z 2; have z3 := z 3; have z4 := z 4
  have c0 : W.cell? ⟨w.heap.size + 1, 0, none⟩ = some (.int .i64 0) := by simp [World.cell?, h]
  have c1 : W.cell? ⟨w.heap.size + 1, 1, none⟩ = some (.int .i64 0) := by simp [World.cell?, h]
  have c2 : W.cell? ⟨w.heap.size + 1, 2, none⟩ = some (.int .i64 0) := by simp [World.cell?, h]
  have c3 : W.cell? ⟨w.heap.size + 1, 3, none⟩ = some (.string ⟨#[]⟩) := by simp [World.cell?, h]
  have c4 : W.cell? ⟨w.heap.size + 1, 4, none⟩ = some (.slice none 0 0) := by simp [World.cell?, h]
  have H := Lib.hid h
  clear h z
  have k0 := p0.c0; have k1 := p0.c1
  have LI := Lib.hid (fun n w => lint_any n w)
  by_cases hd : d = 1
  · subst hd
    rw [show ratK 1 = 2 from rfl, show ratD 1 = 0 from rfl]
    go_enter Tryz.func14, Tryz.ntmps14
    go_upto_region 1 with fail
    clear hW
    go_wp2_with fail
    go_at_call 16; refine (LI.out _ _).mono ?_; rintro e1 w1 ⟨rfl, f1⟩
    clear z0 z1 z2 z3 z4 c0 c1 c2 c3 c4 k0 k1
    have h := H.out
    have hlt : w.heap.size + 1 < W.heap.size := by
      rcases Nat.lt_or_ge (w.heap.size + 1) W.heap.size with k | k
      · exact k
      · rw [Array.getElem?_eq_none k] at h; cases h
    rw [← Below.block f1.b (w.heap.size + 1) hlt] at h
    clear H hlt
    have z : ∀ j, w1.frozen? ⟨w.heap.size + 1, j, none⟩ = false := fun j => by simp [World.frozen?, h]
    have z0 := z 0; have z1 := z 1; have z2 := z 2; have z3 := z 3; have z4 := z 4
    have c0 : w1.cell? ⟨w.heap.size + 1, 0, none⟩ = some (.int .i64 0) := by simp [World.cell?, h]
    have c1 : w1.cell? ⟨w.heap.size + 1, 1, none⟩ = some (.int .i64 0) := by simp [World.cell?, h]
    have c2 : w1.cell? ⟨w.heap.size + 1, 2, none⟩ = some (.int .i64 0) := by simp [World.cell?, h]
    have c3 : w1.cell? ⟨w.heap.size + 1, 3, none⟩ = some (.string ⟨#[]⟩) := by simp [World.cell?, h]
    have c4 : w1.cell? ⟨w.heap.size + 1, 4, none⟩ = some (.slice none 0 0) := by simp [World.cell?, h]
    have H := Lib.hid h
    clear h z
    replace f0 := f0.trans f1
    go_wp2
    try simp only [Exit.inBlock, Exit.then]
    exact v_ret rfl rfl (val_put w1 _ _ _ _ _ _ _ _ _ _ _ _ _ H.out) (fur_put5 f0 (Nat.le_succ _) _ _ _ _ _)
  · rw [show ratK d = 3 from if_neg hd, show ratD d = d from if_neg hd]
    have g : (d == 1) = false := beq_eq_false_iff_ne.2 hd
    clear hd LI
    go_enter Tryz.func14, Tryz.ntmps14
    go_upto_region 1 with fail
    clear hW
    go_wp2
    try simp only [Exit.inBlock, Exit.then]
    exact v_ret rfl rfl (val_put W _ _ _ _ _ _ _ _ _ _ _ _ _ H.out) (fur_put5 f0 (Nat.le_succ _) _ _ _ _ _)
end Go.Proofs.YteonkiajgfkieaaGreatDoor
