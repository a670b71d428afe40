/-
  The reference of package value: List and Path, of any values in memory. How large the statements' values are. Nothing that was there turns.
-/
import Derived.Test.YtieicceceggglaaGreatDoorCq
import Derived.Test.YtieicceceggglaaGreatDoorLvQ
import Derived.Test.YtieicceceggglaaGreatDoorRkK
import Derived.Test.YtieicceceggglaaGreatDoorVSize
namespace Go.Proofs.YtieicceceggglaaGreatDoor
open Go.RowKit

mutual
theorem siz_sh : ∀ x : Vl, siz x ≤ 1000 → shV x = true
  | .mk k n d s l, h => by
    unfold siz at h
    unfold shV
    have h1 := sizL_len l
    rw [siz_shL l (by omega), Bool.and_true, decide_eq_true_eq]
    show l.length ≤ 1000000
    omega
theorem siz_shL : ∀ l : List Vl, sizL l ≤ 1000 → shL l = true
  | [], _ => rfl
  | v :: r, h => by
    unfold sizL at h
    unfold shL
    rw [siz_sh v (by omega), siz_shL r (by omega)]; rfl
theorem sizL_len : ∀ l : List Vl, l.length ≤ sizL l
  | [] => Nat.zero_le _
  | v :: r => by
    have h1 := sizL_len r
    have h2 : 1 ≤ siz v := by cases v with | mk k n d s l => unfold siz; omega
    unfold sizL
    rw [List.length_cons]; omega
end
theorem lite_sizL {l : List Vl} (h : lite l = true) : sizL l ≤ 1000 := by
  unfold lite at h
  have k : 0 ≤ ligV [l] 300 := by simpa using h
  have e : ligV [l] 300 = weiL 12 l 299 := rfl
  rw [e] at k
  have := weiL_siz l 12 299 k
  omega
/-- A value built out of a list copied. -/
def RetLc (w : World) (x : Vl) (e : Ending) (w' : World) : Prop := ∃ a k, e = .returned (vlv x a k) ∧ SlV w' a x.ll k ∧ Fuw w w'
theorem vc_ret {fn : Func} {p : Tmp} (hres : fn.results = #[.cell p 24]) {tmps : Array Value} {B : Nat} {x : Vl} {ao : Option Addr} {cap : Nat} {w W : World}
    (hp : tmps.getD p undef = .pointer (some ⟨B, 0, none⟩)) (h : W.heap[B]? = some (.cells #[.int .i64 x.kd, .int .i64 x.nn, .int .i64 x.dd, .string (bs x.ss), .slice ao x.ll.length cap] 24 (0, 0))) (hf : Fuw w W) (hs : SlV W ao x.ll cap) :
    bodyPost Tryz.prog fn (RetLc w x) Exit.ret { tmps := tmps, defers := [] } W := by
  refine bodyPost_ret (v := vlv x ao cap) ?_ rfl ⟨ao, cap, rfl, hs, hf⟩
  have e : (asAddr (.pointer (some ⟨B, 0, none⟩))).run Tryz.prog W = .ok ⟨B, 0, none⟩ W := by go_simp
  have L := load_val W B x.kd x.nn x.dd (bs x.ss) ao x.ll.length cap (by simp [World.cell?, h]) (by simp [World.cell?, h]) (by simp [World.cell?, h]) (by simp [World.cell?, h]) (by simp [World.cell?, h])
  rw [results_cell hres, hp, e]
  simp only [Result.andThen]
  exact L
theorem slV_far {w : World} {B j : Nat} {u : Value} {ao : Option Addr} {l : List Vl} {cap lo : Nat} (h : Kb lo none w (fun w2 => SlV w2 ao l cap)) (hB : B < lo) : Kb lo none (w.setCell ⟨B, j, none⟩ u) (fun w2 => SlV w2 ao l cap) := kb_store h hB
theorem fuw_put5' {w W : World} {B : Nat} (hf : Fuw w W) (hB : w.heap.size ≤ B) (b0 b1 b2 b3 b4 : Value) : Fuw w (((((W.setCell ⟨B, 0, none⟩ b0).setCell ⟨B, 1, none⟩ b1).setCell ⟨B, 2, none⟩ b2).setCell ⟨B, 3, none⟩ b3).setCell ⟨B, 4, none⟩ b4) :=
  fuwS (fuwS (fuwS (fuwS (fuwS hf hB) hB) hB) hB) hB
set_option maxHeartbeats 1600000 in
set_option maxRecDepth 100000 in
theorem rclist_any (l : List Vl) (ao : Option Addr) (cap : Nat) (w : World) (hs : SlV w ao l cap) (hl : sizL l ≤ 1000) : Calls Tryz.prog 42 #[.slice ao l.length cap] w (RetLc w (.mk 8 0 0 [] l)) := by
  obtain ⟨h, f0⟩ := bx0 w
  obtain ⟨W, hW⟩ : ∃ W, (w.alloc (.cells #[.int .i64 0, .int .i64 0, .int .i64 0, .string ⟨#[]⟩, .slice none 0 0] 24)) = W := ⟨_, rfl⟩
  rw [hW] at h f0
  have hz : W.heap.size = w.heap.size + 1 := by rw [← hW]; simp
  have HZ := Lib.hid hz
  have HC := Lib.hid (copy_any l (by have := sizL_len l; omega) (siz_shL l hl) ao cap W (hs.on f0))
  have HB := Lib.hid (show Bk W w.heap.size #[.int .i64 0, .int .i64 0, .int .i64 0, .string ⟨#[]⟩, .slice none 0 0] 24 from h)
  have HF := Lib.hid (show Fuw w W from f0.b)
  clear h hz hs hl f0
  go_enter Tryz.func42, Tryz.ntmps42
  go_upto_region 1 with fail
  clear hW
  go_wp2_with fail
  go_at_call 62; refine HC.out.mono ?_; rintro e1 w1 ⟨v1, rfl, ⟨a2, k2, rfl, hk⟩, f1⟩
  have b1 := HB.out.on f1
  have c0 := b1.c 0; have c1 := b1.c 1; have c2 := b1.c 2; have c3 := b1.c 3; have c4 := b1.c 4
  have z0 := b1.f 0; have z1 := b1.f 1; have z2 := b1.f 2; have z3 := b1.f 3; have z4 := b1.f 4
  have HB1 := Lib.hid b1
  have HK := Lib.hid hk
  have HF1 := Lib.hid (HF.out.trans f1)
  clear b1 hk f1 HC
  go_wp2
  try simp only [Exit.inBlock, Exit.then]
  exact vc_ret (x := .mk 8 0 0 [] l) rfl rfl (val_put w1 _ _ _ _ _ _ _ _ _ _ _ _ _ HB1.out) (fuw_put5' HF1.out (Nat.le_refl _) _ _ _ _ _) (slV_far (slV_far (slV_far (slV_far (slV_far HK.out (by have := HZ.out; omega)) (by have := HZ.out; omega)) (by have := HZ.out; omega)) (by have := HZ.out; omega)) (by have := HZ.out; omega)).now
set_option maxHeartbeats 1600000 in
set_option maxRecDepth 100000 in
theorem rcpath_any (l : List Vl) (ao : Option Addr) (cap : Nat) (w : World) (hs : SlV w ao l cap) (hl : sizL l ≤ 1000) : Calls Tryz.prog 44 #[.slice ao l.length cap] w (RetLc w (.mk 7 0 0 [] l)) := by
  obtain ⟨h, f0⟩ := bx0 w
  obtain ⟨W, hW⟩ : ∃ W, (w.alloc (.cells #[.int .i64 0, .int .i64 0, .int .i64 0, .string ⟨#[]⟩, .slice none 0 0] 24)) = W := ⟨_, rfl⟩
  rw [hW] at h f0
  have hz : W.heap.size = w.heap.size + 1 := by rw [← hW]; simp
  have HZ := Lib.hid hz
  have HC := Lib.hid (copy_any l (by have := sizL_len l; omega) (siz_shL l hl) ao cap W (hs.on f0))
  have HB := Lib.hid (show Bk W w.heap.size #[.int .i64 0, .int .i64 0, .int .i64 0, .string ⟨#[]⟩, .slice none 0 0] 24 from h)
  have HF := Lib.hid (show Fuw w W from f0.b)
  clear h hz hs hl f0
  go_enter Tryz.func44, Tryz.ntmps44
  go_upto_region 1 with fail
  clear hW
  go_wp2_with fail
  go_at_call 62; refine HC.out.mono ?_; rintro e1 w1 ⟨v1, rfl, ⟨a2, k2, rfl, hk⟩, f1⟩
  have b1 := HB.out.on f1
  have c0 := b1.c 0; have c1 := b1.c 1; have c2 := b1.c 2; have c3 := b1.c 3; have c4 := b1.c 4
  have z0 := b1.f 0; have z1 := b1.f 1; have z2 := b1.f 2; have z3 := b1.f 3; have z4 := b1.f 4
  have HB1 := Lib.hid b1
  have HK := Lib.hid hk
  have HF1 := Lib.hid (HF.out.trans f1)
  clear b1 hk f1 HC
  go_wp2
  try simp only [Exit.inBlock, Exit.then]
  exact vc_ret (x := .mk 7 0 0 [] l) rfl rfl (val_put w1 _ _ _ _ _ _ _ _ _ _ _ _ _ HB1.out) (fuw_put5' HF1.out (Nat.le_refl _) _ _ _ _ _) (slV_far (slV_far (slV_far (slV_far (slV_far HK.out (by have := HZ.out; omega)) (by have := HZ.out; omega)) (by have := HZ.out; omega)) (by have := HZ.out; omega)) (by have := HZ.out; omega)).now
end Go.Proofs.YtieicceceggglaaGreatDoor
