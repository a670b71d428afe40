/-
  The reference of package codec: what follows the byte of a kind that is neither a list's nor a path's (content). Nothing that was there turns.
-/
import Derived.Test.YtehmdeponbhhjaaDoorM24
import Derived.Test.YtehmdeponbhhjaaDoorCeB
namespace Go.Proofs.YtehmdeponbhhjaaDoor
open Go.RowKit

/-- What content gives: a value and the offset behind it, or a code beside any value. -/
def RetC (w : World) (o : Rs) (e : Ending) (w' : World) : Prop :=
  Fuw w w' ∧ match o with
    | .ok x E => ∃ a2 c2, e = .returned (.tuple #[.agg (vc x a2 c2), .int .i64 E, .int .i64 0]) ∧ Kp w.heap.size w' (fun w2 => SlV w2 a2 x.ll c2)
    | .er c => ∃ y a2 c2 E, e = .returned (.tuple #[.agg (vc y a2 c2), .int .i64 E, .int .i64 c]) ∧ c ≠ 0
/-- Two boxes: the result's, and that of the value that is read. -/
theorem two_box (w : World) (k : Int) : ((w.alloc (.cells #[.int .i64 0, .int .i64 0, .int .i64 0, .string ⟨#[]⟩, .slice none 0 0] 26)).alloc (.cells #[.int .i64 k, .int .i64 0, .int .i64 0, .string ⟨#[]⟩, .slice none 0 0] 26)).heap[w.heap.size]? = some (.cells (vc v0 none 0) 26 (0, 0)) ∧ ((w.alloc (.cells #[.int .i64 0, .int .i64 0, .int .i64 0, .string ⟨#[]⟩, .slice none 0 0] 26)).alloc (.cells #[.int .i64 k, .int .i64 0, .int .i64 0, .string ⟨#[]⟩, .slice none 0 0] 26)).heap[w.heap.size + 1]? = some (.cells (vc (vk k) none 0) 26 (0, 0)) ∧ Fuw w ((w.alloc (.cells #[.int .i64 0, .int .i64 0, .int .i64 0, .string ⟨#[]⟩, .slice none 0 0] 26)).alloc (.cells #[.int .i64 k, .int .i64 0, .int .i64 0, .string ⟨#[]⟩, .slice none 0 0] 26)) := by
  refine ⟨?_, ?_, ((Fuw.refl w).alloc _).alloc _⟩
  · show ((w.heap.push _).push _)[w.heap.size]? = _
    rw [Array.getElem?_push, if_neg (by simp), Array.getElem?_push, if_pos rfl]; rfl
  · show ((w.heap.push _).push _)[w.heap.size + 1]? = _
    rw [Array.getElem?_push, if_pos (by simp)]; rfl
/-- Content of one number: the value with that number, whatever the code. -/
def RetN5 (w : World) (x : Vl) (E c : Int) (e : Ending) (w' : World) : Prop := Fuw w w' ∧ e = .returned (.tuple #[.agg (vc x none 0), .int .i64 E, .int .i64 c])
set_option maxHeartbeats 6400000 in
set_option maxRecDepth 100000 in
theorem rc_int1 (ao : Option Addr) (l : List UInt8) (cap : Nat) (a lists : Int) (h0 : -9223372036854775808 ≤ a) (h1 : a ≤ 9223372036854775807) (w : World) (h : IsB w ao l cap) (hl : l.length ≤ 1000000000000) (n E c : Int) (hv : intV l a = (n, E, c)) :
    Calls Tryd.prog 31 #[.slice ao l.length cap, .int .i64 a, .int .i64 1, .int .i64 lists] w (RetN5 w (.mk 1 n 0 [] []) E c) := by
  have HI := Lib.hid (fun w' (hf : Fuw w w') => rint_is ao l cap a h0 h1 w' (h.on hf) hl n E c hv)
  clear h hl hv h0 h1
  go_enter Tryd.func31, Tryd.ntmps31
  go_upto_region 2 with fail
  obtain ⟨W, hW⟩ : ∃ W, (w.alloc (.cells #[.int .i64 0, .int .i64 0, .int .i64 0, .string ⟨#[]⟩, .slice none 0 0] 26)).alloc (.cells #[.int .i64 1, .int .i64 0, .int .i64 0, .string ⟨#[]⟩, .slice none 0 0] 26) = W := ⟨_, rfl⟩
  obtain ⟨hR, hB, hF⟩ : W.heap[w.heap.size]? = some (.cells (vc v0 none 0) 26 (0, 0)) ∧ W.heap[w.heap.size + 1]? = some (.cells (vc (vk 1) none 0) 26 (0, 0)) ∧ Fuw w W := by rw [← hW]; exact two_box w 1
  rw [hW]
  clear hW
  have HF := Lib.hid hF
  have HR := Lib.hid hR
  have HB := Lib.hid hB
  clear hF hR hB
  obtain ⟨x0, x1, x2, x3, x4, xf, xl⟩ := vc_cells HB.out
  obtain ⟨y0, y1, y2, y3, y4, yf, yl⟩ := vc_cells HR.out
  have xf1 := xf 1; have xf2 := xf 2; have xf3 := xf 3
  have yf0 := yf 0; have yf1 := yf 1; have yf2 := yf 2; have yf3 := yf 3; have yf4 := yf 4
  clear xf yf
  go_wp2_with fail
  go_at_call 45; refine (HI.out _ HF.out).mono ?_; rintro e1 w1 ⟨rfl, rfl⟩
  clear HI
  go_wp2
  try simp only [Exit.inBlock, Exit.then]
  refine vg_ret (x := .mk 1 n 0 [] []) (B := w.heap.size) (cap := 0) (ao := none) rfl rfl rfl rfl (val_put' _ w.heap.size _ _ _ _ _ _ _ _ _ _ _ _ ((heap_set_other (by omega)).trans HR.out)) ⟨?_, rfl⟩
  exact fuw_put5 (fuw_set HF.out (by omega)) (Nat.le_refl _) _ _ _ _ _
set_option maxHeartbeats 6400000 in
set_option maxRecDepth 100000 in
theorem rc_int2 (ao : Option Addr) (l : List UInt8) (cap : Nat) (a lists : Int) (h0 : -9223372036854775808 ≤ a) (h1 : a ≤ 9223372036854775807) (w : World) (h : IsB w ao l cap) (hl : l.length ≤ 1000000000000) (n E c : Int) (hv : intV l a = (n, E, c)) :
    Calls Tryd.prog 31 #[.slice ao l.length cap, .int .i64 a, .int .i64 2, .int .i64 lists] w (RetN5 w (.mk 2 n 0 [] []) E c) := by
  have HI := Lib.hid (fun w' (hf : Fuw w w') => rint_is ao l cap a h0 h1 w' (h.on hf) hl n E c hv)
  clear h hl hv h0 h1
  go_enter Tryd.func31, Tryd.ntmps31
  go_upto_region 2 with fail
  obtain ⟨W, hW⟩ : ∃ W, (w.alloc (.cells #[.int .i64 0, .int .i64 0, .int .i64 0, .string ⟨#[]⟩, .slice none 0 0] 26)).alloc (.cells #[.int .i64 2, .int .i64 0, .int .i64 0, .string ⟨#[]⟩, .slice none 0 0] 26) = W := ⟨_, rfl⟩
  obtain ⟨hR, hB, hF⟩ : W.heap[w.heap.size]? = some (.cells (vc v0 none 0) 26 (0, 0)) ∧ W.heap[w.heap.size + 1]? = some (.cells (vc (vk 2) none 0) 26 (0, 0)) ∧ Fuw w W := by rw [← hW]; exact two_box w 2
  rw [hW]
  clear hW
  have HF := Lib.hid hF
  have HR := Lib.hid hR
  have HB := Lib.hid hB
  clear hF hR hB
  obtain ⟨x0, x1, x2, x3, x4, xf, xl⟩ := vc_cells HB.out
  obtain ⟨y0, y1, y2, y3, y4, yf, yl⟩ := vc_cells HR.out
  have xf1 := xf 1; have xf2 := xf 2; have xf3 := xf 3
  have yf0 := yf 0; have yf1 := yf 1; have yf2 := yf 2; have yf3 := yf 3; have yf4 := yf 4
  clear xf yf
  go_wp2_with fail
  go_at_call 45; refine (HI.out _ HF.out).mono ?_; rintro e1 w1 ⟨rfl, rfl⟩
  clear HI
  go_wp2
  try simp only [Exit.inBlock, Exit.then]
  refine vg_ret (x := .mk 2 n 0 [] []) (B := w.heap.size) (cap := 0) (ao := none) rfl rfl rfl rfl (val_put' _ w.heap.size _ _ _ _ _ _ _ _ _ _ _ _ ((heap_set_other (by omega)).trans HR.out)) ⟨?_, rfl⟩
  exact fuw_put5 (fuw_set HF.out (by omega)) (Nat.le_refl _) _ _ _ _ _
set_option maxHeartbeats 6400000 in
set_option maxRecDepth 100000 in
theorem rc_int5 (ao : Option Addr) (l : List UInt8) (cap : Nat) (a lists : Int) (h0 : -9223372036854775808 ≤ a) (h1 : a ≤ 9223372036854775807) (w : World) (h : IsB w ao l cap) (hl : l.length ≤ 1000000000000) (n E c : Int) (hv : intV l a = (n, E, c)) :
    Calls Tryd.prog 31 #[.slice ao l.length cap, .int .i64 a, .int .i64 5, .int .i64 lists] w (RetN5 w (.mk 5 n 0 [] []) E c) := by
  have HI := Lib.hid (fun w' (hf : Fuw w w') => rint_is ao l cap a h0 h1 w' (h.on hf) hl n E c hv)
  clear h hl hv h0 h1
  go_enter Tryd.func31, Tryd.ntmps31
  go_upto_region 2 with fail
  obtain ⟨W, hW⟩ : ∃ W, (w.alloc (.cells #[.int .i64 0, .int .i64 0, .int .i64 0, .string ⟨#[]⟩, .slice none 0 0] 26)).alloc (.cells #[.int .i64 5, .int .i64 0, .int .i64 0, .string ⟨#[]⟩, .slice none 0 0] 26) = W := ⟨_, rfl⟩
  obtain ⟨hR, hB, hF⟩ : W.heap[w.heap.size]? = some (.cells (vc v0 none 0) 26 (0, 0)) ∧ W.heap[w.heap.size + 1]? = some (.cells (vc (vk 5) none 0) 26 (0, 0)) ∧ Fuw w W := by rw [← hW]; exact two_box w 5
  rw [hW]
  clear hW
  have HF := Lib.hid hF
  have HR := Lib.hid hR
  have HB := Lib.hid hB
  clear hF hR hB
  obtain ⟨x0, x1, x2, x3, x4, xf, xl⟩ := vc_cells HB.out
  obtain ⟨y0, y1, y2, y3, y4, yf, yl⟩ := vc_cells HR.out
  have xf1 := xf 1; have xf2 := xf 2; have xf3 := xf 3
  have yf0 := yf 0; have yf1 := yf 1; have yf2 := yf 2; have yf3 := yf 3; have yf4 := yf 4
  clear xf yf
  go_wp2_with fail
  go_at_call 45; refine (HI.out _ HF.out).mono ?_; rintro e1 w1 ⟨rfl, rfl⟩
  clear HI
  go_wp2
  try simp only [Exit.inBlock, Exit.then]
  refine vg_ret (x := .mk 5 n 0 [] []) (B := w.heap.size) (cap := 0) (ao := none) rfl rfl rfl rfl (val_put' _ w.heap.size _ _ _ _ _ _ _ _ _ _ _ _ ((heap_set_other (by omega)).trans HR.out)) ⟨?_, rfl⟩
  exact fuw_put5 (fuw_set HF.out (by omega)) (Nat.le_refl _) _ _ _ _ _
set_option maxHeartbeats 6400000 in
set_option maxRecDepth 100000 in
theorem rc_int6 (ao : Option Addr) (l : List UInt8) (cap : Nat) (a lists : Int) (h0 : -9223372036854775808 ≤ a) (h1 : a ≤ 9223372036854775807) (w : World) (h : IsB w ao l cap) (hl : l.length ≤ 1000000000000) (n E c : Int) (hv : intV l a = (n, E, c)) :
    Calls Tryd.prog 31 #[.slice ao l.length cap, .int .i64 a, .int .i64 6, .int .i64 lists] w (RetN5 w (.mk 6 n 0 [] []) E c) := by
  have HI := Lib.hid (fun w' (hf : Fuw w w') => rint_is ao l cap a h0 h1 w' (h.on hf) hl n E c hv)
  clear h hl hv h0 h1
  go_enter Tryd.func31, Tryd.ntmps31
  go_upto_region 2 with fail
  obtain ⟨W, hW⟩ : ∃ W, (w.alloc (.cells #[.int .i64 0, .int .i64 0, .int .i64 0, .string ⟨#[]⟩, .slice none 0 0] 26)).alloc (.cells #[.int .i64 6, .int .i64 0, .int .i64 0, .string ⟨#[]⟩, .slice none 0 0] 26) = W := ⟨_, rfl⟩
  obtain ⟨hR, hB, hF⟩ : W.heap[w.heap.size]? = some (.cells (vc v0 none 0) 26 (0, 0)) ∧ W.heap[w.heap.size + 1]? = some (.cells (vc (vk 6) none 0) 26 (0, 0)) ∧ Fuw w W := by rw [← hW]; exact two_box w 6
  rw [hW]
  clear hW
  have HF := Lib.hid hF
  have HR := Lib.hid hR
  have HB := Lib.hid hB
  clear hF hR hB
  obtain ⟨x0, x1, x2, x3, x4, xf, xl⟩ := vc_cells HB.out
  obtain ⟨y0, y1, y2, y3, y4, yf, yl⟩ := vc_cells HR.out
  have xf1 := xf 1; have xf2 := xf 2; have xf3 := xf 3
  have yf0 := yf 0; have yf1 := yf 1; have yf2 := yf 2; have yf3 := yf 3; have yf4 := yf 4
  clear xf yf
  go_wp2_with fail
  go_at_call 45; refine (HI.out _ HF.out).mono ?_; rintro e1 w1 ⟨rfl, rfl⟩
  clear HI
  go_wp2
  try simp only [Exit.inBlock, Exit.then]
  refine vg_ret (x := .mk 6 n 0 [] []) (B := w.heap.size) (cap := 0) (ao := none) rfl rfl rfl rfl (val_put' _ w.heap.size _ _ _ _ _ _ _ _ _ _ _ _ ((heap_set_other (by omega)).trans HR.out)) ⟨?_, rfl⟩
  exact fuw_put5 (fuw_set HF.out (by omega)) (Nat.le_refl _) _ _ _ _ _
set_option maxHeartbeats 6400000 in
set_option maxRecDepth 100000 in
theorem rc_null (ao : Option Addr) (l : List UInt8) (cap : Nat) (a lists : Int) (w : World) :
    Calls Tryd.prog 31 #[.slice ao l.length cap, .int .i64 a, .int .i64 0, .int .i64 lists] w (RetN5 w (vk 0) a 0) := by
  go_enter Tryd.func31, Tryd.ntmps31
  go_upto_region 2 with fail
  obtain ⟨W, hW⟩ : ∃ W, (w.alloc (.cells #[.int .i64 0, .int .i64 0, .int .i64 0, .string ⟨#[]⟩, .slice none 0 0] 26)).alloc (.cells #[.int .i64 0, .int .i64 0, .int .i64 0, .string ⟨#[]⟩, .slice none 0 0] 26) = W := ⟨_, rfl⟩
  obtain ⟨hR, hB, hF⟩ : W.heap[w.heap.size]? = some (.cells (vc v0 none 0) 26 (0, 0)) ∧ W.heap[w.heap.size + 1]? = some (.cells (vc (vk 0) none 0) 26 (0, 0)) ∧ Fuw w W := by rw [← hW]; exact two_box w 0
  rw [hW]
  clear hW
  have HF := Lib.hid hF
  have HR := Lib.hid hR
  have HB := Lib.hid hB
  clear hF hR hB
  obtain ⟨x0, x1, x2, x3, x4, xf, xl⟩ := vc_cells HB.out
  obtain ⟨y0, y1, y2, y3, y4, yf, yl⟩ := vc_cells HR.out
  have xf1 := xf 1; have xf2 := xf 2; have xf3 := xf 3
  have yf0 := yf 0; have yf1 := yf 1; have yf2 := yf 2; have yf3 := yf 3; have yf4 := yf 4
  clear xf yf
  go_wp2
  try simp only [Exit.inBlock, Exit.then]
  exact vg_ret (x := vk 0) (B := w.heap.size) (cap := 0) (ao := none) rfl rfl rfl rfl (val_put' _ w.heap.size _ _ _ _ _ _ _ _ _ _ _ _ HR.out) ⟨fuw_put5 HF.out (Nat.le_refl _) _ _ _ _ _, rfl⟩
set_option maxHeartbeats 6400000 in
set_option maxRecDepth 100000 in
theorem rc_str (ao : Option Addr) (l : List UInt8) (cap : Nat) (a lists : Int) (h0 : -9223372036854775808 ≤ a) (h1 : a ≤ 9223372036854775807) (w : World) (h : IsB w ao l cap) (hl : l.length ≤ 1000000000000) (S : List UInt8) (E c : Int) (hv : strV l a 100 = (S, E, c)) :
    Calls Tryd.prog 31 #[.slice ao l.length cap, .int .i64 a, .int .i64 4, .int .i64 lists] w (RetN5 w (.mk 4 0 0 S []) E c) := by
  have HI := Lib.hid (fun w' (hf : Fuw w w') => rstr_is ao l cap a 100 h0 h1 w' (h.on hf) hl S E c hv)
  clear h hl hv h0 h1
  go_enter Tryd.func31, Tryd.ntmps31
  go_upto_region 2 with fail
  obtain ⟨W, hW⟩ : ∃ W, (w.alloc (.cells #[.int .i64 0, .int .i64 0, .int .i64 0, .string ⟨#[]⟩, .slice none 0 0] 26)).alloc (.cells #[.int .i64 4, .int .i64 0, .int .i64 0, .string ⟨#[]⟩, .slice none 0 0] 26) = W := ⟨_, rfl⟩
  obtain ⟨hR, hB, hF⟩ : W.heap[w.heap.size]? = some (.cells (vc v0 none 0) 26 (0, 0)) ∧ W.heap[w.heap.size + 1]? = some (.cells (vc (vk 4) none 0) 26 (0, 0)) ∧ Fuw w W := by rw [← hW]; exact two_box w 4
  rw [hW]
  clear hW
  have HF := Lib.hid hF
  have HR := Lib.hid hR
  have HB := Lib.hid hB
  clear hF hR hB
  obtain ⟨x0, x1, x2, x3, x4, xf, xl⟩ := vc_cells HB.out
  obtain ⟨y0, y1, y2, y3, y4, yf, yl⟩ := vc_cells HR.out
  have xf1 := xf 1; have xf2 := xf 2; have xf3 := xf 3
  have yf0 := yf 0; have yf1 := yf 1; have yf2 := yf 2; have yf3 := yf 3; have yf4 := yf 4
  clear xf yf
  go_wp2_with fail
  go_at_call 46; refine (HI.out _ HF.out).mono ?_; rintro e1 w1 ⟨rfl, rfl⟩
  clear HI
  go_wp2
  try simp only [Exit.inBlock, Exit.then]
  refine vg_ret (x := .mk 4 0 0 S []) (B := w.heap.size) (cap := 0) (ao := none) rfl rfl rfl rfl (val_put' _ w.heap.size _ _ _ _ _ _ _ _ _ _ _ _ ((heap_set_other (by omega)).trans HR.out)) ⟨?_, rfl⟩
  exact fuw_put5 (fuw_set HF.out (by omega)) (Nat.le_refl _) _ _ _ _ _
set_option maxHeartbeats 6400000 in
set_option maxRecDepth 100000 in
theorem rc_rat1 (ao : Option Addr) (l : List UInt8) (cap : Nat) (a lists : Int) (h0 : -9223372036854775808 ≤ a) (h1 : a ≤ 9223372036854775807) (w : World) (h : IsB w ao l cap) (hl : l.length ≤ 1000000000000) (n E c : Int) (hv : intV l a = (n, E, c)) (hc : c ≠ 0) :
    Calls Tryd.prog 31 #[.slice ao l.length cap, .int .i64 a, .int .i64 3, .int .i64 lists] w (RetN5 w (vk 3) 0 c) := by
  have HI := Lib.hid (fun w' (hf : Fuw w w') => rint_is ao l cap a h0 h1 w' (h.on hf) hl n E c hv)
  have hc1 : (c != 0) = true := by rw [bne_iff_ne]; exact hc
  clear h hl hv h0 h1 hc
  go_enter Tryd.func31, Tryd.ntmps31
  go_upto_region 2 with fail
  obtain ⟨W, hW⟩ : ∃ W, (w.alloc (.cells #[.int .i64 0, .int .i64 0, .int .i64 0, .string ⟨#[]⟩, .slice none 0 0] 26)).alloc (.cells #[.int .i64 3, .int .i64 0, .int .i64 0, .string ⟨#[]⟩, .slice none 0 0] 26) = W := ⟨_, rfl⟩
  obtain ⟨hR, hB, hF⟩ : W.heap[w.heap.size]? = some (.cells (vc v0 none 0) 26 (0, 0)) ∧ W.heap[w.heap.size + 1]? = some (.cells (vc (vk 3) none 0) 26 (0, 0)) ∧ Fuw w W := by rw [← hW]; exact two_box w 3
  rw [hW]
  clear hW
  have HF := Lib.hid hF
  have HR := Lib.hid hR
  have HB := Lib.hid hB
  clear hF hR hB
  obtain ⟨x0, x1, x2, x3, x4, xf, xl⟩ := vc_cells HB.out
  obtain ⟨y0, y1, y2, y3, y4, yf, yl⟩ := vc_cells HR.out
  have xf1 := xf 1; have xf2 := xf 2; have xf3 := xf 3
  have yf0 := yf 0; have yf1 := yf 1; have yf2 := yf 2; have yf3 := yf 3; have yf4 := yf 4
  clear xf yf
  go_wp2_with fail
  go_at_call 45; refine (HI.out _ HF.out).mono ?_; rintro e1 w1 ⟨rfl, rfl⟩
  clear HI
  go_wp2
  try simp only [Exit.inBlock, Exit.then]
  exact vg_ret (x := vk 3) (B := w.heap.size) (cap := 0) (ao := none) rfl rfl rfl rfl (val_put' _ w.heap.size _ _ _ _ _ _ _ _ _ _ _ _ HR.out) ⟨fuw_put5 HF.out (Nat.le_refl _) _ _ _ _ _, rfl⟩
set_option maxHeartbeats 6400000 in
set_option maxRecDepth 100000 in
theorem rc_rat2 (ao : Option Addr) (l : List UInt8) (cap : Nat) (a lists : Int) (h0 : -9223372036854775808 ≤ a) (h1 : a ≤ 9223372036854775807) (w : World) (h : IsB w ao l cap) (hl : l.length ≤ 1000000000000) (n E : Int) (hv : intV l a = (n, E, 0)) (hE0 : -9223372036854775808 ≤ E) (hE1 : E ≤ 9223372036854775807) (d E2 c : Int) (hd : intV l E = (d, E2, c)) :
    Calls Tryd.prog 31 #[.slice ao l.length cap, .int .i64 a, .int .i64 3, .int .i64 lists] w (RetN5 w (.mk 3 n d [] []) E2 c) := by
  have HI := Lib.hid (fun w' (hf : Fuw w w') => rint_is ao l cap a h0 h1 w' (h.on hf) hl n E 0 hv)
  have HJ := Lib.hid (fun w' (hf : Fuw w w') => rint_is ao l cap E hE0 hE1 w' (h.on hf) hl d E2 c hd)
  clear h hl hv h0 h1 hE0 hE1 hd
  go_enter Tryd.func31, Tryd.ntmps31
  go_upto_region 2 with fail
  obtain ⟨W, hW⟩ : ∃ W, (w.alloc (.cells #[.int .i64 0, .int .i64 0, .int .i64 0, .string ⟨#[]⟩, .slice none 0 0] 26)).alloc (.cells #[.int .i64 3, .int .i64 0, .int .i64 0, .string ⟨#[]⟩, .slice none 0 0] 26) = W := ⟨_, rfl⟩
  obtain ⟨hR, hB, hF⟩ : W.heap[w.heap.size]? = some (.cells (vc v0 none 0) 26 (0, 0)) ∧ W.heap[w.heap.size + 1]? = some (.cells (vc (vk 3) none 0) 26 (0, 0)) ∧ Fuw w W := by rw [← hW]; exact two_box w 3
  rw [hW]
  clear hW
  have HF := Lib.hid hF
  have HR := Lib.hid hR
  have HB := Lib.hid hB
  clear hF hR hB
  obtain ⟨x0, x1, x2, x3, x4, xf, xl⟩ := vc_cells HB.out
  obtain ⟨y0, y1, y2, y3, y4, yf, yl⟩ := vc_cells HR.out
  have xf1 := xf 1; have xf2 := xf 2; have xf3 := xf 3
  have yf0 := yf 0; have yf1 := yf 1; have yf2 := yf 2; have yf3 := yf 3; have yf4 := yf 4
  clear xf yf
  go_wp2_with fail
  go_at_call 45; refine (HI.out _ HF.out).mono ?_; rintro e1 w1 ⟨rfl, rfl⟩
  clear HI
  go_wp2_with fail
  go_at_call 45; refine (HJ.out _ HF.out).mono ?_; rintro e2 w2 ⟨rfl, rfl⟩
  clear HJ
  go_wp2
  try simp only [Exit.inBlock, Exit.then]
  refine vg_ret (x := .mk 3 n d [] []) (B := w.heap.size) (cap := 0) (ao := none) rfl rfl rfl rfl (val_put' _ w.heap.size _ _ _ _ _ _ _ _ _ _ _ _ ((heap_set_other (by omega)).trans ((heap_set_other (by omega)).trans HR.out))) ⟨?_, rfl⟩
  exact fuw_put5 (fuw_set (fuw_set HF.out (by omega)) (by omega)) (Nat.le_refl _) _ _ _ _ _
theorem retC_of {w : World} {k n d : Int} {s : List UInt8} {E c : Int} {e : Ending} {w' : World} (h : RetN5 w (.mk k n d s []) E c e w') : (c = 0 → RetC w (.ok (.mk k n d s []) E) e w') ∧ (c ≠ 0 → RetC w (.er c) e w') :=
  ⟨fun hc => by subst hc; exact ⟨h.1, none, 0, h.2, kp_none _ _⟩, fun hc => ⟨h.1, _, none, 0, E, h.2, hc⟩⟩
/-- What follows the byte of a kind below paths. -/
theorem rc_flat (k : Nat) (hk : k < 7) (ao : Option Addr) (l : List UInt8) (cap : Nat) (a lists : Int) (h0 : -9223372036854775808 ≤ a) (h1 : a ≤ 9223372036854775807) (w : World) (h : IsB w ao l cap) (hl : l.length ≤ 1000000000000) :
    Calls Tryd.prog 31 #[.slice ao l.length cap, .int .i64 a, .int .i64 (k : Int), .int .i64 lists] w (RetC w (flatV k l a)) := by
  obtain ⟨n, E, c, hv⟩ : ∃ n E c, intV l a = (n, E, c) := ⟨_, _, _, rfl⟩
  have hI := int_ok hv
  have num : ∀ m : Nat, m ≠ 0 → m ≠ 3 → m ≠ 4 → Calls Tryd.prog 31 #[.slice ao l.length cap, .int .i64 a, .int .i64 (m : Int), .int .i64 lists] w (RetN5 w (.mk m n 0 [] []) E c) → Calls Tryd.prog 31 #[.slice ao l.length cap, .int .i64 a, .int .i64 (m : Int), .int .i64 lists] w (RetC w (flatV m l a)) := fun m m0 m3 m4 hC => by
    unfold flatV
    rw [if_neg m0, if_neg m3, if_neg m4, hv]
    by_cases hc : c = 0
    · rw [if_neg (by simpa using hc)]
      exact hC.mono fun _ _ q => (retC_of q).1 hc
    · rw [if_pos hc]
      exact hC.mono fun _ _ q => (retC_of q).2 hc
  match k, hk with
  | 0, _ =>
    unfold flatV
    rw [if_pos rfl]
    exact (rc_null ao l cap a lists w).mono fun _ _ q => (retC_of q).1 rfl
  | 1, _ => exact num 1 (by decide) (by decide) (by decide) (rc_int1 ao l cap a lists h0 h1 w h hl n E c hv)
  | 2, _ => exact num 2 (by decide) (by decide) (by decide) (rc_int2 ao l cap a lists h0 h1 w h hl n E c hv)
  | 5, _ => exact num 5 (by decide) (by decide) (by decide) (rc_int5 ao l cap a lists h0 h1 w h hl n E c hv)
  | 6, _ => exact num 6 (by decide) (by decide) (by decide) (rc_int6 ao l cap a lists h0 h1 w h hl n E c hv)
  | 3, _ =>
    unfold flatV
    rw [if_neg (by decide), if_pos rfl, hv]
    by_cases hc : c = 0
    · subst hc
      obtain ⟨d, E2, c2, hd⟩ : ∃ n F c, intV l E = (n, F, c) := ⟨_, _, _, rfl⟩
      have b := hI.2.2.1 rfl
      have q := rc_rat2 ao l cap a lists h0 h1 w h hl n E hv (by omega) (by omega) d E2 c2 hd
      simp only [hd]
      rw [if_neg (by simp)]
      by_cases hc2 : c2 = 0
      · rw [if_neg (by simpa using hc2)]
        exact q.mono fun _ _ q => (retC_of q).1 hc2
      · rw [if_pos hc2]
        exact q.mono fun _ _ q => (retC_of q).2 hc2
    · rw [if_pos hc]
      exact (rc_rat1 ao l cap a lists h0 h1 w h hl n E c hv hc).mono fun _ _ q => (retC_of q).2 hc
  | 4, _ =>
    obtain ⟨S, E2, c2, hs⟩ : ∃ n E c, strV l a 100 = (n, E, c) := ⟨_, _, _, rfl⟩
    have q := rc_str ao l cap a lists h0 h1 w h hl S E2 c2 hs
    unfold flatV
    rw [if_neg (by decide), if_neg (by decide), if_pos rfl, hs]
    by_cases hc2 : c2 = 0
    · rw [if_neg (by simpa using hc2)]
      exact q.mono fun _ _ q => (retC_of q).1 hc2
    · rw [if_pos hc2]
      exact q.mono fun _ _ q => (retC_of q).2 hc2
end Go.Proofs.YtehmdeponbhhjaaDoor
