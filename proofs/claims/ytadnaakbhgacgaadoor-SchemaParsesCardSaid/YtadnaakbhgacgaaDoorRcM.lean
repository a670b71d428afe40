/-
  The reference of package schema: the only rule that can have some words as its text (guess): for any words; of a valid rule's text it makes the rule. Nothing that was there turns.
-/
import Derived.Test.YtadnaakbhgacgaaDoorRcL3
import Derived.Test.YtadnaakbhgacgaaDoorRcL4
import Derived.Test.YtadnaakbhgacgaaDoorRcL5
import Derived.Test.YtadnaakbhgacgaaDoorRcL6
import Derived.Test.YtadnaakbhgacgaaDoorScO
namespace Go.Proofs.YtadnaakbhgacgaaDoor
open Go.RowKit
open Go.Lib (itoa join decDigits)

set_option maxHeartbeats 6400000 in
set_option maxRecDepth 100000 in
theorem gs_short (ao : Option Addr) (n cap : Nat) (hn : n < 3) (w : World) : Calls Tryd.prog 45 #[.slice ao n cap] w (RetG w nilR) := by
  have hnI : (n : Int) < 3 := by omega
  obtain ⟨W, hW⟩ : ∃ W, w.alloc (.cells #[.int .i64 0, .int .i64 0, .string ⟨#[]⟩, .string ⟨#[]⟩, .string ⟨#[]⟩, .string ⟨#[]⟩] 23) = W := ⟨_, rfl⟩
  have PB := Lib.hid (show Bk W w.heap.size #[.int .i64 0, .int .i64 0, .string ⟨#[]⟩, .string ⟨#[]⟩, .string ⟨#[]⟩, .string ⟨#[]⟩] 23 from by rw [← hW]; exact Bk.new w _ _)
  have F := Lib.hid (show Fuw w W from by rw [← hW]; exact fuwA _ _)
  clear hn
  go_enter Tryd.func45, Tryd.ntmps45
  go_upto_region 1 with fail
  clear hW
  have p0 := PB.out.c 0; have p1 := PB.out.c 1; have p2 := PB.out.c 2; have p3 := PB.out.c 3; have p4 := PB.out.c 4; have p5 := PB.out.c 5
  have q0 := PB.out.f 0; have q1 := PB.out.f 1; have q2 := PB.out.f 2; have q3 := PB.out.f 3; have q4 := PB.out.f 4; have q5 := PB.out.f 5
  go_wp2
  refine g_ret rfl rfl (B := w.heap.size) (r := nilR) ⟨bk_put6 (show Bk _ w.heap.size #[.int .i64 0, .int .i64 0, .string ⟨#[]⟩, .string ⟨#[]⟩, .string ⟨#[]⟩, .string ⟨#[]⟩] _ from PB.out) _ _ _ _ _ _⟩ ⟨rfl, fuw_put6 F.out (Nat.le_refl _) _ _ _ _ _ _⟩
theorem guess_any (l : List (List UInt8)) (v : Value) (w : World) (base : Nat) (h : w.ownsRow base 9 1 v l.length (sC l)) (hl : l.length ≤ 300) (hm : ∀ x ∈ l, x.length ≤ maxLen) : Calls Tryd.prog 45 #[v] w (RetG w (gsV l)) := by
  rcases h.2 with ⟨rfl, e⟩ | ⟨g, cap, cur, rfl, -⟩
  · have e0 : l = [] := List.length_eq_zero_iff.1 (by omega)
    subst e0
    exact gs_short none 0 0 (by decide) w
  · have hc : ∀ (j : Nat) (hj : j < l.length), w.cell? ⟨g, j, none⟩ = some (.string (bs l[j])) := fun j hj => by
      have k := h.cellAt j (by rw [Nat.mul_one]; exact hj)
      rw [k]; unfold sC; rw [List.getElem?_map, List.getElem?_eq_getElem hj]; rfl
    clear h
    match l, hl, hm, hc with
    | [], _, _, _ => exact gs_short _ 0 cap (by decide) w
    | [_], _, _, _ => exact gs_short _ 1 cap (by decide) w
    | [_, _], _, _, _ => exact gs_short _ 2 cap (by decide) w
    | [x0, x1, x2], _, hm, hc =>
      have hl2 := hm x2 (by simp)
      have e0 := hc 0 (by simp); have e1 := hc 1 (by simp); have e2 := hc 2 (by simp)
      by_cases hU : x0 = [117, 110, 105, 113, 117, 101]
      · rw [show gsV [x0, x1, x2] = ⟨1, 0, x1, x2, [], []⟩ from by rw [gsV, if_neg (by simp), if_pos hU]]
        exact gs_3_U x0 x1 x2 hU hl2 g cap w e0 e1 e2
      by_cases hX : x0 = [101, 120, 105, 115, 116, 115]
      · rw [show gsV [x0, x1, x2] = ⟨2, 0, x1, x2, [], []⟩ from by rw [gsV, if_neg (by simp), if_neg hU, if_pos hX]]
        exact gs_3_X x0 x1 x2 hU hX hl2 g cap w e0 e1 e2
      rw [show gsV [x0, x1, x2] = ⟨7, numG x2 0, x1, [], [], []⟩ from by rw [gsV, if_neg (by simp), if_neg hU, if_neg hX, if_neg (fun h => by have := h.2; simp at this), if_neg (fun h => by have := h.2; simp at this)]]
      exact gs_3_M x0 x1 x2 hU hX hl2 g cap w e0 e1 e2
    | [x0, x1, x2, x3], _, hm, hc =>
      have hl2 := hm x2 (by simp)
      have e0 := hc 0 (by simp); have e1 := hc 1 (by simp); have e2 := hc 2 (by simp); have e3 := hc 3 (by simp)
      by_cases hE : x0 = [101, 100, 103, 101]
      · by_cases h1 : x1 = [101, 120, 105, 115, 116, 115]
        · rw [show gsV [x0, x1, x2, x3] = ⟨4, 0, x2, x3, [], []⟩ from by rw [gsV, if_pos ⟨hE, by simp⟩, if_pos h1]; rfl]
          exact gs_4_EX x0 x1 x2 x3 hE h1 hl2 g cap w e0 e1 e2 e3
        · rw [show gsV [x0, x1, x2, x3] = nilR from by rw [gsV, if_pos ⟨hE, by simp⟩, if_neg h1, if_neg (by simp)]]
          exact gs_4_EO x0 x1 x2 x3 hE h1 hl2 g cap w e0 e1 e2 e3
      · skip
        by_cases hU : x0 = [117, 110, 105, 113, 117, 101]
        · rw [show gsV [x0, x1, x2, x3] = ⟨1, 0, x1, x2, [], []⟩ from by rw [gsV, if_neg (fun h => hE h.1), if_pos hU]]
          exact gs_4_U x0 x1 x2 x3 hE hU hl2 g cap w e0 e1 e2 e3
        by_cases hX : x0 = [101, 120, 105, 115, 116, 115]
        · rw [show gsV [x0, x1, x2, x3] = ⟨2, 0, x1, x2, [], []⟩ from by rw [gsV, if_neg (fun h => hE h.1), if_neg hU, if_pos hX]]
          exact gs_4_X x0 x1 x2 x3 hE hU hX hl2 g cap w e0 e1 e2 e3
        by_cases hK : x0 = [107, 105, 110, 100]
        · rw [show gsV [x0, x1, x2, x3] = ⟨3, kwN x3, x1, x2, [], []⟩ from by rw [gsV, if_neg (fun h => hE h.1), if_neg hU, if_neg hX, if_pos ⟨hK, by simp⟩]; rfl]
          exact gs_4_K x0 x1 x2 x3 hE hU hX hK hl2 g cap w e0 e1 e2 e3
        by_cases hN : x0 = [101, 110, 100, 115]
        · rw [show gsV [x0, x1, x2, x3] = ⟨6, 0, x1, [], endO x2, endO x3⟩ from by rw [gsV, if_neg (fun h => hE h.1), if_neg hU, if_neg hX, if_neg (fun h => hK h.1), if_pos ⟨hN, by simp⟩]; rfl]
          exact gs_4_N x0 x1 x2 x3 hE hU hX hK hN hl2 g cap w e0 e1 e2 e3
        rw [show gsV [x0, x1, x2, x3] = ⟨7, numG x2 0, x1, [], [], []⟩ from by rw [gsV, if_neg (fun h => hE h.1), if_neg hU, if_neg hX, if_neg (fun h => hK h.1), if_neg (fun h => hN h.1)]]
        exact gs_4_M x0 x1 x2 x3 hE hU hX hK hN hl2 g cap w e0 e1 e2 e3
    | [x0, x1, x2, x3, x4], _, hm, hc =>
      have hl2 := hm x2 (by simp)
      have e0 := hc 0 (by simp); have e1 := hc 1 (by simp); have e2 := hc 2 (by simp); have e3 := hc 3 (by simp); have e4 := hc 4 (by simp)
      by_cases hE : x0 = [101, 100, 103, 101]
      · by_cases h1 : x1 = [101, 120, 105, 115, 116, 115]
        · rw [show gsV [x0, x1, x2, x3, x4] = ⟨4, 0, x2, x3, [], []⟩ from by rw [gsV, if_pos ⟨hE, by simp⟩, if_pos h1]; rfl]
          exact gs_5_EX x0 x1 x2 x3 x4 hE h1 hl2 g cap w e0 e1 e2 e3 e4
        · rw [show gsV [x0, x1, x2, x3, x4] = ⟨5, kwN x4, x2, x3, [], []⟩ from by rw [gsV, if_pos ⟨hE, by simp⟩, if_neg h1, if_pos (by simp)]; rfl]
          exact gs_5_EO x0 x1 x2 x3 x4 hE h1 hl2 g cap w e0 e1 e2 e3 e4
      · skip
        by_cases hU : x0 = [117, 110, 105, 113, 117, 101]
        · rw [show gsV [x0, x1, x2, x3, x4] = ⟨1, 0, x1, x2, [], []⟩ from by rw [gsV, if_neg (fun h => hE h.1), if_pos hU]]
          exact gs_5_U x0 x1 x2 x3 x4 hE hU hl2 g cap w e0 e1 e2 e3 e4
        by_cases hX : x0 = [101, 120, 105, 115, 116, 115]
        · rw [show gsV [x0, x1, x2, x3, x4] = ⟨2, 0, x1, x2, [], []⟩ from by rw [gsV, if_neg (fun h => hE h.1), if_neg hU, if_pos hX]]
          exact gs_5_X x0 x1 x2 x3 x4 hE hU hX hl2 g cap w e0 e1 e2 e3 e4
        rw [show gsV [x0, x1, x2, x3, x4] = ⟨7, numG x2 0, x1, [], [], []⟩ from by rw [gsV, if_neg (fun h => hE h.1), if_neg hU, if_neg hX, if_neg (fun h => by have := h.2; simp at this), if_neg (fun h => by have := h.2; simp at this)]]
        exact gs_5_M x0 x1 x2 x3 x4 hE hU hX hl2 g cap w e0 e1 e2 e3 e4
    | x0 :: x1 :: x2 :: x3 :: x4 :: x5 :: u, hl, hm, hc =>
      have hl2 := hm x2 (by simp)
      have hu : u.length ≤ 300 := by simp at hl; omega
      have e0 := hc 0 (by simp); have e1 := hc 1 (by simp); have e2 := hc 2 (by simp); have e3 := hc 3 (by simp); have e4 := hc 4 (by simp)
      show Calls _ _ #[.slice _ (u.length + 6) cap] _ _
      by_cases hE : x0 = [101, 100, 103, 101]
      · by_cases h1 : x1 = [101, 120, 105, 115, 116, 115]
        · rw [show gsV (x0 :: x1 :: x2 :: x3 :: x4 :: x5 :: u) = ⟨4, 0, x2, x3, [], []⟩ from by rw [gsV, if_pos ⟨hE, by simp⟩, if_pos h1]; rfl]
          exact gs_6_EX x0 x1 x2 x3 x4 (u.length + 6) (by omega) (by omega) hE h1 hl2 g cap w e0 e1 e2 e3 e4
        · rw [show gsV (x0 :: x1 :: x2 :: x3 :: x4 :: x5 :: u) = nilR from by rw [gsV, if_pos ⟨hE, by simp⟩, if_neg h1, if_neg (by simp)]]
          exact gs_6_EO x0 x1 x2 x3 x4 (u.length + 6) (by omega) (by omega) hE h1 hl2 g cap w e0 e1 e2 e3 e4
      · skip
        by_cases hU : x0 = [117, 110, 105, 113, 117, 101]
        · rw [show gsV (x0 :: x1 :: x2 :: x3 :: x4 :: x5 :: u) = ⟨1, 0, x1, x2, [], []⟩ from by rw [gsV, if_neg (fun h => hE h.1), if_pos hU]]
          exact gs_6_U x0 x1 x2 x3 x4 (u.length + 6) (by omega) (by omega) hE hU hl2 g cap w e0 e1 e2 e3 e4
        by_cases hX : x0 = [101, 120, 105, 115, 116, 115]
        · rw [show gsV (x0 :: x1 :: x2 :: x3 :: x4 :: x5 :: u) = ⟨2, 0, x1, x2, [], []⟩ from by rw [gsV, if_neg (fun h => hE h.1), if_neg hU, if_pos hX]]
          exact gs_6_X x0 x1 x2 x3 x4 (u.length + 6) (by omega) (by omega) hE hU hX hl2 g cap w e0 e1 e2 e3 e4
        rw [show gsV (x0 :: x1 :: x2 :: x3 :: x4 :: x5 :: u) = ⟨7, numG x2 0, x1, [], [], []⟩ from by rw [gsV, if_neg (fun h => hE h.1), if_neg hU, if_neg hX, if_neg (fun h => by have := h.2; simp at this), if_neg (fun h => by have := h.2; simp at this)]]
        exact gs_6_M x0 x1 x2 x3 x4 (u.length + 6) (by omega) (by omega) hE hU hX hl2 g cap w e0 e1 e2 e3 e4
end Go.Proofs.YtadnaakbhgacgaaDoor
