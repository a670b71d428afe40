/-
  The worked examples of the chapter hold: the function alive of the statements' package returns true, in every world in which the listed variable reads as laid (Good); nothing that was there turns.
-/
import Derived.Test.YtebmkbfbfmnbbaaDoorNatZ
namespace Go.Proofs.YtebmkbfbfmnbbaaDoor
open Go.RowKit

/-- A list that a call has just laid. -/
theorem IsS.lit (w : World) (zs : List Int) (hl : zs.length ≤ 1000) : IsS (w.alloc (.cells (cs zs).toArray 3)) (some ⟨w.heap.size, 0, none⟩) zs zs.length :=
  ⟨Nat.le_refl _, by unfold maxLen; omega, (fun h => by cases h), fun _ => ⟨w.heap.size, 0, rfl, by simp, fun j hj => by
    rw [show ((0 : Nat) + j) = j by omega]
    have k := World.cell?_alloc_mark w (cs zs).toArray 3 (0, 0) j
    rw [k, List.getElem?_toArray]
    unfold cs
    rw [List.getElem?_map, List.getElem?_eq_getElem hj, getD_at hj]
    rfl⟩⟩
theorem same_refl (ao bo : Option Addr) (a : List Int) (ca cb : Nat) (w : World) (ha : IsS w ao a ca) (hb : IsS w bo a cb) :
    Calls Tryd.prog 18 #[.slice ao a.length ca, .slice bo a.length cb] w (RetB w true) :=
  (same_any ao bo a a ca cb w ha hb).mono fun _ _ ⟨he, hf⟩ => ⟨by rw [he]; exact ret_bool (decide_eq_true rfl), hf⟩

theorem l_1e9 : lim (1000000000 : Int).toNat = [0, 1] := by
  show lim 1000000000 = [0, 1]
  rw [lim_s (by decide), show 1000000000 / 1000000000 = 1 by decide, lim_s (by decide), show 1 / 1000000000 = 0 by decide, lim_0]; rfl
theorem l_5 : lim (5 : Int).toNat = [5] := by
  show lim 5 = [5]
  rw [lim_s (by decide), show 5 / 1000000000 = 0 by decide, lim_0]; rfl
theorem l_2 : lim (2 : Int).toNat = [2] := by
  show lim 2 = [2]
  rw [lim_s (by decide), show 2 / 1000000000 = 0 by decide, lim_0]; rfl
theorem v_1e9 : nv [0, 1] = 1000000000 := by decide
theorem v_5 : nv [5] = 5 := by decide
theorem v_51 : nv [5, 1] = 1000000005 := by decide
theorem v_001 : nv [0, 0, 1] = 1000000000000000000 := by decide
theorem l_51 : lim 1000000005 = [5, 1] := by
  rw [lim_s (by decide), show 1000000005 / 1000000000 = 1 by decide, lim_s (by decide), show 1 / 1000000000 = 0 by decide, lim_0]; rfl
theorem l_001 : lim 1000000000000000000 = [0, 0, 1] := by
  rw [lim_s (by decide), show 1000000000000000000 / 1000000000 = 1000000000 by decide, lim_s (by decide), show 1000000000 / 1000000000 = 1 by decide, lim_s (by decide), show 1 / 1000000000 = 0 by decide, lim_0]; rfl
theorem ex_add (ao bo : Option Addr) (ca cb : Nat) (w : World) (ha : IsS w ao [0, 1] ca) (hb : IsS w bo [5] cb) : Calls Tryd.prog 12 #[.slice ao 2 ca, .slice bo 1 cb] w (RetSB w [5, 1] true) := by
  have k := nat_add ao bo [0, 1] [5] ca cb w ha hb
  rw [v_1e9, v_5, show 1000000000 + 5 = 1000000005 by decide, l_51] at k
  exact k
theorem ex_mul (ao bo : Option Addr) (ca cb : Nat) (w : World) (ha : IsS w ao [0, 1] ca) (hb : IsS w bo [0, 1] cb) : Calls Tryd.prog 14 #[.slice ao 2 ca, .slice bo 2 cb] w (RetSB w [0, 0, 1] true) := by
  have k := nat_mul ao bo [0, 1] [0, 1] ca cb w ha hb
  rw [v_1e9, show 1000000000 * 1000000000 = 1000000000000000000 by decide, l_001] at k
  exact k
theorem ex_pow (ao : Option Addr) (ca : Nat) (w : World) (ha : IsS w ao [2] ca) : Calls Tryd.prog 25 #[.slice ao 1 ca, .int .i64 (-1)] w (RetSB w [] false) := by
  have k := nat_pow ao [2] ca (-1) (by decide) (by decide) w ha
  have e1 : powL (nv [2]) (-1) = [] := by unfold powL; rw [if_pos (by decide)]
  have e2 : powB (nv [2]) (-1) = false := by unfold powB; rw [if_pos (by decide)]
  rw [e1, e2] at k
  exact k
theorem ex_cmp (ao bo : Option Addr) (ca cb : Nat) (w : World) (ha : IsS w ao [5, 1] ca) (hb : IsS w bo [0, 0, 1] cb) : Calls Tryd.prog 21 #[.slice ao 2 ca, .slice bo 3 cb] w (RetI w (-1)) := by
  have k := nat_cmp ao bo [5, 1] [0, 0, 1] ca cb w ha hb
  rw [v_51, v_001, cmpV_lt (by decide)] at k
  exact k
theorem t_51 : natTxt 1000000005 = ⟨#[49, 48, 48, 48, 48, 48, 48, 48, 48, 53]⟩ := by
  unfold natTxt
  rw [show (1000000005 : Nat) = dv [49, 48, 48, 48, 48, 48, 48, 48, 48, 53] by decide, dec_of (by intro c hc; simp at hc; rcases hc with h | h | h <;> rw [h] <;> decide) (by decide) (by decide)]
theorem ex_text (ao : Option Addr) (ca : Nat) (w : World) (ha : IsS w ao [5, 1] ca) (G : Good w) : Calls Tryd.prog 29 #[.slice ao 2 ca] w (RetT w ⟨#[49, 48, 48, 48, 48, 48, 48, 48, 48, 53]⟩) := by
  have k := nat_text ao [5, 1] ca w ha G
  rw [v_51, t_51] at k
  exact k
theorem of_1e9 (w : World) : Calls Tryd.prog 31 #[.int .i64 1000000000] w (RetS w [0, 1]) := by
  have k := nat_of 1000000000 (by decide) (by decide) w
  rwa [l_1e9] at k
theorem of_5 (w : World) : Calls Tryd.prog 31 #[.int .i64 5] w (RetS w [5]) := by
  have k := nat_of 5 (by decide) (by decide) w
  rwa [l_5] at k
theorem of_2 (w : World) : Calls Tryd.prog 31 #[.int .i64 2] w (RetS w [2]) := by
  have k := nat_of 2 (by decide) (by decide) w
  rwa [l_2] at k

theorem ex_same1 (ao : Option Addr) (ca : Nat) (w : World) (ha : IsS w ao [5, 1] ca) : Calls Tryd.prog 18 #[.slice ao 2 ca, .slice (some ⟨w.heap.size, 0, none⟩) 2 2] (w.alloc (.cells #[.int .i64 5, .int .i64 1] 3)) (RetB w true) :=
  (same_refl ao _ [5, 1] ca 2 _ (ha.on ((Fur.refl w).alloc _)) (IsS.lit w [5, 1] (by decide))).mono fun _ _ ⟨he, hf⟩ => ⟨he, ((Fur.refl w).alloc _).trans hf⟩
theorem ex_same2 (ao : Option Addr) (ca : Nat) (w : World) (ha : IsS w ao [0, 0, 1] ca) : Calls Tryd.prog 18 #[.slice ao 3 ca, .slice (some ⟨w.heap.size, 0, none⟩) 3 3] (w.alloc (.cells #[.int .i64 0, .int .i64 0, .int .i64 1] 3)) (RetB w true) :=
  (same_refl ao _ [0, 0, 1] ca 3 _ (ha.on ((Fur.refl w).alloc _)) (IsS.lit w [0, 0, 1] (by decide))).mono fun _ _ ⟨he, hf⟩ => ⟨he, ((Fur.refl w).alloc _).trans hf⟩

set_option maxHeartbeats 1600000 in
set_option maxRecDepth 100000 in
theorem alive_any (w : World) (G : Good w) : Calls Tryd.prog 11 #[] w (RetB w true) := by
  go_enter Tryd.func11, Tryd.ntmps11
  go_wp2_with fail
  go_at_call 31; refine (of_1e9 _).mono ?_; rintro e w1 ⟨a1, c1, rfl, h1, f1⟩
  go_wp2_with fail
  go_at_call 31; refine (of_5 _).mono ?_; rintro e w2 ⟨a2, c2, rfl, h2, f2⟩
  go_wp2_with fail
  go_at_call 12; refine (ex_add _ _ _ _ _ (h1.on f2) h2).mono ?_; rintro e w3 ⟨a3, c3, rfl, h3, f3⟩
  have F := (f1.trans f2).trans f3
  clear h1 h2 f1 f2 f3
  go_wp2_with fail
  go_at_call 31; refine (of_1e9 _).mono ?_; rintro e w4 ⟨a4, c4, rfl, h4, f4⟩
  go_wp2_with fail
  go_at_call 31; refine (of_1e9 _).mono ?_; rintro e w5 ⟨a5, c5, rfl, h5, f5⟩
  go_wp2_with fail
  go_at_call 14; refine (ex_mul _ _ _ _ _ (h4.on f5) h5).mono ?_; rintro e w6 ⟨a6, c6, rfl, h6, f6⟩
  replace F := F.trans ((f4.trans f5).trans f6)
  replace h3 := h3.on ((f4.trans f5).trans f6)
  clear h4 h5 f4 f5 f6
  go_wp2_with fail
  go_at_call 31; refine (of_2 _).mono ?_; rintro e w7 ⟨a7, c7, rfl, h7, f7⟩
  go_wp2_with fail
  go_at_call 25; refine (ex_pow _ _ _ h7).mono ?_; rintro e w8 ⟨a8, c8, rfl, h8, f8⟩
  replace F := F.trans (f7.trans f8)
  replace h3 := h3.on (f7.trans f8)
  replace h6 := h6.on (f7.trans f8)
  clear h7 f7 f8 h8
  go_wp2_with fail
  go_at_call 18; refine (ex_same1 _ _ _ h3).mono ?_; rintro e w9 ⟨rfl, f9⟩
  replace F := F.trans f9
  replace h3 := h3.on f9
  replace h6 := h6.on f9
  clear f9
  go_wp2_with fail
  go_at_call 18; refine (ex_same2 _ _ _ h6).mono ?_; rintro e w10 ⟨rfl, f10⟩
  replace F := F.trans f10
  replace h3 := h3.on f10
  replace h6 := h6.on f10
  clear f10
  go_wp2_with fail
  go_at_call 29; refine (ex_text _ _ _ h3 (G.on F)).mono ?_; rintro e w11 ⟨rfl, f11⟩
  replace F := F.trans f11
  replace h3 := h3.on f11
  replace h6 := h6.on f11
  clear f11
  go_wp2_with fail
  go_at_call 21; refine (ex_cmp _ _ _ _ _ h3 h6).mono ?_; rintro e w12 ⟨rfl, f12⟩
  go_wp2
  go_ret
  exact ⟨rfl, F.trans f12⟩
end Go.Proofs.YtebmkbfbfmnbbaaDoor
