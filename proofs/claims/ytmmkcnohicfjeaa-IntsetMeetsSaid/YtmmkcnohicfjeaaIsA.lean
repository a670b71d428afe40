/-
  The worked examples of the chapter hold: the function alive of the statements' package returns true, in every world; nothing that was there turns. And small tells short slices.
-/
import Derived.Test.YtmmkcnohicfjeaaIsD
namespace Go.Proofs.Ytmmkcnohicfjeaa
open Go.RowKit

/-- A result is a bool; nothing that was there has turned. -/
def RetB (w : World) (c : Bool) (e : Ending) (w' : World) : Prop := e = .returned (.bool c) ∧ Fur w w'
/-- A list that a call has just laid. -/
theorem IsS.lit (w : World) (zs : List Int) (hl : zs.length ≤ 1000) : IsS (w.alloc (.cells (cs zs).toArray 3)) (some ⟨w.heap.size, 0, none⟩) zs zs.length :=
  ⟨Nat.le_refl _, by unfold maxLen; omega, (fun h => by cases h), fun _ => ⟨w.heap.size, 0, rfl, by simp, fun j hj => by
    rw [show ((0 : Nat) + j) = j by omega]
    have k := World.cell?_alloc_mark w (cs zs).toArray 3 (0, 0) j
    rw [k, List.getElem?_toArray]
    unfold cs
    rw [List.getElem?_map, List.getElem?_eq_getElem hj, getD_at hj]
    rfl⟩⟩
theorem same_refl (ao bo : Option Addr) (a : List Int) (ca cb : Nat) (w : World) (ha : IsS w ao a ca) (hb : IsS w bo a cb) :
    Calls Try.prog 15 #[.slice ao a.length ca, .slice bo a.length cb] w (RetB w true) :=
  (same_any ao bo a a ca cb w ha hb).mono fun _ _ ⟨he, hf⟩ => ⟨by rw [he]; exact ret_bool (decide_eq_true rfl), hf⟩

theorem ex_of (w : World) : Calls Try.prog 16 #[.slice (some ⟨w.heap.size, 0, none⟩) 3 3] (w.alloc (.cells #[.int .i64 3, .int .i64 1, .int .i64 3] 3)) (RetS w [1, 3]) := by
  have k := of_any _ [3, 1, 3] _ _ (IsS.lit w [3, 1, 3] (by decide)) (by decide)
  rw [show ofL [3, 1, 3] = [1, 3] by decide] at k
  exact k.mono fun _ _ ⟨a, c, he, hI, hf⟩ => ⟨a, c, he, hI, ((Fur.refl w).alloc _).trans hf⟩
theorem ex_same1 (ao : Option Addr) (ca : Nat) (w : World) (ha : IsS w ao [1, 3] ca) : Calls Try.prog 15 #[.slice ao 2 ca, .slice (some ⟨w.heap.size, 0, none⟩) 2 2] (w.alloc (.cells #[.int .i64 1, .int .i64 3] 3)) (RetB w true) :=
  (same_refl ao _ [1, 3] ca 2 _ (ha.on ((Fur.refl w).alloc _)) (IsS.lit w [1, 3] (by decide))).mono fun _ _ ⟨he, hf⟩ => ⟨he, ((Fur.refl w).alloc _).trans hf⟩
theorem ex_un (w : World) : Calls Try.prog 18 #[.slice (some ⟨w.heap.size, 0, none⟩) 2 2, .slice (some ⟨w.heap.size + 1, 0, none⟩) 1 1] ((w.alloc (.cells #[.int .i64 1, .int .i64 3] 3)).alloc (.cells #[.int .i64 2] 3)) (RetS w [1, 2, 3]) := by
  have h1 := (IsS.lit w [1, 3] (by decide)).on ((Fur.refl (w.alloc (.cells (cs [1, 3]).toArray 3))).alloc (.cells (cs [2]).toArray 3))
  have h2 := IsS.lit (w.alloc (.cells (cs [1, 3]).toArray 3)) [2] (by decide)
  have k := un_any _ _ [1, 3] [2] _ _ _ h1 h2 (by decide) (by decide)
  rw [show unL [1, 3] [2] = [1, 2, 3] by decide, show (w.alloc (.cells (cs [1, 3]).toArray 3)).heap.size = w.heap.size + 1 by simp] at k
  exact k.mono fun _ _ ⟨a, c, he, hI, hf⟩ => ⟨a, c, he, hI, (((Fur.refl w).alloc _).alloc _).trans hf⟩
theorem ex_same2 (ao : Option Addr) (ca : Nat) (w : World) (ha : IsS w ao [1, 2, 3] ca) : Calls Try.prog 15 #[.slice ao 3 ca, .slice (some ⟨w.heap.size, 0, none⟩) 3 3] (w.alloc (.cells #[.int .i64 1, .int .i64 2, .int .i64 3] 3)) (RetB w true) :=
  (same_refl ao _ [1, 2, 3] ca 3 _ (ha.on ((Fur.refl w).alloc _)) (IsS.lit w [1, 2, 3] (by decide))).mono fun _ _ ⟨he, hf⟩ => ⟨he, ((Fur.refl w).alloc _).trans hf⟩
theorem ex_seek (w : World) : Calls Try.prog 24 #[.slice (some ⟨w.heap.size, 0, none⟩) 3 3, .int .i64 0, .int .i64 4] (w.alloc (.cells #[.int .i64 1, .int .i64 3, .int .i64 5] 3)) (fun e w' => e = .returned (.int .i64 2) ∧ Fur w w') := by
  have k := seek_any _ [1, 3, 5] _ 0 4 _ (IsS.lit w [1, 3, 5] (by decide))
  rw [show ((seekN [1, 3, 5] (0 : Int).toNat 4 : Nat) : Int) = 2 by decide] at k
  exact k.mono fun _ _ ⟨he, hw⟩ => ⟨he, hw ▸ (Fur.refl w).alloc _⟩
theorem ex_has (w : World) : Calls Try.prog 13 #[.slice (some ⟨w.heap.size, 0, none⟩) 2 2, .int .i64 1] (w.alloc (.cells #[.int .i64 3, .int .i64 1] 3)) (RetB w true) := by
  have k := has_any _ [3, 1] _ 1 _ (IsS.lit w [3, 1] (by decide))
  rw [show [3, 1].contains (1 : Int) = true by decide] at k
  exact k.mono fun _ _ ⟨he, hw⟩ => ⟨he, hw ▸ (Fur.refl w).alloc _⟩

set_option maxHeartbeats 1600000 in
set_option maxRecDepth 100000 in
theorem alive_any (w : World) : Calls Try.prog 10 #[] w (RetB w true) := by
  go_enter Try.func10, Try.ntmps10
  go_wp2_with fail
  go_at_call 16; refine (ex_of _).mono ?_; rintro e w1 ⟨a1, c1, rfl, h1, f1⟩
  go_wp2_with fail
  go_at_call 15; refine (ex_same1 _ _ _ h1).mono ?_; rintro e w2 ⟨rfl, f2⟩
  have F := f1.trans f2
  clear h1 f1 f2
  go_wp2_with fail
  go_at_call 18; refine (ex_un _).mono ?_; rintro e w3 ⟨a3, c3, rfl, h3, f3⟩
  go_wp2_with fail
  go_at_call 15; refine (ex_same2 _ _ _ h3).mono ?_; rintro e w4 ⟨rfl, f4⟩
  replace F := F.trans (f3.trans f4)
  clear h3 f3 f4
  go_wp2_with fail
  go_at_call 24; refine (ex_seek _).mono ?_; rintro e w5 ⟨rfl, f5⟩
  go_wp2_with fail
  go_at_call 13; refine (ex_has _).mono ?_; rintro e w6 ⟨rfl, f6⟩
  go_wp2
  go_ret
  exact ⟨rfl, F.trans (f5.trans f6)⟩

theorem small_yes (ao bo : Option Addr) (n m ca cb : Nat) (w : World) (h1 : n ≤ 200) (h2 : m ≤ 200) :
    Calls Try.prog 9 #[.slice ao n ca, .slice bo m cb] w fun e w' => e = .returned (.bool true) ∧ w = w' := by
  have i1 : (n : Int) ≤ 200 := by omega
  have i2 : (m : Int) ≤ 200 := by omega
  go_enter Try.func9, Try.ntmps9
  go_wp2
  go_ret
  exact ⟨rfl, rfl⟩
theorem small_no (ao bo : Option Addr) (n m ca cb : Nat) (w : World) (h : 200 < n ∨ 200 < m) :
    Calls Try.prog 9 #[.slice ao n ca, .slice bo m cb] w fun e w' => e = .returned (.bool false) ∧ w = w' := by
  by_cases h1 : n ≤ 200
  · have i1 : (n : Int) ≤ 200 := by omega
    have i2 : ¬ ((m : Int) ≤ 200) := by omega
    clear h
    go_enter Try.func9, Try.ntmps9
    go_wp2
    go_ret
    exact ⟨rfl, rfl⟩
  · have i1 : ¬ ((n : Int) ≤ 200) := by omega
    clear h
    go_enter Try.func9, Try.ntmps9
    go_wp2
    go_ret
    exact ⟨rfl, rfl⟩
end Go.Proofs.Ytmmkcnohicfjeaa
