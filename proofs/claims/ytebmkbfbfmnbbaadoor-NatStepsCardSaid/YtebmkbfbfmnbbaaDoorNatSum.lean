/-
  The reference's Add gives the list of the sum of two numbers and true, or an empty list and false if it has more than 64 limbs. For every two slices of int; nothing that was there turns.
-/
import Derived.Test.YtebmkbfbfmnbbaaDoorNatSumM
namespace Go.Proofs.YtebmkbfbfmnbbaaDoor
open Go.RowKit

set_option maxHeartbeats 6400000 in
theorem add_any (ao bo : Option Addr) (a b : List Int) (ca cb : Nat) (w : World) (ha : IsS w ao a ca) (hb : IsS w bo b cb) :
    Calls Tryd.prog 13 #[.slice ao a.length ca, .slice bo b.length cb] w (RetSB w (bdL (lim (nv a + nv b))) (bdB (lim (nv a + nv b)))) := by
  obtain ⟨i0, hi, hz0, hz1, hz2⟩ := info_parts infoI
  obtain ⟨x, hx⟩ := num_of a
  obtain ⟨y, hy⟩ := num_of b
  have lx := hx.len
  have ly := hy.len
  go_enter Tryd.func13, Tryd.ntmps13
  go_wp2_with fail
  go_at_call 36; refine (num_get hx _ _ _ ha).mono ?_; rintro e w1 ⟨ao1, c1, rfl, h1, f1⟩
  go_wp2_with fail
  go_at_call 36; refine (num_get hy _ _ _ (hb.on f1)).mono ?_; rintro e w2 ⟨bo1, c2, rfl, h2, f2⟩
  go_wp2
  go_loopw [8, 9, 10] (fun v cc i wr => ∃ (k : Nat) (o : List Int) (c : Int), i = .int .i64 k ∧ (k ≤ x.length ∨ k ≤ y.length) ∧ k ≤ 64 ∧ cc = .int .i64 c ∧ 0 ≤ c ∧ c ≤ 1 ∧ wr.ownsRow w2.heap.size 3 1 v k (cs o) ∧ Fur w2 wr ∧ Hid (AddAt x y k o c)) (fun _ _ i _ => 64 - (RowKit.intOf i).toNat)
  case atStart => exact ⟨0, [], 0, rfl, .inl (Nat.zero_le _), Nat.zero_le _, rfl, by decide, by decide, World.ownsRow_nil _ _ _ _, Fur.refl _, ⟨rfl, digs_nil, by decide, by decide, rfl⟩⟩
  case round =>
    obtain ⟨k, o, c, rfl, hk, hk64, rfl, d0, d1, hown, hf, HA⟩ := hrel
    have g1 := (h1.on f2).on hf
    have g2 := h2.on hf
    have hsz := hf.size
    by_cases hlt : k < x.length ∨ k < y.length
    · have lk : k < 64 := by omega
      have P := digs_getD hx.digs k
      have Q := digs_getD hy.digs k
      have hst := fun p q (hp : x.getD k 0 = p) (hq : y.getD k 0 = q) => add_step (p := p) (q := q) HA.out hp hq
      have cx : ∀ w, IsS w ao1 x c1 → Calls Tryd.prog 37 #[.slice ao1 x.length c1, .int .i64 k] w fun e w' => e = .returned (.int .i64 (x.getD k 0)) ∧ w = w' := fun w h => limb_any _ _ _ k w h
      have cy : ∀ w, IsS w bo1 y c2 → Calls Tryd.prog 37 #[.slice bo1 y.length c2, .int .i64 k] w fun e w' => e = .returned (.int .i64 (y.getD k 0)) ∧ w = w' := fun w h => limb_any _ _ _ k w h
      generalize x.getD k 0 = p at P hst cx
      generalize y.getD k 0 = q at Q hst cy
      obtain ⟨p0, p1⟩ := P
      obtain ⟨q0, q1⟩ := Q
      have HS := Lib.hid (hst p q rfl rfl p0 p1 q0 q1)
      have CX := Lib.hid cx
      have CY := Lib.hid cy
      have hk2 : k + 1 ≤ x.length ∨ k + 1 ≤ y.length := by omega
      have HK := Lib.hid hk2
      clear hst cx cy hk2 hk
      have hor : k < x.length ∨ (x.length ≤ k ∧ k < y.length) := by omega
      clear hlt
      rcases hor with hlt | ⟨hge, hlt⟩
      all_goals
        go_wp2_with fail
        go_at_call 37; refine (CX.out _ g1).mono ?_; rintro e w4 ⟨rfl, rfl⟩
        go_wp2_with fail
        go_at_call 37; refine (CY.out _ g2).mono ?_; rintro e w4 ⟨rfl, rfl⟩
        go_wp2_with (at_builtin; refine wpList_append_own _ rfl (.tmp 37) (.tmp 40) 23 rfl w2.heap.size 3 i0 (.int .i64 0) 1 8 Tryd.underlying23 hi hz0 hz1 hz2 rfl (by decide) _ _ _ rfl (hown.alloc _) ⟨wr.heap.size, 0, none⟩ 1 1 [.int .i64 ((p + q + c) % 1000000000)] rfl rfl (at_one _ _) (by intro u hu; simp at hu; subst hu; rfl) (by unfold maxLen; omega) (by omega) (by simp; omega) ?_; intro v' w5 hown' hgrow _)
        have hown2 : w5.ownsRow w2.heap.size 3 1 v' (k + 1) (cs (o ++ [(p + q + c) % 1000000000])) := by rw [cs_app]; exact hown'
        have hf2 := fur_own hf hown hgrow
        clear hown' hgrow
        go_wp2
        go_roundw
        case rel => exact ⟨k + 1, _, _, by go_num, HK.out, by omega, rfl, by omega, by omega, hown2, hf2, HS.out⟩
        case measure => simp [RowKit.intOf]; omega
    · have kx : x.length ≤ k := by omega
      have ky : y.length ≤ k := by omega
      have HE := Lib.hid (add_end hx hy HA.out kx ky hk)
      clear hlt hk
      rcases bit_cases d0 d1 with rfl | rfl
      · have HO := Lib.hid (HE.out.1 rfl)
        obtain ⟨ao3, c3, rfl, hl, hI⟩ := IsS.of_own hown
        have HB := Lib.hid (bounded_any ao3 o c3 _ hI)
        subst hl
        go_wp2_with fail
        go_at_call 38; refine HB.out.mono ?_; rintro e w6 ⟨ao6, c6, rfl, h6, f6⟩
        go_wp2
        go_ret2
        exact retb_of (congrArg bdL HO.out.symm) (congrArg bdB HO.out.symm) ⟨_, _, rfl, h6, ((f1.trans f2).trans hf).trans f6⟩
      · have HO := Lib.hid (HE.out.2 rfl)
        go_wp2_with (first | fail | (at_builtin; refine wpList_append_own _ rfl (.tmp 46) (.tmp 48) 23 rfl w2.heap.size 3 i0 (.int .i64 0) 1 8 Tryd.underlying23 hi hz0 hz1 hz2 rfl (by decide) _ _ _ rfl (hown.alloc _) ⟨wr.heap.size, 0, none⟩ 1 1 [.int .i64 1] rfl rfl (at_one _ _) (by intro u hu; simp at hu; subst hu; rfl) (by unfold maxLen; omega) (by omega) (by simp; omega) ?_; intro v' w5 hown' hgrow _; refine Hid.out ?_))
        refine Lib.hid ?_
        have hown2 : w5.ownsRow w2.heap.size 3 1 v' (k + 1) (cs (o ++ [1])) := by rw [cs_app]; exact hown'
        have hf2 := fur_own hf hown hgrow
        clear hown' hgrow
        have ho := HO.out
        obtain ⟨o2, ho2⟩ : ∃ o2 : List Int, o ++ [1] = o2 := ⟨_, rfl⟩
        rw [ho2] at hown2 ho
        have HO2 := Lib.hid ho
        clear HO ho ho2 HE HA
        obtain ⟨ao3, c3, rfl, hl, hI⟩ := IsS.of_own hown2
        have HB := Lib.hid (bounded_any ao3 o2 c3 _ hI)
        clear hl hown2
        go_wp2_with fail
        go_at_call 38; refine HB.out.mono ?_; rintro e w6 ⟨ao6, c6, rfl, h6, f6⟩
        go_wp2
        go_ret2
        exact retb_of (congrArg bdL HO2.out.symm) (congrArg bdB HO2.out.symm) ⟨_, _, rfl, h6, ((f1.trans f2).trans hf2).trans f6⟩
end Go.Proofs.YtebmkbfbfmnbbaaDoor
