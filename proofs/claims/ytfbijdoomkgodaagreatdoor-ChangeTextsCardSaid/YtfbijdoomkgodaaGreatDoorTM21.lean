/-
  CmA; CmB: texts of one kind in one file; each part says what it holds.
-/
import Derived.Test.YtfbijdoomkgodaaGreatDoorTM16
import Derived.Test.YtfbijdoomkgodaaGreatDoorTK01
import Derived.Test.YtfbijdoomkgodaaGreatDoorTM20
import Derived.Deep.RegionWith

/-! The reference of package frac: order compares wide numbers. Nothing that was there turns. -/
namespace Go.Proofs.YtfbijdoomkgodaaGreatDoor
open Go.RowKit

set_option maxHeartbeats 3200000 in
set_option maxRecDepth 100000 in
theorem rorder_any (ao bo : Option Addr) (x y : List Int) (ca cb m n : Nat) (w : World) (ha : IsS w ao x ca) (hb : IsS w bo y cb) (hx : Wide x m) (hy : Wide y n) :
    Calls Tryz.prog 200 #[.slice ao 14 ca, .slice bo 14 cb] w (RwI w (cmpN m n)) := by
  have lx := hx.len
  have ly := hy.len
  have HLX := Lib.hid lx
  have HLY := Lib.hid ly
  clear lx ly
  go_enter Tryz.func200, Tryz.ntmps200
  go_wp2
  go_loopw [5] (fun i wr => ∃ j : Int, i = .int .i64 j ∧ -1 ≤ j ∧ j < 14 ∧ Hid (wv (x.drop (j + 1).toNat) = wv (y.drop (j + 1).toNat)) ∧ Fuw w wr) (fun i _ => (RowKit.intOf i + 1).toNat)
  case atStart => exact ⟨_, rfl, by omega, by omega, (by
    show wv (x.drop _) = wv (y.drop _)
    rw [List.drop_of_length_le (by rw [HLX.out]; decide), List.drop_of_length_le (by rw [HLY.out]; decide)]), Fuw.refl _⟩
  case round =>
    obtain ⟨j, rfl, j0, j1, HD, hf⟩ := hrel
    by_cases hj : j = -1
    · subst hj
      have HE := Lib.hid (cmpN_eq (show m = n by
        have h := HD.out
        rw [← hx.val, ← hy.val]
        exact h))
      go_wp2
      go_ret
      exact ⟨ret_int HE.out.symm, hf⟩
    · obtain ⟨k, rfl⟩ : ∃ k : Nat, j = (k : Int) := ⟨j.toNat, by omega⟩
      have hd : wv (x.drop (k + 1)) = wv (y.drop (k + 1)) := HD.out
      have P := wd_getD hx.digs k
      have Q := wd_getD hy.digs k
      obtain ⟨p, hp⟩ : ∃ p, x.getD k 0 = p := ⟨_, rfl⟩
      obtain ⟨q, hq⟩ : ∃ q, y.getD k 0 = q := ⟨_, rfl⟩
      rw [hp] at P
      rw [hq] at Q
      have hlt := or_lt k hx.digs hd hp hq P.1
      have hgt := or_lt k hy.digs hd.symm hq hp Q.1
      have hst := fun (e : p = q) => show wv (x.drop k) = wv (y.drop k) by rw [wv_drop x k, wv_drop y k, hd, hp, hq, e]
      rw [hx.val, hy.val] at hlt hgt
      obtain ⟨b1, o1, rfl, _, c1⟩ := (ha.onw hf).at_ (by rw [HLX.out]; decide)
      obtain ⟨b2, o2, rfl, _, c2⟩ := (hb.onw hf).at_ (by rw [HLY.out]; decide)
      have hc1 := c1 k (by rw [HLX.out]; omega)
      have hc2 := c2 k (by rw [HLY.out]; omega)
      rw [hp] at hc1
      rw [hq] at hc2
      clear c1 c2 hd hp hq P Q
      have k14 : (k : Int) < 14 := by omega
      rcases (show p < q ∨ p = q ∨ q < p by omega) with h | h | h
      · have HE := Lib.hid (cmpN_lt (hlt h))
        clear hlt hgt hst
        go_wp2
        go_region
        go_wp2
        go_ret
        exact ⟨ret_int HE.out.symm, hf.drew⟩
      · subst h
        have HS := Lib.hid (hst rfl)
        clear hlt hgt hst
        go_wp2
        go_region
        go_wp2
        go_region
        go_wp2
        go_roundw
        case rel => exact ⟨_, rfl, by omega, by omega, (by
          have e : ((k : Int) - 1 + 1).toNat = k := by omega
          show wv (x.drop _) = wv (y.drop _)
          rw [e]; exact HS.out), hf.drew.drew⟩
        case measure => simp [RowKit.intOf]
      · have HE := Lib.hid (cmpN_gt (hgt h))
        clear hlt hgt hst
        go_wp2
        go_region
        go_wp2
        go_region
        go_wp2
        go_ret
        exact ⟨ret_int HE.out.symm, hf.drew.drew⟩

end Go.Proofs.YtfbijdoomkgodaaGreatDoor

/-! The reference of package frac: sum adds two ints that are given by their signs and their absolute values as wide numbers. Nothing that was there turns. -/
namespace Go.Proofs.YtfbijdoomkgodaaGreatDoor
open Go.RowKit

/-- An int and a wide number. -/
def RwIW (w : World) (s : Int) (n : Nat) (e : Ending) (w' : World) : Prop := ∃ zs ao cap, Wide zs n ∧ e = .returned (.tuple #[.int .i64 s, .slice ao 14 cap]) ∧ IsS w' ao zs cap ∧ Fuw w w'

theorem z14w (w : World) : IsS (w.alloc (.cells (cs (List.replicate 14 0)).toArray 3)) (some ⟨w.heap.size, 0, none⟩) (List.replicate 14 0) 14 :=
  ⟨by simp, by unfold maxLen; omega, (fun h => by cases h), fun _ => ⟨w.heap.size, 0, rfl, by simp, fun j hj => by
    rw [show ((0 : Nat) + j) = j by omega]
    have k := World.cell?_alloc_mark w (cs (List.replicate 14 0)).toArray 3 (0, 0) j
    rw [k, List.getElem?_toArray, cs_getD hj]⟩⟩

theorem mk14 (w : World) : (Instr.makeSlice 156 (.int .i64 14) (.int .i64 14)).run Tryz.prog w = .ok (.slice (some ⟨w.heap.size, 0, none⟩) 14 14) (w.alloc (.cells (cs (List.replicate 14 0)).toArray 3)) := by
  obtain ⟨i0, hi, hz0, hz1, hz2⟩ := info_parts infoI
  have k := run_make (P := Tryz.prog) w 156 3 i0 (.int .i64 0) Tryz.underlying156 hi hz0 .i64 .i64 14 14 (by decide) (by decide) (by rw [hz2]; decide) (by decide)
  have e : madeCells (Value.int .i64 0).cells (14 * 1) = (cs (List.replicate 14 0)).toArray := by
    apply Array.toList_inj.1
    rw [made_zero]
  rw [hz1, show (14 : Int).toNat = 14 from rfl, e] at k
  exact k
theorem zz_any : ∃ Z : Obj, (∀ w : World, (Instr.makeSlice 156 (.int .i64 14) (.int .i64 14)).run Tryz.prog w = .ok (.slice (some ⟨w.heap.size, 0, none⟩) 14 14) (w.alloc Z)) ∧
    (∀ (w : World) (i j : Nat), (i = w.heap.size ∨ i = w.heap.size + 1) → (j = w.heap.size ∨ j = w.heap.size + 1) → Calls Tryz.prog 199 #[.slice (some ⟨i, 0, none⟩) 14 14, .slice (some ⟨j, 0, none⟩) 14 14] ((w.alloc Z).alloc Z).drew (RwW w 0)) := by
  refine ⟨.cells (cs (List.replicate 14 0)).toArray 3, mk14, fun w i j hi hj => ?_⟩
  have i1 := z14w w
  have i2 := z14w (w.alloc (.cells (cs (List.replicate 14 0)).toArray 3))
  have e : (w.alloc (.cells (cs (List.replicate 14 0)).toArray 3)).heap.size = w.heap.size + 1 := by simp
  rw [e] at i2
  have f1 : Fuw w (w.alloc (.cells (cs (List.replicate 14 0)).toArray 3)) := (Fuw.refl w).alloc _
  have f2 : Fuw (w.alloc (.cells (cs (List.replicate 14 0)).toArray 3)) ((w.alloc (.cells (cs (List.replicate 14 0)).toArray 3)).alloc (.cells (cs (List.replicate 14 0)).toArray 3)).drew := ((Fuw.refl _).alloc _).drew
  have k1 := i1.onw f2
  have k2 := i2.onw ((Fuw.refl _).drew)
  generalize (w.alloc (.cells (cs (List.replicate 14 0)).toArray 3)) = wa at *
  have ki : IsS ((wa.alloc (.cells (cs (List.replicate 14 0)).toArray 3)).drew) (some ⟨i, 0, none⟩) (List.replicate 14 0) 14 := by
    rcases hi with rfl | rfl
    · exact k1
    · exact k2
  have kj : IsS ((wa.alloc (.cells (cs (List.replicate 14 0)).toArray 3)).drew) (some ⟨j, 0, none⟩) (List.replicate 14 0) 14 := by
    rcases hj with rfl | rfl
    · exact k1
    · exact k2
  exact (rplus_any _ _ _ _ 14 14 0 0 _ ki kj wide_zeros wide_zeros (by decide)).mono fun _ _ ⟨zs, ao, cap, h1, h2, h3, h4⟩ => ⟨zs, ao, cap, h1, h2, h3, (f1.trans f2).trans h4⟩

set_option maxHeartbeats 3200000 in
set_option maxRecDepth 100000 in
theorem rsum_any (A B : Int) (ao bo : Option Addr) (x y : List Int) (ca cb : Nat) (w : World) (ha : IsS w ao x ca) (hb : IsS w bo y cb) (hx : Wide x A.natAbs) (hy : Wide y B.natAbs) (hlt : A.natAbs + B.natAbs < 1000 ^ 14) :
    Calls Tryz.prog 150 #[.int .i64 A.sign, .slice ao 14 ca, .int .i64 B.sign, .slice bo 14 cb] w (RwIW w (A + B).sign (A + B).natAbs) := by
  have CP := Lib.hid (rplus_any ao bo x y ca cb _ _ w ha hb hx hy hlt)
  have CO := Lib.hid (rorder_any ao bo x y ca cb _ _ w ha hb hx hy)
  clear hlt
  rcases Int.lt_trichotomy A 0 with hA | hA | hA
  · rcases Int.lt_trichotomy B 0 with hB | hB | hB
    · have e3 : (A + B).natAbs = A.natAbs + B.natAbs := by omega
      rw [e3, Int.sign_eq_neg_one_of_neg hA, Int.sign_eq_neg_one_of_neg hB, Int.sign_eq_neg_one_of_neg (show A + B < 0 by omega)]
      clear e3 CO
      go_enter Tryz.func150, Tryz.ntmps150
      go_wp2_with fail
      go_at_call 199; refine CP.out.mono ?_; rintro e w1 ⟨zs, ao1, c1, hW, rfl, hI, hf⟩
      go_wp2
      go_ret2
      exact ⟨zs, _, _, hW, rfl, hI, hf⟩
    · subst hB
      have e3 : (A + 0).natAbs = A.natAbs + (0 : Int).natAbs := by omega
      have e4 : (A + 0).sign = -1 := by rw [Int.add_zero]; exact Int.sign_eq_neg_one_of_neg hA
      rw [e3, e4]
      rw [Int.sign_eq_neg_one_of_neg hA]
      rw [show (0 : Int).sign = 0 from rfl]
      clear e3 e4 CO
      go_enter Tryz.func150, Tryz.ntmps150
      go_wp2_with fail
      go_at_call 199; refine CP.out.mono ?_; rintro e w1 ⟨zs, ao1, c1, hW, rfl, hI, hf⟩
      go_wp2
      go_ret2
      exact ⟨zs, _, _, hW, rfl, hI, hf⟩
    · rcases Nat.lt_trichotomy A.natAbs B.natAbs with h | h | h
      · have e3 : (A + B).natAbs = B.natAbs - A.natAbs := by omega
        have e4 : (A + B).sign = 1 := Int.sign_eq_one_of_pos (show 0 < A + B by omega)
        rw [e3, e4, Int.sign_eq_neg_one_of_neg hA, Int.sign_eq_one_of_pos hB]
        have CM := Lib.hid (fun (w1 : World) (f1 : Fuw w w1) => rminus_any bo ao y x cb ca _ _ w1 (hb.onw f1) (ha.onw f1) hy hx (Nat.le_of_lt h))
        rw [cmpN_lt h] at CO
        clear e3 e4 CP h
        go_enter Tryz.func150, Tryz.ntmps150
        go_wp2_with fail
        go_at_call 200; refine CO.out.mono ?_; rintro e w1 ⟨rfl, f1⟩
        go_wp2_with fail
        go_at_call 201; refine (CM.out _ f1).mono ?_; rintro e w2 ⟨zs, ao1, c1, hW, rfl, hI, hf⟩
        go_wp2
        go_ret2
        exact ⟨zs, _, _, hW, rfl, hI, f1.trans hf⟩
      · have e3 : A + B = 0 := by omega
        rw [e3, Int.sign_eq_neg_one_of_neg hA, Int.sign_eq_one_of_pos hB]
        rw [cmpN_eq h] at CO
        clear e3 CP h
        go_enter Tryz.func150, Tryz.ntmps150
        go_wp2_with fail
        go_at_call 200; refine CO.out.mono ?_; rintro e w1 ⟨rfl, f1⟩
        obtain ⟨Z, hmk, hzz⟩ := zz_any
        have HZZ := Lib.hid (hzz w1)
        clear hzz
        go_wp2
        go_region_with (go_at_call 199; refine (HZZ.out _ _ ?_ ?_).mono ?_; (first | exact .inl rfl | exact .inr rfl); (first | exact .inl rfl | exact .inr rfl); rintro e w2 ⟨zs, ao1, c1, hW, rfl, hI, hf⟩)
        all_goals
          go_wp2
          go_ret2
          exact ⟨zs, _, _, hW, rfl, hI, f1.trans hf⟩
      · have e3 : (A + B).natAbs = A.natAbs - B.natAbs := by omega
        have e4 : (A + B).sign = -1 := Int.sign_eq_neg_one_of_neg (show A + B < 0 by omega)
        rw [e3, e4, Int.sign_eq_neg_one_of_neg hA, Int.sign_eq_one_of_pos hB]
        have CM := Lib.hid (fun (w1 : World) (f1 : Fuw w w1) => rminus_any ao bo x y ca cb _ _ w1 (ha.onw f1) (hb.onw f1) hx hy (Nat.le_of_lt h))
        rw [cmpN_gt h] at CO
        clear e3 e4 CP h
        go_enter Tryz.func150, Tryz.ntmps150
        go_wp2_with fail
        go_at_call 200; refine CO.out.mono ?_; rintro e w1 ⟨rfl, f1⟩
        go_wp2_with fail
        go_at_call 201; refine (CM.out _ f1).mono ?_; rintro e w2 ⟨zs, ao1, c1, hW, rfl, hI, hf⟩
        go_wp2
        go_ret2
        exact ⟨zs, _, _, hW, rfl, hI, f1.trans hf⟩
  · rcases Int.lt_trichotomy B 0 with hB | hB | hB
    · subst hA
      have e3 : ((0 : Int) + B) = B := by omega
      rw [e3, show (0 : Int).sign = 0 from rfl, Int.sign_eq_neg_one_of_neg hB]
      clear e3 CO CP
      go_enter Tryz.func150, Tryz.ntmps150
      go_wp2
      go_ret2
      exact ⟨y, _, _, hy, rfl, hb, Fuw.refl _⟩
    · subst hB
      subst hA
      have e3 : ((0 : Int) + 0).natAbs = (0 : Int).natAbs + (0 : Int).natAbs := by omega
      have e4 : ((0 : Int) + 0).sign = 0 := by rw [Int.add_zero]; exact rfl
      rw [e3, e4]
      rw [show (0 : Int).sign = 0 from rfl]
      clear e3 e4 CO
      go_enter Tryz.func150, Tryz.ntmps150
      go_wp2_with fail
      go_at_call 199; refine CP.out.mono ?_; rintro e w1 ⟨zs, ao1, c1, hW, rfl, hI, hf⟩
      go_wp2
      go_ret2
      exact ⟨zs, _, _, hW, rfl, hI, hf⟩
    · subst hA
      have e3 : ((0 : Int) + B) = B := by omega
      rw [e3, show (0 : Int).sign = 0 from rfl, Int.sign_eq_one_of_pos hB]
      clear e3 CO CP
      go_enter Tryz.func150, Tryz.ntmps150
      go_wp2
      go_ret2
      exact ⟨y, _, _, hy, rfl, hb, Fuw.refl _⟩
  · rcases Int.lt_trichotomy B 0 with hB | hB | hB
    · rcases Nat.lt_trichotomy A.natAbs B.natAbs with h | h | h
      · have e3 : (A + B).natAbs = B.natAbs - A.natAbs := by omega
        have e4 : (A + B).sign = -1 := Int.sign_eq_neg_one_of_neg (show A + B < 0 by omega)
        rw [e3, e4, Int.sign_eq_one_of_pos hA, Int.sign_eq_neg_one_of_neg hB]
        have CM := Lib.hid (fun (w1 : World) (f1 : Fuw w w1) => rminus_any bo ao y x cb ca _ _ w1 (hb.onw f1) (ha.onw f1) hy hx (Nat.le_of_lt h))
        rw [cmpN_lt h] at CO
        clear e3 e4 CP h
        go_enter Tryz.func150, Tryz.ntmps150
        go_wp2_with fail
        go_at_call 200; refine CO.out.mono ?_; rintro e w1 ⟨rfl, f1⟩
        go_wp2_with fail
        go_at_call 201; refine (CM.out _ f1).mono ?_; rintro e w2 ⟨zs, ao1, c1, hW, rfl, hI, hf⟩
        go_wp2
        go_ret2
        exact ⟨zs, _, _, hW, rfl, hI, f1.trans hf⟩
      · have e3 : A + B = 0 := by omega
        rw [e3, Int.sign_eq_one_of_pos hA, Int.sign_eq_neg_one_of_neg hB]
        rw [cmpN_eq h] at CO
        clear e3 CP h
        go_enter Tryz.func150, Tryz.ntmps150
        go_wp2_with fail
        go_at_call 200; refine CO.out.mono ?_; rintro e w1 ⟨rfl, f1⟩
        obtain ⟨Z, hmk, hzz⟩ := zz_any
        have HZZ := Lib.hid (hzz w1)
        clear hzz
        go_wp2
        go_region_with (go_at_call 199; refine (HZZ.out _ _ ?_ ?_).mono ?_; (first | exact .inl rfl | exact .inr rfl); (first | exact .inl rfl | exact .inr rfl); rintro e w2 ⟨zs, ao1, c1, hW, rfl, hI, hf⟩)
        all_goals
          go_wp2
          go_ret2
          exact ⟨zs, _, _, hW, rfl, hI, f1.trans hf⟩
      · have e3 : (A + B).natAbs = A.natAbs - B.natAbs := by omega
        have e4 : (A + B).sign = 1 := Int.sign_eq_one_of_pos (show 0 < A + B by omega)
        rw [e3, e4, Int.sign_eq_one_of_pos hA, Int.sign_eq_neg_one_of_neg hB]
        have CM := Lib.hid (fun (w1 : World) (f1 : Fuw w w1) => rminus_any ao bo x y ca cb _ _ w1 (ha.onw f1) (hb.onw f1) hx hy (Nat.le_of_lt h))
        rw [cmpN_gt h] at CO
        clear e3 e4 CP h
        go_enter Tryz.func150, Tryz.ntmps150
        go_wp2_with fail
        go_at_call 200; refine CO.out.mono ?_; rintro e w1 ⟨rfl, f1⟩
        go_wp2_with fail
        go_at_call 201; refine (CM.out _ f1).mono ?_; rintro e w2 ⟨zs, ao1, c1, hW, rfl, hI, hf⟩
        go_wp2
        go_ret2
        exact ⟨zs, _, _, hW, rfl, hI, f1.trans hf⟩
    · subst hB
      have e3 : (A + 0).natAbs = A.natAbs + (0 : Int).natAbs := by omega
      have e4 : (A + 0).sign = 1 := by rw [Int.add_zero]; exact Int.sign_eq_one_of_pos hA
      rw [e3, e4]
      rw [Int.sign_eq_one_of_pos hA]
      rw [show (0 : Int).sign = 0 from rfl]
      clear e3 e4 CO
      go_enter Tryz.func150, Tryz.ntmps150
      go_wp2_with fail
      go_at_call 199; refine CP.out.mono ?_; rintro e w1 ⟨zs, ao1, c1, hW, rfl, hI, hf⟩
      go_wp2
      go_ret2
      exact ⟨zs, _, _, hW, rfl, hI, hf⟩
    · have e3 : (A + B).natAbs = A.natAbs + B.natAbs := by omega
      rw [e3, Int.sign_eq_one_of_pos hA, Int.sign_eq_one_of_pos hB, Int.sign_eq_one_of_pos (show 0 < A + B by omega)]
      clear e3 CO
      go_enter Tryz.func150, Tryz.ntmps150
      go_wp2_with fail
      go_at_call 199; refine CP.out.mono ?_; rintro e w1 ⟨zs, ao1, c1, hW, rfl, hI, hf⟩
      go_wp2
      go_ret2
      exact ⟨zs, _, _, hW, rfl, hI, hf⟩
end Go.Proofs.YtfbijdoomkgodaaGreatDoor
