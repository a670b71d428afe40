/-
  RaB; Rtx: texts of one kind in one file; each part says what it holds.
-/
import Derived.Test.YtfbijdoomkgodaaGreatDoorTK40
import Derived.Test.YtfbijdoomkgodaaGreatDoorTK29
import Derived.Laws.IdiomStrings
import Derived.Lib.ItoaLen

/-! The reference of package change: Check. -/
namespace Go.Proofs.YtfbijdoomkgodaaGreatDoor
open Go.RowKit

theorem chkR_of {c : Ch} {i1 i2 i3 n em v zn nv pl : Bool} (h1 : i1 = idV c.id) (h2 : i2 = idV c.fr) (h3 : i3 = idV c.tt) (h4 : n = nmd c.op) (h5 : em = c.nm.isEmpty) (h6 : v = vld c.op) (h7 : zn = isN c.v) (h8 : nv = nameV c.nm) (h9 : pl = plnV c.v) :
    chkC c = if ((decide (1 ≤ c.op) && decide (c.op ≤ 8)) && (i1 && (!decide (c.op = 6) || (i2 && i3))) && ((decide (c.op = 6) || (decide (c.fr = 0) && decide (c.tt = 0))) && (n || em) && (v || zn))) = false then 1 else if (n && !nv) = true then 6 else if (!zn && !pl) = true then 8 else 0 := by
  subst h1 h2 h3 h4 h5 h6 h7 h8 h9; rfl
set_option maxHeartbeats 12800000 in
set_option maxRecDepth 100000 in
theorem rchk8_any (c : Ch) (a : Option Addr) (k : Nat) (w : World) (h : ChIn w c a k) : Calls Tryz.prog 13 #[.agg (chC c a k)] w (FwI w (chkC c)) := by
  obtain ⟨W, hW⟩ : ∃ W, W = w.alloc (.cells (chC c a k) 30) := ⟨_, rfl⟩
  have fW : Fuw w W := by rw [hW]; exact fuwA _ _
  have bW : Bk W w.heap.size (chC c a k) 30 := by rw [hW]; exact Bk.new _ _ _
  have HI1 := Lib.hid (fun (w' : World) => rid_any c.id w')
  have HI2 := Lib.hid (fun (w' : World) => rid_any c.fr w')
  have HI3 := Lib.hid (fun (w' : World) => rid_any c.tt w')
  have HNA := Lib.hid (fun (w' : World) => rnamed_any c.op w')
  have HVA := Lib.hid (fun (w' : World) => rvalued_any c.op w')
  have HNM := Lib.hid (fun (w' : World) => show Calls Tryz.prog 40 #[.string (bs c.nm)] w' (PureB w' (nameV c.nm)) from by
    have := rname_any (bs c.nm) w' (by rw [bs_size]; exact h.n)
    rwa [bs_data] at this)
  have HNU := Lib.hid (fun (w' : World) (hf : Fuw w w') => rnull_any c.v a k w' h.v (h.s.onw hf))
  have HPL := Lib.hid (fun (w' : World) (hf : Fuw w w') => rplain_any c.v a k w' h.v (h.s.onw hf))
  have HR := Lib.hid (chkR_of (c := c) rfl rfl rfl rfl rfl rfl rfl rfl rfl)
  have y1 : ((bs c.nm).toList == []) = c.nm.isEmpty := by rw [bs_list]; cases c.nm <;> rfl
  have y3 : (bs c.nm).toList.isEmpty = c.nm.isEmpty := by rw [bs_list]
  generalize chkC c = R at *
  have HB := Lib.hid bW
  have HF := Lib.hid fW
  obtain ⟨op, id, fr, tt, nm, v⟩ := c
  unfold vlv at HNU HPL
  unfold chC at *
  simp only at *
  generalize idV id = i1 at *
  generalize idV fr = i2 at *
  generalize idV tt = i3 at *
  generalize nmd op = n at *
  generalize vld op = vv at *
  generalize nm.isEmpty = em at *
  generalize nameV nm = nv at *
  generalize isN v = zn at *
  generalize plnV v = pl at *
  clear h bW fW
  go_enter Tryz.func13, Tryz.ntmps13
  go_upto_region 1 with fail
  rw [← hW]
  clear hW
  have c0 := HB.out.c 0; have c1 := HB.out.c 1; have c2 := HB.out.c 2; have c3 := HB.out.c 3; have c4 := HB.out.c 4; have c5 := HB.out.c 5; have c6 := HB.out.c 6; have c7 := HB.out.c 7; have c8 := HB.out.c 8; have c9 := HB.out.c 9
  by_cases h1 : op < 1
  · skip
    have q := HR.out
    rw [decide_eq_false (show ¬ 1 ≤ op by omega)] at q
    replace HR := Lib.hid q
    clear q
    have HE := Lib.hid (show R = 1 from HR.out.trans (by simp))
    go_wp2
    go_ret
    exact ⟨ret_int HE.out.symm, HF.out⟩
  by_cases h2 : 8 < op
  · skip
    have q := HR.out
    rw [decide_eq_false (show ¬ op ≤ 8 by omega)] at q
    replace HR := Lib.hid q
    clear q
    have HE := Lib.hid (show R = 1 from HR.out.trans (by simp))
    go_wp2
    go_ret
    exact ⟨ret_int HE.out.symm, HF.out⟩
  have q := HR.out
  rw [decide_eq_true (show 1 ≤ op by omega), decide_eq_true (show op ≤ 8 by omega)] at q
  replace HR := Lib.hid q
  clear q
  go_wp2_with fail
  go_at_call 36; refine (HI1.out _).mono ?_; rintro e1 w1 ⟨rfl, rfl⟩
  cases i1 with
  | false =>
    have HE := Lib.hid (show R = 1 from HR.out.trans (by simp))
    go_wp2
    go_ret
    exact ⟨ret_int HE.out.symm, HF.out⟩
  | true =>
    go_wp2_with fail
    go_at_call 37; refine (HNA.out _).mono ?_; rintro e1 w1 ⟨rfl, rfl⟩
    cases n with
    | false =>
      cases em with
      | false =>
        have HE := Lib.hid (show R = 1 from HR.out.trans (by simp))
        go_wp2
        go_ret
        exact ⟨ret_int HE.out.symm, HF.out⟩
      | true =>
        go_wp2_with fail
        go_at_call 38; refine (HVA.out _).mono ?_; rintro e1 w1 ⟨rfl, rfl⟩
        cases vv with
        | false =>
          go_wp2_with fail
          go_at_call 39; refine (HNU.out _ HF.out).mono ?_; rintro e1 w1 ⟨rfl, f1⟩
          replace HF := Lib.hid (HF.out.trans f1)
          replace HB := Lib.hid (HB.out.on f1)
          clear f1 c0 c1 c2 c3 c4 c5 c6 c7 c8 c9
          have c0 := HB.out.c 0; have c1 := HB.out.c 1; have c2 := HB.out.c 2; have c3 := HB.out.c 3; have c4 := HB.out.c 4; have c5 := HB.out.c 5; have c6 := HB.out.c 6; have c7 := HB.out.c 7; have c8 := HB.out.c 8; have c9 := HB.out.c 9
          cases zn with
          | false =>
            have HE := Lib.hid (show R = 1 from HR.out.trans (by simp))
            go_wp2
            go_ret
            exact ⟨ret_int HE.out.symm, HF.out⟩
          | true =>
            by_cases h6 : op = 6
            · skip
              have q := HR.out
              rw [decide_eq_true h6] at q
              replace HR := Lib.hid q
              clear q
              subst h6
              go_wp2_with fail
              go_at_call 36; refine (HI2.out _).mono ?_; rintro e1 w1 ⟨rfl, rfl⟩
              cases i2 with
              | false =>
                have HE := Lib.hid (show R = 1 from HR.out.trans (by simp))
                go_wp2
                go_ret
                exact ⟨ret_int HE.out.symm, HF.out⟩
              | true =>
                go_wp2_with fail
                go_at_call 36; refine (HI3.out _).mono ?_; rintro e1 w1 ⟨rfl, rfl⟩
                cases i3 with
                | false =>
                  have HE := Lib.hid (show R = 1 from HR.out.trans (by simp))
                  go_wp2
                  go_ret
                  exact ⟨ret_int HE.out.symm, HF.out⟩
                | true =>
                  go_wp2_with fail
                  go_at_call 37; refine (HNA.out _).mono ?_; rintro e1 w1 ⟨rfl, rfl⟩
                  go_wp2_with fail
                  go_at_call 38; refine (HVA.out _).mono ?_; rintro e1 w1 ⟨rfl, rfl⟩
                  have HE := Lib.hid (show R = 0 from HR.out.trans (by simp))
                  go_wp2
                  go_ret
                  exact ⟨ret_int HE.out.symm, HF.out⟩
            · skip
              have q := HR.out
              rw [decide_eq_false h6] at q
              replace HR := Lib.hid q
              clear q
              have h6b : (op == 6) = false := beq_eq_false_iff_ne.2 h6
              have h6c : (op != 6) = true := by rw [bne_iff_ne]; exact h6
              by_cases h3 : fr = 0
              · skip
                have q := HR.out
                rw [decide_eq_true h3] at q
                replace HR := Lib.hid q
                clear q
                subst h3
                by_cases h4 : tt = 0
                · skip
                  have q := HR.out
                  rw [decide_eq_true h4] at q
                  replace HR := Lib.hid q
                  clear q
                  subst h4
                  go_wp2_with fail
                  go_at_call 37; refine (HNA.out _).mono ?_; rintro e1 w1 ⟨rfl, rfl⟩
                  go_wp2_with fail
                  go_at_call 38; refine (HVA.out _).mono ?_; rintro e1 w1 ⟨rfl, rfl⟩
                  have HE := Lib.hid (show R = 0 from HR.out.trans (by simp))
                  go_wp2
                  go_ret
                  exact ⟨ret_int HE.out.symm, HF.out⟩
                · skip
                  have q := HR.out
                  rw [decide_eq_false h4] at q
                  replace HR := Lib.hid q
                  clear q
                  have h4b : (tt == 0) = false := beq_eq_false_iff_ne.2 h4
                  have h4c : (tt != 0) = true := by rw [bne_iff_ne]; exact h4
                  have HE := Lib.hid (show R = 1 from HR.out.trans (by simp))
                  go_wp2
                  go_ret
                  exact ⟨ret_int HE.out.symm, HF.out⟩
              · skip
                have q := HR.out
                rw [decide_eq_false h3] at q
                replace HR := Lib.hid q
                clear q
                have h3b : (fr == 0) = false := beq_eq_false_iff_ne.2 h3
                have h3c : (fr != 0) = true := by rw [bne_iff_ne]; exact h3
                have HE := Lib.hid (show R = 1 from HR.out.trans (by simp))
                go_wp2
                go_ret
                exact ⟨ret_int HE.out.symm, HF.out⟩
        | true =>
          by_cases h6 : op = 6
          · skip
            have q := HR.out
            rw [decide_eq_true h6] at q
            replace HR := Lib.hid q
            clear q
            subst h6
            go_wp2_with fail
            go_at_call 36; refine (HI2.out _).mono ?_; rintro e1 w1 ⟨rfl, rfl⟩
            cases i2 with
            | false =>
              have HE := Lib.hid (show R = 1 from HR.out.trans (by simp))
              go_wp2
              go_ret
              exact ⟨ret_int HE.out.symm, HF.out⟩
            | true =>
              go_wp2_with fail
              go_at_call 36; refine (HI3.out _).mono ?_; rintro e1 w1 ⟨rfl, rfl⟩
              cases i3 with
              | false =>
                have HE := Lib.hid (show R = 1 from HR.out.trans (by simp))
                go_wp2
                go_ret
                exact ⟨ret_int HE.out.symm, HF.out⟩
              | true =>
                go_wp2_with fail
                go_at_call 37; refine (HNA.out _).mono ?_; rintro e1 w1 ⟨rfl, rfl⟩
                go_wp2_with fail
                go_at_call 38; refine (HVA.out _).mono ?_; rintro e1 w1 ⟨rfl, rfl⟩
                go_wp2_with fail
                go_at_call 39; refine (HNU.out _ HF.out).mono ?_; rintro e1 w1 ⟨rfl, f1⟩
                replace HF := Lib.hid (HF.out.trans f1)
                replace HB := Lib.hid (HB.out.on f1)
                clear f1 c0 c1 c2 c3 c4 c5 c6 c7 c8 c9
                have c0 := HB.out.c 0; have c1 := HB.out.c 1; have c2 := HB.out.c 2; have c3 := HB.out.c 3; have c4 := HB.out.c 4; have c5 := HB.out.c 5; have c6 := HB.out.c 6; have c7 := HB.out.c 7; have c8 := HB.out.c 8; have c9 := HB.out.c 9
                cases zn with
                | false =>
                  go_wp2_with fail
                  go_at_call 41; refine (HPL.out _ HF.out).mono ?_; rintro e1 w1 ⟨rfl, f1⟩
                  replace HF := Lib.hid (HF.out.trans f1)
                  replace HB := Lib.hid (HB.out.on f1)
                  clear f1 c0 c1 c2 c3 c4 c5 c6 c7 c8 c9
                  have c0 := HB.out.c 0; have c1 := HB.out.c 1; have c2 := HB.out.c 2; have c3 := HB.out.c 3; have c4 := HB.out.c 4; have c5 := HB.out.c 5; have c6 := HB.out.c 6; have c7 := HB.out.c 7; have c8 := HB.out.c 8; have c9 := HB.out.c 9
                  cases pl with
                  | false =>
                    have HE := Lib.hid (show R = 8 from HR.out.trans (by simp))
                    go_wp2
                    go_ret
                    exact ⟨ret_int HE.out.symm, HF.out⟩
                  | true =>
                    have HE := Lib.hid (show R = 0 from HR.out.trans (by simp))
                    go_wp2
                    go_ret
                    exact ⟨ret_int HE.out.symm, HF.out⟩
                | true =>
                  have HE := Lib.hid (show R = 0 from HR.out.trans (by simp))
                  go_wp2
                  go_ret
                  exact ⟨ret_int HE.out.symm, HF.out⟩
          · skip
            have q := HR.out
            rw [decide_eq_false h6] at q
            replace HR := Lib.hid q
            clear q
            have h6b : (op == 6) = false := beq_eq_false_iff_ne.2 h6
            have h6c : (op != 6) = true := by rw [bne_iff_ne]; exact h6
            by_cases h3 : fr = 0
            · skip
              have q := HR.out
              rw [decide_eq_true h3] at q
              replace HR := Lib.hid q
              clear q
              subst h3
              by_cases h4 : tt = 0
              · skip
                have q := HR.out
                rw [decide_eq_true h4] at q
                replace HR := Lib.hid q
                clear q
                subst h4
                go_wp2_with fail
                go_at_call 37; refine (HNA.out _).mono ?_; rintro e1 w1 ⟨rfl, rfl⟩
                go_wp2_with fail
                go_at_call 38; refine (HVA.out _).mono ?_; rintro e1 w1 ⟨rfl, rfl⟩
                go_wp2_with fail
                go_at_call 39; refine (HNU.out _ HF.out).mono ?_; rintro e1 w1 ⟨rfl, f1⟩
                replace HF := Lib.hid (HF.out.trans f1)
                replace HB := Lib.hid (HB.out.on f1)
                clear f1 c0 c1 c2 c3 c4 c5 c6 c7 c8 c9
                have c0 := HB.out.c 0; have c1 := HB.out.c 1; have c2 := HB.out.c 2; have c3 := HB.out.c 3; have c4 := HB.out.c 4; have c5 := HB.out.c 5; have c6 := HB.out.c 6; have c7 := HB.out.c 7; have c8 := HB.out.c 8; have c9 := HB.out.c 9
                cases zn with
                | false =>
                  go_wp2_with fail
                  go_at_call 41; refine (HPL.out _ HF.out).mono ?_; rintro e1 w1 ⟨rfl, f1⟩
                  replace HF := Lib.hid (HF.out.trans f1)
                  replace HB := Lib.hid (HB.out.on f1)
                  clear f1 c0 c1 c2 c3 c4 c5 c6 c7 c8 c9
                  have c0 := HB.out.c 0; have c1 := HB.out.c 1; have c2 := HB.out.c 2; have c3 := HB.out.c 3; have c4 := HB.out.c 4; have c5 := HB.out.c 5; have c6 := HB.out.c 6; have c7 := HB.out.c 7; have c8 := HB.out.c 8; have c9 := HB.out.c 9
                  cases pl with
                  | false =>
                    have HE := Lib.hid (show R = 8 from HR.out.trans (by simp))
                    go_wp2
                    go_ret
                    exact ⟨ret_int HE.out.symm, HF.out⟩
                  | true =>
                    have HE := Lib.hid (show R = 0 from HR.out.trans (by simp))
                    go_wp2
                    go_ret
                    exact ⟨ret_int HE.out.symm, HF.out⟩
                | true =>
                  have HE := Lib.hid (show R = 0 from HR.out.trans (by simp))
                  go_wp2
                  go_ret
                  exact ⟨ret_int HE.out.symm, HF.out⟩
              · skip
                have q := HR.out
                rw [decide_eq_false h4] at q
                replace HR := Lib.hid q
                clear q
                have h4b : (tt == 0) = false := beq_eq_false_iff_ne.2 h4
                have h4c : (tt != 0) = true := by rw [bne_iff_ne]; exact h4
                have HE := Lib.hid (show R = 1 from HR.out.trans (by simp))
                go_wp2
                go_ret
                exact ⟨ret_int HE.out.symm, HF.out⟩
            · skip
              have q := HR.out
              rw [decide_eq_false h3] at q
              replace HR := Lib.hid q
              clear q
              have h3b : (fr == 0) = false := beq_eq_false_iff_ne.2 h3
              have h3c : (fr != 0) = true := by rw [bne_iff_ne]; exact h3
              have HE := Lib.hid (show R = 1 from HR.out.trans (by simp))
              go_wp2
              go_ret
              exact ⟨ret_int HE.out.symm, HF.out⟩
    | true =>
      go_wp2_with fail
      go_at_call 38; refine (HVA.out _).mono ?_; rintro e1 w1 ⟨rfl, rfl⟩
      cases vv with
      | false =>
        go_wp2_with fail
        go_at_call 39; refine (HNU.out _ HF.out).mono ?_; rintro e1 w1 ⟨rfl, f1⟩
        replace HF := Lib.hid (HF.out.trans f1)
        replace HB := Lib.hid (HB.out.on f1)
        clear f1 c0 c1 c2 c3 c4 c5 c6 c7 c8 c9
        have c0 := HB.out.c 0; have c1 := HB.out.c 1; have c2 := HB.out.c 2; have c3 := HB.out.c 3; have c4 := HB.out.c 4; have c5 := HB.out.c 5; have c6 := HB.out.c 6; have c7 := HB.out.c 7; have c8 := HB.out.c 8; have c9 := HB.out.c 9
        cases zn with
        | false =>
          have HE := Lib.hid (show R = 1 from HR.out.trans (by simp))
          go_wp2
          go_ret
          exact ⟨ret_int HE.out.symm, HF.out⟩
        | true =>
          by_cases h6 : op = 6
          · skip
            have q := HR.out
            rw [decide_eq_true h6] at q
            replace HR := Lib.hid q
            clear q
            subst h6
            go_wp2_with fail
            go_at_call 36; refine (HI2.out _).mono ?_; rintro e1 w1 ⟨rfl, rfl⟩
            cases i2 with
            | false =>
              have HE := Lib.hid (show R = 1 from HR.out.trans (by simp))
              go_wp2
              go_ret
              exact ⟨ret_int HE.out.symm, HF.out⟩
            | true =>
              go_wp2_with fail
              go_at_call 36; refine (HI3.out _).mono ?_; rintro e1 w1 ⟨rfl, rfl⟩
              cases i3 with
              | false =>
                have HE := Lib.hid (show R = 1 from HR.out.trans (by simp))
                go_wp2
                go_ret
                exact ⟨ret_int HE.out.symm, HF.out⟩
              | true =>
                go_wp2_with fail
                go_at_call 37; refine (HNA.out _).mono ?_; rintro e1 w1 ⟨rfl, rfl⟩
                go_wp2_with fail
                go_at_call 40; refine (HNM.out _).mono ?_; rintro e1 w1 ⟨rfl, rfl⟩
                cases nv with
                | false =>
                  have HE := Lib.hid (show R = 6 from HR.out.trans (by simp))
                  go_wp2
                  go_ret
                  exact ⟨ret_int HE.out.symm, HF.out⟩
                | true =>
                  go_wp2_with fail
                  go_at_call 38; refine (HVA.out _).mono ?_; rintro e1 w1 ⟨rfl, rfl⟩
                  have HE := Lib.hid (show R = 0 from HR.out.trans (by simp))
                  go_wp2
                  go_ret
                  exact ⟨ret_int HE.out.symm, HF.out⟩
          · skip
            have q := HR.out
            rw [decide_eq_false h6] at q
            replace HR := Lib.hid q
            clear q
            have h6b : (op == 6) = false := beq_eq_false_iff_ne.2 h6
            have h6c : (op != 6) = true := by rw [bne_iff_ne]; exact h6
            by_cases h3 : fr = 0
            · skip
              have q := HR.out
              rw [decide_eq_true h3] at q
              replace HR := Lib.hid q
              clear q
              subst h3
              by_cases h4 : tt = 0
              · skip
                have q := HR.out
                rw [decide_eq_true h4] at q
                replace HR := Lib.hid q
                clear q
                subst h4
                go_wp2_with fail
                go_at_call 37; refine (HNA.out _).mono ?_; rintro e1 w1 ⟨rfl, rfl⟩
                go_wp2_with fail
                go_at_call 40; refine (HNM.out _).mono ?_; rintro e1 w1 ⟨rfl, rfl⟩
                cases nv with
                | false =>
                  have HE := Lib.hid (show R = 6 from HR.out.trans (by simp))
                  go_wp2
                  go_ret
                  exact ⟨ret_int HE.out.symm, HF.out⟩
                | true =>
                  go_wp2_with fail
                  go_at_call 38; refine (HVA.out _).mono ?_; rintro e1 w1 ⟨rfl, rfl⟩
                  have HE := Lib.hid (show R = 0 from HR.out.trans (by simp))
                  go_wp2
                  go_ret
                  exact ⟨ret_int HE.out.symm, HF.out⟩
              · skip
                have q := HR.out
                rw [decide_eq_false h4] at q
                replace HR := Lib.hid q
                clear q
                have h4b : (tt == 0) = false := beq_eq_false_iff_ne.2 h4
                have h4c : (tt != 0) = true := by rw [bne_iff_ne]; exact h4
                have HE := Lib.hid (show R = 1 from HR.out.trans (by simp))
                go_wp2
                go_ret
                exact ⟨ret_int HE.out.symm, HF.out⟩
            · skip
              have q := HR.out
              rw [decide_eq_false h3] at q
              replace HR := Lib.hid q
              clear q
              have h3b : (fr == 0) = false := beq_eq_false_iff_ne.2 h3
              have h3c : (fr != 0) = true := by rw [bne_iff_ne]; exact h3
              have HE := Lib.hid (show R = 1 from HR.out.trans (by simp))
              go_wp2
              go_ret
              exact ⟨ret_int HE.out.symm, HF.out⟩
      | true =>
        by_cases h6 : op = 6
        · skip
          have q := HR.out
          rw [decide_eq_true h6] at q
          replace HR := Lib.hid q
          clear q
          subst h6
          go_wp2_with fail
          go_at_call 36; refine (HI2.out _).mono ?_; rintro e1 w1 ⟨rfl, rfl⟩
          cases i2 with
          | false =>
            have HE := Lib.hid (show R = 1 from HR.out.trans (by simp))
            go_wp2
            go_ret
            exact ⟨ret_int HE.out.symm, HF.out⟩
          | true =>
            go_wp2_with fail
            go_at_call 36; refine (HI3.out _).mono ?_; rintro e1 w1 ⟨rfl, rfl⟩
            cases i3 with
            | false =>
              have HE := Lib.hid (show R = 1 from HR.out.trans (by simp))
              go_wp2
              go_ret
              exact ⟨ret_int HE.out.symm, HF.out⟩
            | true =>
              go_wp2_with fail
              go_at_call 37; refine (HNA.out _).mono ?_; rintro e1 w1 ⟨rfl, rfl⟩
              go_wp2_with fail
              go_at_call 40; refine (HNM.out _).mono ?_; rintro e1 w1 ⟨rfl, rfl⟩
              cases nv with
              | false =>
                have HE := Lib.hid (show R = 6 from HR.out.trans (by simp))
                go_wp2
                go_ret
                exact ⟨ret_int HE.out.symm, HF.out⟩
              | true =>
                go_wp2_with fail
                go_at_call 38; refine (HVA.out _).mono ?_; rintro e1 w1 ⟨rfl, rfl⟩
                go_wp2_with fail
                go_at_call 39; refine (HNU.out _ HF.out).mono ?_; rintro e1 w1 ⟨rfl, f1⟩
                replace HF := Lib.hid (HF.out.trans f1)
                replace HB := Lib.hid (HB.out.on f1)
                clear f1 c0 c1 c2 c3 c4 c5 c6 c7 c8 c9
                have c0 := HB.out.c 0; have c1 := HB.out.c 1; have c2 := HB.out.c 2; have c3 := HB.out.c 3; have c4 := HB.out.c 4; have c5 := HB.out.c 5; have c6 := HB.out.c 6; have c7 := HB.out.c 7; have c8 := HB.out.c 8; have c9 := HB.out.c 9
                cases zn with
                | false =>
                  go_wp2_with fail
                  go_at_call 41; refine (HPL.out _ HF.out).mono ?_; rintro e1 w1 ⟨rfl, f1⟩
                  replace HF := Lib.hid (HF.out.trans f1)
                  replace HB := Lib.hid (HB.out.on f1)
                  clear f1 c0 c1 c2 c3 c4 c5 c6 c7 c8 c9
                  have c0 := HB.out.c 0; have c1 := HB.out.c 1; have c2 := HB.out.c 2; have c3 := HB.out.c 3; have c4 := HB.out.c 4; have c5 := HB.out.c 5; have c6 := HB.out.c 6; have c7 := HB.out.c 7; have c8 := HB.out.c 8; have c9 := HB.out.c 9
                  cases pl with
                  | false =>
                    have HE := Lib.hid (show R = 8 from HR.out.trans (by simp))
                    go_wp2
                    go_ret
                    exact ⟨ret_int HE.out.symm, HF.out⟩
                  | true =>
                    have HE := Lib.hid (show R = 0 from HR.out.trans (by simp))
                    go_wp2
                    go_ret
                    exact ⟨ret_int HE.out.symm, HF.out⟩
                | true =>
                  have HE := Lib.hid (show R = 0 from HR.out.trans (by simp))
                  go_wp2
                  go_ret
                  exact ⟨ret_int HE.out.symm, HF.out⟩
        · skip
          have q := HR.out
          rw [decide_eq_false h6] at q
          replace HR := Lib.hid q
          clear q
          have h6b : (op == 6) = false := beq_eq_false_iff_ne.2 h6
          have h6c : (op != 6) = true := by rw [bne_iff_ne]; exact h6
          by_cases h3 : fr = 0
          · skip
            have q := HR.out
            rw [decide_eq_true h3] at q
            replace HR := Lib.hid q
            clear q
            subst h3
            by_cases h4 : tt = 0
            · skip
              have q := HR.out
              rw [decide_eq_true h4] at q
              replace HR := Lib.hid q
              clear q
              subst h4
              go_wp2_with fail
              go_at_call 37; refine (HNA.out _).mono ?_; rintro e1 w1 ⟨rfl, rfl⟩
              go_wp2_with fail
              go_at_call 40; refine (HNM.out _).mono ?_; rintro e1 w1 ⟨rfl, rfl⟩
              cases nv with
              | false =>
                have HE := Lib.hid (show R = 6 from HR.out.trans (by simp))
                go_wp2
                go_ret
                exact ⟨ret_int HE.out.symm, HF.out⟩
              | true =>
                go_wp2_with fail
                go_at_call 38; refine (HVA.out _).mono ?_; rintro e1 w1 ⟨rfl, rfl⟩
                go_wp2_with fail
                go_at_call 39; refine (HNU.out _ HF.out).mono ?_; rintro e1 w1 ⟨rfl, f1⟩
                replace HF := Lib.hid (HF.out.trans f1)
                replace HB := Lib.hid (HB.out.on f1)
                clear f1 c0 c1 c2 c3 c4 c5 c6 c7 c8 c9
                have c0 := HB.out.c 0; have c1 := HB.out.c 1; have c2 := HB.out.c 2; have c3 := HB.out.c 3; have c4 := HB.out.c 4; have c5 := HB.out.c 5; have c6 := HB.out.c 6; have c7 := HB.out.c 7; have c8 := HB.out.c 8; have c9 := HB.out.c 9
                cases zn with
                | false =>
                  go_wp2_with fail
                  go_at_call 41; refine (HPL.out _ HF.out).mono ?_; rintro e1 w1 ⟨rfl, f1⟩
                  replace HF := Lib.hid (HF.out.trans f1)
                  replace HB := Lib.hid (HB.out.on f1)
                  clear f1 c0 c1 c2 c3 c4 c5 c6 c7 c8 c9
                  have c0 := HB.out.c 0; have c1 := HB.out.c 1; have c2 := HB.out.c 2; have c3 := HB.out.c 3; have c4 := HB.out.c 4; have c5 := HB.out.c 5; have c6 := HB.out.c 6; have c7 := HB.out.c 7; have c8 := HB.out.c 8; have c9 := HB.out.c 9
                  cases pl with
                  | false =>
                    have HE := Lib.hid (show R = 8 from HR.out.trans (by simp))
                    go_wp2
                    go_ret
                    exact ⟨ret_int HE.out.symm, HF.out⟩
                  | true =>
                    have HE := Lib.hid (show R = 0 from HR.out.trans (by simp))
                    go_wp2
                    go_ret
                    exact ⟨ret_int HE.out.symm, HF.out⟩
                | true =>
                  have HE := Lib.hid (show R = 0 from HR.out.trans (by simp))
                  go_wp2
                  go_ret
                  exact ⟨ret_int HE.out.symm, HF.out⟩
            · skip
              have q := HR.out
              rw [decide_eq_false h4] at q
              replace HR := Lib.hid q
              clear q
              have h4b : (tt == 0) = false := beq_eq_false_iff_ne.2 h4
              have h4c : (tt != 0) = true := by rw [bne_iff_ne]; exact h4
              have HE := Lib.hid (show R = 1 from HR.out.trans (by simp))
              go_wp2
              go_ret
              exact ⟨ret_int HE.out.symm, HF.out⟩
          · skip
            have q := HR.out
            rw [decide_eq_false h3] at q
            replace HR := Lib.hid q
            clear q
            have h3b : (fr == 0) = false := beq_eq_false_iff_ne.2 h3
            have h3c : (fr != 0) = true := by rw [bne_iff_ne]; exact h3
            have HE := Lib.hid (show R = 1 from HR.out.trans (by simp))
            go_wp2
            go_ret
            exact ⟨ret_int HE.out.symm, HF.out⟩
end Go.Proofs.YtfbijdoomkgodaaGreatDoor

/-! Text of the reference of package num returns the decimal numeral of every int value. Nothing that was there turns. -/
namespace Go.Proofs.YtfbijdoomkgodaaGreatDoor
open Go.RowKit Go.Lib
namespace Rtx

theorem digit_nat {u : Nat} (h : u < 10) : (UInt8.ofNat (48 + u)).toNat = 48 + u := by
  rw [UInt8.toNat_ofNat']; omega

/-- The digits that are not written yet. -/
def pre (u : Nat) : List UInt8 := if u = 0 then [] else decDigits u
theorem pre_step {u : Nat} (h : u ≠ 0) (s : List UInt8) : pre (u / 10) ++ (UInt8.ofNat (48 + u % 10) :: s) = pre u ++ s := by
  unfold pre
  rw [if_neg h]
  by_cases h1 : u < 10
  · rw [if_pos (by omega), decDigits_one h1, Nat.mod_eq_of_lt h1]; rfl
  · rw [if_neg (by omega), show decDigits u = decDigits (u / 10) ++ [UInt8.ofNat (48 + u % 10)] from by rw [decDigits, dif_neg h1]]; simp

def Todo (n m : Int) (s : ByteArray) : Prop := pre m.natAbs ++ s.data.toList = decDigits n.natAbs ∧ (0 ≤ n → 0 ≤ m) ∧ (n < 0 → m ≤ 0) ∧ m.natAbs ≤ n.natAbs

theorem txt_neg {n : Int} (h : n < 0) {s : ByteArray} (hs : s.data.toList = decDigits n.natAbs) : ({ data := #[45] } ++ s : ByteArray) = txt n := by
  apply ByteArray.ext
  apply Array.toList_inj.1
  rw [ByteArray.data_append]
  unfold txt itoa
  rw [if_pos h]
  simp [hs]
theorem txt_pos {n : Int} (h : ¬ n < 0) {s : ByteArray} (hs : s.data.toList = decDigits n.natAbs) : s = txt n := by
  apply ByteArray.ext
  apply Array.toList_inj.1
  unfold txt itoa
  rw [if_neg h]
  have e : n.toNat = n.natAbs := by omega
  simp [hs, e]
theorem ret_str {a b : ByteArray} (h : a = b) : Ending.returned (.string a) = .returned (.string b) := by rw [h]
theorem todo_end {n : Int} {s : ByteArray} (h : Todo n 0 s) : s.data.toList = decDigits n.natAbs := by
  have := h.1
  simpa [pre] using this
theorem todo_step {n m q : Int} {s : ByteArray} (h : Todo n m s) (hm : m ≠ 0) (hq : q.natAbs = m.natAbs / 10) (h1 : 0 ≤ m → 0 ≤ q) (h2 : m ≤ 0 → q ≤ 0) : Todo n q ({ data := #[UInt8.ofNat (48 + m.natAbs % 10)] } ++ s) := by
  obtain ⟨t1, t2, t3, t4⟩ := h
  refine ⟨?_, fun k => h1 (t2 k), fun k => h2 (t3 k), by omega⟩
  have k := pre_step (u := m.natAbs) (by omega) s.data.toList
  rw [hq, ByteArray.data_append, ← t1, ← k]
  simp

theorem todo_size {n m : Int} {s : ByteArray} (h : Todo n m s) (h0 : -9223372036854775808 ≤ n) (h1 : n ≤ 9223372036854775807) : s.size ≤ 1000 := by
  have a := congrArg List.length h.1
  rw [decDigits_length, List.length_append] at a
  have b := nDigits_le20 n.natAbs (by omega)
  have e : s.data.toList.length = s.size := Array.length_toList
  omega

/-- 'string' of a slice of one byte that was just laid. -/
theorem one_byte (c : UInt8) (x : Int) (hx : x = (c.toNat : Int)) (w : World) :
    (convert 104 9 (.slice (some ⟨w.heap.size, 0, none⟩) 1 1)).run Tryz.prog (w.alloc (.cells #[.int .u8 x] 5)) = .ok (.string ⟨#[c]⟩) (w.alloc (.cells #[.int .u8 x] 5)) := by
  subst hx
  exact run_convert_bytes_back (P := Tryz.prog) (w.alloc (.cells #[.int .u8 (c.toNat : Int)] 5)) 104 9 5 ⟨w.heap.size, 0, none⟩ 1 [c] Tryz.underlying104 Tryz.underlying5 Tryz.underlying9 (fun j hj => by
    have e : j = 0 := by simpa using hj
    subst e
    exact (World.cell?_alloc_mark w #[.int .u8 (c.toNat : Int)] 5 (0, 0) 0).trans rfl)

set_option maxHeartbeats 1600000 in
set_option maxRecDepth 100000 in
theorem rtext_loop (n : Int) (hn : n ≠ 0) (h0 : -9223372036854775808 ≤ n) (h1 : n ≤ 9223372036854775807) (w : World) :
    Calls Tryz.prog 57 #[.int .i64 n] w fun e w' => e = .returned (.string (txt n)) ∧ Fuw w w' := by
  have n0 : (n == 0) = false := by simpa using hn
  go_enter Tryz.func57, Tryz.ntmps57
  go_wp2
  go_loopw [3, 4] (fun x y wr => ∃ (s : ByteArray) (m : Int), x = .string s ∧ y = .int .i64 m ∧ Todo n m s ∧ Fuw w wr) (fun _ y _ => (RowKit.intOf y).natAbs)
  case atStart => exact ⟨_, n, rfl, rfl, ⟨by simp [pre, hn], by omega, by omega, by omega⟩, Fuw.refl _⟩
  case round =>
    obtain ⟨s, m, rfl, rfl, ht, hf⟩ := hrel
    have hsz := todo_size ht h0 h1
    by_cases hm : m = 0
    · subst hm
      have HE := Lib.hid (todo_end ht)
      clear ht
      by_cases hneg : n < 0
      · go_wp2
        go_ret
        exact ⟨ret_str (txt_neg hneg HE.out), hf⟩
      · go_wp2
        go_ret
        exact ⟨ret_str (txt_pos (by omega) HE.out), hf⟩
    · have hne : (m != 0) = true := by simpa using hm
      have ⟨_, s1, s2, s3⟩ := ht
      have m2 : -9223372036854775808 ≤ m := by omega
      have m3 : m ≤ 9223372036854775807 := by omega
      clear s1 s2 s3
      have hd : ((UInt8.ofNat (48 + m.natAbs % 10)).toNat : Int) = 48 + (m.natAbs : Int) % 10 := by rw [digit_nat (by omega)]; omega
      have hts := fun (q : Int) => todo_step (q := q) ht hm
      obtain ⟨c, hcc⟩ : ∃ c, UInt8.ofNat (48 + m.natAbs % 10) = c := ⟨_, rfl⟩
      rw [hcc] at hd
      simp only [hcc] at hts
      clear hcc ht
      by_cases hp : 0 < m
      · have d0 : 0 ≤ m % 10 := by omega
        have d1 : m % 10 < 10 := by omega
        have hc := one_byte c (48 + m % 10) (by omega) wr
        have HT := Lib.hid (hts (m / 10) (by omega) (by omega) (by omega))
        clear hts hd
        go_wp2
        go_roundw
        case rel => exact ⟨_, _, rfl, rfl, HT.out, hf.trans ((Below.refl _ _).alloc (Nat.le_refl _) _)⟩
        case measure => simp [RowKit.intOf]; omega
      · have e : m.tmod 10 = -((-m) % 10) := by rw [← Int.tmod_eq_emod_of_nonneg (by omega), Int.neg_tmod, Int.neg_neg]
        have e' : m.tdiv 10 = -((-m) / 10) := by rw [← Int.tdiv_eq_ediv_of_nonneg (by omega), Int.neg_tdiv, Int.neg_neg]
        have HT := Lib.hid (hts (m.tdiv 10) (by omega) (by omega) (by omega))
        obtain ⟨t, he⟩ : ∃ t, m.tmod 10 = t := ⟨_, rfl⟩
        have d0 : t ≤ 0 := by omega
        have d1 : -10 < t := by omega
        have q0 : -922337203685477581 ≤ m.tdiv 10 := by omega
        have q1 : m.tdiv 10 ≤ 0 := by omega
        have q2 : (m.tdiv 10).natAbs < m.natAbs := by omega
        by_cases d2 : t < 0
        · have hc := one_byte c (48 + -t) (by omega) wr
          clear hts e e' hd
          go_wp2
          go_roundw
          case rel => exact ⟨_, _, rfl, rfl, HT.out, hf.trans ((Below.refl _ _).alloc (Nat.le_refl _) _)⟩
          case measure => exact q2
        · have d3 : t = 0 := by omega
          subst d3
          have hc := one_byte c 48 (by omega) wr
          clear hts e e' hd
          go_wp2
          go_roundw
          case rel => exact ⟨_, _, rfl, rfl, HT.out, hf.trans ((Below.refl _ _).alloc (Nat.le_refl _) _)⟩
          case measure => exact q2

set_option maxRecDepth 100000 in
theorem rtext_any (n : Int) (h0 : -9223372036854775808 ≤ n) (h1 : n ≤ 9223372036854775807) (w : World) :
    Calls Tryz.prog 57 #[.int .i64 n] w fun e w' => e = .returned (.string (txt n)) ∧ Fuw w w' := by
  by_cases hn : n = 0
  · subst hn
    have e : txt 0 = ⟨#[48]⟩ := by
      unfold txt Lib.itoa
      rw [if_neg (by decide), show (0 : Int).toNat = 0 from rfl, Lib.decDigits_one (by decide)]
      rfl
    rw [e]; clear e
    go_enter Tryz.func57, Tryz.ntmps57
    go_wp2
    go_ret
    exact ⟨rfl, Fuw.refl _⟩
  · exact rtext_loop n hn h0 h1 w
end Rtx
end Go.Proofs.YtfbijdoomkgodaaGreatDoor
