/-
  Package schema: whether a rule's number is one that its shape allows, ends, what is wrong with a rule (Check), errors of kinds (Fault). Nothing that was there turns.
-/
import Derived.Test.YtadnaakbhgacgaaDoorScC
namespace Go.Proofs.YtadnaakbhgacgaaDoor
open Go.RowKit

def numB (b3 b4 : Bool) (n : Int) : Bool := if b3 = true then kwV n else if b4 = true then decide (0 ≤ n) && decide (n ≤ 4000) else n == 0
theorem kwV_cases (n : Int) : (kwV n = true ∧ (n = 1 ∨ n = 2 ∨ n = 4)) ∨ (kwV n = false ∧ kwW n = []) := by
  unfold kwV kwW
  by_cases h1 : n = 1
  · subst h1; exact .inl ⟨rfl, .inl rfl⟩
  · by_cases h2 : n = 2
    · subst h2; exact .inl ⟨rfl, .inr (.inl rfl)⟩
    · by_cases h4 : n = 4
      · subst h4; exact .inl ⟨rfl, .inr (.inr rfl)⟩
      · refine .inr ⟨by simp [h1, h2, h4], by rw [if_neg h1, if_neg h2, if_neg h4]⟩
theorem kwW_ne {n : Int} (h : kwV n = true) : ¬ kwW n = [] := by
  rcases kwV_cases n with ⟨-, rfl | rfl | rfl⟩ | ⟨k, -⟩
  · decide
  · decide
  · decide
  · rw [k] at h; cases h
set_option maxHeartbeats 3200000 in
set_option maxRecDepth 100000 in
theorem numb_any (k n : Int) (a y f t hw : ByteArray) (b1 b2 b3 b4 : Bool) (w : World) :
    Calls Tryd.prog 26 #[.agg #[.int .i64 k, .int .i64 n, .string a, .string y, .string f, .string t], .agg #[.string hw, .bool b1, .bool b2, .bool b3, .bool b4]] w (FwB w (numB b3 b4 n)) := by
  cases b3 with
  | true =>
    rcases kwV_cases n with ⟨e, h⟩ | ⟨e, h⟩
    · have HE := Lib.hid (show numB true b4 n = true from e)
      have K : ∀ w', Calls Tryd.prog 33 #[.int .i64 n] w' (fun e w2 => ∃ s : ByteArray, e = .returned (.string s) ∧ (s.toList == []) = false ∧ s.toList.isEmpty = false ∧ w' = w2) := fun w' => (kw_any n w').mono fun e w2 ⟨he, hw⟩ => ⟨_, he, by rw [bs_list]; rcases h with rfl | rfl | rfl <;> decide, by rw [bs_list]; rcases h with rfl | rfl | rfl <;> decide, hw⟩
      have HK := Lib.hid K
      clear K e h
      go_enter Tryd.func26, Tryd.ntmps26
      go_wp2_with (go_at_call 33; refine (HK.out _).mono ?_; rintro e1 w1 ⟨s, rfl, hs1, hs2, rfl⟩)
      go_ret
      exact ⟨ret_bool (by rw [HE.out]), fuwA2 _ _ _⟩
    · have HE := Lib.hid (show numB true b4 n = false from e)
      have K : ∀ w', Calls Tryd.prog 33 #[.int .i64 n] w' (PureT w' ⟨#[]⟩) := fun w' => (kw_any n w').mono fun e w2 ⟨he, hw⟩ => ⟨by rw [h] at he; exact he, hw⟩
      have HK := Lib.hid K
      clear K e h
      go_enter Tryd.func26, Tryd.ntmps26
      go_wp2_with (go_at_call 33; refine (HK.out _).mono ?_; rintro e1 w1 ⟨rfl, rfl⟩)
      go_ret
      exact ⟨ret_bool (by rw [HE.out]), fuwA2 _ _ _⟩
  | false =>
    cases b4 with
    | true =>
      have HE := Lib.hid (show numB false true n = (decide (0 ≤ n) && decide (n ≤ 4000)) from rfl)
      generalize numB false true n = r at *
      go_enter Tryd.func26, Tryd.ntmps26
      go_wp2
      all_goals
        go_ret
        exact ⟨ret_bool (by rw [HE.out, Bool.eq_iff_iff]; simp; omega), fuwA2 _ _ _⟩
    | false =>
      have HE := Lib.hid (show numB false false n = (n == 0) from rfl)
      generalize numB false false n = r at *
      go_enter Tryd.func26, Tryd.ntmps26
      go_wp2
      go_ret
      exact ⟨ret_bool (by rw [HE.out]), fuwA2 _ _ _⟩
theorem isE_any (s : List UInt8) (w : World) (hs : s.length ≤ maxLen) : Calls Tryd.prog 28 #[.string (bs s)] w (PureB w (endR s)) := by
  have HN := Lib.hid (fun w' => by have q := name_any (bs s) w' (by rw [bs_size]; exact hs); rwa [bs_data] at q)
  clear hs
  cases e : s.isEmpty with
  | true =>
    obtain rfl : s = [] := List.isEmpty_iff.1 e
    show Calls Tryd.prog 28 #[.string ⟨#[]⟩] w (PureB w true)
    clear HN e
    go_enter Tryd.func28, Tryd.ntmps28
    go_wp2
    go_ret
    exact ⟨rfl, rfl⟩
  | false =>
    have e1 : ¬ (bs s).toList = [] := by rw [bs_list]; rintro rfl; cases e
    have e2 : (bs s).toList.isEmpty = false := by rw [bs_list]; exact e
    have HE := Lib.hid (show endR s = nameV s by unfold endR; rw [e]; rfl)
    clear e
    go_enter Tryd.func28, Tryd.ntmps28
    go_wp2_with (go_at_call 27; refine (HN.out _).mono ?_; rintro e1 w1 ⟨rfl, rfl⟩)
    go_ret
    exact ⟨ret_bool HE.out.symm, rfl⟩
theorem flt_any (k : Int) (w : World) : Calls Tryd.prog 12 #[.int .i64 k] w (PureI w (fltR k)) := by
  by_cases h : k = 1 ∨ k = 2 ∨ k = 3 ∨ k = 4 ∨ k = 5 ∨ k = 6 ∨ k = 7
  · rcases h with rfl | rfl | rfl | rfl | rfl | rfl | rfl
    all_goals
      go_enter Tryd.func12, Tryd.ntmps12
      go_wp2
      go_ret
      exact ⟨rfl, rfl⟩
  · have n1 : ¬ k = 1 := fun e => h (.inl e)
    have n2 : ¬ k = 2 := fun e => h (.inr (.inl e))
    have n3 : ¬ k = 3 := fun e => h (.inr (.inr (.inl e)))
    have n4 : ¬ k = 4 := fun e => h (.inr (.inr (.inr (.inl e))))
    have n5 : ¬ k = 5 := fun e => h (.inr (.inr (.inr (.inr (.inl e)))))
    have n6 : ¬ k = 6 := fun e => h (.inr (.inr (.inr (.inr (.inr (.inl e))))))
    have n7 : ¬ k = 7 := fun e => h (.inr (.inr (.inr (.inr (.inr (.inr e))))))
    have HE := Lib.hid (show fltR k = 0 by unfold fltR; simp [n1, n2, n3, n4, n5, n6, n7])
    clear h
    go_enter Tryd.func12, Tryd.ntmps12
    go_wp2
    go_ret
    exact ⟨ret_int HE.out.symm, rfl⟩
/-! Check. -/
theorem more_r (r : Rl) (w : World) : Calls Tryd.prog 25 #[rlv r, .agg (shp r.kd)] w (FwB w (moreR r)) := by
  have q := more_any r.kd r.nn (bs r.nm) (bs r.ky) (bs r.fr) (bs r.tt) (bs (hdW r.kd)) (keyK r.kd) (r.kd == 6) (kindK r.kd) (r.kd == 7) w
  rw [bs_list, bs_list, bs_list] at q
  exact q
theorem numb_r (r : Rl) (w : World) : Calls Tryd.prog 26 #[rlv r, .agg (shp r.kd)] w (FwB w (numR r)) :=
  numb_any r.kd r.nn (bs r.nm) (bs r.ky) (bs r.fr) (bs r.tt) (bs (hdW r.kd)) (keyK r.kd) (r.kd == 6) (kindK r.kd) (r.kd == 7) w
theorem name_r (s : List UInt8) (w : World) (hs : s.length ≤ maxLen) : Calls Tryd.prog 27 #[.string (bs s)] w (PureB w (nameV s)) := by
  have q := name_any (bs s) w (by rw [bs_size]; exact hs)
  rwa [bs_data] at q
set_option maxHeartbeats 6400000 in
set_option maxRecDepth 100000 in
theorem chk_any (r : Rl) (hr : RIn r) (w : World) : Calls Tryd.prog 8 #[rlv r] w (FwI w (chkR r)) := by
  obtain ⟨W, hW⟩ : ∃ W, w.alloc (.cells (rlc r) 23) = W := ⟨_, rfl⟩
  have p0 : BkR W w.heap.size r := by rw [← hW]; exact BkR.new w r
  have f0 : Fuw w W := by rw [← hW]; exact fuwA _ _
  have M := Lib.hid (fun w' => more_r r w')
  have U := Lib.hid (fun w' => numb_r r w')
  have A := Lib.hid (fun w' => name_r r.nm w' hr.a)
  have Y := Lib.hid (fun w' => name_r r.ky w' hr.b)
  have X := Lib.hid (fun w' => isE_any r.fr w' hr.c)
  have Z := Lib.hid (fun w' => isE_any r.tt w' hr.d)
  have S := Lib.hid (fun w' => shape_any r.kd w')
  have HE := Lib.hid (show chkR r = if (isK r.kd && (moreR r && numR r)) = true then (if (nameV r.nm && ((!keyK r.kd || nameV r.ky) && (endR r.fr && endR r.tt))) = true then 0 else 6) else 1 from rfl)
  clear hr
  unfold rlv shp at M U
  unfold RetS shp at S
  unfold rlv
  unfold rlc at hW
  generalize chkR r = res at *
  generalize keyK r.kd = b1 at *
  generalize (r.kd == 6) = b2 at *
  generalize kindK r.kd = b3 at *
  generalize (r.kd == 7) = b4 at *
  generalize hdW r.kd = hw at *
  generalize moreR r = m1 at *
  generalize numR r = m2 at *
  generalize nameV r.nm = n1 at *
  generalize nameV r.ky = n2 at *
  generalize endR r.fr = n3 at *
  generalize endR r.tt = n4 at *
  go_enter Tryd.func8, Tryd.ntmps8
  go_upto_region 1 with fail
  clear hW
  have c0 := p0.c0
  have P := Lib.hid p0
  have F := Lib.hid f0
  clear p0 f0
  go_wp2_with fail
  go_at_call 24; refine (S.out _).mono ?_; rintro e1 w1 ⟨rfl, f1⟩
  have F1 := Lib.hid (F.out.trans f1)
  have P1 := Lib.hid (P.out.on f1)
  clear f1 F P c0 S
  go_upto_region 2 with fail
  obtain ⟨V, hV⟩ : ∃ V, w1.alloc (.cells #[.string (bs hw), .bool b1, .bool b2, .bool b3, .bool b4] 41) = V := ⟨_, rfl⟩
  have Q := Lib.hid (show Bk V w1.heap.size #[.string (bs hw), .bool b1, .bool b2, .bool b3, .bool b4] 41 from by rw [← hV]; exact Bk.new _ _ _)
  have f2 : Fuw w1 V := by rw [← hV]; exact fuwA _ _
  rw [hV]
  clear hV
  have F := Lib.hid (F1.out.trans f2)
  have P := Lib.hid (P1.out.on f2)
  clear f2 F1 P1
  generalize isK r.kd = k0 at *
  have c0 := P.out.c0; have c1 := P.out.c1; have c2 := P.out.c2; have c3 := P.out.c3; have c4 := P.out.c4; have c5 := P.out.c5
  have s0 := Q.out.c 0; have s1 := Q.out.c 1; have s2 := Q.out.c 2; have s3 := Q.out.c 3; have s4 := Q.out.c 4
  cases k0 with
  | false =>
    go_wp2
    go_ret
    exact ⟨ret_int (by rw [HE.out]; rfl), F.out⟩
  | true =>
    go_wp2_with (first
      | (go_at_call 25; refine (M.out _).mono ?_; rintro e2 w2 ⟨rfl, f2⟩; have F := Lib.hid (F.out.trans f2); have P := Lib.hid (P.out.on f2); have Q := Lib.hid (Q.out.on f2); have c0 := P.out.c0; have c1 := P.out.c1; have c2 := P.out.c2; have c3 := P.out.c3; have c4 := P.out.c4; have c5 := P.out.c5; have s0 := Q.out.c 0; have s1 := Q.out.c 1; have s2 := Q.out.c 2; have s3 := Q.out.c 3; have s4 := Q.out.c 4; clear f2)
      | (go_at_call 26; refine (U.out _).mono ?_; rintro e2 w2 ⟨rfl, f2⟩; have F := Lib.hid (F.out.trans f2); have P := Lib.hid (P.out.on f2); have Q := Lib.hid (Q.out.on f2); have c0 := P.out.c0; have c1 := P.out.c1; have c2 := P.out.c2; have c3 := P.out.c3; have c4 := P.out.c4; have c5 := P.out.c5; have s0 := Q.out.c 0; have s1 := Q.out.c 1; have s2 := Q.out.c 2; have s3 := Q.out.c 3; have s4 := Q.out.c 4; clear f2)
      | (go_at_call 27; first | ((with_reducible refine (A.out _).mono ?_); rintro e2 w2 ⟨rfl, rfl⟩) | ((with_reducible refine (Y.out _).mono ?_); rintro e2 w2 ⟨rfl, rfl⟩))
      | (go_at_call 28; first | ((with_reducible refine (X.out _).mono ?_); rintro e2 w2 ⟨rfl, rfl⟩) | ((with_reducible refine (Z.out _).mono ?_); rintro e2 w2 ⟨rfl, rfl⟩)))
    all_goals
      go_ret
      exact ⟨ret_int (by rw [HE.out]; clear HE; simp_all), F.out⟩
end Go.Proofs.YtadnaakbhgacgaaDoor
