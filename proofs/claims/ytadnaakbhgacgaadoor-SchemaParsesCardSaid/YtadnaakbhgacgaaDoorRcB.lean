/-
  The reference of package schema: what is wrong with a rule (Check). Nothing that was there turns.
-/
import Derived.Test.YtadnaakbhgacgaaDoorRcA
namespace Go.Proofs.YtadnaakbhgacgaaDoor
open Go.RowKit

set_option maxHeartbeats 6400000 in
set_option maxRecDepth 100000 in
theorem rchk (r : Rl) (hr : RIn r) (w : World) : Calls Tryd.prog 9 #[.agg #[.int .i64 r.kd, .int .i64 r.nn, .string (bs r.nm), .string (bs r.ky), .string (bs r.fr), .string (bs r.tt)]] w (FwI w (chkR r)) := by
  obtain ⟨W, hW⟩ : ∃ W, w.alloc (.cells #[.int .i64 r.kd, .int .i64 r.nn, .string (bs r.nm), .string (bs r.ky), .string (bs r.fr), .string (bs r.tt)] 23) = W := ⟨_, rfl⟩
  have P := Lib.hid (show Bk W w.heap.size #[.int .i64 r.kd, .int .i64 r.nn, .string (bs r.nm), .string (bs r.ky), .string (bs r.fr), .string (bs r.tt)] 23 from by rw [← hW]; exact Bk.new w _ _)
  have F := Lib.hid (show Fuw w W from by rw [← hW]; exact fuwA _ _)
  have U := Lib.hid (fun w' => rnumb_r r w')
  have A := Lib.hid (fun w' => rname_r r.nm w' hr.a)
  have Y := Lib.hid (fun w' => rname_r r.ky w' hr.b)
  have X := Lib.hid (fun w' => rname_r r.fr w' hr.c)
  have Z := Lib.hid (fun w' => rname_r r.tt w' hr.d)
  have K := Lib.hid (fun w' => rkeyed r.kd w')
  have HE := Lib.hid (show chkR r = if (isK r.kd && (((keyK r.kd || r.ky.isEmpty) && (r.kd == 6 || (r.fr.isEmpty && r.tt.isEmpty))) && numR r)) = true then (if (nameV r.nm && ((!keyK r.kd || nameV r.ky) && ((r.fr.isEmpty || nameV r.fr) && (r.tt.isEmpty || nameV r.tt)))) = true then 0 else 6) else 1 from rfl)
  have HI := Lib.hid (show isK r.kd = (decide (1 ≤ r.kd) && decide (r.kd ≤ 7)) from rfl)
  have y1 : ((bs r.ky).toList == []) = r.ky.isEmpty := by rw [bs_list]; cases r.ky <;> rfl
  have f1 : ((bs r.fr).toList == []) = r.fr.isEmpty := by rw [bs_list]; cases r.fr <;> rfl
  have t1 : ((bs r.tt).toList == []) = r.tt.isEmpty := by rw [bs_list]; cases r.tt <;> rfl
  have y2 : ((bs r.ky).toList != []) = !r.ky.isEmpty := by rw [bne, y1]
  have f2 : ((bs r.fr).toList != []) = !r.fr.isEmpty := by rw [bne, f1]
  have t2 : ((bs r.tt).toList != []) = !r.tt.isEmpty := by rw [bne, t1]
  have y3 : (bs r.ky).toList.isEmpty = r.ky.isEmpty := by rw [bs_list]
  have f3 : (bs r.fr).toList.isEmpty = r.fr.isEmpty := by rw [bs_list]
  have t3 : (bs r.tt).toList.isEmpty = r.tt.isEmpty := by rw [bs_list]
  clear hr
  generalize chkR r = res at *
  generalize keyK r.kd = b1 at *
  generalize numR r = m2 at *
  generalize nameV r.nm = n1 at *
  generalize nameV r.ky = n2 at *
  generalize nameV r.fr = n3 at *
  generalize nameV r.tt = n4 at *
  generalize r.ky.isEmpty = e1 at *
  generalize r.fr.isEmpty = e2 at *
  generalize r.tt.isEmpty = e3 at *
  have hk : r.kd < 1 ∨ 7 < r.kd ∨ (1 ≤ r.kd ∧ r.kd ≤ 7) := by omega
  rcases hk with hk | hk | ⟨hk, hk2⟩
  · have HE := Lib.hid (show res = 1 by rw [HE.out, HI.out, decide_eq_false (by omega)]; rfl)
    clear HI
    go_enter Tryd.func9, Tryd.ntmps9
    go_upto_region 1 with fail
    clear hW
    have c0 := P.out.c 0; have c1 := P.out.c 1; have c2 := P.out.c 2; have c3 := P.out.c 3; have c4 := P.out.c 4; have c5 := P.out.c 5
    go_wp2
    go_ret
    exact ⟨ret_int HE.out.symm, F.out⟩
  · have HE := Lib.hid (show res = 1 by rw [HE.out, HI.out, decide_eq_false (show ¬ r.kd ≤ 7 by omega), Bool.and_false]; rfl)
    have hk3 : ¬ r.kd < 1 := by omega
    clear HI
    go_enter Tryd.func9, Tryd.ntmps9
    go_upto_region 1 with fail
    clear hW
    have c0 := P.out.c 0; have c1 := P.out.c 1; have c2 := P.out.c 2; have c3 := P.out.c 3; have c4 := P.out.c 4; have c5 := P.out.c 5
    go_wp2
    go_ret
    exact ⟨ret_int HE.out.symm, F.out⟩
  · have HE := Lib.hid (show res = if ((((b1 || e1) && (r.kd == 6 || (e2 && e3))) && m2)) = true then (if (n1 && ((!b1 || n2) && ((e2 || n3) && (e3 || n4)))) = true then 0 else 6) else 1 by rw [HE.out, HI.out, decide_eq_true hk, decide_eq_true hk2, Bool.true_and, Bool.true_and])
    have hk3 : ¬ r.kd < 1 := by omega
    have hk4 : ¬ 7 < r.kd := by omega
    clear HI
    have h6 : (r.kd != 6) = !(r.kd == 6) := rfl
    generalize (r.kd == 6) = b6 at *
    cases m2 <;> cases b1 <;> cases b6
    all_goals
      go_enter Tryd.func9, Tryd.ntmps9
      go_upto_region 1 with fail
      clear hW
      have c0 := P.out.c 0; have c1 := P.out.c 1; have c2 := P.out.c 2; have c3 := P.out.c 3; have c4 := P.out.c 4; have c5 := P.out.c 5
      go_wp2_with (first
        | (go_at_call 29; refine (U.out _).mono ?_; rintro e2 w2 ⟨rfl, f9⟩; have F := Lib.hid (F.out.trans f9); have P := Lib.hid (P.out.on f9); have c0 := P.out.c 0; have c1 := P.out.c 1; have c2 := P.out.c 2; have c3 := P.out.c 3; have c4 := P.out.c 4; have c5 := P.out.c 5; clear f9)
        | (go_at_call 30; refine (K.out _).mono ?_; rintro e2 w2 ⟨rfl, rfl⟩)
        | (go_at_call 31; first | ((with_reducible refine (A.out _).mono ?_); rintro e2 w2 ⟨rfl, rfl⟩) | ((with_reducible refine (Y.out _).mono ?_); rintro e2 w2 ⟨rfl, rfl⟩) | ((with_reducible refine (X.out _).mono ?_); rintro e2 w2 ⟨rfl, rfl⟩) | ((with_reducible refine (Z.out _).mono ?_); rintro e2 w2 ⟨rfl, rfl⟩)))
      all_goals first
        | (exfalso; clear HE; simp_all; done)
        | (go_ret; exact ⟨ret_int (by rw [HE.out]; clear HE; simp_all), F.out⟩)
end Go.Proofs.YtadnaakbhgacgaaDoor
