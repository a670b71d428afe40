/-
  The reference of package schema: the rule with a text (Parse). Nothing that was there turns.
-/
import Derived.Test.YtadnaakbhgacgaaDoorRcJ
import Derived.Test.YtadnaakbhgacgaaDoorRcM
import Derived.Test.YtadnaakbhgacgaaDoorRcO
namespace Go.Proofs.YtadnaakbhgacgaaDoor
open Go.RowKit

set_option maxHeartbeats 6400000 in
set_option maxRecDepth 100000 in
theorem rparse (s : ByteArray) (hs : s.size ≤ maxLen) (w : World) : Calls Tryd.prog 23 #[.string s] w (RetP w (parR s.data.toList)) := by
  have hw := words_ok s.data.toList
  have hin := gs_in (wordsV s.data.toList) hw.2
  have HW := Lib.hid (fun w' => rwords s hs w')
  have HG := Lib.hid (fun v w' base (h : w'.ownsRow base 9 1 v (wordsV s.data.toList).length (sC (wordsV s.data.toList))) => guess_any _ v w' base h hw.1 (fun x hx => Nat.le_trans (hw.2 x hx) (by unfold maxLen; decide)))
  have C := Lib.hid (fun w' => rchk _ hin w')
  have X := Lib.hid (fun w' => rtxt _ hin w')
  have hp := par_is s.data.toList
  obtain ⟨W, hW⟩ : ∃ W, w.alloc (.cells #[.int .i64 0, .int .i64 0, .string ⟨#[]⟩, .string ⟨#[]⟩, .string ⟨#[]⟩, .string ⟨#[]⟩] 23) = W := ⟨_, rfl⟩
  have PB := Lib.hid (show Bk W w.heap.size #[.int .i64 0, .int .i64 0, .string ⟨#[]⟩, .string ⟨#[]⟩, .string ⟨#[]⟩, .string ⟨#[]⟩] 23 from by rw [← hW]; exact Bk.new w _ _)
  have F := Lib.hid (show Fuw w W from by rw [← hW]; exact fuwA _ _)
  clear hw hin hs
  unfold RetG rlv at HG
  unfold RetW at HW
  generalize hgv : gsV (wordsV s.data.toList) = q at *
  clear hgv
  rcases hp with ⟨h1, h2, h3⟩ | ⟨h1, h3⟩
  · rw [h3]
    rw [h1] at C
    rw [h2, ← bs_of] at X
    clear h1 h2 h3
    go_enter Tryd.func23, Tryd.ntmps23
    go_upto_region 1 with fail
    clear hW
    go_wp2_with fail
    go_at_call 46; refine (HW.out _).mono ?_; rintro g1 w1 ⟨v1, rfl, o1, f1⟩
    have O1 := Lib.hid o1
    have PB := Lib.hid (PB.out.on f1); have F := Lib.hid (F.out.trans f1)
    clear f1 o1
    go_wp2_with fail
    go_at_call 45; refine (HG.out _ _ _ O1.out).mono ?_; rintro g2 w2 ⟨rfl, f2⟩
    have PB := Lib.hid (PB.out.on f2); have F := Lib.hid (F.out.trans f2)
    clear f2 O1
    go_upto_region 2 with fail
    obtain ⟨V, hV⟩ : ∃ V, w2.alloc (.cells #[.int .i64 q.kd, .int .i64 q.nn, .string (bs q.nm), .string (bs q.ky), .string (bs q.fr), .string (bs q.tt)] 23) = V := ⟨_, rfl⟩
    have PQ := Lib.hid (show Bk V w2.heap.size #[.int .i64 q.kd, .int .i64 q.nn, .string (bs q.nm), .string (bs q.ky), .string (bs q.fr), .string (bs q.tt)] 23 from by rw [← hV]; exact Bk.new _ _ _)
    have f3 : Fuw w2 V := by rw [← hV]; exact fuwA _ _
    rw [hV]
    clear hV
    have PB := Lib.hid (PB.out.on f3); have F := Lib.hid (F.out.trans f3)
    clear f3
    have a0 := PQ.out.c 0; have a1 := PQ.out.c 1; have a2 := PQ.out.c 2; have a3 := PQ.out.c 3; have a4 := PQ.out.c 4; have a5 := PQ.out.c 5
    go_wp2_with fail
    go_at_call 9; refine (C.out _).mono ?_; rintro g3 w3 ⟨rfl, f3⟩
    have PB := Lib.hid (PB.out.on f3); have PQ := Lib.hid (PQ.out.on f3); have F := Lib.hid (F.out.trans f3)
    clear f3
    clear a0 a1 a2 a3 a4 a5
    have a0 := PQ.out.c 0; have a1 := PQ.out.c 1; have a2 := PQ.out.c 2; have a3 := PQ.out.c 3; have a4 := PQ.out.c 4; have a5 := PQ.out.c 5
    go_wp2_with fail
    go_at_call 11; refine (X.out _).mono ?_; rintro g4 w4 ⟨rfl, f4⟩
    have PB := Lib.hid (PB.out.on f4); have PQ := Lib.hid (PQ.out.on f4); have F := Lib.hid (F.out.trans f4)
    clear f4
    clear a0 a1 a2 a3 a4 a5
    have p0 := PB.out.c 0; have p1 := PB.out.c 1; have p2 := PB.out.c 2; have p3 := PB.out.c 3; have p4 := PB.out.c 4; have p5 := PB.out.c 5
    have r0 := PB.out.f 0; have r1 := PB.out.f 1; have r2 := PB.out.f 2; have r3 := PB.out.f 3; have r4 := PB.out.f 4; have r5 := PB.out.f 5
    have a0 := PQ.out.c 0; have a1 := PQ.out.c 1; have a2 := PQ.out.c 2; have a3 := PQ.out.c 3; have a4 := PQ.out.c 4; have a5 := PQ.out.c 5
    go_wp2
    refine r_ret (tu := 24) rfl rfl rfl rfl (B := w.heap.size) (r := q) ⟨bk_put6 (show Bk _ w.heap.size #[.int .i64 0, .int .i64 0, .string ⟨#[]⟩, .string ⟨#[]⟩, .string ⟨#[]⟩, .string ⟨#[]⟩] _ from PB.out) _ _ _ _ _ _⟩ ⟨rfl, fuw_put6 F.out (Nat.le_refl _) _ _ _ _ _ _⟩
  · rw [h3]
    clear h3
    by_cases hc : chkR q = 0
    · have hn : ((bs (txtR q)).toList != s.toList) = true := by
        rw [bne_iff_ne, bs_list, toL]; exact fun e => h1 ⟨hc, e⟩
      have hn2 : ((bs (txtR q)).toList == s.toList) = false := by
        rw [beq_eq_false_iff_ne, bs_list, toL]; exact fun e => h1 ⟨hc, e⟩
      rw [hc] at C
      generalize bs (txtR q) = tx at *
      clear h1 hc
      go_enter Tryd.func23, Tryd.ntmps23
      go_upto_region 1 with fail
      clear hW
      go_wp2_with fail
      go_at_call 46; refine (HW.out _).mono ?_; rintro g1 w1 ⟨v1, rfl, o1, f1⟩
      have O1 := Lib.hid o1
      have PB := Lib.hid (PB.out.on f1); have F := Lib.hid (F.out.trans f1)
      clear f1 o1
      go_wp2_with fail
      go_at_call 45; refine (HG.out _ _ _ O1.out).mono ?_; rintro g2 w2 ⟨rfl, f2⟩
      have PB := Lib.hid (PB.out.on f2); have F := Lib.hid (F.out.trans f2)
      clear f2 O1
      go_upto_region 2 with fail
      obtain ⟨V, hV⟩ : ∃ V, w2.alloc (.cells #[.int .i64 q.kd, .int .i64 q.nn, .string (bs q.nm), .string (bs q.ky), .string (bs q.fr), .string (bs q.tt)] 23) = V := ⟨_, rfl⟩
      have PQ := Lib.hid (show Bk V w2.heap.size #[.int .i64 q.kd, .int .i64 q.nn, .string (bs q.nm), .string (bs q.ky), .string (bs q.fr), .string (bs q.tt)] 23 from by rw [← hV]; exact Bk.new _ _ _)
      have f3 : Fuw w2 V := by rw [← hV]; exact fuwA _ _
      rw [hV]
      clear hV
      have PB := Lib.hid (PB.out.on f3); have F := Lib.hid (F.out.trans f3)
      clear f3
      have a0 := PQ.out.c 0; have a1 := PQ.out.c 1; have a2 := PQ.out.c 2; have a3 := PQ.out.c 3; have a4 := PQ.out.c 4; have a5 := PQ.out.c 5
      go_wp2_with fail
      go_at_call 9; refine (C.out _).mono ?_; rintro g3 w3 ⟨rfl, f3⟩
      have PB := Lib.hid (PB.out.on f3); have PQ := Lib.hid (PQ.out.on f3); have F := Lib.hid (F.out.trans f3)
      clear f3
      clear a0 a1 a2 a3 a4 a5
      have a0 := PQ.out.c 0; have a1 := PQ.out.c 1; have a2 := PQ.out.c 2; have a3 := PQ.out.c 3; have a4 := PQ.out.c 4; have a5 := PQ.out.c 5
      go_wp2_with fail
      go_at_call 11; refine (X.out _).mono ?_; rintro g4 w4 ⟨rfl, f4⟩
      have PB := Lib.hid (PB.out.on f4); have PQ := Lib.hid (PQ.out.on f4); have F := Lib.hid (F.out.trans f4)
      clear f4
      clear a0 a1 a2 a3 a4 a5
      have p0 := PB.out.c 0; have p1 := PB.out.c 1; have p2 := PB.out.c 2; have p3 := PB.out.c 3; have p4 := PB.out.c 4; have p5 := PB.out.c 5
      have r0 := PB.out.f 0; have r1 := PB.out.f 1; have r2 := PB.out.f 2; have r3 := PB.out.f 3; have r4 := PB.out.f 4; have r5 := PB.out.f 5
      go_wp2
      refine r_ret (tu := 24) rfl rfl rfl rfl (B := w.heap.size) (r := nilR) ⟨bk_put6 (show Bk _ w.heap.size #[.int .i64 0, .int .i64 0, .string ⟨#[]⟩, .string ⟨#[]⟩, .string ⟨#[]⟩, .string ⟨#[]⟩] _ from PB.out) _ _ _ _ _ _⟩ ⟨rfl, fuw_put6 F.out (Nat.le_refl _) _ _ _ _ _ _⟩
    · have hn : (chkR q != 0) = true := by rw [bne_iff_ne]; exact hc
      generalize chkR q = c at *
      clear h1 hc
      go_enter Tryd.func23, Tryd.ntmps23
      go_upto_region 1 with fail
      clear hW
      go_wp2_with fail
      go_at_call 46; refine (HW.out _).mono ?_; rintro g1 w1 ⟨v1, rfl, o1, f1⟩
      have O1 := Lib.hid o1
      have PB := Lib.hid (PB.out.on f1); have F := Lib.hid (F.out.trans f1)
      clear f1 o1
      go_wp2_with fail
      go_at_call 45; refine (HG.out _ _ _ O1.out).mono ?_; rintro g2 w2 ⟨rfl, f2⟩
      have PB := Lib.hid (PB.out.on f2); have F := Lib.hid (F.out.trans f2)
      clear f2 O1
      go_upto_region 2 with fail
      obtain ⟨V, hV⟩ : ∃ V, w2.alloc (.cells #[.int .i64 q.kd, .int .i64 q.nn, .string (bs q.nm), .string (bs q.ky), .string (bs q.fr), .string (bs q.tt)] 23) = V := ⟨_, rfl⟩
      have PQ := Lib.hid (show Bk V w2.heap.size #[.int .i64 q.kd, .int .i64 q.nn, .string (bs q.nm), .string (bs q.ky), .string (bs q.fr), .string (bs q.tt)] 23 from by rw [← hV]; exact Bk.new _ _ _)
      have f3 : Fuw w2 V := by rw [← hV]; exact fuwA _ _
      rw [hV]
      clear hV
      have PB := Lib.hid (PB.out.on f3); have F := Lib.hid (F.out.trans f3)
      clear f3
      have a0 := PQ.out.c 0; have a1 := PQ.out.c 1; have a2 := PQ.out.c 2; have a3 := PQ.out.c 3; have a4 := PQ.out.c 4; have a5 := PQ.out.c 5
      go_wp2_with fail
      go_at_call 9; refine (C.out _).mono ?_; rintro g3 w3 ⟨rfl, f3⟩
      have PB := Lib.hid (PB.out.on f3); have PQ := Lib.hid (PQ.out.on f3); have F := Lib.hid (F.out.trans f3)
      clear f3
      clear a0 a1 a2 a3 a4 a5
      have p0 := PB.out.c 0; have p1 := PB.out.c 1; have p2 := PB.out.c 2; have p3 := PB.out.c 3; have p4 := PB.out.c 4; have p5 := PB.out.c 5
      have r0 := PB.out.f 0; have r1 := PB.out.f 1; have r2 := PB.out.f 2; have r3 := PB.out.f 3; have r4 := PB.out.f 4; have r5 := PB.out.f 5
      go_wp2
      refine r_ret (tu := 24) rfl rfl rfl rfl (B := w.heap.size) (r := nilR) ⟨bk_put6 (show Bk _ w.heap.size #[.int .i64 0, .int .i64 0, .string ⟨#[]⟩, .string ⟨#[]⟩, .string ⟨#[]⟩, .string ⟨#[]⟩] _ from PB.out) _ _ _ _ _ _⟩ ⟨rfl, fuw_put6 F.out (Nat.le_refl _) _ _ _ _ _ _⟩
end Go.Proofs.YtadnaakbhgacgaaDoor
