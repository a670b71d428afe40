/-
  The statement SchemaBack of package schema, walked: Parse and Text are inverses. Condition: the library's variables read as laid (Good), and the text is one that a machine holds. Nothing that was there turns.
-/
import Derived.Test.YtadnaakbhgacgaaDoorScR
namespace Go.Proofs.YtadnaakbhgacgaaDoor
open Go.RowKit

theorem hit_rd {k : Int} {s : List UInt8} {r : Rl} (h : hitR k s = some r) : readR k (atoV (numW k s)) s = some r := by
  unfold hitR at h
  split at h
  · rename_i q hq
    split at h
    · cases h; exact hq
    · cases h
  · cases h
theorem parG_in {s : List UInt8} {r : Rl} (hs : s.length ≤ 140737488355328) : ∀ n, n ≤ 7 → parG s n = some r → RIn r
  | 0, _, h => by cases h
  | n + 1, hn, h => by
    unfold parG at h
    split at h
    · rename_i q hq
      cases h
      exact rd_in (show isK (7 - n : Int) = true by unfold isK; rw [Bool.and_eq_true, decide_eq_true_eq, decide_eq_true_eq]; omega) hs (hit_rd hq)
    · exact parG_in hs n (by omega) h
theorem par_in {s : List UInt8} {r : Rl} (hs : s.length ≤ 140737488355328) (h : parR s = some r) : RIn r := parG_in hs 7 (Nat.le_refl _) h
theorem bk_far6 {w : World} {B C : Nat} {cs : Array Value} {t : TypeId} (h : Bk w B cs t) (hp : B ≠ C) (b0 b1 b2 b3 b4 b5 : Value) : Bk ((((((w.setCell ⟨C, 0, none⟩ b0).setCell ⟨C, 1, none⟩ b1).setCell ⟨C, 2, none⟩ b2).setCell ⟨C, 3, none⟩ b3).setCell ⟨C, 4, none⟩ b4).setCell ⟨C, 5, none⟩ b5) B cs t :=
  (((((h.far hp _).far hp _).far hp _).far hp _).far hp _).far hp _
theorem txt_short {r : Rl} (hr : RIn r) (h : chkR r = 0) : (txtR r).length ≤ 140737488355328 := by
  obtain ⟨e, hl⟩ := txt_ok hr h
  rw [e]; omega
set_option maxHeartbeats 12800000 in
set_option maxRecDepth 100000 in
theorem back_walk (r : Rl) (hr : RIn r) (s : List UInt8) (hs : s.length ≤ 140737488355328) (w : World) (G : Good w) : Calls Tryd.prog 7 #[rlv r, .string (bs s)] w (FwB w true) := by
  obtain ⟨W, hW⟩ : ∃ W, w.alloc (.cells (rlc r) 23) = W := ⟨_, rfl⟩
  have PA := Lib.hid (show Bk W w.heap.size #[.int .i64 r.kd, .int .i64 r.nn, .string (bs r.nm), .string (bs r.ky), .string (bs r.fr), .string (bs r.tt)] 23 from by rw [← hW]; exact (BkR.new w r).h)
  have F := Lib.hid (show Fuw w W from by rw [← hW]; exact fuwA _ _)
  have HL := Lib.hid (fun w' (hf : Fuw w w') => lives_any w' (G.on hf))
  have C1 := Lib.hid (fun w' => chk_any r hr w')
  have T1 := Lib.hid (fun w' (hf : Fuw w w') => text_any r hr w' (G.on hf))
  have P2 := Lib.hid (show chkR r = 0 → ∀ w', Fuw w w' → Calls Tryd.prog 22 #[.string (bs (txtR r))] w' (fun e w2 => e = .returned (.tuple #[.agg #[.int .i64 r.kd, .int .i64 r.nn, .string (bs r.nm), .string (bs r.ky), .string (bs r.fr), .string (bs r.tt)], .int .i64 0]) ∧ Fuw w' w2) from fun hc w' hf => by
    have q := parse_any (txtR r) (txt_short hr hc) w' (G.on hf); rw [par_self hc] at q; exact q)
  have HN := Lib.hid (show chkR r ≠ 0 → txtR r = [] from fun h => by unfold txtR; rw [if_neg h])
  have hne := fun w' => eql_rl r r w'
  rw [show eqR r r = true from eqR_iff.2 rfl] at hne
  have hgd := fun (op : BinOp) (p q : Operand) (xs ys : Array Value) (w' : World) => run_eqGuard_agg w' op 23 p q xs ys guard_rl
  unfold rlv at C1 T1 hne ⊢
  unfold rlc at hW
  have HNE := Lib.hid hne
  clear hne
  cases hp : parR s with
  | none =>
    have P1 := Lib.hid (show ∀ w', Fuw w w' → Calls Tryd.prog 22 #[.string (bs s)] w' (fun e w2 => e = .returned (.tuple #[.agg #[.int .i64 0, .int .i64 0, .string ⟨#[]⟩, .string ⟨#[]⟩, .string ⟨#[]⟩, .string ⟨#[]⟩], .int .i64 2]) ∧ Fuw w' w2) from fun w' hf => by
      have q := parse_any s hs w' (G.on hf); rw [hp] at q; exact q)

    clear G hp
    go_enter Tryd.func7, Tryd.ntmps7
    go_upto_region 1 with fail
    clear hW
    go_wp2_with fail
    go_at_call 22; refine (P1.out _ F.out).mono ?_; rintro g1 w1 ⟨rfl, f1⟩
    have PA := Lib.hid (PA.out.on f1); have F := Lib.hid (F.out.trans f1)
    clear f1
    go_upto_region 2 with fail
    obtain ⟨V, hV⟩ : ∃ V, w1.alloc (.cells #[.int .i64 0, .int .i64 0, .string ⟨#[]⟩, .string ⟨#[]⟩, .string ⟨#[]⟩, .string ⟨#[]⟩] 23) = V := ⟨_, rfl⟩
    have PQ := Lib.hid (show Bk V w1.heap.size #[.int .i64 0, .int .i64 0, .string ⟨#[]⟩, .string ⟨#[]⟩, .string ⟨#[]⟩, .string ⟨#[]⟩] 23 from by rw [← hV]; exact Bk.new _ _ _)
    have f1 : Fuw w1 V := by rw [← hV]; exact fuwA _ _
    rw [hV]
    clear hV
    have HB := Lib.hid (show w.heap.size ≠ w1.heap.size ∧ w.heap.size ≤ w1.heap.size from by have := PA.out.lt; omega)
    have PA := Lib.hid (PA.out.on f1); have F := Lib.hid (F.out.trans f1)
    clear f1
    obtain ⟨B, hB⟩ : ∃ B, w1.heap.size = B := ⟨_, rfl⟩
    rw [hB] at PQ HB ⊢
    clear hB
    clear P1
    have a0 := PA.out.c 0; have a1 := PA.out.c 1; have a2 := PA.out.c 2; have a3 := PA.out.c 3; have a4 := PA.out.c 4; have a5 := PA.out.c 5
    go_wp2_with fail
    go_at_call 8; refine (C1.out _).mono ?_; rintro g2 w2 ⟨rfl, f2⟩
    have PA := Lib.hid (PA.out.on f2); have PQ := Lib.hid (PQ.out.on f2); have F := Lib.hid (F.out.trans f2)
    clear f2 C1
    clear a0 a1 a2 a3 a4 a5
    have a0 := PA.out.c 0; have a1 := PA.out.c 1; have a2 := PA.out.c 2; have a3 := PA.out.c 3; have a4 := PA.out.c 4; have a5 := PA.out.c 5
    by_cases hc : chkR r = 0
    · have HC := Lib.hid hc
      have P2 := Lib.hid (P2.out hc)
      rw [hc]
      clear hc HN
      go_wp2_with fail
      go_at_call 10; refine (T1.out _ F.out).mono ?_; rintro g3 w3 ⟨rfl, f3⟩
      have PA := Lib.hid (PA.out.on f3); have PQ := Lib.hid (PQ.out.on f3); have F := Lib.hid (F.out.trans f3)
      clear f3 T1
      clear a0 a1 a2 a3 a4 a5
      go_wp2_with fail
      go_at_call 22; refine (P2.out _ F.out).mono ?_; rintro g4 w4 ⟨rfl, f4⟩
      have PA := Lib.hid (PA.out.on f4); have PQ := Lib.hid (PQ.out.on f4); have F := Lib.hid (F.out.trans f4)
      clear f4 P2
      have a0 := PA.out.c 0; have a1 := PA.out.c 1; have a2 := PA.out.c 2; have a3 := PA.out.c 3; have a4 := PA.out.c 4; have a5 := PA.out.c 5
      have q0 := PQ.out.c 0; have q1 := PQ.out.c 1; have q2 := PQ.out.c 2; have q3 := PQ.out.c 3; have q4 := PQ.out.c 4; have q5 := PQ.out.c 5
      have hlB := Lib.hid PQ.out.lt
      have q0f := PQ.out.f 0; have q1f := PQ.out.f 1; have q2f := PQ.out.f 2; have q3f := PQ.out.f 3; have q4f := PQ.out.f 4; have q5f := PQ.out.f 5
      go_upto_region 7 with fail
      clear q0f q1f q2f q3f q4f q5f
      clear a0 a1 a2 a3 a4 a5
      clear q0 q1 q2 q3 q4 q5
      obtain ⟨X, hX⟩ : ∃ X, ((((((w4.setCell ⟨B, 0, none⟩ (.int .i64 r.kd)).setCell ⟨B, 1, none⟩ (.int .i64 r.nn)).setCell ⟨B, 2, none⟩ (.string (bs r.nm))).setCell ⟨B, 3, none⟩ (.string (bs r.ky))).setCell ⟨B, 4, none⟩ (.string (bs r.fr))).setCell ⟨B, 5, none⟩ (.string (bs r.tt))) = X := ⟨_, rfl⟩
      have PA := Lib.hid (show Bk X w.heap.size #[.int .i64 r.kd, .int .i64 r.nn, .string (bs r.nm), .string (bs r.ky), .string (bs r.fr), .string (bs r.tt)] 23 from by rw [← hX]; exact bk_far6 PA.out (by have := HB.out.1; omega) _ _ _ _ _ _)
      have PQ := Lib.hid (show Bk X B #[.int .i64 r.kd, .int .i64 r.nn, .string (bs r.nm), .string (bs r.ky), .string (bs r.fr), .string (bs r.tt)] 23 from by rw [← hX]; exact bk_put6 PQ.out _ _ _ _ _ _)
      have F := Lib.hid (show Fuw w X from by rw [← hX]; exact fuw_put6 F.out HB.out.2 _ _ _ _ _ _)
      rw [hX]
      clear hX
      have a0 := PA.out.c 0; have a1 := PA.out.c 1; have a2 := PA.out.c 2; have a3 := PA.out.c 3; have a4 := PA.out.c 4; have a5 := PA.out.c 5
      have q0 := PQ.out.c 0; have q1 := PQ.out.c 1; have q2 := PQ.out.c 2; have q3 := PQ.out.c 3; have q4 := PQ.out.c 4; have q5 := PQ.out.c 5
      have hne := HNE.out
      go_wp2_with fail
      go_at_call 14; refine (HL.out _ F.out).mono ?_; rintro g5 w5 ⟨rfl, f5⟩
      clear hne hgd
      go_wp2
      go_ret
      exact ⟨rfl, F.out.trans f5⟩
    · have hn : (chkR r != 0) = true := by rw [bne_iff_ne]; exact hc
      have T1 := T1.out
      rw [HN.out hc] at T1
      have T1 := Lib.hid (show ∀ w', Fuw w w' → Calls Tryd.prog 10 #[.agg #[.int .i64 r.kd, .int .i64 r.nn, .string (bs r.nm), .string (bs r.ky), .string (bs r.fr), .string (bs r.tt)]] w' (FwT w' ⟨#[]⟩) from T1)
      clear P2 HN HNE
      generalize chkR r = c at *
      clear hc
      go_wp2_with fail
      go_at_call 10; refine (T1.out _ F.out).mono ?_; rintro g3 w3 ⟨rfl, f3⟩
      have F := Lib.hid (F.out.trans f3)
      clear f3
      clear a0 a1 a2 a3 a4 a5
      go_wp2_with fail
      go_at_call 14; refine (HL.out _ F.out).mono ?_; rintro g5 w5 ⟨rfl, f5⟩
      go_wp2
      go_ret
      exact ⟨rfl, F.out.trans f5⟩
  | some q =>
    have P1 := Lib.hid (show ∀ w', Fuw w w' → Calls Tryd.prog 22 #[.string (bs s)] w' (fun e w2 => e = .returned (.tuple #[.agg #[.int .i64 q.kd, .int .i64 q.nn, .string (bs q.nm), .string (bs q.ky), .string (bs q.fr), .string (bs q.tt)], .int .i64 0]) ∧ Fuw w' w2) from fun w' hf => by
      have q := parse_any s hs w' (G.on hf); rw [hp] at q; exact q)
    have T0 := Lib.hid (show ∀ w', Fuw w w' → Calls Tryd.prog 10 #[.agg #[.int .i64 q.kd, .int .i64 q.nn, .string (bs q.nm), .string (bs q.ky), .string (bs q.fr), .string (bs q.tt)]] w' (FwT w' (bs s)) from fun w' hf => by
      have k := text_any q (par_in hs hp) w' (G.on hf); rw [par_txt hp] at k; exact k)
    clear G hp
    go_enter Tryd.func7, Tryd.ntmps7
    go_upto_region 1 with fail
    clear hW
    go_wp2_with fail
    go_at_call 22; refine (P1.out _ F.out).mono ?_; rintro g1 w1 ⟨rfl, f1⟩
    have PA := Lib.hid (PA.out.on f1); have F := Lib.hid (F.out.trans f1)
    clear f1
    go_upto_region 2 with fail
    obtain ⟨V, hV⟩ : ∃ V, w1.alloc (.cells #[.int .i64 q.kd, .int .i64 q.nn, .string (bs q.nm), .string (bs q.ky), .string (bs q.fr), .string (bs q.tt)] 23) = V := ⟨_, rfl⟩
    have PQ := Lib.hid (show Bk V w1.heap.size #[.int .i64 q.kd, .int .i64 q.nn, .string (bs q.nm), .string (bs q.ky), .string (bs q.fr), .string (bs q.tt)] 23 from by rw [← hV]; exact Bk.new _ _ _)
    have f1 : Fuw w1 V := by rw [← hV]; exact fuwA _ _
    rw [hV]
    clear hV
    have HB := Lib.hid (show w.heap.size ≠ w1.heap.size ∧ w.heap.size ≤ w1.heap.size from by have := PA.out.lt; omega)
    have PA := Lib.hid (PA.out.on f1); have F := Lib.hid (F.out.trans f1)
    clear f1
    obtain ⟨B, hB⟩ : ∃ B, w1.heap.size = B := ⟨_, rfl⟩
    rw [hB] at PQ HB ⊢
    clear hB
    have q0 := PQ.out.c 0; have q1 := PQ.out.c 1; have q2 := PQ.out.c 2; have q3 := PQ.out.c 3; have q4 := PQ.out.c 4; have q5 := PQ.out.c 5
    go_wp2_with fail
    go_at_call 10; refine (T0.out _ F.out).mono ?_; rintro g0 w0 ⟨rfl, f0⟩
    have PA := Lib.hid (PA.out.on f0); have PQ := Lib.hid (PQ.out.on f0); have F := Lib.hid (F.out.trans f0)
    clear f0 T0
    clear q0 q1 q2 q3 q4 q5
    clear P1
    have a0 := PA.out.c 0; have a1 := PA.out.c 1; have a2 := PA.out.c 2; have a3 := PA.out.c 3; have a4 := PA.out.c 4; have a5 := PA.out.c 5
    go_wp2_with fail
    go_at_call 8; refine (C1.out _).mono ?_; rintro g2 w2 ⟨rfl, f2⟩
    have PA := Lib.hid (PA.out.on f2); have PQ := Lib.hid (PQ.out.on f2); have F := Lib.hid (F.out.trans f2)
    clear f2 C1
    clear a0 a1 a2 a3 a4 a5
    have a0 := PA.out.c 0; have a1 := PA.out.c 1; have a2 := PA.out.c 2; have a3 := PA.out.c 3; have a4 := PA.out.c 4; have a5 := PA.out.c 5
    by_cases hc : chkR r = 0
    · have HC := Lib.hid hc
      have P2 := Lib.hid (P2.out hc)
      rw [hc]
      clear hc HN
      go_wp2_with fail
      go_at_call 10; refine (T1.out _ F.out).mono ?_; rintro g3 w3 ⟨rfl, f3⟩
      have PA := Lib.hid (PA.out.on f3); have PQ := Lib.hid (PQ.out.on f3); have F := Lib.hid (F.out.trans f3)
      clear f3 T1
      clear a0 a1 a2 a3 a4 a5
      go_wp2_with fail
      go_at_call 22; refine (P2.out _ F.out).mono ?_; rintro g4 w4 ⟨rfl, f4⟩
      have PA := Lib.hid (PA.out.on f4); have PQ := Lib.hid (PQ.out.on f4); have F := Lib.hid (F.out.trans f4)
      clear f4 P2
      have a0 := PA.out.c 0; have a1 := PA.out.c 1; have a2 := PA.out.c 2; have a3 := PA.out.c 3; have a4 := PA.out.c 4; have a5 := PA.out.c 5
      have q0 := PQ.out.c 0; have q1 := PQ.out.c 1; have q2 := PQ.out.c 2; have q3 := PQ.out.c 3; have q4 := PQ.out.c 4; have q5 := PQ.out.c 5
      have hlB := Lib.hid PQ.out.lt
      have q0f := PQ.out.f 0; have q1f := PQ.out.f 1; have q2f := PQ.out.f 2; have q3f := PQ.out.f 3; have q4f := PQ.out.f 4; have q5f := PQ.out.f 5
      go_upto_region 7 with fail
      clear q0f q1f q2f q3f q4f q5f
      clear a0 a1 a2 a3 a4 a5
      clear q0 q1 q2 q3 q4 q5
      obtain ⟨X, hX⟩ : ∃ X, ((((((w4.setCell ⟨B, 0, none⟩ (.int .i64 r.kd)).setCell ⟨B, 1, none⟩ (.int .i64 r.nn)).setCell ⟨B, 2, none⟩ (.string (bs r.nm))).setCell ⟨B, 3, none⟩ (.string (bs r.ky))).setCell ⟨B, 4, none⟩ (.string (bs r.fr))).setCell ⟨B, 5, none⟩ (.string (bs r.tt))) = X := ⟨_, rfl⟩
      have PA := Lib.hid (show Bk X w.heap.size #[.int .i64 r.kd, .int .i64 r.nn, .string (bs r.nm), .string (bs r.ky), .string (bs r.fr), .string (bs r.tt)] 23 from by rw [← hX]; exact bk_far6 PA.out (by have := HB.out.1; omega) _ _ _ _ _ _)
      have PQ := Lib.hid (show Bk X B #[.int .i64 r.kd, .int .i64 r.nn, .string (bs r.nm), .string (bs r.ky), .string (bs r.fr), .string (bs r.tt)] 23 from by rw [← hX]; exact bk_put6 PQ.out _ _ _ _ _ _)
      have F := Lib.hid (show Fuw w X from by rw [← hX]; exact fuw_put6 F.out HB.out.2 _ _ _ _ _ _)
      rw [hX]
      clear hX
      have a0 := PA.out.c 0; have a1 := PA.out.c 1; have a2 := PA.out.c 2; have a3 := PA.out.c 3; have a4 := PA.out.c 4; have a5 := PA.out.c 5
      have q0 := PQ.out.c 0; have q1 := PQ.out.c 1; have q2 := PQ.out.c 2; have q3 := PQ.out.c 3; have q4 := PQ.out.c 4; have q5 := PQ.out.c 5
      have hne := HNE.out
      go_wp2_with fail
      go_at_call 14; refine (HL.out _ F.out).mono ?_; rintro g5 w5 ⟨rfl, f5⟩
      clear hne hgd
      go_wp2
      go_ret
      exact ⟨rfl, F.out.trans f5⟩
    · have hn : (chkR r != 0) = true := by rw [bne_iff_ne]; exact hc
      have T1 := T1.out
      rw [HN.out hc] at T1
      have T1 := Lib.hid (show ∀ w', Fuw w w' → Calls Tryd.prog 10 #[.agg #[.int .i64 r.kd, .int .i64 r.nn, .string (bs r.nm), .string (bs r.ky), .string (bs r.fr), .string (bs r.tt)]] w' (FwT w' ⟨#[]⟩) from T1)
      clear P2 HN HNE
      generalize chkR r = c at *
      clear hc
      go_wp2_with fail
      go_at_call 10; refine (T1.out _ F.out).mono ?_; rintro g3 w3 ⟨rfl, f3⟩
      have F := Lib.hid (F.out.trans f3)
      clear f3
      clear a0 a1 a2 a3 a4 a5
      go_wp2_with fail
      go_at_call 14; refine (HL.out _ F.out).mono ?_; rintro g5 w5 ⟨rfl, f5⟩
      go_wp2
      go_ret
      exact ⟨rfl, F.out.trans f5⟩
theorem back_walk_s (r : Rl) (hr : RIn r) (t : ByteArray) (ht : t.data.toList.length ≤ 140737488355328) (w : World) (G : Good w) : Calls Tryd.prog 7 #[rlv r, .string t] w (FwB w true) := by
  have q := back_walk r hr t.data.toList ht w G
  rwa [← bs_of] at q
end Go.Proofs.YtadnaakbhgacgaaDoor
