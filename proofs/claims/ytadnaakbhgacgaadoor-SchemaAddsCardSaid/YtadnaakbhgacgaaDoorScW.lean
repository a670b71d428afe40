/-
  The statement SchemaUndo of package schema, walked: Add and Drop return schemas and undo each other. Condition: the library's variables read as laid (Good). Nothing that was there turns.
-/
import Derived.Test.YtadnaakbhgacgaaDoorScR
import Derived.Test.YtadnaakbhgacgaaDoorScU
namespace Go.Proofs.YtadnaakbhgacgaaDoor
open Go.RowKit

theorem in_addL {s : List Rl} {r : Rl} (hs : ∀ x ∈ s, RIn x) (hr : RIn r) : ∀ x ∈ addL s r, RIn x := fun x hx => by
  unfold addL at hx
  rcases List.mem_append.1 hx with h | h
  · exact hs x (List.mem_of_mem_take h)
  · rcases List.mem_cons.1 h with rfl | h
    · exact hr
    · exact hs x (List.mem_of_mem_drop h)
theorem in_dropL {s : List Rl} {r : Rl} (hs : ∀ x ∈ s, RIn x) : ∀ x ∈ dropL s r, RIn x := fun x hx => by
  unfold dropL at hx
  rcases List.mem_append.1 hx with h | h
  · exact hs x (List.mem_of_mem_take h)
  · exact hs x (List.mem_of_mem_drop h)
theorem add_l (s : List Rl) (r : Rl) (ao : Option Addr) (cap n : Nat) (hn : s.length = n) (m : Nat) (hm : (addL s r).length = m) (he : addE s r = 0) (hr : RIn r) (w : World) (hs : SlR w ao s cap) : Calls Tryd.prog 15 #[.slice ao n cap, .agg #[.int .i64 r.kd, .int .i64 r.nn, .string (bs r.nm), .string (bs r.ky), .string (bs r.fr), .string (bs r.tt)]] w (fun e w' => ∃ a k, e = .returned (.tuple #[.slice a m k, .int .i64 0]) ∧ SlR w' a (addL s r) k ∧ Fuw w w') := by
  subst hn hm
  have q := add_any s r ao cap w hs hr
  unfold addR at q
  rw [he, if_pos rfl] at q
  exact q.mono fun e w' h => retA_l (in_addL hs.ins hr) h
theorem drop_l (s : List Rl) (r : Rl) (ao : Option Addr) (cap n : Nat) (hn : s.length = n) (m : Nat) (hm : (dropL s r).length = m) (he : drpE s r = 0) (hr : RIn r) (w : World) (hs : SlR w ao s cap) : Calls Tryd.prog 18 #[.slice ao n cap, .agg #[.int .i64 r.kd, .int .i64 r.nn, .string (bs r.nm), .string (bs r.ky), .string (bs r.fr), .string (bs r.tt)]] w (fun e w' => ∃ a k, e = .returned (.tuple #[.slice a m k, .int .i64 0]) ∧ SlR w' a (dropL s r) k ∧ Fuw w w') := by
  subst hn hm
  have q := drop_any s r ao cap w hs hr
  unfold drpR at q
  rw [he, if_pos rfl] at q
  exact q.mono fun e w' h => retA_l (in_dropL hs.ins) h
theorem add_no (s : List Rl) (r : Rl) (ao : Option Addr) (cap : Nat) (he : addE s r ≠ 0) (hr : RIn r) (w : World) (hs : SlR w ao s cap) : Calls Tryd.prog 15 #[.slice ao s.length cap, .agg #[.int .i64 r.kd, .int .i64 r.nn, .string (bs r.nm), .string (bs r.ky), .string (bs r.fr), .string (bs r.tt)]] w (fun e w' => ∃ a k, e = .returned (.tuple #[.slice a 0 k, .int .i64 (addE s r)]) ∧ Fuw w w') := by
  have q := add_any s r ao cap w hs hr
  unfold addR at q
  rw [if_neg he] at q
  exact q.mono fun e w' h => by
    obtain ⟨a, k, e1, -, e2⟩ := retA_l (fun r hr => by cases hr) h
    exact ⟨a, k, e1, e2⟩
theorem drop_no (s : List Rl) (r : Rl) (ao : Option Addr) (cap : Nat) (he : drpE s r ≠ 0) (hr : RIn r) (w : World) (hs : SlR w ao s cap) : Calls Tryd.prog 18 #[.slice ao s.length cap, .agg #[.int .i64 r.kd, .int .i64 r.nn, .string (bs r.nm), .string (bs r.ky), .string (bs r.fr), .string (bs r.tt)]] w (fun e w' => ∃ a k, e = .returned (.tuple #[.slice a 0 k, .int .i64 (drpE s r)]) ∧ Fuw w w') := by
  have q := drop_any s r ao cap w hs hr
  unfold drpR at q
  rw [if_neg he] at q
  exact q.mono fun e w' h => by
    obtain ⟨a, k, e1, -, e2⟩ := retA_l (fun r hr => by cases hr) h
    exact ⟨a, k, e1, e2⟩
theorem val_l (s : List Rl) (ao : Option Addr) (cap n : Nat) (hn : s.length = n) (hv : valS s = true) (w : World) (hs : SlR w ao s cap) : Calls Tryd.prog 20 #[.slice ao n cap] w (FwB w true) := by
  subst hn
  have q := val_any s ao cap w hs
  rwa [hv] at q
theorem same_l (s : List Rl) (ao bo : Option Addr) (ca cb n : Nat) (hn : s.length = n) (w : World) (ha : SlR w ao s ca) (hb : SlR w bo s cb) : Calls Tryd.prog 17 #[.slice ao n ca, .slice bo n cb] w (FwB w true) := by
  subst hn
  have q := same_any s s ao bo ca cb w ha hb
  rwa [show samL s s = true from samL_iff.2 rfl] at q
set_option maxHeartbeats 12800000 in
set_option maxRecDepth 100000 in
theorem undo_walk (s : List Rl) (r : Rl) (hr : RIn r) (ao : Option Addr) (cap : Nat) (w : World) (hs : SlR w ao s cap) (G : Good w) : Calls Tryd.prog 6 #[.slice ao s.length cap, rlv r] w (FwB w true) := by
  obtain ⟨W, hW⟩ : ∃ W, w.alloc (.cells (rlc r) 23) = W := ⟨_, rfl⟩
  have PA := Lib.hid (show Bk W w.heap.size #[.int .i64 r.kd, .int .i64 r.nn, .string (bs r.nm), .string (bs r.ky), .string (bs r.fr), .string (bs r.tt)] 23 from by rw [← hW]; exact (BkR.new w r).h)
  have F := Lib.hid (show Fuw w W from by rw [← hW]; exact fuwA _ _)
  have SS := Lib.hid (show SlR W ao s cap from by rw [← hW]; exact slR_on (fuwA _ _) hs)
  have HL := Lib.hid (fun w' (hf : Fuw w w') => lives_any w' (G.on hf))
  have HR := Lib.hid hr
  clear hs G hr
  unfold rlv
  unfold rlc at hW
  obtain ⟨n, hn⟩ : ∃ n, s.length = n := ⟨_, rfl⟩
  rw [hn]
  have HN := Lib.hid hn
  clear hn
  by_cases hl : 200 < (n : Int)
  · go_enter Tryd.func6, Tryd.ntmps6
    go_upto_region 1 with fail
    clear hW
    go_wp2_with fail
    go_at_call 14; refine (HL.out _ F.out).mono ?_; rintro g5 w5 ⟨rfl, f5⟩
    go_wp2
    go_ret
    exact ⟨rfl, F.out.trans f5⟩
  · have n0 : (0 : Int) ≤ n := by omega
    by_cases ha : addE s r = 0
    · obtain ⟨v2, v3, v4, v5⟩ := add_undo ha
      have A1 := Lib.hid (fun w' => add_l s r ao cap n HN.out (n + 1) (by rw [v5, HN.out]) ha HR.out w')
      have D1 := Lib.hid (fun a k w' => drop_l (addL s r) r a k (n + 1) (by rw [v5, HN.out]) n (by rw [v4]; exact HN.out) v3 HR.out w')
      have V1 := Lib.hid (fun a k w' => val_l (addL s r) a k (n + 1) (by rw [v5, HN.out]) v2 w')
      have S1 := Lib.hid (fun a k w' (h : SlR w' a (dropL (addL s r) r) k) => same_l s a ao k cap n HN.out w' (v4 ▸ h))
      clear ha v2 v3 v4 v5
      go_enter Tryd.func6, Tryd.ntmps6
      go_upto_region 1 with fail
      clear hW
      have q0 := PA.out.c 0; have q1 := PA.out.c 1; have q2 := PA.out.c 2; have q3 := PA.out.c 3; have q4 := PA.out.c 4; have q5 := PA.out.c 5
      go_wp2_with fail
      go_at_call 15; refine (A1.out _ SS.out).mono ?_; rintro g0 w0 ⟨a1, k1, rfl, X1, f0⟩
      have X1 := Lib.hid X1
      have PA := Lib.hid (PA.out.on f0); have F := Lib.hid (F.out.trans f0); have SS := Lib.hid (slR_on f0 SS.out); clear f0
      clear q0 q1 q2 q3 q4 q5
      have q0 := PA.out.c 0; have q1 := PA.out.c 1; have q2 := PA.out.c 2; have q3 := PA.out.c 3; have q4 := PA.out.c 4; have q5 := PA.out.c 5
      go_wp2_with fail
      go_at_call 18; refine (D1.out _ _ _ X1.out).mono ?_; rintro g1 w1 ⟨a2, k2, rfl, X2, f1⟩
      have X2 := Lib.hid X2
      have PA := Lib.hid (PA.out.on f1); have F := Lib.hid (F.out.trans f1); have SS := Lib.hid (slR_on f1 SS.out); have X1 := Lib.hid (slR_on f1 X1.out); clear f1
      clear q0 q1 q2 q3 q4 q5
      have q0 := PA.out.c 0; have q1 := PA.out.c 1; have q2 := PA.out.c 2; have q3 := PA.out.c 3; have q4 := PA.out.c 4; have q5 := PA.out.c 5
      go_wp2_with fail
      go_at_call 20; refine (V1.out _ _ _ X1.out).mono ?_; rintro g2 w2 ⟨rfl, f2⟩
      have PA := Lib.hid (PA.out.on f2); have F := Lib.hid (F.out.trans f2); have SS := Lib.hid (slR_on f2 SS.out); have X2 := Lib.hid (slR_on f2 X2.out); clear f2
      clear q0 q1 q2 q3 q4 q5
      have q0 := PA.out.c 0; have q1 := PA.out.c 1; have q2 := PA.out.c 2; have q3 := PA.out.c 3; have q4 := PA.out.c 4; have q5 := PA.out.c 5
      go_wp2_with fail
      go_at_call 17; refine (S1.out _ _ _ X2.out SS.out).mono ?_; rintro g3 w3 ⟨rfl, f3⟩
      have PA := Lib.hid (PA.out.on f3); have F := Lib.hid (F.out.trans f3); have SS := Lib.hid (slR_on f3 SS.out); clear f3
      clear q0 q1 q2 q3 q4 q5
      have q0 := PA.out.c 0; have q1 := PA.out.c 1; have q2 := PA.out.c 2; have q3 := PA.out.c 3; have q4 := PA.out.c 4; have q5 := PA.out.c 5
      clear A1 D1 V1 S1 X1 X2
      by_cases hd : drpE s r = 0
      · obtain ⟨m, hm⟩ : ∃ m, (dropL s r).length = m := ⟨_, rfl⟩
        have HM := Lib.hid hm
        obtain ⟨v2, v3, v4, v5⟩ := drop_undo hd
        have HMN := Lib.hid (show n = m + 1 by have := HN.out; omega)
        have D2 := Lib.hid (fun w' => drop_l s r ao cap n HN.out m HM.out hd HR.out w')
        have A2 := Lib.hid (fun a k w' => add_l (dropL s r) r a k m HM.out n (by rw [v4]; exact HN.out) v3 HR.out w')
        have V2 := Lib.hid (fun a k w' => val_l (dropL s r) a k m HM.out v2 w')
        have S2 := Lib.hid (fun a k w' (h : SlR w' a (addL (dropL s r) r) k) => same_l s a ao k cap n HN.out w' (v4 ▸ h))
        have hq : ((m : Int) != (n : Int) - 1) = false := by have := HMN.out; rw [bne_eq_false_iff_eq]; omega
        clear hm hd v2 v3 v4 v5
        go_wp2_with fail
        go_at_call 18; refine (D2.out _ SS.out).mono ?_; rintro g4 w4 ⟨a3, k3, rfl, X3, f4⟩
        have X3 := Lib.hid X3
        have PA := Lib.hid (PA.out.on f4); have F := Lib.hid (F.out.trans f4); have SS := Lib.hid (slR_on f4 SS.out); clear f4
        clear q0 q1 q2 q3 q4 q5
        have q0 := PA.out.c 0; have q1 := PA.out.c 1; have q2 := PA.out.c 2; have q3 := PA.out.c 3; have q4 := PA.out.c 4; have q5 := PA.out.c 5
        go_wp2_with fail
        go_at_call 15; refine (A2.out _ _ _ X3.out).mono ?_; rintro g5 w5 ⟨a4, k4, rfl, X4, f5⟩
        have X4 := Lib.hid X4
        have PA := Lib.hid (PA.out.on f5); have F := Lib.hid (F.out.trans f5); have SS := Lib.hid (slR_on f5 SS.out); have X3 := Lib.hid (slR_on f5 X3.out); clear f5
        clear q0 q1 q2 q3 q4 q5
        have q0 := PA.out.c 0; have q1 := PA.out.c 1; have q2 := PA.out.c 2; have q3 := PA.out.c 3; have q4 := PA.out.c 4; have q5 := PA.out.c 5
        go_wp2_with fail
        go_at_call 20; refine (V2.out _ _ _ X3.out).mono ?_; rintro g6 w6 ⟨rfl, f6⟩
        have PA := Lib.hid (PA.out.on f6); have F := Lib.hid (F.out.trans f6); have SS := Lib.hid (slR_on f6 SS.out); have X4 := Lib.hid (slR_on f6 X4.out); clear f6
        clear q0 q1 q2 q3 q4 q5
        have q0 := PA.out.c 0; have q1 := PA.out.c 1; have q2 := PA.out.c 2; have q3 := PA.out.c 3; have q4 := PA.out.c 4; have q5 := PA.out.c 5
        go_wp2_with fail
        go_at_call 17; refine (S2.out _ _ _ X4.out SS.out).mono ?_; rintro g7 w7 ⟨rfl, f7⟩
        have PA := Lib.hid (PA.out.on f7); have F := Lib.hid (F.out.trans f7); have SS := Lib.hid (slR_on f7 SS.out); clear f7
        clear q0 q1 q2 q3 q4 q5
        have q0 := PA.out.c 0; have q1 := PA.out.c 1; have q2 := PA.out.c 2; have q3 := PA.out.c 3; have q4 := PA.out.c 4; have q5 := PA.out.c 5
        go_wp2_with fail
        go_at_call 14; refine (HL.out _ F.out).mono ?_; rintro g8 w8 ⟨rfl, f8⟩
        go_wp2
        go_ret
        exact ⟨rfl, F.out.trans f8⟩
      · have D2 := Lib.hid (fun w' (h : SlR w' ao s cap) => HN.out ▸ drop_no s r ao cap hd HR.out w' h)
        have hc : (drpE s r == 0) = false := by rw [beq_eq_false_iff_ne]; exact hd
        have hc2 : ¬ drpE s r = 0 := hd
        clear hd
        go_wp2_with fail
        go_at_call 18; refine (D2.out _ SS.out).mono ?_; rintro g4 w4 ⟨a3, k3, rfl, f4⟩
        have PA := Lib.hid (PA.out.on f4); have F := Lib.hid (F.out.trans f4); have SS := Lib.hid (slR_on f4 SS.out); clear f4
        clear q0 q1 q2 q3 q4 q5
        have q0 := PA.out.c 0; have q1 := PA.out.c 1; have q2 := PA.out.c 2; have q3 := PA.out.c 3; have q4 := PA.out.c 4; have q5 := PA.out.c 5
        go_wp2_with fail
        go_at_call 14; refine (HL.out _ F.out).mono ?_; rintro g8 w8 ⟨rfl, f8⟩
        go_wp2
        go_ret
        exact ⟨rfl, F.out.trans f8⟩
    · have A1 := Lib.hid (fun w' (h : SlR w' ao s cap) => HN.out ▸ add_no s r ao cap ha HR.out w' h)
      have hb : (addE s r == 0) = false := by rw [beq_eq_false_iff_ne]; exact ha
      have hb2 : ¬ addE s r = 0 := ha
      clear ha
      go_enter Tryd.func6, Tryd.ntmps6
      go_upto_region 1 with fail
      clear hW
      have q0 := PA.out.c 0; have q1 := PA.out.c 1; have q2 := PA.out.c 2; have q3 := PA.out.c 3; have q4 := PA.out.c 4; have q5 := PA.out.c 5
      go_wp2_with fail
      go_at_call 15; refine (A1.out _ SS.out).mono ?_; rintro g0 w0 ⟨a1, k1, rfl, f0⟩
      have PA := Lib.hid (PA.out.on f0); have F := Lib.hid (F.out.trans f0); have SS := Lib.hid (slR_on f0 SS.out); clear f0
      clear q0 q1 q2 q3 q4 q5
      have q0 := PA.out.c 0; have q1 := PA.out.c 1; have q2 := PA.out.c 2; have q3 := PA.out.c 3; have q4 := PA.out.c 4; have q5 := PA.out.c 5
      clear A1
      go_upto_region 8 with fail
      clear hb hb2
      by_cases hd : drpE s r = 0
      · obtain ⟨m, hm⟩ : ∃ m, (dropL s r).length = m := ⟨_, rfl⟩
        have HM := Lib.hid hm
        obtain ⟨v2, v3, v4, v5⟩ := drop_undo hd
        have HMN := Lib.hid (show n = m + 1 by have := HN.out; omega)
        have D2 := Lib.hid (fun w' => drop_l s r ao cap n HN.out m HM.out hd HR.out w')
        have A2 := Lib.hid (fun a k w' => add_l (dropL s r) r a k m HM.out n (by rw [v4]; exact HN.out) v3 HR.out w')
        have V2 := Lib.hid (fun a k w' => val_l (dropL s r) a k m HM.out v2 w')
        have S2 := Lib.hid (fun a k w' (h : SlR w' a (addL (dropL s r) r) k) => same_l s a ao k cap n HN.out w' (v4 ▸ h))
        have hq : ((m : Int) != (n : Int) - 1) = false := by have := HMN.out; rw [bne_eq_false_iff_eq]; omega
        clear hm hd v2 v3 v4 v5
        go_wp2_with fail
        go_at_call 18; refine (D2.out _ SS.out).mono ?_; rintro g4 w4 ⟨a3, k3, rfl, X3, f4⟩
        have X3 := Lib.hid X3
        have PA := Lib.hid (PA.out.on f4); have F := Lib.hid (F.out.trans f4); have SS := Lib.hid (slR_on f4 SS.out); clear f4
        clear q0 q1 q2 q3 q4 q5
        have q0 := PA.out.c 0; have q1 := PA.out.c 1; have q2 := PA.out.c 2; have q3 := PA.out.c 3; have q4 := PA.out.c 4; have q5 := PA.out.c 5
        go_wp2_with fail
        go_at_call 15; refine (A2.out _ _ _ X3.out).mono ?_; rintro g5 w5 ⟨a4, k4, rfl, X4, f5⟩
        have X4 := Lib.hid X4
        have PA := Lib.hid (PA.out.on f5); have F := Lib.hid (F.out.trans f5); have SS := Lib.hid (slR_on f5 SS.out); have X3 := Lib.hid (slR_on f5 X3.out); clear f5
        clear q0 q1 q2 q3 q4 q5
        have q0 := PA.out.c 0; have q1 := PA.out.c 1; have q2 := PA.out.c 2; have q3 := PA.out.c 3; have q4 := PA.out.c 4; have q5 := PA.out.c 5
        go_wp2_with fail
        go_at_call 20; refine (V2.out _ _ _ X3.out).mono ?_; rintro g6 w6 ⟨rfl, f6⟩
        have PA := Lib.hid (PA.out.on f6); have F := Lib.hid (F.out.trans f6); have SS := Lib.hid (slR_on f6 SS.out); have X4 := Lib.hid (slR_on f6 X4.out); clear f6
        clear q0 q1 q2 q3 q4 q5
        have q0 := PA.out.c 0; have q1 := PA.out.c 1; have q2 := PA.out.c 2; have q3 := PA.out.c 3; have q4 := PA.out.c 4; have q5 := PA.out.c 5
        go_wp2_with fail
        go_at_call 17; refine (S2.out _ _ _ X4.out SS.out).mono ?_; rintro g7 w7 ⟨rfl, f7⟩
        have PA := Lib.hid (PA.out.on f7); have F := Lib.hid (F.out.trans f7); have SS := Lib.hid (slR_on f7 SS.out); clear f7
        clear q0 q1 q2 q3 q4 q5
        have q0 := PA.out.c 0; have q1 := PA.out.c 1; have q2 := PA.out.c 2; have q3 := PA.out.c 3; have q4 := PA.out.c 4; have q5 := PA.out.c 5
        go_wp2_with fail
        go_at_call 14; refine (HL.out _ F.out).mono ?_; rintro g8 w8 ⟨rfl, f8⟩
        go_wp2
        go_ret
        exact ⟨rfl, F.out.trans f8⟩
      · have D2 := Lib.hid (fun w' (h : SlR w' ao s cap) => HN.out ▸ drop_no s r ao cap hd HR.out w' h)
        have hc : (drpE s r == 0) = false := by rw [beq_eq_false_iff_ne]; exact hd
        have hc2 : ¬ drpE s r = 0 := hd
        clear hd
        go_wp2_with fail
        go_at_call 18; refine (D2.out _ SS.out).mono ?_; rintro g4 w4 ⟨a3, k3, rfl, f4⟩
        have PA := Lib.hid (PA.out.on f4); have F := Lib.hid (F.out.trans f4); have SS := Lib.hid (slR_on f4 SS.out); clear f4
        clear q0 q1 q2 q3 q4 q5
        have q0 := PA.out.c 0; have q1 := PA.out.c 1; have q2 := PA.out.c 2; have q3 := PA.out.c 3; have q4 := PA.out.c 4; have q5 := PA.out.c 5
        go_wp2_with fail
        go_at_call 14; refine (HL.out _ F.out).mono ?_; rintro g8 w8 ⟨rfl, f8⟩
        go_wp2
        go_ret
        exact ⟨rfl, F.out.trans f8⟩
end Go.Proofs.YtadnaakbhgacgaaDoor
