/-
  The statement SchemaAdds of package schema, walked: Valid, Add and Drop answer as the reference does. Condition: the library's variables read as laid (Good). Nothing that was there turns.
-/
import Derived.Test.YtadnaakbhgacgaaDoorScW
import Derived.Test.YtadnaakbhgacgaaDoorRcG
namespace Go.Proofs.YtadnaakbhgacgaaDoor
open Go.RowKit

theorem in_addR {s : List Rl} {r : Rl} (hs : ∀ x ∈ s, RIn x) (hr : RIn r) : ∀ x ∈ addR s r, RIn x := fun x hx => by
  unfold addR at hx
  split at hx
  · exact in_addL hs hr x hx
  · cases hx
theorem in_drpR {s : List Rl} {r : Rl} (hs : ∀ x ∈ s, RIn x) : ∀ x ∈ drpR s r, RIn x := fun x hx => by
  unfold drpR at hx
  split at hx
  · exact in_dropL hs x hx
  · cases hx
set_option maxHeartbeats 12800000 in
set_option maxRecDepth 100000 in
theorem adds_walk (s : List Rl) (r : Rl) (hr : RIn r) (ao : Option Addr) (cap : Nat) (w : World) (hs : SlR w ao s cap) (G : Good w) : Calls Tryd.prog 4 #[.slice ao s.length cap, rlv r] w (FwB w true) := by
  obtain ⟨W, hW⟩ : ∃ W, w.alloc (.cells (rlc r) 23) = W := ⟨_, rfl⟩
  have PA := Lib.hid (show Bk W w.heap.size #[.int .i64 r.kd, .int .i64 r.nn, .string (bs r.nm), .string (bs r.ky), .string (bs r.fr), .string (bs r.tt)] 23 from by rw [← hW]; exact (BkR.new w r).h)
  have F := Lib.hid (show Fuw w W from by rw [← hW]; exact fuwA _ _)
  have SS := Lib.hid (show SlR W ao s cap from by rw [← hW]; exact slR_on (fuwA _ _) hs)
  have HL := Lib.hid (fun w' (hf : Fuw w w') => lives_any w' (G.on hf))
  have A1 := Lib.hid (fun w' (hf : SlR w' ao s cap) => (add_any s r ao cap w' hf hr).mono fun e w2 h => retA_l (in_addR hs.ins hr) h)
  have A2 := Lib.hid (fun w' (hf : SlR w' ao s cap) => (radd s r hr ao cap w' hf).mono fun e w2 h => retA_l (in_addR hs.ins hr) h)
  have D1 := Lib.hid (fun w' (hf : SlR w' ao s cap) => (drop_any s r ao cap w' hf hr).mono fun e w2 h => retA_l (in_drpR hs.ins) h)
  have D2 := Lib.hid (fun w' (hf : SlR w' ao s cap) => (rdrop s r hr ao cap w' hf).mono fun e w2 h => retA_l (in_drpR hs.ins) h)
  have V1 := Lib.hid (fun w' (hf : SlR w' ao s cap) => val_any s ao cap w' hf)
  have V2 := Lib.hid (fun w' (hf : SlR w' ao s cap) => rval s ao cap w' hf)
  unfold RetL at A1 A2 D1 D2
  have S1 := Lib.hid (fun a k b j w' (h1 : SlR w' a (addR s r) k) (h2 : SlR w' b (addR s r) j) => same_l (addR s r) a b k j _ rfl w' h1 h2)
  have S2 := Lib.hid (fun a k b j w' (h1 : SlR w' a (drpR s r) k) (h2 : SlR w' b (drpR s r) j) => same_l (drpR s r) a b k j _ rfl w' h1 h2)
  clear hs G hr
  unfold rlv at A1 D1 ⊢
  unfold rlc at hW
  generalize addR s r = L1 at *
  generalize drpR s r = L2 at *
  generalize addE s r = e1 at *
  generalize drpE s r = e2 at *
  generalize valS s = v at *
  generalize s.length = n at *
  have h1 : (e1 != e1) = false := by simp
  by_cases hl : 200 < (n : Int)
  · go_enter Tryd.func4, Tryd.ntmps4
    go_upto_region 1 with fail
    clear hW
    go_wp2_with fail
    go_at_call 14; refine (HL.out _ F.out).mono ?_; rintro g5 w5 ⟨rfl, f5⟩
    go_wp2
    go_ret
    exact ⟨rfl, F.out.trans f5⟩
  · have n0 : (0 : Int) ≤ n := by omega
    go_enter Tryd.func4, Tryd.ntmps4
    go_upto_region 1 with fail
    clear hW
    have q0 := PA.out.c 0; have q1 := PA.out.c 1; have q2 := PA.out.c 2; have q3 := PA.out.c 3; have q4 := PA.out.c 4; have q5 := PA.out.c 5
    go_wp2_with fail
    go_at_call 15; refine (A1.out _ SS.out).mono ?_; rintro g0 w0 ⟨a1, k1, rfl, X1, f0⟩
    have X1 := Lib.hid X1
    have PA := Lib.hid (PA.out.on f0); have F := Lib.hid (F.out.trans f0); have SS := Lib.hid (slR_on f0 SS.out); clear f0
    clear q0 q1 q2 q3 q4 q5
    have q0 := PA.out.c 0; have q1 := PA.out.c 1; have q2 := PA.out.c 2; have q3 := PA.out.c 3; have q4 := PA.out.c 4; have q5 := PA.out.c 5
    go_wp2_with fail
    go_at_call 16; refine (A2.out _ SS.out).mono ?_; rintro g1 w1 ⟨a2, k2, rfl, X2, f1⟩
    have X2 := Lib.hid X2
    have PA := Lib.hid (PA.out.on f1); have F := Lib.hid (F.out.trans f1); have SS := Lib.hid (slR_on f1 SS.out); have X1 := Lib.hid (slR_on f1 X1.out); clear f1
    clear q0 q1 q2 q3 q4 q5
    have q0 := PA.out.c 0; have q1 := PA.out.c 1; have q2 := PA.out.c 2; have q3 := PA.out.c 3; have q4 := PA.out.c 4; have q5 := PA.out.c 5
    go_wp2_with fail
    go_at_call 17; refine (S1.out _ _ _ _ _ X1.out X2.out).mono ?_; rintro g2 w2 ⟨rfl, f2⟩
    have PA := Lib.hid (PA.out.on f2); have F := Lib.hid (F.out.trans f2); have SS := Lib.hid (slR_on f2 SS.out); clear f2
    clear q0 q1 q2 q3 q4 q5
    have q0 := PA.out.c 0; have q1 := PA.out.c 1; have q2 := PA.out.c 2; have q3 := PA.out.c 3; have q4 := PA.out.c 4; have q5 := PA.out.c 5
    clear A1 A2 S1 X1 X2
    go_wp2_with fail
    go_at_call 18; refine (D1.out _ SS.out).mono ?_; rintro g3 w3 ⟨a3, k3, rfl, X3, f3⟩
    have X3 := Lib.hid X3
    have PA := Lib.hid (PA.out.on f3); have F := Lib.hid (F.out.trans f3); have SS := Lib.hid (slR_on f3 SS.out); clear f3
    clear q0 q1 q2 q3 q4 q5
    have q0 := PA.out.c 0; have q1 := PA.out.c 1; have q2 := PA.out.c 2; have q3 := PA.out.c 3; have q4 := PA.out.c 4; have q5 := PA.out.c 5
    go_wp2_with fail
    go_at_call 19; refine (D2.out _ SS.out).mono ?_; rintro g4 w4 ⟨a4, k4, rfl, X4, f4⟩
    have X4 := Lib.hid X4
    have PA := Lib.hid (PA.out.on f4); have F := Lib.hid (F.out.trans f4); have SS := Lib.hid (slR_on f4 SS.out); have X3 := Lib.hid (slR_on f4 X3.out); clear f4
    clear q0 q1 q2 q3 q4 q5
    have q0 := PA.out.c 0; have q1 := PA.out.c 1; have q2 := PA.out.c 2; have q3 := PA.out.c 3; have q4 := PA.out.c 4; have q5 := PA.out.c 5
    go_wp2_with fail
    go_at_call 17; refine (S2.out _ _ _ _ _ X3.out X4.out).mono ?_; rintro g5 w5 ⟨rfl, f5⟩
    have PA := Lib.hid (PA.out.on f5); have F := Lib.hid (F.out.trans f5); have SS := Lib.hid (slR_on f5 SS.out); clear f5
    clear q0 q1 q2 q3 q4 q5
    have q0 := PA.out.c 0; have q1 := PA.out.c 1; have q2 := PA.out.c 2; have q3 := PA.out.c 3; have q4 := PA.out.c 4; have q5 := PA.out.c 5
    clear D1 D2 S2 X3 X4
    go_wp2_with fail
    go_at_call 20; refine (V1.out _ SS.out).mono ?_; rintro g6 w6 ⟨rfl, f6⟩
    have PA := Lib.hid (PA.out.on f6); have F := Lib.hid (F.out.trans f6); have SS := Lib.hid (slR_on f6 SS.out); clear f6
    clear q0 q1 q2 q3 q4 q5
    have q0 := PA.out.c 0; have q1 := PA.out.c 1; have q2 := PA.out.c 2; have q3 := PA.out.c 3; have q4 := PA.out.c 4; have q5 := PA.out.c 5
    go_wp2_with fail
    go_at_call 21; refine (V2.out _ SS.out).mono ?_; rintro g7 w7 ⟨rfl, f7⟩
    have PA := Lib.hid (PA.out.on f7); have F := Lib.hid (F.out.trans f7); have SS := Lib.hid (slR_on f7 SS.out); clear f7
    clear q0 q1 q2 q3 q4 q5
    have q0 := PA.out.c 0; have q1 := PA.out.c 1; have q2 := PA.out.c 2; have q3 := PA.out.c 3; have q4 := PA.out.c 4; have q5 := PA.out.c 5
    go_wp2_with fail
    go_at_call 14; refine (HL.out _ F.out).mono ?_; rintro g8 w8 ⟨rfl, f8⟩
    go_wp2
    go_ret
    exact ⟨rfl, F.out.trans f8⟩
end Go.Proofs.YtadnaakbhgacgaaDoor
