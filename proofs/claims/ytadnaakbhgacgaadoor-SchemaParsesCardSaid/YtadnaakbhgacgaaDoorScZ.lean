/-
  The statement SchemaParses of package schema, walked: Parse answers as the reference does. Condition: the library's variables read as laid (Good), and the text is one that a machine holds. Nothing that was there turns.
-/
import Derived.Test.YtadnaakbhgacgaaDoorRcP
namespace Go.Proofs.YtadnaakbhgacgaaDoor
open Go.RowKit

/-- What both answer: a rule and an error. -/
def ansR (o : Option Rl) : Rl × Int := match o with | some r => (r, 0) | none => (nilR, 2)
theorem retP_ans {w : World} {o : Option Rl} {e : Ending} {w' : World} (h : RetP w o e w') : e = .returned (.tuple #[rlv (ansR o).1, .int .i64 (ansR o).2]) ∧ Fuw w w' := by
  cases o with
  | none => exact h
  | some r => exact h
set_option maxHeartbeats 6400000 in
set_option maxRecDepth 100000 in
theorem parses_walk (s : ByteArray) (hs : s.data.toList.length ≤ 140737488355328) (w : World) (G : Good w) : Calls Tryd.prog 5 #[.string s] w (FwB w true) := by
  have hs2 : s.size ≤ maxLen := by
    have e : s.data.toList.length = s.size := Array.length_toList
    unfold maxLen; omega
  have P1 := Lib.hid (fun w' (hf : Fuw w w') => by have q := parse_any s.data.toList hs w' (G.on hf); rw [← bs_of] at q; exact q.mono fun _ _ h => retP_ans h)
  have P2 := Lib.hid (fun w' => (rparse s hs2 w').mono fun _ _ h => retP_ans h)
  have HL := Lib.hid (fun w' (hf : Fuw w w') => lives_any w' (G.on hf))
  clear hs hs2 G
  generalize (ansR (parR s.data.toList)).1 = q at *
  generalize (ansR (parR s.data.toList)).2 = c at *
  have hne := fun w' => eql_rl q q w'
  rw [show eqR q q = true from eqR_iff.2 rfl] at hne
  have hgd := fun (op : BinOp) (p q : Operand) (xs ys : Array Value) (w' : World) => run_eqGuard_agg w' op 23 p q xs ys guard_rl
  unfold rlv at P1 P2 hne
  have HNE := Lib.hid hne
  clear hne
  have e1 : (c == c) = true := by simp
  go_enter Tryd.func5, Tryd.ntmps5
  go_wp2_with fail
  go_at_call 22; refine (P1.out _ (Fuw.refl _)).mono ?_; rintro g1 w1 ⟨rfl, f1⟩
  have F := Lib.hid f1
  clear f1
  go_upto_region 2 with fail
  obtain ⟨V, hV⟩ : ∃ V, w1.alloc (.cells #[.int .i64 q.kd, .int .i64 q.nn, .string (bs q.nm), .string (bs q.ky), .string (bs q.fr), .string (bs q.tt)] 23) = V := ⟨_, rfl⟩
  have PA := Lib.hid (show Bk V w1.heap.size #[.int .i64 q.kd, .int .i64 q.nn, .string (bs q.nm), .string (bs q.ky), .string (bs q.fr), .string (bs q.tt)] 23 from by rw [← hV]; exact Bk.new _ _ _)
  have f3 : Fuw w1 V := by rw [← hV]; exact fuwA _ _
  rw [hV]
  clear hV
  have F := Lib.hid (F.out.trans f3)
  clear f3
  go_wp2_with fail
  go_at_call 23; refine (P2.out _).mono ?_; rintro g2 w2 ⟨rfl, f2⟩
  have PA := Lib.hid (PA.out.on f2); have F := Lib.hid (F.out.trans f2)
  clear f2
  go_upto_region 3 with fail
  obtain ⟨V2, hV⟩ : ∃ V, w2.alloc (.cells #[.int .i64 q.kd, .int .i64 q.nn, .string (bs q.nm), .string (bs q.ky), .string (bs q.fr), .string (bs q.tt)] 23) = V := ⟨_, rfl⟩
  have PB := Lib.hid (show Bk V2 w2.heap.size #[.int .i64 q.kd, .int .i64 q.nn, .string (bs q.nm), .string (bs q.ky), .string (bs q.fr), .string (bs q.tt)] 23 from by rw [← hV]; exact Bk.new _ _ _)
  have f3 : Fuw w2 V2 := by rw [← hV]; exact fuwA _ _
  rw [hV]
  clear hV
  have PA := Lib.hid (PA.out.on f3); have F := Lib.hid (F.out.trans f3)
  clear f3
  have a0 := PA.out.c 0; have a1 := PA.out.c 1; have a2 := PA.out.c 2; have a3 := PA.out.c 3; have a4 := PA.out.c 4; have a5 := PA.out.c 5
  have b0 := PB.out.c 0; have b1 := PB.out.c 1; have b2 := PB.out.c 2; have b3 := PB.out.c 3; have b4 := PB.out.c 4; have b5 := PB.out.c 5
  have hne := HNE.out
  go_wp2_with fail
  go_at_call 14; refine (HL.out _ F.out).mono ?_; rintro g5 w5 ⟨rfl, f5⟩
  clear hne hgd
  go_wp2
  go_ret
  exact ⟨rfl, F.out.trans f5⟩
end Go.Proofs.YtadnaakbhgacgaaDoor
