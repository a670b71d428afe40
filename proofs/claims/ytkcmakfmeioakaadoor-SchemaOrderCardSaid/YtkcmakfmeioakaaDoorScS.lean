/-
  The statement SchemaOrder of package schema, walked. Condition: the library's variables read as laid (Good). Nothing that was there turns.
-/
import Derived.Test.YtkcmakfmeioakaaDoorScR
namespace Go.Proofs.YtkcmakfmeioakaaDoor
open Go.RowKit

theorem ord_facts (a b : Rl) : ordR b a = - ordR a b ∧ (ordR a b == 0) = eqR a b ∧ -1 ≤ ordR a b ∧ ordR a b ≤ 1 := by
  refine ⟨ordR_cmp.swap a b, ?_, ?_, ?_⟩
  · rw [eqR_ord]
    by_cases h : ordR a b = 0
    · rw [h]; rfl
    · rw [decide_eq_false h, beq_eq_false_iff_ne]; exact h
  · rcases ordR_cmp.three a b with h | h | h <;> omega
  · rcases ordR_cmp.three a b with h | h | h <;> omega
set_option maxHeartbeats 6400000 in
set_option maxRecDepth 100000 in
theorem order_walk (a b c : Rl) (w : World) (G : Good w) : Calls Tryd.prog 6 #[rlv a, rlv b, rlv c] w (FwB w true) := by
  obtain ⟨W, hW⟩ : ∃ W, ((w.alloc (.cells (rlc a) 23)).alloc (.cells (rlc b) 23)).alloc (.cells (rlc c) 23) = W := ⟨_, rfl⟩
  have PA := Lib.hid (show BkR W w.heap.size a from by rw [← hW]; exact ((BkR.new w a).on (fuwA _ _)).on (fuwA _ _))
  have PB := Lib.hid (show BkR W (w.heap.size + 1) b from by rw [← hW]; exact BkR.on ⟨bkA2 w _ _ _⟩ (fuwA _ _))
  have PC := Lib.hid (show BkR W (w.heap.size + 1 + 1) c from by rw [← hW]; have q := BkR.new ((w.alloc (.cells (rlc a) 23)).alloc (.cells (rlc b) 23)) c; rwa [asz, asz] at q)
  have F := Lib.hid (show Fuw w W from by rw [← hW]; exact (fuwA2 w _ _).trans (fuwA _ _))
  have HG := Lib.hid (fun w' (hf : Fuw w w') => lives_any w' (G.on hf))
  clear G
  have O1 := Lib.hid (fun w' => ord_any a b w')
  have O2 := Lib.hid (fun w' => ord_any b a w')
  have O3 := Lib.hid (fun w' => ord_any b c w')
  have O4 := Lib.hid (fun w' => ord_any a c w')
  obtain ⟨e1, e2, e3, e4⟩ := ord_facts a b
  have htr : ¬ 0 < ordR a b → ¬ 0 < ordR b c → ordR a c ≤ 0 := fun h k => ordR_cmp.trans a b c (by omega) (by omega)
  rw [e1] at O2
  have hne := fun w' => eql_rl a b w'
  rw [← e2] at hne
  have hgd := fun (op : BinOp) (p q : Operand) (xs ys : Array Value) (w' : World) => run_eqGuard_agg w' op 23 p q xs ys guard_rl
  unfold rlv at O1 O2 O3 O4 hne ⊢
  unfold rlc at hW
  clear e1 e2
  generalize ordR a b = k at *
  generalize ordR b c = l at *
  generalize ordR a c = m at *
  have k1 : ¬ k < -1 := by omega
  have k2 : ¬ 1 < k := by omega
  have k3 : (k != - - k) = false := by rw [Int.neg_neg]; simp
  have k4 : ((k == 0) != (k == 0)) = false := by simp
  have k5 : IntKind.i64.wrap (- - k) = k := by rw [Int.neg_neg]; exact IntWalk.i64_in _ (by omega)
  have k6 : (k != k) = false := by simp
  have HK := Lib.hid (And.intro e3 e4)
  have HTR := Lib.hid htr
  clear htr e3 e4
  go_enter Tryd.func6, Tryd.ntmps6
  go_upto_region 1 with fail
  clear hW
  have a0 := PA.out.c0; have a1 := PA.out.c1; have a2 := PA.out.c2; have a3 := PA.out.c3; have a4 := PA.out.c4; have a5 := PA.out.c5; have b0 := PB.out.c0; have b1 := PB.out.c1; have b2 := PB.out.c2; have b3 := PB.out.c3; have b4 := PB.out.c4; have b5 := PB.out.c5
  go_wp2_with fail
  go_at_call 25; refine (O1.out _).mono ?_; rintro g1 w9 ⟨rfl, f9⟩; have PA := Lib.hid (PA.out.on f9); have PB := Lib.hid (PB.out.on f9); have PC := Lib.hid (PC.out.on f9); have F := Lib.hid (F.out.trans f9); clear f9; have a0 := PA.out.c0; have a1 := PA.out.c1; have a2 := PA.out.c2; have a3 := PA.out.c3; have a4 := PA.out.c4; have a5 := PA.out.c5; have b0 := PB.out.c0; have b1 := PB.out.c1; have b2 := PB.out.c2; have b3 := PB.out.c3; have b4 := PB.out.c4; have b5 := PB.out.c5; have c0 := PC.out.c0; have c1 := PC.out.c1; have c2 := PC.out.c2; have c3 := PC.out.c3; have c4 := PC.out.c4; have c5 := PC.out.c5
  go_wp2_with fail
  go_at_call 25; refine (O2.out _).mono ?_; rintro g1 w9 ⟨rfl, f9⟩; have PA := Lib.hid (PA.out.on f9); have PB := Lib.hid (PB.out.on f9); have PC := Lib.hid (PC.out.on f9); have F := Lib.hid (F.out.trans f9); clear f9; have a0 := PA.out.c0; have a1 := PA.out.c1; have a2 := PA.out.c2; have a3 := PA.out.c3; have a4 := PA.out.c4; have a5 := PA.out.c5; have b0 := PB.out.c0; have b1 := PB.out.c1; have b2 := PB.out.c2; have b3 := PB.out.c3; have b4 := PB.out.c4; have b5 := PB.out.c5; have c0 := PC.out.c0; have c1 := PC.out.c1; have c2 := PC.out.c2; have c3 := PC.out.c3; have c4 := PC.out.c4; have c5 := PC.out.c5
  go_upto_region 4 with fail
  clear hne hgd k1 k2 k3 k4 k5 k6
  by_cases hk : 0 < k
  · clear HTR
    go_wp2_with fail
    go_at_call 15; refine (HG.out _ F.out).mono ?_; rintro g1 w8 ⟨rfl, f8⟩
    go_wp2
    go_ret
    exact ⟨rfl, F.out.trans f8⟩
  · have hk' : k ≤ 0 := by omega
    by_cases hl : 0 < l
    · clear HTR
      go_wp2_with fail
      go_at_call 25; refine (O3.out _).mono ?_; rintro g1 w9 ⟨rfl, f9⟩; have PA := Lib.hid (PA.out.on f9); have PB := Lib.hid (PB.out.on f9); have PC := Lib.hid (PC.out.on f9); have F := Lib.hid (F.out.trans f9); clear f9; have a0 := PA.out.c0; have a1 := PA.out.c1; have a2 := PA.out.c2; have a3 := PA.out.c3; have a4 := PA.out.c4; have a5 := PA.out.c5; have b0 := PB.out.c0; have b1 := PB.out.c1; have b2 := PB.out.c2; have b3 := PB.out.c3; have b4 := PB.out.c4; have b5 := PB.out.c5; have c0 := PC.out.c0; have c1 := PC.out.c1; have c2 := PC.out.c2; have c3 := PC.out.c3; have c4 := PC.out.c4; have c5 := PC.out.c5
      go_wp2_with fail
      go_at_call 15; refine (HG.out _ F.out).mono ?_; rintro g1 w8 ⟨rfl, f8⟩
      go_wp2
      go_ret
      exact ⟨rfl, F.out.trans f8⟩
    · have hm : m ≤ 0 := HTR.out (by omega) (by omega)
      have hl' : l ≤ 0 := by omega
      clear HTR
      go_wp2_with fail
      go_at_call 25; refine (O3.out _).mono ?_; rintro g1 w9 ⟨rfl, f9⟩; have PA := Lib.hid (PA.out.on f9); have PB := Lib.hid (PB.out.on f9); have PC := Lib.hid (PC.out.on f9); have F := Lib.hid (F.out.trans f9); clear f9; have a0 := PA.out.c0; have a1 := PA.out.c1; have a2 := PA.out.c2; have a3 := PA.out.c3; have a4 := PA.out.c4; have a5 := PA.out.c5; have b0 := PB.out.c0; have b1 := PB.out.c1; have b2 := PB.out.c2; have b3 := PB.out.c3; have b4 := PB.out.c4; have b5 := PB.out.c5; have c0 := PC.out.c0; have c1 := PC.out.c1; have c2 := PC.out.c2; have c3 := PC.out.c3; have c4 := PC.out.c4; have c5 := PC.out.c5
      go_wp2_with fail
      go_at_call 25; refine (O4.out _).mono ?_; rintro g1 w9 ⟨rfl, f9⟩; have PA := Lib.hid (PA.out.on f9); have PB := Lib.hid (PB.out.on f9); have PC := Lib.hid (PC.out.on f9); have F := Lib.hid (F.out.trans f9); clear f9; have a0 := PA.out.c0; have a1 := PA.out.c1; have a2 := PA.out.c2; have a3 := PA.out.c3; have a4 := PA.out.c4; have a5 := PA.out.c5; have b0 := PB.out.c0; have b1 := PB.out.c1; have b2 := PB.out.c2; have b3 := PB.out.c3; have b4 := PB.out.c4; have b5 := PB.out.c5; have c0 := PC.out.c0; have c1 := PC.out.c1; have c2 := PC.out.c2; have c3 := PC.out.c3; have c4 := PC.out.c4; have c5 := PC.out.c5
      go_wp2_with fail
      go_at_call 15; refine (HG.out _ F.out).mono ?_; rintro g1 w8 ⟨rfl, f8⟩
      go_wp2
      go_ret
      exact ⟨rfl, F.out.trans f8⟩
end Go.Proofs.YtkcmakfmeioakaaDoor
