/-
  The statements of package schema: that the chapter's examples hold (lives). Condition: the library's variables read as laid (Good). Nothing that was there turns.
-/
import Derived.Test.YtadnaakbhgacgaaDoorScQ
namespace Go.Proofs.YtadnaakbhgacgaaDoor
open Go.RowKit
open Go.Lib (itoa join)

def RetL (w : World) (l : List Rl) (c : Int) (e : Ending) (w' : World) : Prop := ∃ ao k, e = .returned (.tuple #[.slice ao l.length k, .int .i64 c]) ∧ SlR w' ao l k ∧ Fuw w w'
theorem retA_l {w : World} {l : List Rl} {c : Int} {e : Ending} {w' : World} (hi : ∀ r ∈ l, RIn r) (h : RetA w l c e w') : RetL w l c e w' := by
  obtain ⟨v, rfl, ho, hf⟩ := h
  obtain ⟨ao, k, rfl, -, hs⟩ := slR_of_own ho hi
  exact ⟨ao, k, rfl, hs, hf⟩
theorem in2 : ∀ r ∈ [uR, xR], RIn r := fun r hr => by
  rcases List.mem_cons.1 hr with rfl | hr
  · exact uR_in
  · rw [List.mem_singleton] at hr; subst hr; exact xR_in
theorem in1 : ∀ r ∈ [xR], RIn r := fun r hr => by rw [List.mem_singleton] at hr; subst hr; exact xR_in
theorem in1u : ∀ r ∈ [uR], RIn r := fun r hr => by rw [List.mem_singleton] at hr; subst hr; exact uR_in
theorem lA1 (w : World) : Calls Tryd.prog 15 #[.slice none 0 0, .agg #[.int .i64 2, .int .i64 0, .string ⟨#[65]⟩, .string ⟨#[107]⟩, .string ⟨#[]⟩, .string ⟨#[]⟩]] w (fun e w' => ∃ ao k, e = .returned (.tuple #[.slice ao 1 k, .int .i64 0]) ∧ SlR w' ao [xR] k ∧ Fuw w w') := by
  have q := add_any [] xR none 0 w (Sl.empty _) xR_in
  rw [ex1.1, ex1.2] at q
  exact q.mono fun e w' h => retA_l in1 h
theorem lA2 (w : World) (ao : Option Addr) (k : Nat) (h : SlR w ao [xR] k) : Calls Tryd.prog 15 #[.slice ao 1 k, .agg #[.int .i64 1, .int .i64 0, .string ⟨#[65]⟩, .string ⟨#[107]⟩, .string ⟨#[]⟩, .string ⟨#[]⟩]] w (fun e w' => ∃ ao k, e = .returned (.tuple #[.slice ao 2 k, .int .i64 0]) ∧ SlR w' ao [uR, xR] k ∧ Fuw w w') := by
  have q := add_any [xR] uR ao k w h uR_in
  rw [ex2.1, ex2.2] at q
  exact q.mono fun e w' h => retA_l in2 h
theorem lA3 (w : World) (ao : Option Addr) (k : Nat) (h : SlR w ao [uR, xR] k) : Calls Tryd.prog 15 #[.slice ao 2 k, .agg #[.int .i64 1, .int .i64 0, .string ⟨#[65]⟩, .string ⟨#[107]⟩, .string ⟨#[]⟩, .string ⟨#[]⟩]] w (fun e w' => ∃ ao k, e = .returned (.tuple #[.slice ao 0 k, .int .i64 7]) ∧ Fuw w w') := by
  have q := add_any [uR, xR] uR ao k w h uR_in
  rw [ex3.1, ex3.2] at q
  exact q.mono fun e w' h => by
    obtain ⟨ao, k, e1, -, e2⟩ := retA_l (fun r hr => by cases hr) h
    exact ⟨ao, k, e1, e2⟩
theorem lA4 (w : World) (ao : Option Addr) (k : Nat) (h : SlR w ao [uR, xR] k) : Calls Tryd.prog 18 #[.slice ao 2 k, .agg #[.int .i64 2, .int .i64 0, .string ⟨#[65]⟩, .string ⟨#[107]⟩, .string ⟨#[]⟩, .string ⟨#[]⟩]] w (fun e w' => ∃ ao k, e = .returned (.tuple #[.slice ao 1 k, .int .i64 0]) ∧ SlR w' ao [uR] k ∧ Fuw w w') := by
  have q := drop_any [uR, xR] xR ao k w h xR_in
  rw [ex4.1, ex4.2] at q
  exact q.mono fun e w' h => retA_l in1u h
theorem lP1 (w : World) (G : Good w) : Calls Tryd.prog 22 #[.string ⟨#[101, 110, 100, 115, 32, 84, 32, 42, 32, 66]⟩] w (fun e w' => e = .returned (.tuple #[.agg #[.int .i64 6, .int .i64 0, .string ⟨#[84]⟩, .string ⟨#[]⟩, .string ⟨#[]⟩, .string ⟨#[66]⟩], .int .i64 0]) ∧ Fuw w w') := by
  have q := parse_any [101, 110, 100, 115, 32, 84, 32, 42, 32, 66] (by decide) w G
  rw [ex9] at q
  exact q
theorem lP2 (w : World) (G : Good w) : Calls Tryd.prog 22 #[.string ⟨#[109, 97, 120, 111, 117, 116, 32, 84, 32, 48, 51]⟩] w (fun e w' => e = .returned (.tuple #[.agg #[.int .i64 0, .int .i64 0, .string ⟨#[]⟩, .string ⟨#[]⟩, .string ⟨#[]⟩, .string ⟨#[]⟩], .int .i64 2]) ∧ Fuw w w') := by
  have q := parse_any [109, 97, 120, 111, 117, 116, 32, 84, 32, 48, 51] (by decide) w G
  rw [ex10] at q
  exact q
theorem lT (w : World) (G : Good w) : Calls Tryd.prog 10 #[.agg #[.int .i64 6, .int .i64 0, .string ⟨#[75, 78, 79, 87, 83]⟩, .string ⟨#[]⟩, .string ⟨#[80, 101, 114, 115, 111, 110]⟩, .string ⟨#[]⟩]] w (FwT w ⟨#[101, 110, 100, 115, 32, 75, 78, 79, 87, 83, 32, 80, 101, 114, 115, 111, 110, 32, 42]⟩) := by
  have q := text_any nR nR_in w G
  rw [ex5] at q
  exact q
theorem lC1 (w : World) : Calls Tryd.prog 8 #[.agg #[.int .i64 6, .int .i64 0, .string ⟨#[75, 78, 79, 87, 83]⟩, .string ⟨#[]⟩, .string ⟨#[80, 101, 114, 115, 111, 110]⟩, .string ⟨#[]⟩]] w (FwI w 0) := by
  have q := chk_any nR nR_in w
  rw [ex6.1] at q
  exact q
theorem lC2 (w : World) : Calls Tryd.prog 8 #[.agg #[.int .i64 6, .int .i64 0, .string ⟨#[]⟩, .string ⟨#[107]⟩, .string ⟨#[]⟩, .string ⟨#[]⟩]] w (FwI w 1) := by
  have q := chk_any kR kR_in w
  rw [ex6.2.1] at q
  exact q
theorem lO (w : World) : Calls Tryd.prog 39 #[.agg #[.int .i64 1, .int .i64 0, .string ⟨#[65]⟩, .string ⟨#[107]⟩, .string ⟨#[]⟩, .string ⟨#[]⟩], .agg #[.int .i64 2, .int .i64 0, .string ⟨#[65]⟩, .string ⟨#[107]⟩, .string ⟨#[]⟩, .string ⟨#[]⟩]] w (FwI w (-1)) := by
  have q := ord_any uR xR w
  rw [ex8.1] at q
  exact q
theorem lF (w : World) : Calls Tryd.prog 12 #[.int .i64 6] w (PureI w 16) := by
  have q := flt_any 6 w
  rw [ex8.2] at q
  exact q
theorem lV1 (w : World) (ao : Option Addr) (k : Nat) (h : SlR w ao [uR, xR] k) : Calls Tryd.prog 20 #[.slice ao 2 k] w (FwB w true) := by
  have q := val_any [uR, xR] ao k w h
  rw [ex7.1] at q
  exact q
/-- Two rules in a box. -/
theorem slR_two {w : World} {B : Nat} {a b : Rl} {t : TypeId} (h : Bk w B #[.int .i64 a.kd, .int .i64 a.nn, .string (bs a.nm), .string (bs a.ky), .string (bs a.fr), .string (bs a.tt), .int .i64 b.kd, .int .i64 b.nn, .string (bs b.nm), .string (bs b.ky), .string (bs b.fr), .string (bs b.tt)] t) (ha : RIn a) (hb : RIn b) : SlR w (some ⟨B, 0, none⟩) [a, b] 2 :=
  ⟨Nat.le_refl _, by unfold maxLen; decide, (fun q => by cases q), fun _ => ⟨B, 0, rfl, fun i hi => by
    match i, hi with
    | 0, _ => exact ⟨ha, h.c 0, h.c 1, h.c 2, h.c 3, h.c 4, h.c 5⟩
    | 1, _ => exact ⟨hb, h.c 6, h.c 7, h.c 8, h.c 9, h.c 10, h.c 11⟩⟩⟩
theorem lV2 (w : World) (B : Nat) (t : TypeId) (h : Bk w B #[.int .i64 2, .int .i64 0, .string ⟨#[65]⟩, .string ⟨#[107]⟩, .string ⟨#[]⟩, .string ⟨#[]⟩, .int .i64 1, .int .i64 0, .string ⟨#[65]⟩, .string ⟨#[107]⟩, .string ⟨#[]⟩, .string ⟨#[]⟩] t) : Calls Tryd.prog 20 #[.slice (some ⟨B, 0, none⟩) 2 2] w (FwB w false) := by
  have q := val_any [xR, uR] (some ⟨B, 0, none⟩) 2 w (slR_two h xR_in uR_in)
  rw [ex7.2] at q
  exact q
theorem lS1 (w : World) (ao : Option Addr) (k B : Nat) (t : TypeId) (hs : SlR w ao [uR, xR] k) (h : Bk w B #[.int .i64 1, .int .i64 0, .string ⟨#[65]⟩, .string ⟨#[107]⟩, .string ⟨#[]⟩, .string ⟨#[]⟩, .int .i64 2, .int .i64 0, .string ⟨#[65]⟩, .string ⟨#[107]⟩, .string ⟨#[]⟩, .string ⟨#[]⟩] t) : Calls Tryd.prog 17 #[.slice ao 2 k, .slice (some ⟨B, 0, none⟩) 2 2] w (FwB w true) := by
  have q := same_any [uR, xR] [uR, xR] ao (some ⟨B, 0, none⟩) k 2 w hs (slR_two h uR_in xR_in)
  rw [show samL [uR, xR] [uR, xR] = true from samL_iff.2 rfl] at q
  exact q
theorem lS2 (w : World) (ao : Option Addr) (k B : Nat) (hs : SlR w ao [uR] k) (h : BkR w B uR) : Calls Tryd.prog 17 #[.slice ao 1 k, .slice (some ⟨B, 0, none⟩) 1 1] w (FwB w true) := by
  have q := same_any [uR] [uR] ao (some ⟨B, 0, none⟩) k 1 w hs (slR_one h uR_in)
  rw [show samL [uR] [uR] = true from samL_iff.2 rfl] at q
  exact q
set_option maxHeartbeats 12800000 in
set_option maxRecDepth 100000 in
theorem lives_any (w : World) (G : Good w) : Calls Tryd.prog 14 #[] w (FwB w true) := by
  have HG := Lib.hid (fun w' (hf : Fuw w w') => G.on hf)
  clear G
  go_enter Tryd.func14, Tryd.ntmps14
  go_upto_region 2 with fail
  obtain ⟨V0, hV0⟩ : ∃ V0, ((w.alloc (.cells #[.int .i64 1, .int .i64 0, .string ⟨#[65]⟩, .string ⟨#[107]⟩, .string ⟨#[]⟩, .string ⟨#[]⟩] 23)).alloc (.cells #[.int .i64 2, .int .i64 0, .string ⟨#[65]⟩, .string ⟨#[107]⟩, .string ⟨#[]⟩, .string ⟨#[]⟩] 23)) = V0 := ⟨_, rfl⟩
  have PU := Lib.hid (show Bk V0 w.heap.size #[.int .i64 1, .int .i64 0, .string ⟨#[65]⟩, .string ⟨#[107]⟩, .string ⟨#[]⟩, .string ⟨#[]⟩] 23 from by rw [← hV0]; exact (Bk.new w _ _).on (fuwA _ _))
  have PX := Lib.hid (show Bk V0 (w.heap.size + 1) #[.int .i64 2, .int .i64 0, .string ⟨#[65]⟩, .string ⟨#[107]⟩, .string ⟨#[]⟩, .string ⟨#[]⟩] 23 from by rw [← hV0]; exact bkA2 w _ _ _)
  have F := Lib.hid (show Fuw w V0 from by rw [← hV0]; exact fuwA2 _ _ _)
  rw [hV0]
  clear hV0
  have px0 := PX.out.c 0; have px1 := PX.out.c 1; have px2 := PX.out.c 2; have px3 := PX.out.c 3; have px4 := PX.out.c 4; have px5 := PX.out.c 5
  go_wp2_with fail
  go_at_call 15; refine (lA1 _).mono ?_; rintro e1 w1 ⟨ao1, k1, rfl, S1, f1⟩
  have PU := Lib.hid (PU.out.on f1); have PX := Lib.hid (PX.out.on f1)
  have S1 := Lib.hid S1
  have F := Lib.hid (F.out.trans f1)
  clear f1 px0 px1 px2 px3 px4 px5
  have pu0 := PU.out.c 0; have pu1 := PU.out.c 1; have pu2 := PU.out.c 2; have pu3 := PU.out.c 3; have pu4 := PU.out.c 4; have pu5 := PU.out.c 5
  go_wp2_with fail
  go_at_call 15; refine (lA2 _ _ _ S1.out).mono ?_; rintro e2 w2 ⟨ao2, k2, rfl, S2, f1⟩
  have PU := Lib.hid (PU.out.on f1); have PX := Lib.hid (PX.out.on f1)
  have S2 := Lib.hid S2
  have F := Lib.hid (F.out.trans f1)
  clear f1 S1 pu0 pu1 pu2 pu3 pu4 pu5
  have pu0 := PU.out.c 0; have pu1 := PU.out.c 1; have pu2 := PU.out.c 2; have pu3 := PU.out.c 3; have pu4 := PU.out.c 4; have pu5 := PU.out.c 5
  go_wp2_with fail
  go_at_call 15; refine (lA3 _ _ _ S2.out).mono ?_; rintro e3 w3 ⟨ao3, k3, rfl, f1⟩
  have PU := Lib.hid (PU.out.on f1); have PX := Lib.hid (PX.out.on f1)
  have S2 := Lib.hid (slR_on f1 S2.out)
  have F := Lib.hid (F.out.trans f1)
  clear f1 pu0 pu1 pu2 pu3 pu4 pu5
  have px0 := PX.out.c 0; have px1 := PX.out.c 1; have px2 := PX.out.c 2; have px3 := PX.out.c 3; have px4 := PX.out.c 4; have px5 := PX.out.c 5
  go_wp2_with fail
  go_at_call 18; refine (lA4 _ _ _ S2.out).mono ?_; rintro e4 w4 ⟨ao4, k4, rfl, S4, f1⟩
  have PU := Lib.hid (PU.out.on f1); have PX := Lib.hid (PX.out.on f1)
  have S2 := Lib.hid (slR_on f1 S2.out)
  have S4 := Lib.hid S4
  have F := Lib.hid (F.out.trans f1)
  clear f1 px0 px1 px2 px3 px4 px5
  go_wp2_with fail
  go_at_call 22; refine (lP1 _ (HG.out _ F.out)).mono ?_; rintro e5 w5 ⟨rfl, f1⟩
  have PU := Lib.hid (PU.out.on f1); have PX := Lib.hid (PX.out.on f1)
  have S2 := Lib.hid (slR_on f1 S2.out)
  have S4 := Lib.hid (slR_on f1 S4.out)
  have F := Lib.hid (F.out.trans f1)
  clear f1
  go_upto_region 7 with fail
  obtain ⟨V5, hV5⟩ : ∃ V5, w5.alloc (.cells #[.int .i64 6, .int .i64 0, .string ⟨#[84]⟩, .string ⟨#[]⟩, .string ⟨#[]⟩, .string ⟨#[66]⟩] 23) = V5 := ⟨_, rfl⟩
  have PP := Lib.hid (show Bk V5 w5.heap.size #[.int .i64 6, .int .i64 0, .string ⟨#[84]⟩, .string ⟨#[]⟩, .string ⟨#[]⟩, .string ⟨#[66]⟩] 23 from by rw [← hV5]; exact Bk.new _ _ _)
  have f1 : Fuw w5 V5 := by rw [← hV5]; exact fuwA _ _
  rw [hV5]
  clear hV5
  have PU := Lib.hid (PU.out.on f1); have PX := Lib.hid (PX.out.on f1)
  have S2 := Lib.hid (slR_on f1 S2.out)
  have S4 := Lib.hid (slR_on f1 S4.out)
  have F := Lib.hid (F.out.trans f1)
  clear f1
  go_wp2_with fail
  go_at_call 22; refine (lP2 _ (HG.out _ F.out)).mono ?_; rintro e6 w6 ⟨rfl, f1⟩
  have PU := Lib.hid (PU.out.on f1); have PX := Lib.hid (PX.out.on f1); have PP := Lib.hid (PP.out.on f1)
  have S2 := Lib.hid (slR_on f1 S2.out)
  have S4 := Lib.hid (slR_on f1 S4.out)
  have F := Lib.hid (F.out.trans f1)
  clear f1
  go_upto_region 8 with fail
  obtain ⟨V7, hV7⟩ : ∃ V7, w6.alloc (.cells #[.int .i64 0, .int .i64 0, .string ⟨#[]⟩, .string ⟨#[]⟩, .string ⟨#[]⟩, .string ⟨#[]⟩] 23) = V7 := ⟨_, rfl⟩
  have f1 : Fuw w6 V7 := by rw [← hV7]; exact fuwA _ _
  rw [hV7]
  clear hV7
  have PU := Lib.hid (PU.out.on f1); have PX := Lib.hid (PX.out.on f1); have PP := Lib.hid (PP.out.on f1)
  have S2 := Lib.hid (slR_on f1 S2.out)
  have S4 := Lib.hid (slR_on f1 S4.out)
  have F := Lib.hid (F.out.trans f1)
  clear f1
  have pu0 := PU.out.c 0; have pu1 := PU.out.c 1; have pu2 := PU.out.c 2; have pu3 := PU.out.c 3; have pu4 := PU.out.c 4; have pu5 := PU.out.c 5
  have px0 := PX.out.c 0; have px1 := PX.out.c 1; have px2 := PX.out.c 2; have px3 := PX.out.c 3; have px4 := PX.out.c 4; have px5 := PX.out.c 5
  have pp0 := PP.out.c 0; have pp1 := PP.out.c 1; have pp2 := PP.out.c 2; have pp3 := PP.out.c 3; have pp4 := PP.out.c 4; have pp5 := PP.out.c 5
  have l1 := PU.out.lt
  have l2 := PX.out.lt
  have l3 := PP.out.lt
  have hne : ∀ w', (binOp .eql 23 (.agg #[.int .i64 6, .int .i64 0, .string ⟨#[84]⟩, .string ⟨#[]⟩, .string ⟨#[]⟩, .string ⟨#[66]⟩]) (.agg #[.int .i64 6, .int .i64 0, .string ⟨#[84]⟩, .string ⟨#[]⟩, .string ⟨#[]⟩, .string ⟨#[66]⟩])).run Tryd.prog w' = .ok (.bool true) w' := fun w' => by
    have q := eql_rl pR pR w'
    rw [eqR_iff.2 rfl] at q
    exact q
  have hgd := fun (op : BinOp) (p q : Operand) (xs ys : Array Value) (w' : World) => run_eqGuard_agg w' op 23 p q xs ys guard_rl
  try simp only [List.append_eq, List.cons_append, List.nil_append]
  go_wp2_with (first
    | (go_at_call 17; have hj := j1; refine (lS2 _ ao4 k4 Vc.heap.size (slR_on (fuwA _ _) S4.out) ⟨Bk.new Vc _ _⟩).mono ?_; rintro e9 w9 ⟨rfl, f9⟩; have fz := (fuwA Vc (.cells #[.int .i64 1, .int .i64 0, .string ⟨#[65]⟩, .string ⟨#[107]⟩, .string ⟨#[]⟩, .string ⟨#[]⟩] 23)).trans f9; have PU := Lib.hid (PU.out.on fz); have PX := Lib.hid (PX.out.on fz); have PP := Lib.hid (PP.out.on fz); have PN := Lib.hid (PN.out.on fz); have S2 := Lib.hid (slR_on fz S2.out); have S4 := Lib.hid (slR_on fz S4.out); have F := Lib.hid (F.out.trans fz); have l1 := PU.out.lt; have l2 := PX.out.lt; have l3 := PP.out.lt; have l4 := PN.out.lt; have pu0 := PU.out.c 0; have pu1 := PU.out.c 1; have pu2 := PU.out.c 2; have pu3 := PU.out.c 3; have pu4 := PU.out.c 4; have pu5 := PU.out.c 5; have px0 := PX.out.c 0; have px1 := PX.out.c 1; have px2 := PX.out.c 2; have px3 := PX.out.c 3; have px4 := PX.out.c 4; have px5 := PX.out.c 5; have pp0 := PP.out.c 0; have pp1 := PP.out.c 1; have pp2 := PP.out.c 2; have pp3 := PP.out.c 3; have pp4 := PP.out.c 4; have pp5 := PP.out.c 5; have pn0 := PN.out.c 0; have pn1 := PN.out.c 1; have pn2 := PN.out.c 2; have pn3 := PN.out.c 3; have pn4 := PN.out.c 4; have pn5 := PN.out.c 5; obtain ⟨Vc, rfl⟩ : ∃ z, z = w9 := ⟨_, rfl⟩; clear fz f9; have j2 := j1)
    | (go_at_call 17; refine (lS1 _ ao2 k2 (V7.heap.size + 1) _ (slR_on (fuwA2 _ _ _) S2.out) (bkA2 V7 _ _ _)).mono ?_; rintro e9 w9 ⟨rfl, f9⟩; have PN := Lib.hid (show Bk w9 V7.heap.size #[.int .i64 6, .int .i64 0, .string ⟨#[75, 78, 79, 87, 83]⟩, .string ⟨#[]⟩, .string ⟨#[80, 101, 114, 115, 111, 110]⟩, .string ⟨#[]⟩] 23 from ((Bk.new V7 _ _).on (fuwA _ _)).on f9); have fz := (fuwA2 V7 (.cells #[.int .i64 6, .int .i64 0, .string ⟨#[75, 78, 79, 87, 83]⟩, .string ⟨#[]⟩, .string ⟨#[80, 101, 114, 115, 111, 110]⟩, .string ⟨#[]⟩] 23) _).trans f9; have PU := Lib.hid (PU.out.on fz); have PX := Lib.hid (PX.out.on fz); have PP := Lib.hid (PP.out.on fz); have S2 := Lib.hid (slR_on fz S2.out); have S4 := Lib.hid (slR_on fz S4.out); have F := Lib.hid (F.out.trans fz); have l1 := PU.out.lt; have l2 := PX.out.lt; have l3 := PP.out.lt; have l4 := PN.out.lt; have pu0 := PU.out.c 0; have pu1 := PU.out.c 1; have pu2 := PU.out.c 2; have pu3 := PU.out.c 3; have pu4 := PU.out.c 4; have pu5 := PU.out.c 5; have px0 := PX.out.c 0; have px1 := PX.out.c 1; have px2 := PX.out.c 2; have px3 := PX.out.c 3; have px4 := PX.out.c 4; have px5 := PX.out.c 5; have pp0 := PP.out.c 0; have pp1 := PP.out.c 1; have pp2 := PP.out.c 2; have pp3 := PP.out.c 3; have pp4 := PP.out.c 4; have pp5 := PP.out.c 5; have pn0 := PN.out.c 0; have pn1 := PN.out.c 1; have pn2 := PN.out.c 2; have pn3 := PN.out.c 3; have pn4 := PN.out.c 4; have pn5 := PN.out.c 5; obtain ⟨Vc, rfl⟩ : ∃ z, z = w9 := ⟨_, rfl⟩; clear fz f9; have j1 := True.intro)
    | (go_at_call 10; refine (lT _ (HG.out _ F.out)).mono ?_; rintro e9 w9 ⟨rfl, f9⟩; have PU := Lib.hid (PU.out.on f9); have PX := Lib.hid (PX.out.on f9); have PP := Lib.hid (PP.out.on f9); have PN := Lib.hid (PN.out.on f9); have S2 := Lib.hid (slR_on f9 S2.out); have S4 := Lib.hid (slR_on f9 S4.out); have F := Lib.hid (F.out.trans f9); have l1 := PU.out.lt; have l2 := PX.out.lt; have l3 := PP.out.lt; have l4 := PN.out.lt; have pu0 := PU.out.c 0; have pu1 := PU.out.c 1; have pu2 := PU.out.c 2; have pu3 := PU.out.c 3; have pu4 := PU.out.c 4; have pu5 := PU.out.c 5; have px0 := PX.out.c 0; have px1 := PX.out.c 1; have px2 := PX.out.c 2; have px3 := PX.out.c 3; have px4 := PX.out.c 4; have px5 := PX.out.c 5; have pp0 := PP.out.c 0; have pp1 := PP.out.c 1; have pp2 := PP.out.c 2; have pp3 := PP.out.c 3; have pp4 := PP.out.c 4; have pp5 := PP.out.c 5; have pn0 := PN.out.c 0; have pn1 := PN.out.c 1; have pn2 := PN.out.c 2; have pn3 := PN.out.c 3; have pn4 := PN.out.c 4; have pn5 := PN.out.c 5; obtain ⟨Vc, rfl⟩ : ∃ z, z = w9 := ⟨_, rfl⟩; clear f9)
    | (go_at_call 8; have hj := j4; refine (lC2 _).mono ?_; rintro e9 w9 ⟨rfl, f9⟩; have PU := Lib.hid (PU.out.on f9); have PX := Lib.hid (PX.out.on f9); have PP := Lib.hid (PP.out.on f9); have PN := Lib.hid (PN.out.on f9); have S2 := Lib.hid (slR_on f9 S2.out); have S4 := Lib.hid (slR_on f9 S4.out); have F := Lib.hid (F.out.trans f9); have l1 := PU.out.lt; have l2 := PX.out.lt; have l3 := PP.out.lt; have l4 := PN.out.lt; have pu0 := PU.out.c 0; have pu1 := PU.out.c 1; have pu2 := PU.out.c 2; have pu3 := PU.out.c 3; have pu4 := PU.out.c 4; have pu5 := PU.out.c 5; have px0 := PX.out.c 0; have px1 := PX.out.c 1; have px2 := PX.out.c 2; have px3 := PX.out.c 3; have px4 := PX.out.c 4; have px5 := PX.out.c 5; have pp0 := PP.out.c 0; have pp1 := PP.out.c 1; have pp2 := PP.out.c 2; have pp3 := PP.out.c 3; have pp4 := PP.out.c 4; have pp5 := PP.out.c 5; have pn0 := PN.out.c 0; have pn1 := PN.out.c 1; have pn2 := PN.out.c 2; have pn3 := PN.out.c 3; have pn4 := PN.out.c 4; have pn5 := PN.out.c 5; obtain ⟨Vc, rfl⟩ : ∃ z, z = w9 := ⟨_, rfl⟩; clear f9)
    | (go_at_call 8; refine (lC1 _).mono ?_; rintro e9 w9 ⟨rfl, f9⟩; have PU := Lib.hid (PU.out.on f9); have PX := Lib.hid (PX.out.on f9); have PP := Lib.hid (PP.out.on f9); have PN := Lib.hid (PN.out.on f9); have S2 := Lib.hid (slR_on f9 S2.out); have S4 := Lib.hid (slR_on f9 S4.out); have F := Lib.hid (F.out.trans f9); have l1 := PU.out.lt; have l2 := PX.out.lt; have l3 := PP.out.lt; have l4 := PN.out.lt; have pu0 := PU.out.c 0; have pu1 := PU.out.c 1; have pu2 := PU.out.c 2; have pu3 := PU.out.c 3; have pu4 := PU.out.c 4; have pu5 := PU.out.c 5; have px0 := PX.out.c 0; have px1 := PX.out.c 1; have px2 := PX.out.c 2; have px3 := PX.out.c 3; have px4 := PX.out.c 4; have px5 := PX.out.c 5; have pp0 := PP.out.c 0; have pp1 := PP.out.c 1; have pp2 := PP.out.c 2; have pp3 := PP.out.c 3; have pp4 := PP.out.c 4; have pp5 := PP.out.c 5; have pn0 := PN.out.c 0; have pn1 := PN.out.c 1; have pn2 := PN.out.c 2; have pn3 := PN.out.c 3; have pn4 := PN.out.c 4; have pn5 := PN.out.c 5; obtain ⟨Vc, rfl⟩ : ∃ z, z = w9 := ⟨_, rfl⟩; clear f9; have j4 := True.intro)
    | (go_at_call 20; have hj := j6; refine (lV2 _ Vc.heap.size _ (Bk.new Vc _ _)).mono ?_; rintro e9 w9 ⟨rfl, f9⟩; have fz := (fuwA Vc _).trans f9; have PU := Lib.hid (PU.out.on fz); have PX := Lib.hid (PX.out.on fz); have PP := Lib.hid (PP.out.on fz); have PN := Lib.hid (PN.out.on fz); have S2 := Lib.hid (slR_on fz S2.out); have S4 := Lib.hid (slR_on fz S4.out); have F := Lib.hid (F.out.trans fz); have l1 := PU.out.lt; have l2 := PX.out.lt; have l3 := PP.out.lt; have l4 := PN.out.lt; have pu0 := PU.out.c 0; have pu1 := PU.out.c 1; have pu2 := PU.out.c 2; have pu3 := PU.out.c 3; have pu4 := PU.out.c 4; have pu5 := PU.out.c 5; have px0 := PX.out.c 0; have px1 := PX.out.c 1; have px2 := PX.out.c 2; have px3 := PX.out.c 3; have px4 := PX.out.c 4; have px5 := PX.out.c 5; have pp0 := PP.out.c 0; have pp1 := PP.out.c 1; have pp2 := PP.out.c 2; have pp3 := PP.out.c 3; have pp4 := PP.out.c 4; have pp5 := PP.out.c 5; have pn0 := PN.out.c 0; have pn1 := PN.out.c 1; have pn2 := PN.out.c 2; have pn3 := PN.out.c 3; have pn4 := PN.out.c 4; have pn5 := PN.out.c 5; obtain ⟨Vc, rfl⟩ : ∃ z, z = w9 := ⟨_, rfl⟩; clear fz f9)
    | (go_at_call 20; refine (lV1 _ ao2 k2 S2.out).mono ?_; rintro e9 w9 ⟨rfl, f9⟩; have PU := Lib.hid (PU.out.on f9); have PX := Lib.hid (PX.out.on f9); have PP := Lib.hid (PP.out.on f9); have PN := Lib.hid (PN.out.on f9); have S2 := Lib.hid (slR_on f9 S2.out); have S4 := Lib.hid (slR_on f9 S4.out); have F := Lib.hid (F.out.trans f9); have l1 := PU.out.lt; have l2 := PX.out.lt; have l3 := PP.out.lt; have l4 := PN.out.lt; have pu0 := PU.out.c 0; have pu1 := PU.out.c 1; have pu2 := PU.out.c 2; have pu3 := PU.out.c 3; have pu4 := PU.out.c 4; have pu5 := PU.out.c 5; have px0 := PX.out.c 0; have px1 := PX.out.c 1; have px2 := PX.out.c 2; have px3 := PX.out.c 3; have px4 := PX.out.c 4; have px5 := PX.out.c 5; have pp0 := PP.out.c 0; have pp1 := PP.out.c 1; have pp2 := PP.out.c 2; have pp3 := PP.out.c 3; have pp4 := PP.out.c 4; have pp5 := PP.out.c 5; have pn0 := PN.out.c 0; have pn1 := PN.out.c 1; have pn2 := PN.out.c 2; have pn3 := PN.out.c 3; have pn4 := PN.out.c 4; have pn5 := PN.out.c 5; obtain ⟨Vc, rfl⟩ : ∃ z, z = w9 := ⟨_, rfl⟩; clear f9; have j6 := True.intro)
    | (go_at_call 39; refine (lO _).mono ?_; rintro e9 w9 ⟨rfl, f9⟩; have PU := Lib.hid (PU.out.on f9); have PX := Lib.hid (PX.out.on f9); have PP := Lib.hid (PP.out.on f9); have PN := Lib.hid (PN.out.on f9); have S2 := Lib.hid (slR_on f9 S2.out); have S4 := Lib.hid (slR_on f9 S4.out); have F := Lib.hid (F.out.trans f9); have l1 := PU.out.lt; have l2 := PX.out.lt; have l3 := PP.out.lt; have l4 := PN.out.lt; have pu0 := PU.out.c 0; have pu1 := PU.out.c 1; have pu2 := PU.out.c 2; have pu3 := PU.out.c 3; have pu4 := PU.out.c 4; have pu5 := PU.out.c 5; have px0 := PX.out.c 0; have px1 := PX.out.c 1; have px2 := PX.out.c 2; have px3 := PX.out.c 3; have px4 := PX.out.c 4; have px5 := PX.out.c 5; have pp0 := PP.out.c 0; have pp1 := PP.out.c 1; have pp2 := PP.out.c 2; have pp3 := PP.out.c 3; have pp4 := PP.out.c 4; have pp5 := PP.out.c 5; have pn0 := PN.out.c 0; have pn1 := PN.out.c 1; have pn2 := PN.out.c 2; have pn3 := PN.out.c 3; have pn4 := PN.out.c 4; have pn5 := PN.out.c 5; obtain ⟨Vc, rfl⟩ : ∃ z, z = w9 := ⟨_, rfl⟩; clear f9)
    | (go_at_call 12; refine (lF _).mono ?_; rintro e9 w9 ⟨rfl, rfl⟩))
  go_ret
  exact ⟨rfl, F.out⟩
end Go.Proofs.YtadnaakbhgacgaaDoor
