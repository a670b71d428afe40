/-
  Rpv; Rpl; Rpw: texts of one kind in one file; each part says what it holds.
-/
import Derived.Test.YtolkdmhjomampaaDoorMch
import Derived.Test.YtolkdmhjomampaaDoorMpv
import Derived.Test.YtolkdmhjomampaaDoorCeA
import Derived.Test.YtolkdmhjomampaaDoorMrd
import Derived.Test.YtolkdmhjomampaaDoorMpA

/-! The reference of package codec: PutValue gives the bytes of a valid value that is no list and no path, and no bytes for a value that is not valid. Nothing that was there turns. -/
namespace Go.Proofs.YtolkdmhjomampaaDoor
open Go.RowKit

/-- One byte built. -/
theorem own_one (w : World) (k : Int) : (w.alloc (.cells #[.int .u8 k] 5)).ownsRow w.heap.size 5 1 (.slice (some ⟨w.heap.size, 0, none⟩) 1 1) 1 [.int .u8 k] :=
  ⟨rfl, .inr ⟨w.heap.size, 1, #[.int .u8 k], rfl, Nat.le_refl _, by show (w.heap.push _)[w.heap.size]? = _; rw [Array.getElem?_push, if_pos rfl], Nat.le_refl _, by decide, rfl, rfl⟩⟩

set_option maxHeartbeats 3200000 in
theorem rpv_0  (ao : Option Addr) (cap : Nat) (w : World) (hV : Vin (.mk 0 0 0 [] [])) (hs : SlV w ao [] cap) (hX : okX (.mk 0 0 0 [] []) = true) :
    Calls Tryd.prog 17 #[vlv (.mk 0 0 0 [] []) ao cap] w (RetY w (0 :: ([]))) := by
  obtain ⟨p0, q0⟩ := bx1 w (.mk 0 0 0 [] []) ao cap
  have f0 := q0.b
  have HL := Lib.hid (fun w' (hf : Fuw w w') => hX ▸ rokV_any (.mk 0 0 0 [] []) ao cap w' hV (hs.onw hf))
  clear hX hV hs q0
  unfold vlv at *
  simp only [Vl.kd, Vl.nn, Vl.dd, Vl.ss, Vl.ll, List.length_nil] at *
  go_enter Tryd.func17, Tryd.ntmps17
  go_upto_region 1 with fail
  obtain ⟨W0, hW⟩ : ∃ W0, w.alloc (.cells #[.int .i64 0, .int .i64 0, .int .i64 0, .string (bs []), .slice ao 0 cap] 24) = W0 := ⟨_, rfl⟩
  rw [hW] at p0 f0
  rw [hW]
  clear hW
  have PB := Lib.hid p0
  obtain ⟨d0, d1, d2, d3, d4⟩ : _ ∧ _ ∧ _ ∧ _ ∧ _ := ⟨p0.c0, p0.c1, p0.c2, p0.c3, p0.c4⟩
  simp only [Vl.kd, Vl.nn, Vl.dd, Vl.ss, Vl.ll, List.length_nil] at d0 d1 d2 d3 d4
  go_wp2_with fail
  go_at_call 31; refine (HL.out _ f0).mono ?_; rintro e w1 ⟨rfl, f1⟩
  clear HL d0 d1 d2 d3 d4 p0
  have F1 := Fuw.trans f0 f1.b
  have p1 := PB.out.onw f1.b
  obtain ⟨d0, d1, d2, d3, d4⟩ : _ ∧ _ ∧ _ ∧ _ ∧ _ := ⟨p1.c0, p1.c1, p1.c2, p1.c3, p1.c4⟩
  simp only [Vl.kd, Vl.nn, Vl.dd, Vl.ss, Vl.ll, List.length_nil] at d0 d1 d2 d3 d4
  clear f0 f1
  go_upto_region 4 with fail
  obtain ⟨W2, hW2⟩ : ∃ W2, w1.alloc (.cells #[.int .u8 0] 5) = W2 := ⟨_, rfl⟩
  have o2 := own_one w1 0
  have g2 : Fuw w1 (w1.alloc (.cells #[.int .u8 0] 5)) := (Fuw.refl w1).alloc _
  rw [hW2] at o2 g2
  rw [hW2]
  clear hW2 d0 d1 d2 d3 d4
  have F2 := Fuw.trans F1 g2
  have z2 := F1.size
  have P2 := Lib.hid p1
  clear p1
  obtain ⟨d0, d1, d2, d3, d4⟩ : _ ∧ _ ∧ _ ∧ _ ∧ _ := ⟨(P2.out.onw g2).c0, (P2.out.onw g2).c1, (P2.out.onw g2).c2, (P2.out.onw g2).c3, (P2.out.onw g2).c4⟩
  simp only [Vl.kd, Vl.nn, Vl.dd, Vl.ss, Vl.ll, List.length_nil] at d0 d1 d2 d3 d4
  obtain ⟨ao', cap', e9, -, hI⟩ := IsB.of_own (l := [0]) o2
  cases e9
  go_wp2
  go_ret
  exact ⟨_, _, rfl, hI, F2⟩

set_option maxHeartbeats 3200000 in
theorem rpv_1 (n : Int) (hn : -1000000000000000 ≤ n ∧ n ≤ 1000000000000000) (ao : Option Addr) (cap : Nat) (w : World) (hV : Vin (.mk 1 n 0 [] [])) (hs : SlV w ao [] cap) (hX : okX (.mk 1 n 0 [] []) = true) :
    Calls Tryd.prog 17 #[vlv (.mk 1 n 0 [] []) ao cap] w (RetY w (1 :: (putI n))) := by
  obtain ⟨p0, q0⟩ := bx1 w (.mk 1 n 0 [] []) ao cap
  have f0 := q0.b
  have HL := Lib.hid (fun w' (hf : Fuw w w') => hX ▸ rokV_any (.mk 1 n 0 [] []) ao cap w' hV (hs.onw hf))
  have Pn := Lib.hid (fun w' => rput_int n (by omega) (by omega) w')
  have mn : (putI n).length ≤ 10 := Lib.uvarint_length64 (Lib.zigzag_lt (by omega) (by omega))
  clear hX hV hs q0
  unfold vlv at *
  simp only [Vl.kd, Vl.nn, Vl.dd, Vl.ss, Vl.ll, List.length_nil] at *
  go_enter Tryd.func17, Tryd.ntmps17
  go_upto_region 1 with fail
  obtain ⟨W0, hW⟩ : ∃ W0, w.alloc (.cells #[.int .i64 1, .int .i64 n, .int .i64 0, .string (bs []), .slice ao 0 cap] 24) = W0 := ⟨_, rfl⟩
  rw [hW] at p0 f0
  rw [hW]
  clear hW
  have PB := Lib.hid p0
  obtain ⟨d0, d1, d2, d3, d4⟩ : _ ∧ _ ∧ _ ∧ _ ∧ _ := ⟨p0.c0, p0.c1, p0.c2, p0.c3, p0.c4⟩
  simp only [Vl.kd, Vl.nn, Vl.dd, Vl.ss, Vl.ll, List.length_nil] at d0 d1 d2 d3 d4
  go_wp2_with fail
  go_at_call 31; refine (HL.out _ f0).mono ?_; rintro e w1 ⟨rfl, f1⟩
  clear HL d0 d1 d2 d3 d4 p0
  have F1 := Fuw.trans f0 f1.b
  have p1 := PB.out.onw f1.b
  obtain ⟨d0, d1, d2, d3, d4⟩ : _ ∧ _ ∧ _ ∧ _ ∧ _ := ⟨p1.c0, p1.c1, p1.c2, p1.c3, p1.c4⟩
  simp only [Vl.kd, Vl.nn, Vl.dd, Vl.ss, Vl.ll, List.length_nil] at d0 d1 d2 d3 d4
  clear f0 f1
  go_upto_region 4 with fail
  obtain ⟨W2, hW2⟩ : ∃ W2, w1.alloc (.cells #[.int .u8 1] 5) = W2 := ⟨_, rfl⟩
  have o2 := own_one w1 1
  have g2 : Fuw w1 (w1.alloc (.cells #[.int .u8 1] 5)) := (Fuw.refl w1).alloc _
  rw [hW2] at o2 g2
  rw [hW2]
  clear hW2 d0 d1 d2 d3 d4
  have F2 := Fuw.trans F1 g2
  have z2 := F1.size
  have P2 := Lib.hid p1
  clear p1
  obtain ⟨d0, d1, d2, d3, d4⟩ : _ ∧ _ ∧ _ ∧ _ ∧ _ := ⟨(P2.out.onw g2).c0, (P2.out.onw g2).c1, (P2.out.onw g2).c2, (P2.out.onw g2).c3, (P2.out.onw g2).c4⟩
  simp only [Vl.kd, Vl.nn, Vl.dd, Vl.ss, Vl.ll, List.length_nil] at d0 d1 d2 d3 d4
  go_wp2_with fail
  go_at_call 13; refine (Pn.out _).mono ?_; rintro e w3 ⟨b3, c3, rfl, i3, f3⟩
  have o3 := own_on o2 f3
  have g3 := Fuw.trans g2 f3
  have F3 := Fuw.trans F2 f3
  have z3 := g3.size
  clear d0 d1 d2 d3 d4
  obtain ⟨d0, d1, d2, d3, d4⟩ : _ ∧ _ ∧ _ ∧ _ ∧ _ := ⟨(P2.out.onw g3).c0, (P2.out.onw g3).c1, (P2.out.onw g3).c2, (P2.out.onw g3).c3, (P2.out.onw g3).c4⟩
  simp only [Vl.kd, Vl.nn, Vl.dd, Vl.ss, Vl.ll, List.length_nil] at d0 d1 d2 d3 d4
  go_wp2_with (at_builtin; refine wpList_appC _ rfl _ _ rfl w1.heap.size _ _ _ rfl o3 _ (putI n) _ rfl i3 (by omega) z3 ?_; intro v4 w4 o4 h4)
  have F4 := h4 w F3 z2
  have g4 := h4 w1 g3 (Nat.le_refl _)
  clear d0 d1 d2 d3 d4 h4
  obtain ⟨d0, d1, d2, d3, d4⟩ : _ ∧ _ ∧ _ ∧ _ ∧ _ := ⟨(P2.out.onw g4).c0, (P2.out.onw g4).c1, (P2.out.onw g4).c2, (P2.out.onw g4).c3, (P2.out.onw g4).c4⟩
  simp only [Vl.kd, Vl.nn, Vl.dd, Vl.ss, Vl.ll, List.length_nil] at d0 d1 d2 d3 d4
  have oo := o4
  obtain ⟨ao', cap', rfl, -, hI⟩ := IsB.of_own (l := 1 :: (putI n)) oo
  go_wp2
  go_ret
  exact ⟨_, _, rfl, hI, F4⟩

set_option maxHeartbeats 3200000 in
theorem rpv_2 (n : Int) (hn : -1000000000000000 ≤ n ∧ n ≤ 1000000000000000) (ao : Option Addr) (cap : Nat) (w : World) (hV : Vin (.mk 2 n 0 [] [])) (hs : SlV w ao [] cap) (hX : okX (.mk 2 n 0 [] []) = true) :
    Calls Tryd.prog 17 #[vlv (.mk 2 n 0 [] []) ao cap] w (RetY w (2 :: (putI n))) := by
  obtain ⟨p0, q0⟩ := bx1 w (.mk 2 n 0 [] []) ao cap
  have f0 := q0.b
  have HL := Lib.hid (fun w' (hf : Fuw w w') => hX ▸ rokV_any (.mk 2 n 0 [] []) ao cap w' hV (hs.onw hf))
  have Pn := Lib.hid (fun w' => rput_int n (by omega) (by omega) w')
  have mn : (putI n).length ≤ 10 := Lib.uvarint_length64 (Lib.zigzag_lt (by omega) (by omega))
  clear hX hV hs q0
  unfold vlv at *
  simp only [Vl.kd, Vl.nn, Vl.dd, Vl.ss, Vl.ll, List.length_nil] at *
  go_enter Tryd.func17, Tryd.ntmps17
  go_upto_region 1 with fail
  obtain ⟨W0, hW⟩ : ∃ W0, w.alloc (.cells #[.int .i64 2, .int .i64 n, .int .i64 0, .string (bs []), .slice ao 0 cap] 24) = W0 := ⟨_, rfl⟩
  rw [hW] at p0 f0
  rw [hW]
  clear hW
  have PB := Lib.hid p0
  obtain ⟨d0, d1, d2, d3, d4⟩ : _ ∧ _ ∧ _ ∧ _ ∧ _ := ⟨p0.c0, p0.c1, p0.c2, p0.c3, p0.c4⟩
  simp only [Vl.kd, Vl.nn, Vl.dd, Vl.ss, Vl.ll, List.length_nil] at d0 d1 d2 d3 d4
  go_wp2_with fail
  go_at_call 31; refine (HL.out _ f0).mono ?_; rintro e w1 ⟨rfl, f1⟩
  clear HL d0 d1 d2 d3 d4 p0
  have F1 := Fuw.trans f0 f1.b
  have p1 := PB.out.onw f1.b
  obtain ⟨d0, d1, d2, d3, d4⟩ : _ ∧ _ ∧ _ ∧ _ ∧ _ := ⟨p1.c0, p1.c1, p1.c2, p1.c3, p1.c4⟩
  simp only [Vl.kd, Vl.nn, Vl.dd, Vl.ss, Vl.ll, List.length_nil] at d0 d1 d2 d3 d4
  clear f0 f1
  go_upto_region 4 with fail
  obtain ⟨W2, hW2⟩ : ∃ W2, w1.alloc (.cells #[.int .u8 2] 5) = W2 := ⟨_, rfl⟩
  have o2 := own_one w1 2
  have g2 : Fuw w1 (w1.alloc (.cells #[.int .u8 2] 5)) := (Fuw.refl w1).alloc _
  rw [hW2] at o2 g2
  rw [hW2]
  clear hW2 d0 d1 d2 d3 d4
  have F2 := Fuw.trans F1 g2
  have z2 := F1.size
  have P2 := Lib.hid p1
  clear p1
  obtain ⟨d0, d1, d2, d3, d4⟩ : _ ∧ _ ∧ _ ∧ _ ∧ _ := ⟨(P2.out.onw g2).c0, (P2.out.onw g2).c1, (P2.out.onw g2).c2, (P2.out.onw g2).c3, (P2.out.onw g2).c4⟩
  simp only [Vl.kd, Vl.nn, Vl.dd, Vl.ss, Vl.ll, List.length_nil] at d0 d1 d2 d3 d4
  go_wp2_with fail
  go_at_call 13; refine (Pn.out _).mono ?_; rintro e w3 ⟨b3, c3, rfl, i3, f3⟩
  have o3 := own_on o2 f3
  have g3 := Fuw.trans g2 f3
  have F3 := Fuw.trans F2 f3
  have z3 := g3.size
  clear d0 d1 d2 d3 d4
  obtain ⟨d0, d1, d2, d3, d4⟩ : _ ∧ _ ∧ _ ∧ _ ∧ _ := ⟨(P2.out.onw g3).c0, (P2.out.onw g3).c1, (P2.out.onw g3).c2, (P2.out.onw g3).c3, (P2.out.onw g3).c4⟩
  simp only [Vl.kd, Vl.nn, Vl.dd, Vl.ss, Vl.ll, List.length_nil] at d0 d1 d2 d3 d4
  go_wp2_with (at_builtin; refine wpList_appC _ rfl _ _ rfl w1.heap.size _ _ _ rfl o3 _ (putI n) _ rfl i3 (by omega) z3 ?_; intro v4 w4 o4 h4)
  have F4 := h4 w F3 z2
  have g4 := h4 w1 g3 (Nat.le_refl _)
  clear d0 d1 d2 d3 d4 h4
  obtain ⟨d0, d1, d2, d3, d4⟩ : _ ∧ _ ∧ _ ∧ _ ∧ _ := ⟨(P2.out.onw g4).c0, (P2.out.onw g4).c1, (P2.out.onw g4).c2, (P2.out.onw g4).c3, (P2.out.onw g4).c4⟩
  simp only [Vl.kd, Vl.nn, Vl.dd, Vl.ss, Vl.ll, List.length_nil] at d0 d1 d2 d3 d4
  have oo := o4
  obtain ⟨ao', cap', rfl, -, hI⟩ := IsB.of_own (l := 2 :: (putI n)) oo
  go_wp2
  go_ret
  exact ⟨_, _, rfl, hI, F4⟩

set_option maxHeartbeats 3200000 in
theorem rpv_3 (n d : Int) (hn : -1000000000000000 ≤ n ∧ n ≤ 1000000000000000) (hd : -1000000000000000 ≤ d ∧ d ≤ 1000000000000000) (ao : Option Addr) (cap : Nat) (w : World) (hV : Vin (.mk 3 n d [] [])) (hs : SlV w ao [] cap) (hX : okX (.mk 3 n d [] []) = true) :
    Calls Tryd.prog 17 #[vlv (.mk 3 n d [] []) ao cap] w (RetY w (3 :: (putI n ++ putI d))) := by
  obtain ⟨p0, q0⟩ := bx1 w (.mk 3 n d [] []) ao cap
  have f0 := q0.b
  have HL := Lib.hid (fun w' (hf : Fuw w w') => hX ▸ rokV_any (.mk 3 n d [] []) ao cap w' hV (hs.onw hf))
  have Pn := Lib.hid (fun w' => rput_int n (by omega) (by omega) w')
  have mn : (putI n).length ≤ 10 := Lib.uvarint_length64 (Lib.zigzag_lt (by omega) (by omega))
  have Pd := Lib.hid (fun w' => rput_int d (by omega) (by omega) w')
  have md : (putI d).length ≤ 10 := Lib.uvarint_length64 (Lib.zigzag_lt (by omega) (by omega))
  clear hX hV hs q0
  unfold vlv at *
  simp only [Vl.kd, Vl.nn, Vl.dd, Vl.ss, Vl.ll, List.length_nil] at *
  go_enter Tryd.func17, Tryd.ntmps17
  go_upto_region 1 with fail
  obtain ⟨W0, hW⟩ : ∃ W0, w.alloc (.cells #[.int .i64 3, .int .i64 n, .int .i64 d, .string (bs []), .slice ao 0 cap] 24) = W0 := ⟨_, rfl⟩
  rw [hW] at p0 f0
  rw [hW]
  clear hW
  have PB := Lib.hid p0
  obtain ⟨d0, d1, d2, d3, d4⟩ : _ ∧ _ ∧ _ ∧ _ ∧ _ := ⟨p0.c0, p0.c1, p0.c2, p0.c3, p0.c4⟩
  simp only [Vl.kd, Vl.nn, Vl.dd, Vl.ss, Vl.ll, List.length_nil] at d0 d1 d2 d3 d4
  go_wp2_with fail
  go_at_call 31; refine (HL.out _ f0).mono ?_; rintro e w1 ⟨rfl, f1⟩
  clear HL d0 d1 d2 d3 d4 p0
  have F1 := Fuw.trans f0 f1.b
  have p1 := PB.out.onw f1.b
  obtain ⟨d0, d1, d2, d3, d4⟩ : _ ∧ _ ∧ _ ∧ _ ∧ _ := ⟨p1.c0, p1.c1, p1.c2, p1.c3, p1.c4⟩
  simp only [Vl.kd, Vl.nn, Vl.dd, Vl.ss, Vl.ll, List.length_nil] at d0 d1 d2 d3 d4
  clear f0 f1
  go_upto_region 4 with fail
  obtain ⟨W2, hW2⟩ : ∃ W2, w1.alloc (.cells #[.int .u8 3] 5) = W2 := ⟨_, rfl⟩
  have o2 := own_one w1 3
  have g2 : Fuw w1 (w1.alloc (.cells #[.int .u8 3] 5)) := (Fuw.refl w1).alloc _
  rw [hW2] at o2 g2
  rw [hW2]
  clear hW2 d0 d1 d2 d3 d4
  have F2 := Fuw.trans F1 g2
  have z2 := F1.size
  have P2 := Lib.hid p1
  clear p1
  obtain ⟨d0, d1, d2, d3, d4⟩ : _ ∧ _ ∧ _ ∧ _ ∧ _ := ⟨(P2.out.onw g2).c0, (P2.out.onw g2).c1, (P2.out.onw g2).c2, (P2.out.onw g2).c3, (P2.out.onw g2).c4⟩
  simp only [Vl.kd, Vl.nn, Vl.dd, Vl.ss, Vl.ll, List.length_nil] at d0 d1 d2 d3 d4
  go_wp2_with fail
  go_at_call 13; refine (Pn.out _).mono ?_; rintro e w3 ⟨b3, c3, rfl, i3, f3⟩
  have o3 := own_on o2 f3
  have g3 := Fuw.trans g2 f3
  have F3 := Fuw.trans F2 f3
  have z3 := g3.size
  clear d0 d1 d2 d3 d4
  obtain ⟨d0, d1, d2, d3, d4⟩ : _ ∧ _ ∧ _ ∧ _ ∧ _ := ⟨(P2.out.onw g3).c0, (P2.out.onw g3).c1, (P2.out.onw g3).c2, (P2.out.onw g3).c3, (P2.out.onw g3).c4⟩
  simp only [Vl.kd, Vl.nn, Vl.dd, Vl.ss, Vl.ll, List.length_nil] at d0 d1 d2 d3 d4
  go_upto_region 12 with (at_builtin; refine wpList_appC _ rfl _ _ rfl w1.heap.size _ _ _ rfl o3 _ (putI n) _ rfl i3 (by omega) z3 ?_; intro v4 w4 o4 h4)
  have F4 := h4 w F3 z2
  have g4 := h4 w1 g3 (Nat.le_refl _)
  clear d0 d1 d2 d3 d4 h4
  obtain ⟨d0, d1, d2, d3, d4⟩ : _ ∧ _ ∧ _ ∧ _ ∧ _ := ⟨(P2.out.onw g4).c0, (P2.out.onw g4).c1, (P2.out.onw g4).c2, (P2.out.onw g4).c3, (P2.out.onw g4).c4⟩
  simp only [Vl.kd, Vl.nn, Vl.dd, Vl.ss, Vl.ll, List.length_nil] at d0 d1 d2 d3 d4
  go_wp2_with fail
  go_at_call 13; refine (Pd.out _).mono ?_; rintro e w5 ⟨b5, c5, rfl, i5, f5⟩
  have o5 := own_on o4 f5
  have g5 := Fuw.trans g4 f5
  have F5 := Fuw.trans F4 f5
  have z5 := g5.size
  clear d0 d1 d2 d3 d4
  obtain ⟨d0, d1, d2, d3, d4⟩ : _ ∧ _ ∧ _ ∧ _ ∧ _ := ⟨(P2.out.onw g5).c0, (P2.out.onw g5).c1, (P2.out.onw g5).c2, (P2.out.onw g5).c3, (P2.out.onw g5).c4⟩
  simp only [Vl.kd, Vl.nn, Vl.dd, Vl.ss, Vl.ll, List.length_nil] at d0 d1 d2 d3 d4
  go_wp2_with (at_builtin; refine wpList_appC _ rfl _ _ rfl w1.heap.size _ _ _ rfl o5 _ (putI d) _ rfl i5 (by omega) z5 ?_; intro v6 w6 o6 h6)
  have F6 := h6 w F5 z2
  have g6 := h6 w1 g5 (Nat.le_refl _)
  clear d0 d1 d2 d3 d4 h6
  obtain ⟨d0, d1, d2, d3, d4⟩ : _ ∧ _ ∧ _ ∧ _ ∧ _ := ⟨(P2.out.onw g6).c0, (P2.out.onw g6).c1, (P2.out.onw g6).c2, (P2.out.onw g6).c3, (P2.out.onw g6).c4⟩
  simp only [Vl.kd, Vl.nn, Vl.dd, Vl.ss, Vl.ll, List.length_nil] at d0 d1 d2 d3 d4
  have oo := o6
  rw [List.append_assoc, ← Lib.byteCells_append] at oo
  obtain ⟨ao', cap', rfl, -, hI⟩ := IsB.of_own (l := 3 :: (putI n ++ putI d)) oo
  go_wp2
  go_ret
  exact ⟨_, _, rfl, hI, F6⟩

set_option maxHeartbeats 3200000 in
theorem rpv_4 (s : List UInt8) (ao : Option Addr) (cap : Nat) (w : World) (hV : Vin (.mk 4 0 0 s [])) (hs : SlV w ao [] cap) (hX : okX (.mk 4 0 0 s []) = true) (h4 : s.length ≤ 300) :
    Calls Tryd.prog 17 #[vlv (.mk 4 0 0 s []) ao cap] w (RetY w (4 :: (putS s))) := by
  obtain ⟨p0, q0⟩ := bx1 w (.mk 4 0 0 s []) ao cap
  have f0 := q0.b
  have HL := Lib.hid (fun w' (hf : Fuw w w') => hX ▸ rokV_any (.mk 4 0 0 s []) ao cap w' hV (hs.onw hf))
  have Ps : Hid (∀ w', Calls Tryd.prog 15 #[.string (bs s)] w' (RetY w' (putS s))) := Lib.hid (fun w' => by
    have q := rput_str (yb s) (by rw [yb_size]; omega) w'
    rw [yb_list] at q
    exact q)
  have ms : (putS s).length ≤ 400 := by
    have := Lib.uvarint_length64 (x := s.length) (by omega)
    unfold putS
    simp
    omega
  clear hX hV hs q0
  unfold vlv at *
  simp only [Vl.kd, Vl.nn, Vl.dd, Vl.ss, Vl.ll, List.length_nil] at *
  go_enter Tryd.func17, Tryd.ntmps17
  go_upto_region 1 with fail
  obtain ⟨W0, hW⟩ : ∃ W0, w.alloc (.cells #[.int .i64 4, .int .i64 0, .int .i64 0, .string (bs s), .slice ao 0 cap] 24) = W0 := ⟨_, rfl⟩
  rw [hW] at p0 f0
  rw [hW]
  clear hW
  have PB := Lib.hid p0
  obtain ⟨d0, d1, d2, d3, d4⟩ : _ ∧ _ ∧ _ ∧ _ ∧ _ := ⟨p0.c0, p0.c1, p0.c2, p0.c3, p0.c4⟩
  simp only [Vl.kd, Vl.nn, Vl.dd, Vl.ss, Vl.ll, List.length_nil] at d0 d1 d2 d3 d4
  go_wp2_with fail
  go_at_call 31; refine (HL.out _ f0).mono ?_; rintro e w1 ⟨rfl, f1⟩
  clear HL d0 d1 d2 d3 d4 p0
  have F1 := Fuw.trans f0 f1.b
  have p1 := PB.out.onw f1.b
  obtain ⟨d0, d1, d2, d3, d4⟩ : _ ∧ _ ∧ _ ∧ _ ∧ _ := ⟨p1.c0, p1.c1, p1.c2, p1.c3, p1.c4⟩
  simp only [Vl.kd, Vl.nn, Vl.dd, Vl.ss, Vl.ll, List.length_nil] at d0 d1 d2 d3 d4
  clear f0 f1
  go_upto_region 4 with fail
  obtain ⟨W2, hW2⟩ : ∃ W2, w1.alloc (.cells #[.int .u8 4] 5) = W2 := ⟨_, rfl⟩
  have o2 := own_one w1 4
  have g2 : Fuw w1 (w1.alloc (.cells #[.int .u8 4] 5)) := (Fuw.refl w1).alloc _
  rw [hW2] at o2 g2
  rw [hW2]
  clear hW2 d0 d1 d2 d3 d4
  have F2 := Fuw.trans F1 g2
  have z2 := F1.size
  have P2 := Lib.hid p1
  clear p1
  obtain ⟨d0, d1, d2, d3, d4⟩ : _ ∧ _ ∧ _ ∧ _ ∧ _ := ⟨(P2.out.onw g2).c0, (P2.out.onw g2).c1, (P2.out.onw g2).c2, (P2.out.onw g2).c3, (P2.out.onw g2).c4⟩
  simp only [Vl.kd, Vl.nn, Vl.dd, Vl.ss, Vl.ll, List.length_nil] at d0 d1 d2 d3 d4
  go_wp2_with fail
  go_at_call 15; refine (Ps.out _).mono ?_; rintro e w3 ⟨b3, c3, rfl, i3, f3⟩
  have o3 := own_on o2 f3
  have g3 := Fuw.trans g2 f3
  have F3 := Fuw.trans F2 f3
  have z3 := g3.size
  clear d0 d1 d2 d3 d4
  obtain ⟨d0, d1, d2, d3, d4⟩ : _ ∧ _ ∧ _ ∧ _ ∧ _ := ⟨(P2.out.onw g3).c0, (P2.out.onw g3).c1, (P2.out.onw g3).c2, (P2.out.onw g3).c3, (P2.out.onw g3).c4⟩
  simp only [Vl.kd, Vl.nn, Vl.dd, Vl.ss, Vl.ll, List.length_nil] at d0 d1 d2 d3 d4
  go_wp2_with (at_builtin; refine wpList_appC _ rfl _ _ rfl w1.heap.size _ _ _ rfl o3 _ (putS s) _ rfl i3 (by omega) z3 ?_; intro v4 w4 o4 h4)
  have F4 := h4 w F3 z2
  have g4 := h4 w1 g3 (Nat.le_refl _)
  clear d0 d1 d2 d3 d4 h4
  obtain ⟨d0, d1, d2, d3, d4⟩ : _ ∧ _ ∧ _ ∧ _ ∧ _ := ⟨(P2.out.onw g4).c0, (P2.out.onw g4).c1, (P2.out.onw g4).c2, (P2.out.onw g4).c3, (P2.out.onw g4).c4⟩
  simp only [Vl.kd, Vl.nn, Vl.dd, Vl.ss, Vl.ll, List.length_nil] at d0 d1 d2 d3 d4
  have oo := o4
  obtain ⟨ao', cap', rfl, -, hI⟩ := IsB.of_own (l := 4 :: (putS s)) oo
  go_wp2
  go_ret
  exact ⟨_, _, rfl, hI, F4⟩

set_option maxHeartbeats 3200000 in
theorem rpv_5 (n : Int) (hn : -1000000000000000 ≤ n ∧ n ≤ 1000000000000000) (ao : Option Addr) (cap : Nat) (w : World) (hV : Vin (.mk 5 n 0 [] [])) (hs : SlV w ao [] cap) (hX : okX (.mk 5 n 0 [] []) = true) :
    Calls Tryd.prog 17 #[vlv (.mk 5 n 0 [] []) ao cap] w (RetY w (5 :: (putI n))) := by
  obtain ⟨p0, q0⟩ := bx1 w (.mk 5 n 0 [] []) ao cap
  have f0 := q0.b
  have HL := Lib.hid (fun w' (hf : Fuw w w') => hX ▸ rokV_any (.mk 5 n 0 [] []) ao cap w' hV (hs.onw hf))
  have Pn := Lib.hid (fun w' => rput_int n (by omega) (by omega) w')
  have mn : (putI n).length ≤ 10 := Lib.uvarint_length64 (Lib.zigzag_lt (by omega) (by omega))
  clear hX hV hs q0
  unfold vlv at *
  simp only [Vl.kd, Vl.nn, Vl.dd, Vl.ss, Vl.ll, List.length_nil] at *
  go_enter Tryd.func17, Tryd.ntmps17
  go_upto_region 1 with fail
  obtain ⟨W0, hW⟩ : ∃ W0, w.alloc (.cells #[.int .i64 5, .int .i64 n, .int .i64 0, .string (bs []), .slice ao 0 cap] 24) = W0 := ⟨_, rfl⟩
  rw [hW] at p0 f0
  rw [hW]
  clear hW
  have PB := Lib.hid p0
  obtain ⟨d0, d1, d2, d3, d4⟩ : _ ∧ _ ∧ _ ∧ _ ∧ _ := ⟨p0.c0, p0.c1, p0.c2, p0.c3, p0.c4⟩
  simp only [Vl.kd, Vl.nn, Vl.dd, Vl.ss, Vl.ll, List.length_nil] at d0 d1 d2 d3 d4
  go_wp2_with fail
  go_at_call 31; refine (HL.out _ f0).mono ?_; rintro e w1 ⟨rfl, f1⟩
  clear HL d0 d1 d2 d3 d4 p0
  have F1 := Fuw.trans f0 f1.b
  have p1 := PB.out.onw f1.b
  obtain ⟨d0, d1, d2, d3, d4⟩ : _ ∧ _ ∧ _ ∧ _ ∧ _ := ⟨p1.c0, p1.c1, p1.c2, p1.c3, p1.c4⟩
  simp only [Vl.kd, Vl.nn, Vl.dd, Vl.ss, Vl.ll, List.length_nil] at d0 d1 d2 d3 d4
  clear f0 f1
  go_upto_region 4 with fail
  obtain ⟨W2, hW2⟩ : ∃ W2, w1.alloc (.cells #[.int .u8 5] 5) = W2 := ⟨_, rfl⟩
  have o2 := own_one w1 5
  have g2 : Fuw w1 (w1.alloc (.cells #[.int .u8 5] 5)) := (Fuw.refl w1).alloc _
  rw [hW2] at o2 g2
  rw [hW2]
  clear hW2 d0 d1 d2 d3 d4
  have F2 := Fuw.trans F1 g2
  have z2 := F1.size
  have P2 := Lib.hid p1
  clear p1
  obtain ⟨d0, d1, d2, d3, d4⟩ : _ ∧ _ ∧ _ ∧ _ ∧ _ := ⟨(P2.out.onw g2).c0, (P2.out.onw g2).c1, (P2.out.onw g2).c2, (P2.out.onw g2).c3, (P2.out.onw g2).c4⟩
  simp only [Vl.kd, Vl.nn, Vl.dd, Vl.ss, Vl.ll, List.length_nil] at d0 d1 d2 d3 d4
  go_wp2_with fail
  go_at_call 13; refine (Pn.out _).mono ?_; rintro e w3 ⟨b3, c3, rfl, i3, f3⟩
  have o3 := own_on o2 f3
  have g3 := Fuw.trans g2 f3
  have F3 := Fuw.trans F2 f3
  have z3 := g3.size
  clear d0 d1 d2 d3 d4
  obtain ⟨d0, d1, d2, d3, d4⟩ : _ ∧ _ ∧ _ ∧ _ ∧ _ := ⟨(P2.out.onw g3).c0, (P2.out.onw g3).c1, (P2.out.onw g3).c2, (P2.out.onw g3).c3, (P2.out.onw g3).c4⟩
  simp only [Vl.kd, Vl.nn, Vl.dd, Vl.ss, Vl.ll, List.length_nil] at d0 d1 d2 d3 d4
  go_wp2_with (at_builtin; refine wpList_appC _ rfl _ _ rfl w1.heap.size _ _ _ rfl o3 _ (putI n) _ rfl i3 (by omega) z3 ?_; intro v4 w4 o4 h4)
  have F4 := h4 w F3 z2
  have g4 := h4 w1 g3 (Nat.le_refl _)
  clear d0 d1 d2 d3 d4 h4
  obtain ⟨d0, d1, d2, d3, d4⟩ : _ ∧ _ ∧ _ ∧ _ ∧ _ := ⟨(P2.out.onw g4).c0, (P2.out.onw g4).c1, (P2.out.onw g4).c2, (P2.out.onw g4).c3, (P2.out.onw g4).c4⟩
  simp only [Vl.kd, Vl.nn, Vl.dd, Vl.ss, Vl.ll, List.length_nil] at d0 d1 d2 d3 d4
  have oo := o4
  obtain ⟨ao', cap', rfl, -, hI⟩ := IsB.of_own (l := 5 :: (putI n)) oo
  go_wp2
  go_ret
  exact ⟨_, _, rfl, hI, F4⟩

set_option maxHeartbeats 3200000 in
theorem rpv_6 (n : Int) (hn : -1000000000000000 ≤ n ∧ n ≤ 1000000000000000) (ao : Option Addr) (cap : Nat) (w : World) (hV : Vin (.mk 6 n 0 [] [])) (hs : SlV w ao [] cap) (hX : okX (.mk 6 n 0 [] []) = true) :
    Calls Tryd.prog 17 #[vlv (.mk 6 n 0 [] []) ao cap] w (RetY w (6 :: (putI n))) := by
  obtain ⟨p0, q0⟩ := bx1 w (.mk 6 n 0 [] []) ao cap
  have f0 := q0.b
  have HL := Lib.hid (fun w' (hf : Fuw w w') => hX ▸ rokV_any (.mk 6 n 0 [] []) ao cap w' hV (hs.onw hf))
  have Pn := Lib.hid (fun w' => rput_int n (by omega) (by omega) w')
  have mn : (putI n).length ≤ 10 := Lib.uvarint_length64 (Lib.zigzag_lt (by omega) (by omega))
  clear hX hV hs q0
  unfold vlv at *
  simp only [Vl.kd, Vl.nn, Vl.dd, Vl.ss, Vl.ll, List.length_nil] at *
  go_enter Tryd.func17, Tryd.ntmps17
  go_upto_region 1 with fail
  obtain ⟨W0, hW⟩ : ∃ W0, w.alloc (.cells #[.int .i64 6, .int .i64 n, .int .i64 0, .string (bs []), .slice ao 0 cap] 24) = W0 := ⟨_, rfl⟩
  rw [hW] at p0 f0
  rw [hW]
  clear hW
  have PB := Lib.hid p0
  obtain ⟨d0, d1, d2, d3, d4⟩ : _ ∧ _ ∧ _ ∧ _ ∧ _ := ⟨p0.c0, p0.c1, p0.c2, p0.c3, p0.c4⟩
  simp only [Vl.kd, Vl.nn, Vl.dd, Vl.ss, Vl.ll, List.length_nil] at d0 d1 d2 d3 d4
  go_wp2_with fail
  go_at_call 31; refine (HL.out _ f0).mono ?_; rintro e w1 ⟨rfl, f1⟩
  clear HL d0 d1 d2 d3 d4 p0
  have F1 := Fuw.trans f0 f1.b
  have p1 := PB.out.onw f1.b
  obtain ⟨d0, d1, d2, d3, d4⟩ : _ ∧ _ ∧ _ ∧ _ ∧ _ := ⟨p1.c0, p1.c1, p1.c2, p1.c3, p1.c4⟩
  simp only [Vl.kd, Vl.nn, Vl.dd, Vl.ss, Vl.ll, List.length_nil] at d0 d1 d2 d3 d4
  clear f0 f1
  go_upto_region 4 with fail
  obtain ⟨W2, hW2⟩ : ∃ W2, w1.alloc (.cells #[.int .u8 6] 5) = W2 := ⟨_, rfl⟩
  have o2 := own_one w1 6
  have g2 : Fuw w1 (w1.alloc (.cells #[.int .u8 6] 5)) := (Fuw.refl w1).alloc _
  rw [hW2] at o2 g2
  rw [hW2]
  clear hW2 d0 d1 d2 d3 d4
  have F2 := Fuw.trans F1 g2
  have z2 := F1.size
  have P2 := Lib.hid p1
  clear p1
  obtain ⟨d0, d1, d2, d3, d4⟩ : _ ∧ _ ∧ _ ∧ _ ∧ _ := ⟨(P2.out.onw g2).c0, (P2.out.onw g2).c1, (P2.out.onw g2).c2, (P2.out.onw g2).c3, (P2.out.onw g2).c4⟩
  simp only [Vl.kd, Vl.nn, Vl.dd, Vl.ss, Vl.ll, List.length_nil] at d0 d1 d2 d3 d4
  go_wp2_with fail
  go_at_call 13; refine (Pn.out _).mono ?_; rintro e w3 ⟨b3, c3, rfl, i3, f3⟩
  have o3 := own_on o2 f3
  have g3 := Fuw.trans g2 f3
  have F3 := Fuw.trans F2 f3
  have z3 := g3.size
  clear d0 d1 d2 d3 d4
  obtain ⟨d0, d1, d2, d3, d4⟩ : _ ∧ _ ∧ _ ∧ _ ∧ _ := ⟨(P2.out.onw g3).c0, (P2.out.onw g3).c1, (P2.out.onw g3).c2, (P2.out.onw g3).c3, (P2.out.onw g3).c4⟩
  simp only [Vl.kd, Vl.nn, Vl.dd, Vl.ss, Vl.ll, List.length_nil] at d0 d1 d2 d3 d4
  go_wp2_with (at_builtin; refine wpList_appC _ rfl _ _ rfl w1.heap.size _ _ _ rfl o3 _ (putI n) _ rfl i3 (by omega) z3 ?_; intro v4 w4 o4 h4)
  have F4 := h4 w F3 z2
  have g4 := h4 w1 g3 (Nat.le_refl _)
  clear d0 d1 d2 d3 d4 h4
  obtain ⟨d0, d1, d2, d3, d4⟩ : _ ∧ _ ∧ _ ∧ _ ∧ _ := ⟨(P2.out.onw g4).c0, (P2.out.onw g4).c1, (P2.out.onw g4).c2, (P2.out.onw g4).c3, (P2.out.onw g4).c4⟩
  simp only [Vl.kd, Vl.nn, Vl.dd, Vl.ss, Vl.ll, List.length_nil] at d0 d1 d2 d3 d4
  have oo := o4
  obtain ⟨ao', cap', rfl, -, hI⟩ := IsB.of_own (l := 6 :: (putI n)) oo
  go_wp2
  go_ret
  exact ⟨_, _, rfl, hI, F4⟩
end Go.Proofs.YtolkdmhjomampaaDoor

/-! The reference of package codec: PutValue gives the bytes of a valid list and of a valid path, if it does so of the elements. Nothing that was there turns. -/
namespace Go.Proofs.YtolkdmhjomampaaDoor
open Go.RowKit

theorem putXs_join : ∀ a b : List Vl, putXs (a ++ b) = putXs a ++ putXs b
  | [], b => by rw [putXs_nil]; rfl
  | x :: r, b => by rw [List.cons_append, putXs_cons, putXs_cons, putXs_join r b, List.append_assoc]
/-- What is written of a list behind some of its elements. -/
def plx (k : UInt8) (l : List Vl) (i : Nat) : List UInt8 := k :: (Lib.uvarint l.length ++ putXs (l.take i))
theorem plx_s (k : UInt8) (l : List Vl) (i : Nat) (h : i < l.length) : plx k l (i + 1) = plx k l i ++ putX l[i] := by
  unfold plx
  rw [List.take_succ_eq_append_getElem h, putXs_join, putXs_cons, putXs_nil, List.append_nil]
  simp
theorem plx_all (k : UInt8) (l : List Vl) : plx k l l.length = k :: (Lib.uvarint l.length ++ putXs l) := by unfold plx; rw [List.take_length]
theorem plx_le (k : UInt8) (l : List Vl) (i : Nat) (hl : l.length ≤ 64) : (plx k l i).length ≤ 11 + (putXs l).length := by
  have h1 := Lib.uvarint_length64 (x := l.length) (by omega)
  have h2 : (putXs l).length = (putXs (l.take i)).length + (putXs (l.drop i)).length := by rw [← List.length_append, ← putXs_join, List.take_append_drop]
  unfold plx
  simp
  omega
/-- What is asked of the elements. -/
def RPe (l : List Vl) : Prop := ∀ x ∈ l, ∀ (ao : Option Addr) (cap : Nat) (w : World), Vin x → SlV w ao x.ll cap → Calls Tryd.prog 17 #[vlv x ao cap] w (RetY w (putX x))

set_option maxHeartbeats 6400000 in
set_option maxRecDepth 100000 in
theorem rpv_7 (l : List Vl) (hl : l.length ≤ 64) (hp : (putXs l).length ≤ 100000000000000) (ih : RPe l) (ao : Option Addr) (cap : Nat) (w : World) (hV : Vin (.mk 7 0 0 [] l)) (hs : SlV w ao l cap) (hX : okX (.mk 7 0 0 [] l) = true) :
    Calls Tryd.prog 17 #[vlv (.mk 7 0 0 [] l) ao cap] w (RetY w (7 :: (Lib.uvarint l.length ++ putXs l))) := by
  obtain ⟨p0, q0⟩ := bx1 w (.mk 7 0 0 [] l) ao cap
  have f0 := q0.b
  have HL := Lib.hid (fun w' (hf : Fuw w w') => hX ▸ rokV_any (.mk 7 0 0 [] l) ao cap w' hV (hs.onw hf))
  have HS := Lib.hid hs
  have IH := Lib.hid ih
  have eU : putU (l.length : Int) = Lib.uvarint l.length := by unfold putU; rw [if_neg (by omega), Int.toNat_natCast]
  have Pn := Lib.hid (fun w' => eU ▸ rput_uint (l.length : Int) (by omega) (by omega) w')
  have mn := Lib.uvarint_length64 (x := l.length) (by omega)
  have HP := Lib.hid (fun i => plx_le 7 l i hl)
  have HQ := Lib.hid hp
  have HZ := Lib.hid (show [Value.int .u8 7] ++ Lib.byteCells (Lib.uvarint l.length) = Lib.byteCells (plx 7 l 0) ∧ 1 + (Lib.uvarint l.length).length = (plx 7 l 0).length by
    unfold plx
    rw [List.take_zero, putXs_nil, List.append_nil]
    exact ⟨rfl, by simp; omega⟩)
  clear hX hV hs q0 ih eU hp
  unfold vlv at *
  simp only [Vl.kd, Vl.nn, Vl.dd, Vl.ss, Vl.ll] at *
  go_enter Tryd.func17, Tryd.ntmps17
  go_upto_region 1 with fail
  obtain ⟨W0, hW⟩ : ∃ W0, w.alloc (.cells #[.int .i64 7, .int .i64 0, .int .i64 0, .string (bs []), .slice ao l.length cap] 24) = W0 := ⟨_, rfl⟩
  rw [hW] at p0 f0
  rw [hW]
  clear hW
  have PB := Lib.hid p0
  obtain ⟨d0, d1, d2, d3, d4⟩ : _ ∧ _ ∧ _ ∧ _ ∧ _ := ⟨p0.c0, p0.c1, p0.c2, p0.c3, p0.c4⟩
  simp only [Vl.kd, Vl.nn, Vl.dd, Vl.ss, Vl.ll] at d0 d1 d2 d3 d4
  go_wp2_with fail
  go_at_call 31; refine (HL.out _ f0).mono ?_; rintro e w1 ⟨rfl, f1⟩
  clear HL d0 d1 d2 d3 d4 p0
  have F1 := Fuw.trans f0 f1.b
  have p1 := PB.out.onw f1.b
  obtain ⟨d0, d1, d2, d3, d4⟩ : _ ∧ _ ∧ _ ∧ _ ∧ _ := ⟨p1.c0, p1.c1, p1.c2, p1.c3, p1.c4⟩
  simp only [Vl.kd, Vl.nn, Vl.dd, Vl.ss, Vl.ll] at d0 d1 d2 d3 d4
  clear f0 f1
  go_upto_region 4 with fail
  obtain ⟨W2, hW2⟩ : ∃ W2, w1.alloc (.cells #[.int .u8 7] 5) = W2 := ⟨_, rfl⟩
  have o2 := own_one w1 7
  have g2 : Fuw w1 (w1.alloc (.cells #[.int .u8 7] 5)) := (Fuw.refl w1).alloc _
  rw [hW2] at o2 g2
  rw [hW2]
  clear hW2 d0 d1 d2 d3 d4
  have F2 := Fuw.trans F1 g2
  have z2 := F1.size
  have P2 := Lib.hid p1
  clear p1
  obtain ⟨d0, d1, d2, d3, d4⟩ : _ ∧ _ ∧ _ ∧ _ ∧ _ := ⟨(P2.out.onw g2).c0, (P2.out.onw g2).c1, (P2.out.onw g2).c2, (P2.out.onw g2).c3, (P2.out.onw g2).c4⟩
  simp only [Vl.kd, Vl.nn, Vl.dd, Vl.ss, Vl.ll] at d0 d1 d2 d3 d4
  go_wp2_with fail
  go_at_call 11; refine (Pn.out _).mono ?_; rintro e w3 ⟨b3, c3, rfl, i3, f3⟩
  have o3 := own_on o2 f3
  have g3 := Fuw.trans g2 f3
  have F3 := Fuw.trans F2 f3
  have z3 := g3.size
  clear d0 d1 d2 d3 d4
  go_upto_region 18 with (at_builtin; refine wpList_appC _ rfl _ _ rfl w1.heap.size _ _ _ rfl o3 _ (Lib.uvarint l.length) _ rfl i3 (by omega) z3 ?_; intro v4 w4 o4 h4)
  have F4 := Lib.hid (h4 w F3 z2)
  have g4 := Lib.hid (h4 w1 g3 (Nat.le_refl _))
  rw [HZ.out.1, HZ.out.2] at o4
  have O4 := Lib.hid o4
  clear h4 o4 o3 o2 g3 F3 g2 F2 f3 i3 z3 Pn mn HZ
  go_wp2
  go_loopw [3, 4] (fun ov iv wr => ∃ i : Nat, iv = .int .i64 i ∧ i ≤ l.length ∧ Hid (wr.ownsRow w1.heap.size 5 1 ov (plx 7 l i).length (Lib.byteCells (plx 7 l i))) ∧ Hid (Fuw w wr) ∧ Hid (Fuw w1 wr)) (fun _ iv _ => l.length - (RowKit.intOf iv).toNat)
  case atStart => exact ⟨0, rfl, Nat.zero_le _, O4, F4, g4⟩
  case round =>
    obtain ⟨i, rfl, hi, HO, HF, HG⟩ := hrel
    have c4 := (P2.out.onw HG.out).c4
    simp only [Vl.ll] at c4
    by_cases hlt : i < l.length
    · obtain ⟨b, o, rfl, hc⟩ := (HS.out.onw HF.out).get hlt
      obtain ⟨hy, e0, e1, e2, e3, ao', cap', e4, hs2⟩ := VC_of hc
      have HC := Lib.hid (IH.out l[i] (List.getElem_mem _) ao' cap' wr hy hs2)
      have HA := Lib.hid (plx_s 7 l i hlt)
      have HB := Lib.hid (show (plx 7 l i).length + (putX l[i]).length ≤ 11 + (putXs l).length by rw [← List.length_append, ← HA.out]; exact HP.out _)
      unfold vlv at HC
      clear hc hs2 hy
      generalize l[i] = y at *
      generalize putX y = X at *
      obtain ⟨N, hN⟩ : ∃ N, (plx 7 l i).length = N := ⟨_, rfl⟩
      have ho := HO.out
      rw [hN] at ho
      have hb : N + X.length ≤ 140000000000000 := by have := HB.out; have := HQ.out; omega
      have HN := Lib.hid hN
      have HBY := Lib.hid ho
      clear hN HB HO ho
      go_wp2_with fail
      go_at_call 17
      refine (HC.out).mono ?_; rintro e5 w5 ⟨a5, c5, rfl, i5, f5⟩
      have o5 := own_on HBY.out f5
      have z5 := (Fuw.trans HG.out f5).size
      go_wp2_with (at_builtin; refine wpList_appC _ rfl _ _ rfl w1.heap.size _ _ _ rfl o5 _ X _ rfl i5 hb z5 ?_; intro v6 w6 o6 h6)
      have F6 := Lib.hid (h6 w (Fuw.trans HF.out f5) z2)
      have g6 := Lib.hid (h6 w1 (Fuw.trans HG.out f5) (Nat.le_refl _))
      have O6 : Hid (w6.ownsRow w1.heap.size 5 1 v6 (plx 7 l (i + 1)).length (Lib.byteCells (plx 7 l (i + 1)))) := Lib.hid (by
        rw [HA.out, Lib.byteCells_append, List.length_append, HN.out]; exact o6)
      clear h6 o6 o5 z5 HBY
      go_roundw
      case rel => exact ⟨i + 1, by go_num, by omega, O6, F6, g6⟩
      case measure => simp [RowKit.intOf]; omega
    · have hE : i = l.length := by omega
      subst hE
      have ho := HO.out
      rw [plx_all] at ho
      obtain ⟨ao', cap', rfl, -, hI⟩ := IsB.of_own ho
      have HI := Lib.hid hI
      clear hI ho HO
      go_wp2
      go_ret
      exact ⟨_, _, rfl, HI.out, HF.out⟩

set_option maxHeartbeats 6400000 in
set_option maxRecDepth 100000 in
theorem rpv_8 (l : List Vl) (hl : l.length ≤ 64) (hp : (putXs l).length ≤ 100000000000000) (ih : RPe l) (ao : Option Addr) (cap : Nat) (w : World) (hV : Vin (.mk 8 0 0 [] l)) (hs : SlV w ao l cap) (hX : okX (.mk 8 0 0 [] l) = true) :
    Calls Tryd.prog 17 #[vlv (.mk 8 0 0 [] l) ao cap] w (RetY w (8 :: (Lib.uvarint l.length ++ putXs l))) := by
  obtain ⟨p0, q0⟩ := bx1 w (.mk 8 0 0 [] l) ao cap
  have f0 := q0.b
  have HL := Lib.hid (fun w' (hf : Fuw w w') => hX ▸ rokV_any (.mk 8 0 0 [] l) ao cap w' hV (hs.onw hf))
  have HS := Lib.hid hs
  have IH := Lib.hid ih
  have eU : putU (l.length : Int) = Lib.uvarint l.length := by unfold putU; rw [if_neg (by omega), Int.toNat_natCast]
  have Pn := Lib.hid (fun w' => eU ▸ rput_uint (l.length : Int) (by omega) (by omega) w')
  have mn := Lib.uvarint_length64 (x := l.length) (by omega)
  have HP := Lib.hid (fun i => plx_le 8 l i hl)
  have HQ := Lib.hid hp
  have HZ := Lib.hid (show [Value.int .u8 8] ++ Lib.byteCells (Lib.uvarint l.length) = Lib.byteCells (plx 8 l 0) ∧ 1 + (Lib.uvarint l.length).length = (plx 8 l 0).length by
    unfold plx
    rw [List.take_zero, putXs_nil, List.append_nil]
    exact ⟨rfl, by simp; omega⟩)
  clear hX hV hs q0 ih eU hp
  unfold vlv at *
  simp only [Vl.kd, Vl.nn, Vl.dd, Vl.ss, Vl.ll] at *
  go_enter Tryd.func17, Tryd.ntmps17
  go_upto_region 1 with fail
  obtain ⟨W0, hW⟩ : ∃ W0, w.alloc (.cells #[.int .i64 8, .int .i64 0, .int .i64 0, .string (bs []), .slice ao l.length cap] 24) = W0 := ⟨_, rfl⟩
  rw [hW] at p0 f0
  rw [hW]
  clear hW
  have PB := Lib.hid p0
  obtain ⟨d0, d1, d2, d3, d4⟩ : _ ∧ _ ∧ _ ∧ _ ∧ _ := ⟨p0.c0, p0.c1, p0.c2, p0.c3, p0.c4⟩
  simp only [Vl.kd, Vl.nn, Vl.dd, Vl.ss, Vl.ll] at d0 d1 d2 d3 d4
  go_wp2_with fail
  go_at_call 31; refine (HL.out _ f0).mono ?_; rintro e w1 ⟨rfl, f1⟩
  clear HL d0 d1 d2 d3 d4 p0
  have F1 := Fuw.trans f0 f1.b
  have p1 := PB.out.onw f1.b
  obtain ⟨d0, d1, d2, d3, d4⟩ : _ ∧ _ ∧ _ ∧ _ ∧ _ := ⟨p1.c0, p1.c1, p1.c2, p1.c3, p1.c4⟩
  simp only [Vl.kd, Vl.nn, Vl.dd, Vl.ss, Vl.ll] at d0 d1 d2 d3 d4
  clear f0 f1
  go_upto_region 4 with fail
  obtain ⟨W2, hW2⟩ : ∃ W2, w1.alloc (.cells #[.int .u8 8] 5) = W2 := ⟨_, rfl⟩
  have o2 := own_one w1 8
  have g2 : Fuw w1 (w1.alloc (.cells #[.int .u8 8] 5)) := (Fuw.refl w1).alloc _
  rw [hW2] at o2 g2
  rw [hW2]
  clear hW2 d0 d1 d2 d3 d4
  have F2 := Fuw.trans F1 g2
  have z2 := F1.size
  have P2 := Lib.hid p1
  clear p1
  obtain ⟨d0, d1, d2, d3, d4⟩ : _ ∧ _ ∧ _ ∧ _ ∧ _ := ⟨(P2.out.onw g2).c0, (P2.out.onw g2).c1, (P2.out.onw g2).c2, (P2.out.onw g2).c3, (P2.out.onw g2).c4⟩
  simp only [Vl.kd, Vl.nn, Vl.dd, Vl.ss, Vl.ll] at d0 d1 d2 d3 d4
  go_wp2_with fail
  go_at_call 11; refine (Pn.out _).mono ?_; rintro e w3 ⟨b3, c3, rfl, i3, f3⟩
  have o3 := own_on o2 f3
  have g3 := Fuw.trans g2 f3
  have F3 := Fuw.trans F2 f3
  have z3 := g3.size
  clear d0 d1 d2 d3 d4
  go_upto_region 18 with (at_builtin; refine wpList_appC _ rfl _ _ rfl w1.heap.size _ _ _ rfl o3 _ (Lib.uvarint l.length) _ rfl i3 (by omega) z3 ?_; intro v4 w4 o4 h4)
  have F4 := Lib.hid (h4 w F3 z2)
  have g4 := Lib.hid (h4 w1 g3 (Nat.le_refl _))
  rw [HZ.out.1, HZ.out.2] at o4
  have O4 := Lib.hid o4
  clear h4 o4 o3 o2 g3 F3 g2 F2 f3 i3 z3 Pn mn HZ
  go_wp2
  go_loopw [3, 4] (fun ov iv wr => ∃ i : Nat, iv = .int .i64 i ∧ i ≤ l.length ∧ Hid (wr.ownsRow w1.heap.size 5 1 ov (plx 8 l i).length (Lib.byteCells (plx 8 l i))) ∧ Hid (Fuw w wr) ∧ Hid (Fuw w1 wr)) (fun _ iv _ => l.length - (RowKit.intOf iv).toNat)
  case atStart => exact ⟨0, rfl, Nat.zero_le _, O4, F4, g4⟩
  case round =>
    obtain ⟨i, rfl, hi, HO, HF, HG⟩ := hrel
    have c4 := (P2.out.onw HG.out).c4
    simp only [Vl.ll] at c4
    by_cases hlt : i < l.length
    · obtain ⟨b, o, rfl, hc⟩ := (HS.out.onw HF.out).get hlt
      obtain ⟨hy, e0, e1, e2, e3, ao', cap', e4, hs2⟩ := VC_of hc
      have HC := Lib.hid (IH.out l[i] (List.getElem_mem _) ao' cap' wr hy hs2)
      have HA := Lib.hid (plx_s 8 l i hlt)
      have HB := Lib.hid (show (plx 8 l i).length + (putX l[i]).length ≤ 11 + (putXs l).length by rw [← List.length_append, ← HA.out]; exact HP.out _)
      unfold vlv at HC
      clear hc hs2 hy
      generalize l[i] = y at *
      generalize putX y = X at *
      obtain ⟨N, hN⟩ : ∃ N, (plx 8 l i).length = N := ⟨_, rfl⟩
      have ho := HO.out
      rw [hN] at ho
      have hb : N + X.length ≤ 140000000000000 := by have := HB.out; have := HQ.out; omega
      have HN := Lib.hid hN
      have HBY := Lib.hid ho
      clear hN HB HO ho
      go_wp2_with fail
      go_at_call 17
      refine (HC.out).mono ?_; rintro e5 w5 ⟨a5, c5, rfl, i5, f5⟩
      have o5 := own_on HBY.out f5
      have z5 := (Fuw.trans HG.out f5).size
      go_wp2_with (at_builtin; refine wpList_appC _ rfl _ _ rfl w1.heap.size _ _ _ rfl o5 _ X _ rfl i5 hb z5 ?_; intro v6 w6 o6 h6)
      have F6 := Lib.hid (h6 w (Fuw.trans HF.out f5) z2)
      have g6 := Lib.hid (h6 w1 (Fuw.trans HG.out f5) (Nat.le_refl _))
      have O6 : Hid (w6.ownsRow w1.heap.size 5 1 v6 (plx 8 l (i + 1)).length (Lib.byteCells (plx 8 l (i + 1)))) := Lib.hid (by
        rw [HA.out, Lib.byteCells_append, List.length_append, HN.out]; exact o6)
      clear h6 o6 o5 z5 HBY
      go_roundw
      case rel => exact ⟨i + 1, by go_num, by omega, O6, F6, g6⟩
      case measure => simp [RowKit.intOf]; omega
    · have hE : i = l.length := by omega
      subst hE
      have ho := HO.out
      rw [plx_all] at ho
      obtain ⟨ao', cap', rfl, -, hI⟩ := IsB.of_own ho
      have HI := Lib.hid hI
      clear hI ho HO
      go_wp2
      go_ret
      exact ⟨_, _, rfl, HI.out, HF.out⟩
end Go.Proofs.YtolkdmhjomampaaDoor

/-! The reference of package codec: PutValue gives the bytes of every valid value, and none for a value that is not valid, where the bytes number at most 100,000,000,000,000. Nothing that was there turns. -/
namespace Go.Proofs.YtolkdmhjomampaaDoor
open Go.RowKit

theorem str_len' {n d : Int} {s : List UInt8} {l : List Vl} (h : okX (.mk 4 n d s l) = true) : s.length ≤ 100 := by
  unfold okX okV okFlat okStr at h
  simp at h
  exact h.2.2
theorem ok_len {k n d : Int} {s : List UInt8} {l : List Vl} (h : okX (.mk k n d s l) = true) (hk : k = 7 ∨ k = 8) : l.length ≤ 64 := by
  unfold okX okV at h
  by_cases h7 : k = 7
  · rw [if_pos h7] at h
    simp only [Bool.and_eq_true, decide_eq_true_eq] at h
    omega
  · rw [if_neg h7, if_pos (by omega)] at h
    simp only [Bool.and_eq_true, decide_eq_true_eq] at h
    omega
mutual
theorem rpv_all : ∀ (v : Vl), okX v = true → (putX v).length ≤ 100000000000000 → ∀ (ao : Option Addr) (cap : Nat) (w : World), Vin v → SlV w ao v.ll cap → Calls Tryd.prog 17 #[vlv v ao cap] w (RetY w (putX v))
  | .mk k n d s l => fun hX hlen ao cap w hV hs => by
    have ih := fun (ha : AllOk l) (hb : (putXs l).length ≤ 100000000000000) => rpv_els l ha hb
    have hL := fun hk => ok_len hX hk
    have e7 := putX_mk k n d s l
    rcases kinds hX with ⟨rfl, rfl, rfl, rfl, rfl⟩ | ⟨rfl, hn, rfl, rfl, rfl⟩ | ⟨rfl, hn, rfl, rfl, rfl⟩ | ⟨rfl, hF, hd, rfl, rfl⟩ | ⟨rfl, rfl, rfl, rfl⟩ | ⟨rfl, hn, rfl, rfl, rfl⟩ | ⟨rfl, hn, rfl, rfl, rfl⟩ | ⟨rfl, rfl, rfl, rfl, ha⟩ | ⟨rfl, rfl, rfl, rfl, ha⟩
    · rw [e7, show (0 : Int).toNat.toUInt8 :: tailX 0 0 0 [] [] = 0 :: [] by unfold tailX; simp <;> rfl]
      exact rpv_0 ao cap w hV hs hX
    · rw [e7, show (1 : Int).toNat.toUInt8 :: tailX 1 n 0 [] [] = 1 :: putI n by unfold tailX; simp <;> rfl]
      exact rpv_1 n (by omega) ao cap w hV hs hX
    · rw [e7, show (2 : Int).toNat.toUInt8 :: tailX 2 n 0 [] [] = 2 :: putI n by unfold tailX; simp <;> rfl]
      exact rpv_2 n (by omega) ao cap w hV hs hX
    · have o := okF_t hF
      have o1 := o.n1; have o2 := o.n2; have o3 := o.d1; have o4 := o.d2
      rw [e7, show (3 : Int).toNat.toUInt8 :: tailX 3 n d [] [] = 3 :: (putI n ++ putI d) by unfold tailX; simp <;> rfl]
      exact rpv_3 n d (by omega) (by omega) ao cap w hV hs hX
    · rw [e7, show (4 : Int).toNat.toUInt8 :: tailX 4 0 0 s [] = 4 :: putS s by unfold tailX; simp <;> rfl]
      have := str_len' hX
      exact rpv_4 s ao cap w hV hs hX (by omega)
    · rw [e7, show (5 : Int).toNat.toUInt8 :: tailX 5 n 0 [] [] = 5 :: putI n by unfold tailX; simp <;> rfl]
      exact rpv_5 n (by omega) ao cap w hV hs hX
    · rw [e7, show (6 : Int).toNat.toUInt8 :: tailX 6 n 0 [] [] = 6 :: putI n by unfold tailX; simp <;> rfl]
      exact rpv_6 n (by omega) ao cap w hV hs hX
    · have e : (7 : Int).toNat.toUInt8 :: tailX 7 0 0 [] l = 7 :: (Lib.uvarint l.length ++ putXs l) := by unfold tailX; simp <;> rfl
      rw [e7, e] at hlen ⊢
      have hb : (putXs l).length ≤ 100000000000000 := by simp at hlen; omega
      exact rpv_7 l (hL (.inl rfl)) hb (ih ha hb) ao cap w hV hs hX
    · have e : (8 : Int).toNat.toUInt8 :: tailX 8 0 0 [] l = 8 :: (Lib.uvarint l.length ++ putXs l) := by unfold tailX; simp <;> rfl
      rw [e7, e] at hlen ⊢
      have hb : (putXs l).length ≤ 100000000000000 := by simp at hlen; omega
      exact rpv_8 l (hL (.inr rfl)) hb (ih ha hb) ao cap w hV hs hX
theorem rpv_els : ∀ (l : List Vl), AllOk l → (putXs l).length ≤ 100000000000000 → RPe l
  | [], _, _ => fun x hx => by cases hx
  | y :: r, ha, hb => fun x hx ao cap w hV hs => by
    rw [putXs_cons, List.length_append] at hb
    rcases List.mem_cons.1 hx with e | e
    · rw [e] at hs hV ⊢
      exact rpv_all y (ha y (List.mem_cons_self ..)) (by omega) ao cap w hV hs
    · exact rpv_els r (fun z hz => ha z (List.mem_cons_of_mem _ hz)) (by omega) x e ao cap w hV hs
end
set_option maxHeartbeats 3200000 in
theorem rput_value (v : Vl) (ao : Option Addr) (cap : Nat) (w : World) (hV : Vin v) (hs : SlV w ao v.ll cap) (hlen : okX v = true → (putX v).length ≤ 100000000000000) :
    Calls Tryd.prog 17 #[vlv v ao cap] w (RetY w (putVal v)) := by
  cases hX : okX v
  · rw [show putVal v = [] by unfold putVal; rw [if_neg (by rw [hX]; decide)]]
    obtain ⟨p0, q0⟩ := bx1 w v ao cap
    have f0 := q0.b
    have hl := hV.s
    unfold maxLen at hl
    have HL := Lib.hid (fun w' (hf : Fuw w w') => hX ▸ rokV_any v ao cap w' hV (hs.onw hf))
    clear hX hV hs q0 hlen
    unfold vlv at *
    go_enter Tryd.func17, Tryd.ntmps17
    go_upto_region 1 with fail
    obtain ⟨W0, hW⟩ : ∃ W0, w.alloc (.cells #[.int .i64 v.kd, .int .i64 v.nn, .int .i64 v.dd, .string (bs v.ss), .slice ao v.ll.length cap] 24) = W0 := ⟨_, rfl⟩
    rw [hW] at p0 f0
    rw [hW]
    clear hW
    obtain ⟨d0, d1, d2, d3, d4⟩ : _ ∧ _ ∧ _ ∧ _ ∧ _ := ⟨p0.c0, p0.c1, p0.c2, p0.c3, p0.c4⟩
    go_wp2_with fail
    go_at_call 31; refine (HL.out _ f0).mono ?_; rintro e w1 ⟨rfl, f1⟩
    have F1 := Lib.hid (Fuw.trans f0 f1.b)
    clear f0 f1 d0 d1 d2 d3 d4 p0
    go_wp2
    go_ret
    exact ⟨none, 0, rfl, IsB.empty _, F1.out⟩
  · rw [show putVal v = putX v by unfold putVal; rw [if_pos hX]]
    exact rpv_all v hX (hlen hX) ao cap w hV hs
end Go.Proofs.YtolkdmhjomampaaDoor
