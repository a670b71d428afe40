
/-
  The law's alive: the chapter's examples hold. Nothing that was there turns.
-/
import Derived.Test.YtpjikijfendmhaaGreatOvT
namespace Go.Proofs.YtpjikijfendmhaaGreat
open Go.RowKit

def RetX (w : World) (o : Ov) (n : Int) (e : Ending) (w' : World) : Prop := ∃ A, e = .returned (.tuple #[ovv o A, .int .i64 n]) ∧ OIn w' o A ∧ Fuw w w'
theorem i3s {a b c : Int} (h : (0 ≤ a ∧ a ≤ 9) ∧ (0 ≤ b ∧ b ≤ 9) ∧ 0 ≤ c ∧ c ≤ 9) : I64 a ∧ I64 b ∧ I64 c := ⟨⟨by omega, by omega⟩, ⟨by omega, by omega⟩, by omega, by omega⟩
theorem al_new (A : CA) (w : World) (h : CIn w bc A) : Calls Tryz.prog 10 #[colv bc A] w (RetX w ex0 0) := by
  have q := newo_any bc A w h tiny_ex.1
  rw [ex_new] at q; exact q
theorem al_del (A : OA) (w : World) (h : OIn w ex0 A) : Calls Tryz.prog 23 #[ovv ex0 A, .int .i64 5] w (RetX w ex1 0) := by
  have q := delo_any ex0 A 5 w h tiny_ex.1 ⟨by omega, by omega⟩
  rw [ex_del] at q; exact q
theorem al_ins (A : OA) (w : World) (h : OIn w ex1 A) : Calls Tryz.prog 21 #[ovv ex1 A, .agg #[.int .i64 1, .int .i64 1, .int .i64 9]] w (RetX w ex2 0) := by
  have q := inso_any ex1 A (1, 1, 9) w h tiny_ex.2.1 (i3s (by decide))
  rw [ex_ins] at q; exact q
theorem al_two (A : OA) (w : World) (h : OIn w ex2 A) : Calls Tryz.prog 21 #[ovv ex2 A, .agg #[.int .i64 2, .int .i64 2, .int .i64 4]] w (RetX w emO 7) := by
  have q := inso_any ex2 A (2, 2, 4) w h tiny_ex.2.2 (i3s (by decide))
  rw [ex_two] at q; exact q
theorem al_non (A : OA) (w : World) (h : OIn w ex2 A) : Calls Tryz.prog 23 #[ovv ex2 A, .int .i64 7] w (RetX w emO 11) := by
  have q := delo_any ex2 A 7 w h tiny_ex.2.2 ⟨by omega, by omega⟩
  rw [ex_non] at q; exact q
theorem al_bck (A : OA) (w : World) (h : OIn w ex2 A) : Calls Tryz.prog 21 #[ovv ex2 A, .agg #[.int .i64 1, .int .i64 2, .int .i64 5]] w (RetX w ex3 0) := by
  have q := inso_any ex2 A (1, 2, 5) w h tiny_ex.2.2 (i3s (by decide))
  rw [ex_bck] at q; exact q
def RetE (w : World) (e : Ending) (w' : World) : Prop := ∃ b o k, e = .returned (.slice (some ⟨b, o, none⟩) 2 k) ∧ SlJ w' (some ⟨b, o, none⟩) [(1, 1, 9), (1, 3, 4)] k ∧ Fuw w w'
theorem al_ent (A : OA) (w : World) (h : OIn w ex2 A) : Calls Tryz.prog 15 #[ovv ex2 A] w (RetE w) := by
  have q := ents_any ex2 A w h tiny_ex.2.2.sm
  rw [ex_ent] at q
  refine q.mono ?_
  rintro e w' ⟨v, rfl, ho, hf⟩
  obtain ⟨a, k, rfl, -, hs⟩ := slJ_own ho (by
    intro x hx
    rcases List.mem_cons.1 hx with rfl | hx
    · exact i3s (by decide)
    · rcases List.mem_cons.1 hx with rfl | hx
      · exact i3s (by decide)
      · cases hx)
  obtain ⟨b, o, rfl, -⟩ := hs.at_ (by decide)
  exact ⟨b, o, k, rfl, hs, hf⟩
theorem al_val (A : OA) (w : World) (h : OIn w ex2 A) : Calls Tryz.prog 12 #[ovv ex2 A] w (FwB w true) := by
  have q := valo_any ex2 A w h tiny_ex.2.2.sm
  rw [ex_val] at q; exact q
set_option maxHeartbeats 12800000 in
set_option maxRecDepth 100000 in
theorem alive_any (w : World) : Calls Tryz.prog 7 #[] w (FwB w true) := by
  go_enter Tryz.func7, Tryz.ntmps7
  go_wp2_with fail
  go_at_call 26; refine (base_any _).mono ?_; rintro e1 w1 ⟨C1, rfl, hC, f1⟩
  have HN := Lib.hid (al_new C1 w1 hC)
  have F1 := Lib.hid f1
  clear hC f1
  go_wp2_with fail
  go_at_call 10; refine HN.out.mono ?_; rintro e2 w2 ⟨A2, rfl, hO, f2⟩
  have F2 := Lib.hid (F1.out.trans f2)
  have HO2 := Lib.hid hO
  clear hO f2 HN
  unfold ovv ovC
  go_upto_region 2 with fail
  obtain ⟨w3, hw3⟩ : ∃ w3, w2.alloc (.cells (ovC ex0 A2) 27) = w3 := ⟨_, rfl⟩
  have F3 := Lib.hid (show Fuw w w3 from F2.out.trans (by rw [← hw3]; exact fuwA _ _))
  have HO3 := Lib.hid (HO2.out.on (show Fuw w2 w3 by rw [← hw3]; exact fuwA _ _))
  have BX3 := Lib.hid (show OB w3 w2.heap.size ex0 A2 from ⟨by rw [← hw3]; exact Bk.new _ _ _⟩)
  have HB := Lib.hid (show w.heap.size ≤ w2.heap.size from F2.out.size)
  unfold ovC at hw3
  rw [hw3]
  clear hw3
  generalize w2.heap.size = B at *
  have x1 := BX3.out.c1; have x2 := BX3.out.c2; have x3 := BX3.out.c3; have x4 := BX3.out.c4; have x5 := BX3.out.c5; have x6 := BX3.out.c6
  have HK := Lib.hid (al_del A2 w3 HO3.out)
  unfold ovv ovC at HK
  go_wp2_with fail
  go_at_call 23; refine HK.out.mono ?_; rintro e9 w4 ⟨A4, rfl, hO, f9⟩
  have G9 := Lib.hid f9
  have F4 := Lib.hid (F3.out.trans f9)
  have HO4 := Lib.hid hO
  clear hO f9 HK x1 x2 x3 x4 x5 x6
  have BE := Lib.hid (BX3.out.on G9.out)
  have x1 := BE.out.c1; have x2 := BE.out.c2; have x3 := BE.out.c3; have x4 := BE.out.c4; have x5 := BE.out.c5; have x6 := BE.out.c6
  have y1 := BE.out.k.f 0; have y2 := BE.out.k.f 1; have y3 := BE.out.k.f 2; have y4 := BE.out.k.f 3; have y5 := BE.out.k.f 4; have y6 := BE.out.k.f 5
  unfold ovv ovC
  go_upto_region 3 with fail
  have HS6 := Lib.hid (set6_ok (o' := ex1) (A' := A4) BE.out HB.out F4.out)
  obtain ⟨w5, hw⟩ : ∃ w9, set6 w4 B ex1 A4 = w9 := ⟨_, rfl⟩
  rw [hw] at HS6
  unfold set6 at hw
  rw [hw]
  have BX5 := Lib.hid HS6.out.1
  have F5 := Lib.hid HS6.out.2.1
  have HO5 := Lib.hid (HS6.out.2.2 _ _ HO4.out)
  clear hw HS6 BE G9 x1 x2 x3 x4 x5 x6 y1 y2 y3 y4 y5 y6
  have x1 := BX5.out.c1; have x2 := BX5.out.c2; have x3 := BX5.out.c3; have x4 := BX5.out.c4; have x5 := BX5.out.c5; have x6 := BX5.out.c6
  have HK := Lib.hid (al_ins A4 w5 HO5.out)
  unfold ovv ovC at HK
  go_wp2_with fail
  go_at_call 21; refine HK.out.mono ?_; rintro e9 w6 ⟨A6, rfl, hO, f9⟩
  have G9 := Lib.hid f9
  have F6 := Lib.hid (F5.out.trans f9)
  have HO6 := Lib.hid hO
  clear hO f9 HK x1 x2 x3 x4 x5 x6
  have BE := Lib.hid (BX5.out.on G9.out)
  have x1 := BE.out.c1; have x2 := BE.out.c2; have x3 := BE.out.c3; have x4 := BE.out.c4; have x5 := BE.out.c5; have x6 := BE.out.c6
  have y1 := BE.out.k.f 0; have y2 := BE.out.k.f 1; have y3 := BE.out.k.f 2; have y4 := BE.out.k.f 3; have y5 := BE.out.k.f 4; have y6 := BE.out.k.f 5
  unfold ovv ovC
  go_upto_region 4 with fail
  have HS6 := Lib.hid (set6_ok (o' := ex2) (A' := A6) BE.out HB.out F6.out)
  obtain ⟨w7, hw⟩ : ∃ w9, set6 w6 B ex2 A6 = w9 := ⟨_, rfl⟩
  rw [hw] at HS6
  unfold set6 at hw
  rw [hw]
  have BX7 := Lib.hid HS6.out.1
  have F7 := Lib.hid HS6.out.2.1
  have HO7 := Lib.hid (HS6.out.2.2 _ _ HO6.out)
  clear hw HS6 BE G9 x1 x2 x3 x4 x5 x6 y1 y2 y3 y4 y5 y6
  have x1 := BX7.out.c1; have x2 := BX7.out.c2; have x3 := BX7.out.c3; have x4 := BX7.out.c4; have x5 := BX7.out.c5; have x6 := BX7.out.c6
  have HK := Lib.hid (al_ent A6 w7 HO7.out)
  unfold ovv ovC at HK
  go_wp2_with fail
  go_at_call 15; refine HK.out.mono ?_; rintro e9 w8 ⟨b8, o8, k8, rfl, hs8, f9⟩
  have F8 := Lib.hid (F7.out.trans f9)
  have L8 := Lib.hid hs8
  have BX8 := Lib.hid (BX7.out.on f9)
  have HO8 := Lib.hid (HO7.out.on f9)
  clear hs8 f9 HK x1 x2 x3 x4 x5 x6
  go_upto_region 5 with fail
  have x1 := BX8.out.c1; have x2 := BX8.out.c2; have x3 := BX8.out.c3; have x4 := BX8.out.c4; have x5 := BX8.out.c5; have x6 := BX8.out.c6
  have HK := Lib.hid (al_two A6 w8 HO8.out)
  unfold ovv ovC at HK
  go_wp2_with fail
  go_at_call 21; refine HK.out.mono ?_; rintro e9 w9 ⟨A9, rfl, hO, f9⟩
  have G9 := Lib.hid f9
  have F9 := Lib.hid (F8.out.trans f9)
  have HO9 := Lib.hid hO
  clear hO f9 HK x1 x2 x3 x4 x5 x6
  have BX9 := Lib.hid (BX8.out.on G9.out)
  have HO9 := Lib.hid (HO8.out.on G9.out)
  have L9 := Lib.hid (slJ_on G9.out L8.out)
  clear G9
  unfold ovv ovC
  go_upto_region 6 with fail
  obtain ⟨v1, hw⟩ : ∃ w99, World.alloc w9 (.cells (ovC emO A9) 27) = w99 := ⟨_, rfl⟩
  have G8 := Lib.hid (show Fuw w9 v1 by rw [← hw]; exact fuwA _ _)
  have F10 := Lib.hid (F9.out.trans G8.out)
  have BX10 := Lib.hid (BX9.out.on G8.out)
  have HO10 := Lib.hid (HO9.out.on G8.out)
  have L10 := Lib.hid (slJ_on G8.out L9.out)
  unfold ovC at hw
  rw [hw]
  clear hw G8
  have x1 := BX10.out.c1; have x2 := BX10.out.c2; have x3 := BX10.out.c3; have x4 := BX10.out.c4; have x5 := BX10.out.c5; have x6 := BX10.out.c6
  have HK := Lib.hid (al_non A6 v1 HO10.out)
  unfold ovv ovC at HK
  go_wp2_with fail
  go_at_call 23; refine HK.out.mono ?_; rintro e9 v2 ⟨A11, rfl, hO, f9⟩
  have G9 := Lib.hid f9
  have F11 := Lib.hid (F10.out.trans f9)
  have HO11 := Lib.hid hO
  clear hO f9 HK x1 x2 x3 x4 x5 x6
  have BX11 := Lib.hid (BX10.out.on G9.out)
  have HO11 := Lib.hid (HO10.out.on G9.out)
  have L11 := Lib.hid (slJ_on G9.out L10.out)
  clear G9
  unfold ovv ovC
  go_upto_region 7 with fail
  obtain ⟨v3, hw⟩ : ∃ w99, World.alloc v2 (.cells (ovC emO A11) 27) = w99 := ⟨_, rfl⟩
  have G8 := Lib.hid (show Fuw v2 v3 by rw [← hw]; exact fuwA _ _)
  have F12 := Lib.hid (F11.out.trans G8.out)
  have BX12 := Lib.hid (BX11.out.on G8.out)
  have HO12 := Lib.hid (HO11.out.on G8.out)
  have L12 := Lib.hid (slJ_on G8.out L11.out)
  unfold ovC at hw
  rw [hw]
  clear hw G8
  have x1 := BX12.out.c1; have x2 := BX12.out.c2; have x3 := BX12.out.c3; have x4 := BX12.out.c4; have x5 := BX12.out.c5; have x6 := BX12.out.c6
  have HK := Lib.hid (al_bck A6 v3 HO12.out)
  unfold ovv ovC at HK
  go_wp2_with fail
  go_at_call 21; refine HK.out.mono ?_; rintro e9 v4 ⟨A13, rfl, hO, f9⟩
  have G9 := Lib.hid f9
  have F13 := Lib.hid (F12.out.trans f9)
  have HO13 := Lib.hid hO
  clear hO f9 HK x1 x2 x3 x4 x5 x6
  have BX13 := Lib.hid (BX12.out.on G9.out)
  have HO13 := Lib.hid (HO12.out.on G9.out)
  have L13 := Lib.hid (slJ_on G9.out L12.out)
  clear G9
  unfold ovv ovC
  go_upto_region 8 with fail
  obtain ⟨v5, hw⟩ : ∃ w99, World.alloc v4 (.cells (ovC ex3 A13) 27) = w99 := ⟨_, rfl⟩
  have G8 := Lib.hid (show Fuw v4 v5 by rw [← hw]; exact fuwA _ _)
  have F14 := Lib.hid (F13.out.trans G8.out)
  have BX14 := Lib.hid (BX13.out.on G8.out)
  have HO14 := Lib.hid (HO13.out.on G8.out)
  have L14 := Lib.hid (slJ_on G8.out L13.out)
  have BP := Lib.hid (show OB v5 v4.heap.size ex3 A13 from ⟨by rw [← hw]; exact Bk.new _ _ _⟩)
  unfold ovC at hw
  rw [hw]
  clear hw G8
  have x1 := BX14.out.c1; have x2 := BX14.out.c2; have x3 := BX14.out.c3; have x4 := BX14.out.c4; have x5 := BX14.out.c5; have x6 := BX14.out.c6
  have u5 := BP.out.c5; have u6 := BP.out.c6
  have q1 : ex2.dls.length = 1 := rfl
  have q2 : ex3.dls.length = 0 := rfl
  have q3 : ex3.ads.length = 1 := rfl
  obtain ⟨b', o', hb, ⟨-, -, -, c0, c1, c2⟩, -, -, -, d0, d1, d2⟩ := L14.out.get2 (i := 0) (j := 1) (by decide) (by decide)
  cases hb
  simp only [List.getElem_cons_zero, List.getElem_cons_succ, Nat.zero_mul, Nat.add_zero, Nat.one_mul] at c0 c1 c2 d0 d1 d2
  have heq1 : ∀ w', (binOp .eql 42 (.agg #[.int .i64 1, .int .i64 1, .int .i64 9]) (.agg #[.int .i64 1, .int .i64 1, .int .i64 9])).run Tryz.prog w' = .ok (.bool true) w' := fun w' => eql_adj (1, 1, 9) (1, 1, 9) w'
  have heq2 : ∀ w', (binOp .eql 42 (.agg #[.int .i64 1, .int .i64 3, .int .i64 4]) (.agg #[.int .i64 1, .int .i64 3, .int .i64 4])).run Tryz.prog w' = .ok (.bool true) w' := fun w' => eql_adj (1, 3, 4) (1, 3, 4) w'
  have hgd := fun (op : BinOp) (p q : Operand) (xs ys : Array Value) (w' : World) => run_eqGuard_agg w' op 42 p q xs ys guard_adj
  have HV := Lib.hid (al_val A6 v5 HO14.out)
  unfold ovv ovC at HV
  go_wp2_with fail
  go_at_call 12; refine HV.out.mono ?_; rintro e9 v6 ⟨rfl, f9⟩
  have FZ := Lib.hid (F14.out.trans f9)
  clear f9 heq1 heq2 hgd c0 c1 c2 d0 d1 d2 x1 x2 x3 x4 x5 x6 u5 u6
  go_wp2
  go_ret
  exact ⟨ret_bool (by simp), FZ.out⟩
end Go.Proofs.YtpjikijfendmhaaGreat
