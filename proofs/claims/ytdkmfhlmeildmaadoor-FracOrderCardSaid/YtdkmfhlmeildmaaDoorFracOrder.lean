/-
  FracOrder gives true by the contracts of package frac.
-/
import Derived.Test.YtdkmfhlmeildmaaDoorFracOrd
import Derived.Test.YtdkmfhlmeildmaaDoorFracAlive
import Derived.Test.YtdkmfhlmeildmaaDoorFrPut
import Derived.Deep.Cut
import Derived.Deep.CutRange
namespace Go.Proofs.YtdkmfhlmeildmaaDoor
open Go.RowKit

set_option maxHeartbeats 8000000 in
set_option maxRecDepth 100000 in
theorem order_core (an ad bn bd cn cd k l m N1 D1 N2 D2 P1 Q1 P2 Q2 S1 S2 : Int) (VA VB E1 E2 F1 F2 SB : Bool) (w : World) (G : Good w)
    (k0 : -1 ≤ k) (k1 : k ≤ 1)
    (C1 : Hid (∀ w : World, Calls Tryd.prog 22 #[.agg #[.int .i64 an, .int .i64 ad], .agg #[.int .i64 bn, .int .i64 bd]] w (RetI w k)))
    (C2 : Hid (∀ w : World, Calls Tryd.prog 22 #[.agg #[.int .i64 bn, .int .i64 bd], .agg #[.int .i64 an, .int .i64 ad]] w (RetI w (-k))))
    (C3 : Hid (∀ w : World, Calls Tryd.prog 22 #[.agg #[.int .i64 an, .int .i64 ad], .agg #[.int .i64 an, .int .i64 ad]] w (RetI w 0)))
    (C4 : Hid (∀ w : World, Calls Tryd.prog 22 #[.agg #[.int .i64 bn, .int .i64 bd], .agg #[.int .i64 cn, .int .i64 cd]] w (RetI w l)))
    (C5 : Hid (∀ w : World, Calls Tryd.prog 22 #[.agg #[.int .i64 an, .int .i64 ad], .agg #[.int .i64 cn, .int .i64 cd]] w (RetI w m)))
    (HM : Hid (k ≤ 0 → l ≤ 0 → m ≤ 0))
    (CA : Hid (∀ w : World, Calls Tryd.prog 11 #[.agg #[.int .i64 an, .int .i64 ad]] w (RetB w VA)))
    (CB : Hid (∀ w : World, Calls Tryd.prog 11 #[.agg #[.int .i64 bn, .int .i64 bd]] w (RetB w VB)))
    (HE : Hid (VA = true → VB = true → (k = 0 ↔ an = bn ∧ ad = bd)))
    (C6 : Hid (∀ w : World, Calls Tryd.prog 14 #[.agg #[.int .i64 an, .int .i64 ad], .agg #[.int .i64 cn, .int .i64 cd]] w (RetFB w N1 D1 E1)))
    (C7 : Hid (∀ w : World, Calls Tryd.prog 14 #[.agg #[.int .i64 bn, .int .i64 bd], .agg #[.int .i64 cn, .int .i64 cd]] w (RetFB w N2 D2 E2)))
    (C8 : Hid (E1 = true → E2 = true → ∀ w : World, Calls Tryd.prog 22 #[.agg #[.int .i64 N1, .int .i64 D1], .agg #[.int .i64 N2, .int .i64 D2]] w (RetI w k)))
    (D6 : Hid (∀ w : World, Calls Tryd.prog 18 #[.agg #[.int .i64 an, .int .i64 ad], .agg #[.int .i64 cn, .int .i64 cd]] w (RetFB w P1 Q1 F1)))
    (D7 : Hid (∀ w : World, Calls Tryd.prog 18 #[.agg #[.int .i64 bn, .int .i64 bd], .agg #[.int .i64 cn, .int .i64 cd]] w (RetFB w P2 Q2 F2)))
    (D8 : Hid (F1 = true → F2 = true → 0 < cn → ∀ w : World, Calls Tryd.prog 22 #[.agg #[.int .i64 P1, .int .i64 Q1], .agg #[.int .i64 P2, .int .i64 Q2]] w (RetI w k)))
    (CS : Hid (VB = true → ∀ w : World, Calls Tryd.prog 16 #[.agg #[.int .i64 an, .int .i64 ad], .agg #[.int .i64 bn, .int .i64 bd]] w (RetFB w S1 S2 SB)))
    (HS : Hid (SB = true → (S1 < 0 ↔ k < 0) ∧ (0 < S1 ↔ 0 < k))) :
    Calls Tryd.prog 7 #[.agg #[.int .i64 an, .int .i64 ad], .agg #[.int .i64 bn, .int .i64 bd], .agg #[.int .i64 cn, .int .i64 cd]] w (RetB w true) := by
  have GG := Lib.hid G
  clear G
  obtain ⟨pa, pb, pc, f0⟩ := box3 w an ad bn bd cn cd 23 rfl
  go_enter Tryd.func7, Tryd.ntmps7
  go_wp2_with fail
  generalize ((w.alloc (.cells #[.int .i64 an, .int .i64 ad] 23)).alloc (.cells #[.int .i64 bn, .int .i64 bd] 23)).alloc (.cells #[.int .i64 cn, .int .i64 cd] 23) = v0 at *
  go_at_call 22; refine (C1.out _).mono ?_; rintro e1 w1 ⟨rfl, h⟩
  replace pa := pa.on h
  replace pb := pb.on h
  replace pc := pc.on h
  replace f0 := f0.trans h
  clear h C1
  go_upto_region 2 with fail
  go_cut [42] from 15 to 41 (fun v wx => v = .bool false ∧ Fur w1 wx)
  case first =>
    clear CA CB HE C6 C7 C8 D6 D7 D8 CS HS
    have a0 := pa.c0
    have a1 := pa.c1
    have b0 := pb.c0
    have b1 := pb.c1
    go_wp2_with fail
    go_at_call 22; refine (C2.out _).mono ?_; rintro e2 w2 ⟨rfl, h2⟩
    clear a0 a1 b0 b1 C2
    replace pa := pa.on h2
    replace pb := pb.on h2
    replace pc := pc.on h2
    have a0 := pa.c0
    have a1 := pa.c1
    have wk : wrap64 k = k := IntWalk.wrap64_in k (by omega)
    go_wp2_with fail
    go_at_call 22; refine (C3.out _).mono ?_; rintro e3 w3 ⟨rfl, h3⟩
    clear a0 a1 C3
    replace pa := pa.on h3
    replace pb := pb.on h3
    replace pc := pc.on h3
    by_cases kn : k ≤ 0
    · have b0 := pb.c0
      have b1 := pb.c1
      have c0 := pc.c0
      have c1 := pc.c1
      go_wp2_with fail
      go_at_call 22; refine (C4.out _).mono ?_; rintro e4 w4 ⟨rfl, h4⟩
      clear b0 b1 c0 c1 C4
      replace pa := pa.on h4
      replace pc := pc.on h4
      by_cases ln : l ≤ 0
      · have mn := HM.out kn ln
        have a0 := pa.c0
        have a1 := pa.c1
        have c0 := pc.c0
        have c1 := pc.c1
        go_wp2_with fail
        go_at_call 22; refine (C5.out _).mono ?_; rintro e5 w5 ⟨rfl, h5⟩
        have mp : ¬ 0 < m := by omega
        go_wp2_with fail
        go_meet
        exact ⟨by first | rfl | exact congrArg Value.bool (decide_eq_false (by omega)), h2.trans (h3.trans (h4.trans h5))⟩
      · go_wp2_with fail
        go_meet
        exact ⟨rfl, h2.trans (h3.trans h4)⟩
    · go_wp2_with fail
      go_meet
      exact ⟨rfl, h2.trans h3⟩
  case rest =>
    obtain ⟨rfl, h⟩ := hcut
    replace pa := pa.on h
    replace pb := pb.on h
    replace pc := pc.on h
    replace f0 := f0.trans h
    clear h C2 C3 C4 C5 HM
    have a0 := pa.c0
    have a1 := pa.c1
    go_wp2_with fail
    go_at_call 11; refine (CA.out _).mono ?_; rintro e2 w2 ⟨rfl, h⟩
    clear a0 a1 CA
    replace pa := pa.on h
    replace pb := pb.on h
    replace pc := pc.on h
    replace f0 := f0.trans h
    clear h
    cases VA
    · clear CB HE C6 C7 C8 D6 D7 D8 CS HS pa pb pc
      go_wp2_with fail
      go_at_call 13; refine (lives_any _ (GG.out.on f0)).mono ?_; rintro e3 w3 ⟨rfl, h⟩
      go_wp2
      go_ret
      exact ⟨rfl, f0.trans h⟩
    have b0 := pb.c0
    have b1 := pb.c1
    go_wp2_with fail
    go_at_call 11; refine (CB.out _).mono ?_; rintro e3 w3 ⟨rfl, h⟩
    clear b0 b1 CB
    replace pa := pa.on h
    replace pb := pb.on h
    replace pc := pc.on h
    replace f0 := f0.trans h
    clear h
    cases VB
    · clear HE C6 C7 C8 D6 D7 D8 CS HS pa pb pc
      go_wp2_with fail
      go_at_call 13; refine (lives_any _ (GG.out.on f0)).mono ?_; rintro e4 w4 ⟨rfl, h⟩
      go_wp2
      go_ret
      exact ⟨rfl, f0.trans h⟩
    have HE' := Lib.hid (HE.out (by simp) (by simp))
    have CS' := Lib.hid (CS.out (by simp))
    clear HE CS
    go_upto_region 6 with fail
    go_cut [57] from 52 to 56 (fun v wx => v = .bool false ∧ Fur w3 wx)
    case first =>
      clear C6 C7 C8 D6 D7 D8 CS' HS
      have HX := HE'.out
      clear HE'
      have a0 := pa.c0
      have a1 := pa.c1
      have b0 := pb.c0
      have b1 := pb.c1
      by_cases hk : k = 0
      · obtain ⟨rfl, rfl⟩ := HX.1 hk
        subst hk
        clear HX
        go_wp2_with fail
        go_meet
        exact ⟨rfl, Fur.refl _⟩
      · have kb : (k == 0) = false := by rw [beq_eq_false_iff_ne]; exact hk
        have hx : ¬ (an = bn ∧ ad = bd) := fun t => hk (HX.2 t)
        clear HX hk
        by_cases hn : an = bn
        · subst hn
          have hd : (ad == bd) = false := by rw [beq_eq_false_iff_ne]; exact fun t => hx ⟨rfl, t⟩
          clear hx
          go_wp2_with fail
          go_meet
          exact ⟨rfl, Fur.refl _⟩
        · have hd : (an == bn) = false := by rw [beq_eq_false_iff_ne]; exact hn
          clear hx hn
          go_wp2_with fail
          go_meet
          exact ⟨rfl, Fur.refl _⟩
    case rest =>
      obtain ⟨rfl, h⟩ := hcut
      replace pa := pa.on h
      replace pb := pb.on h
      replace pc := pc.on h
      replace f0 := f0.trans h
      clear h HE'
      have a0 := pa.c0
      have a1 := pa.c1
      have c0 := pc.c0
      have c1 := pc.c1
      go_wp2_with fail
      go_at_call 14; refine (C6.out _).mono ?_; rintro e4 w4 ⟨rfl, h⟩
      clear a0 a1 c0 c1 C6
      replace pa := pa.on h
      replace pb := pb.on h
      replace pc := pc.on h
      replace f0 := f0.trans h
      clear h
      go_upto_region 9 with fail
      have la := pa.lt
      have lb := pb.lt
      have lc := pc.lt
      have sx := f0.size
      obtain ⟨px, h⟩ := box1 w4 N1 D1
      replace pa := pa.on h
      replace pb := pb.on h
      replace pc := pc.on h
      replace f0 := f0.trans h
      clear h
      generalize w4.alloc (.cells #[.int .i64 N1, .int .i64 D1] 23) = v4 at *
      have b0 := pb.c0
      have b1 := pb.c1
      have c0 := pc.c0
      have c1 := pc.c1
      go_wp2_with fail
      go_at_call 14; refine (C7.out _).mono ?_; rintro e5 w5 ⟨rfl, h⟩
      clear b0 b1 c0 c1 C7
      replace pa := pa.on h
      replace pb := pb.on h
      replace pc := pc.on h
      replace px := px.on h
      replace f0 := f0.trans h
      clear h
      go_upto_region 10 with fail
      have ma := pa.lt
      have mb := pb.lt
      have mc := pc.lt
      have mx := px.lt
      have sy := f0.size
      obtain ⟨py, h⟩ := box1 w5 N2 D2
      replace pa := pa.on h
      replace pb := pb.on h
      replace pc := pc.on h
      replace px := px.on h
      replace f0 := f0.trans h
      clear h
      generalize w5.alloc (.cells #[.int .i64 N2, .int .i64 D2] 23) = v5 at *
      go_cut [80] from 70 to 79 (fun v wx => v = .bool false ∧ Fur v5 wx)
      case first =>
        clear D6 D7 D8 CS' HS
        have x0 := px.c0
        have x1 := px.c1
        have y0 := py.c0
        have y1 := py.c1
        cases E1
        · go_wp2_with fail
          go_meet
          exact ⟨rfl, Fur.refl _⟩
        cases E2
        · go_wp2_with fail
          go_meet
          exact ⟨rfl, Fur.refl _⟩
        go_wp2_with fail
        go_at_call 22; refine (C8.out (by simp) (by simp) _).mono ?_; rintro e6 w6 ⟨rfl, h⟩
        go_wp2_with fail
        go_meet
        exact ⟨rfl, h⟩
      case rest =>
        obtain ⟨rfl, h⟩ := hcut
        replace pa := pa.on h
        replace pb := pb.on h
        replace pc := pc.on h
        replace px := px.on h
        replace py := py.on h
        replace f0 := f0.trans h
        clear h C8
        have a0 := pa.c0
        have a1 := pa.c1
        have c0 := pc.c0
        have c1 := pc.c1
        go_wp2_with fail
        go_at_call 18; refine (D6.out _).mono ?_; rintro e6 w6 ⟨rfl, h⟩
        clear a0 a1 c0 c1 D6
        replace pa := pa.on h
        replace pb := pb.on h
        replace pc := pc.on h
        replace px := px.on h
        replace py := py.on h
        replace f0 := f0.trans h
        clear h
        have x0 := px.c0
        have x1 := px.c1
        have zx0 := px.f0 0
        have zx1 := px.f0 1
        go_upto_region 13 with fail
        clear x0 x1 zx0 zx1
        replace f0 := fur_put f0 (B := w4.heap.size) sx (.int .i64 P1) (.int .i64 Q1)
        replace pa := pa.other (B' := w4.heap.size) (by omega) (.int .i64 P1) (.int .i64 Q1)
        replace pb := pb.other (B' := w4.heap.size) (by omega) (.int .i64 P1) (.int .i64 Q1)
        replace pc := pc.other (B' := w4.heap.size) (by omega) (.int .i64 P1) (.int .i64 Q1)
        replace py := py.other (B' := w4.heap.size) (by omega) (.int .i64 P1) (.int .i64 Q1)
        replace px := px.put P1 Q1
        generalize (w6.setCell ⟨w4.heap.size, 0, none⟩ (.int .i64 P1)).setCell ⟨w4.heap.size, 1, none⟩ (.int .i64 Q1) = v6 at *
        have b0 := pb.c0
        have b1 := pb.c1
        have c0 := pc.c0
        have c1 := pc.c1
        go_wp2_with fail
        go_at_call 18; refine (D7.out _).mono ?_; rintro e7 w7 ⟨rfl, h⟩
        clear b0 b1 c0 c1 D7
        replace pa := pa.on h
        replace pb := pb.on h
        replace pc := pc.on h
        replace px := px.on h
        replace py := py.on h
        replace f0 := f0.trans h
        clear h
        have y0 := py.c0
        have y1 := py.c1
        have zy0 := py.f0 0
        have zy1 := py.f0 1
        go_upto_region 14 with fail
        clear y0 y1 zy0 zy1
        replace f0 := fur_put f0 (B := w5.heap.size) sy (.int .i64 P2) (.int .i64 Q2)
        replace pa := pa.other (B' := w5.heap.size) (by omega) (.int .i64 P2) (.int .i64 Q2)
        replace pb := pb.other (B' := w5.heap.size) (by omega) (.int .i64 P2) (.int .i64 Q2)
        replace pc := pc.other (B' := w5.heap.size) (by omega) (.int .i64 P2) (.int .i64 Q2)
        replace px := px.other (B' := w5.heap.size) (by omega) (.int .i64 P2) (.int .i64 Q2)
        replace py := py.put P2 Q2
        generalize (w7.setCell ⟨w5.heap.size, 0, none⟩ (.int .i64 P2)).setCell ⟨w5.heap.size, 1, none⟩ (.int .i64 Q2) = v7 at *
        go_cut [108] from 93 to 107 (fun v wx => v = .bool false ∧ Fur v7 wx)
        case first =>
          clear CS' HS
          have x0 := px.c0
          have x1 := px.c1
          have y0 := py.c0
          have y1 := py.c1
          have c0 := pc.c0
          have c1 := pc.c1
          cases F1
          · go_wp2_with fail
            go_meet
            exact ⟨rfl, Fur.refl _⟩
          cases F2
          · go_wp2_with fail
            go_meet
            exact ⟨rfl, Fur.refl _⟩
          by_cases hc : 0 < cn
          · go_wp2_with fail
            go_at_call 22; refine (D8.out (by simp) (by simp) hc _).mono ?_; rintro e8 w8 ⟨rfl, h⟩
            go_wp2_with fail
            go_meet
            exact ⟨rfl, h⟩
          · go_wp2_with fail
            go_meet
            exact ⟨rfl, Fur.refl _⟩
        case rest =>
          obtain ⟨rfl, h⟩ := hcut
          replace pa := pa.on h
          replace pb := pb.on h
          replace px := px.on h
          replace f0 := f0.trans h
          clear h D8 pc py
          have a0 := pa.c0
          have a1 := pa.c1
          have b0 := pb.c0
          have b1 := pb.c1
          go_wp2_with fail
          go_at_call 16; refine (CS'.out _).mono ?_; rintro e8 w8 ⟨rfl, h⟩
          clear a0 a1 b0 b1 CS' pa pb
          replace px := px.on h
          replace f0 := f0.trans h
          clear h
          have x0 := px.c0
          have x1 := px.c1
          have zx0 := px.f0 0
          have zx1 := px.f0 1
          go_upto_region 17 with fail
          clear x0 x1 zx0 zx1
          replace f0 := fur_put f0 (B := w4.heap.size) sx (.int .i64 S1) (.int .i64 S2)
          replace px := px.put S1 S2
          generalize (w8.setCell ⟨w4.heap.size, 0, none⟩ (.int .i64 S1)).setCell ⟨w4.heap.size, 1, none⟩ (.int .i64 S2) = v8 at *
          have x0 := px.c0
          have x1 := px.c1
          clear la lb lc ma mb mc mx
          cases SB
          · clear HS px
            go_wp2_with fail
            go_at_call 13; refine (lives_any _ (GG.out.on f0)).mono ?_; rintro e9 w9 ⟨rfl, h⟩
            go_wp2
            go_ret
            exact ⟨rfl, f0.trans h⟩
          · obtain ⟨t1, t2⟩ := HS.out (by simp)
            have T1 : (decide (S1 < 0) == decide (k < 0)) = true := by simp [t1]
            have T2 : (decide (0 < S1) == decide (0 < k)) = true := by simp [t2]
            clear HS px t1 t2
            go_wp2_with fail
            go_at_call 13; refine (lives_any _ (GG.out.on f0)).mono ?_; rintro e9 w9 ⟨rfl, h⟩
            go_wp2
            go_ret
            exact ⟨rfl, f0.trans h⟩

theorem k_bound (x y : Rat) : -1 ≤ cmpQ x y ∧ cmpQ x y ≤ 1 := by
  have := cmp_three x y
  omega
theorem order_any (an ad bn bd cn cd : Int) (w : World) (G : Good w) :
    Calls Tryd.prog 7 #[.agg #[.int .i64 an, .int .i64 ad], .agg #[.int .i64 bn, .int .i64 bd], .agg #[.int .i64 cn, .int .i64 cd]] w (RetB w true) := by
  have kb := k_bound (fz an ad) (fz bn bd)
  refine order_core an ad bn bd cn cd (cmpQ (fz an ad) (fz bn bd)) (cmpQ (fz bn bd) (fz cn cd)) (cmpQ (fz an ad) (fz cn cd)) _ _ _ _ _ _ _ _ (rN (subO an ad bn bd)) (rD (subO an ad bn bd)) (okF an ad) (okF bn bd) _ _ _ _ _ w G kb.1 kb.2
    (Lib.hid fun w => nf_cmp an ad bn bd w) (Lib.hid fun w => ?_) (Lib.hid fun w => ?_) (Lib.hid fun w => nf_cmp bn bd cn cd w) (Lib.hid fun w => nf_cmp an ad cn cd w) (Lib.hid fun h k => cmp_trans h k)
    (Lib.hid fun w => nf_valid an ad w) (Lib.hid fun w => nf_valid bn bd w) (Lib.hid fun h k => cmp_eq h k)
    (Lib.hid fun w => nf_add an ad cn cd w) (Lib.hid fun w => nf_add bn bd cn cd w) (Lib.hid fun h k w => ?_)
    (Lib.hid fun w => nf_mul an ad cn cd w) (Lib.hid fun w => nf_mul bn bd cn cd w) (Lib.hid fun h k l w => ?_)
    (Lib.hid fun h w => ?_) (Lib.hid fun h => cmp_subs h)
  · rw [← cmp_swap]; exact nf_cmp bn bd an ad w
  · have k := nf_cmp an ad an ad w
    rw [cmp_self] at k
    exact k
  · rw [← cmp_adds h k]; exact nf_cmp _ _ _ _ w
  · rw [← cmp_muls h k l]; exact nf_cmp _ _ _ _ w
  · have o := okF_t h
    have := o.n1; have := o.n2
    exact nf_sub an ad bn bd (by omega) (by omega) w
end Go.Proofs.YtdkmfhlmeildmaaDoor
