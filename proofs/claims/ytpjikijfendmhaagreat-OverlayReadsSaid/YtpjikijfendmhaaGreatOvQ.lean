
/-
  Package overlay: Delete. Nothing that was there turns.
-/
import Derived.Test.YtpjikijfendmhaaGreatOvP
namespace Go.Proofs.YtpjikijfendmhaaGreat
open Go.RowKit

/-- What a deletion needs to know of an edge that no inserted entry has. -/
theorem del_dels {o : Ov} {n : Int} (hc : (edg (entO o)).contains n = true) (ha : (edg o.ads).contains n = false) : o.dls.contains n = false := by
  rw [contains_false]
  intro h
  have h1 : n ∈ edg (entO o) := by simpa using hc
  obtain ⟨x, hx, rfl⟩ := List.mem_map.1 h1
  unfold entO at hx
  rcases List.mem_append.1 hx with k | k
  · have := (List.mem_filter.1 k).2
    rw [Bool.not_eq_true', contains_false] at this
    exact this h
  · exact contains_false.1 ha (edg_mem k)
theorem ads_nd {o : Ov} (h : valO o = true) : (edg o.ads).Nodup := by
  have hnd := (valO_iff.1 h).n
  unfold entO edg at hnd
  rw [List.map_append] at hnd
  exact (List.nodup_append.1 hnd).2.1
set_option maxHeartbeats 25600000 in
set_option maxRecDepth 100000 in
theorem delo_any (o : Ov) (A : OA) (n : Int) (w : World) (hO : OIn w o A) (ht : Tiny o) (hn64 : I64 n) : Calls Tryz.prog 23 #[ovv o A, .int .i64 n] w (RetO w (delV o n)) := by
  obtain ⟨w1, hw1⟩ : ∃ w1, w.alloc (.cells (ovC o A) 27) = w1 := ⟨_, rfl⟩
  obtain ⟨w2, hw2⟩ : ∃ w2, w1.alloc (.cells #[.slice none 0 0, .slice none 0 0, .slice none 0 0, .slice none 0 0, .slice none 0 0, .slice none 0 0] 27) = w2 := ⟨_, rfl⟩
  have F1 := Lib.hid (show Fuw w w1 by rw [← hw1]; exact fuwA _ _)
  have F2 := Lib.hid (show Fuw w1 w2 by rw [← hw2]; exact fuwA _ _)
  have FW := Lib.hid (show Fuw w w2 from F1.out.trans F2.out)
  have BO := Lib.hid (show OB w2 w.heap.size o A from (show OB w1 w.heap.size o A from ⟨by rw [← hw1]; exact Bk.new _ _ _⟩).on F2.out)
  have BR := Lib.hid (show Bk w2 w1.heap.size emV 27 by rw [← hw2]; exact Bk.new _ _ _)
  have HB := Lib.hid (show w.heap.size ≤ w1.heap.size from F1.out.size)
  have HB2 := Lib.hid (show w1.heap.size < w2.heap.size by rw [← hw2]; simp)
  have HO := Lib.hid (hO.on FW.out)
  have HI := Lib.hid hO.i64
  have HV := Lib.hid (fun w' (hf : Fuw w2 w') => valo_any o A w' (HO.out.on hf) ht.sm)
  have HEn := Lib.hid (fun w' (hf : Fuw w2 w') (h : valO o = true) => ento_any o A w' (HO.out.on hf) ht.sm (valO_iff.1 h).d)
  have HK := Lib.hid (fun h : valO o = true => entO_ok h)
  have HEI := Lib.hid (entO_i64 HO.out)
  have HCl := Lib.hid (fun w' (hf : Fuw w2 w') => cloneo_any o A w' (HO.out.on hf) ht)
  obtain ⟨R, hR⟩ : ∃ R, R = delV o n := ⟨_, rfl⟩
  have HR := Lib.hid (show R = if valO o = false then (emO, 19) else if (edg (entO o)).contains n = false then (emO, 11)
    else if (edg o.ads).contains n = true then (⟨o.c, dropJ o.ads n, o.dls⟩, 0) else (⟨o.c, o.ads, putI o.dls n⟩, 0) from hR)
  rw [← hR]
  have HT := Lib.hid ht
  have HN64 := Lib.hid hn64
  have o1 := (BO.out.on (Fuw.refl _)).c1; have o2 := (BO.out.on (Fuw.refl _)).c2; have o3 := (BO.out.on (Fuw.refl _)).c3; have o4 := (BO.out.on (Fuw.refl _)).c4; have o5 := (BO.out.on (Fuw.refl _)).c5; have o6 := (BO.out.on (Fuw.refl _)).c6
  unfold ovv at HV HEn HCl ⊢
  unfold ovC at hw1 HV HEn HCl ⊢
  unfold RetCl at HCl
  clear hO ht hR hn64
  obtain ⟨p1, hp1⟩ : ∃ p1, valO o = p1 := ⟨_, rfl⟩
  have HP1 := Lib.hid hp1
  have HV2 := Lib.hid (show ∀ w' (hf : Fuw w2 w'), Calls Tryz.prog 12 _ w' (FwB w' p1) from fun w' hf => by have := HV.out w' hf; rw [hp1] at this; exact this)
  rw [hp1] at HR
  clear hp1 HV
  obtain ⟨p3, hp3⟩ : ∃ p3, (edg (entO o)).contains n = p3 := ⟨_, rfl⟩
  have HP3 := Lib.hid hp3
  rw [hp3] at HR
  obtain ⟨p4, hp4⟩ : ∃ p4, (edg o.ads).contains n = p4 := ⟨_, rfl⟩
  have HP4 := Lib.hid hp4
  rw [hp4] at HR
  clear hp3 hp4
  go_enter Tryz.func23, Tryz.ntmps23
  go_upto_region 1 with fail
  clear hw1 hw2
  go_wp2_with fail
  go_at_call 12; refine (HV2.out _ (Fuw.refl _)).mono ?_; rintro e3 w3 ⟨rfl, f3⟩
  have F3 := Lib.hid f3
  clear f3 o1 o2 o3 o4 o5 o6
  cases p1 with
  | false =>
    have HZ := Lib.hid (show R = (emO, 19) by rw [HR.out]; simp)
    have E := BR.out.on F3.out
    unfold emV at E
    have q0 := E.c 0; have q1 := E.c 1; have q2 := E.c 2; have q3 := E.c 3; have q4 := E.c 4; have q5 := E.c 5
    have t0 := E.f 0; have t1 := E.f 1; have t2 := E.f 2; have t3 := E.f 3; have t4 := E.f 4; have t5 := E.f 5
    simp only [List.getElem?_toArray, List.getElem?_cons_zero, List.getElem?_cons_succ] at q0 q1 q2 q3 q4 q5
    have HE := Lib.hid E
    clear E
    go_wp2
    refine o_ret2 rfl rfl rfl (o := emO) (A := A0) ⟨(((((HE.out.set_ 0 (.slice none 0 0)).set_ 1 (.slice none 0 0)).set_ 2 (.slice none 0 0)).set_ 3 (.slice none 0 0)).set_ 4 (.slice none 0 0)).set_ 5 (.slice none 0 0)⟩ ?_
    rw [HZ.out]
    have hb := HB.out
    exact ⟨A0, rfl, em_in _, fuwS (fuwS (fuwS (fuwS (fuwS (fuwS (FW.out.trans F3.out) hb) hb) hb) hb) hb) hb⟩
  | true =>
    have o1 := (BO.out.on F3.out).c1; have o2 := (BO.out.on F3.out).c2; have o3 := (BO.out.on F3.out).c3; have o4 := (BO.out.on F3.out).c4; have o5 := (BO.out.on F3.out).c5; have o6 := (BO.out.on F3.out).c6
    have HL := Lib.hid (HK.out HP1.out)
    have HE4 := Lib.hid (fun w' (hf : Fuw w2 w') => HEn.out w' hf HP1.out)
    generalize keepD o.dls (entC o.c) ++ o.ads = L at *
    go_wp2_with fail
    go_at_call 28; refine (HE4.out _ F3.out).mono ?_; rintro x5 w5 ⟨v5, rfl, ho5, f5⟩
    obtain ⟨b5, c5, hv5, -, hs5⟩ := slJ_own ho5 HEI.out
    subst hv5
    have F5 := Lib.hid (F3.out.trans f5)
    have HX5 := Lib.hid (idxof_any L b5 c5 n w5 hs5)
    unfold RetPos at HX5
    clear ho5 hs5 f5 o1 o2 o3 o4 o5 o6
    go_wp2_with fail
    go_at_call 48; refine HX5.out.mono ?_; rintro x6 w6 ⟨k, rfl, hk, f6⟩
    have F6 := Lib.hid (F5.out.trans f6)
    have HPos := Lib.hid hk
    clear hk f6
    have HPk := Lib.hid (show (k < 0 ↔ p3 = false) from by
      have h3 := HP3.out
      rw [← HL.out] at h3
      rcases HPos.out with ⟨h1, h2⟩ | ⟨j, h1, h2, -, h4⟩
      · rw [h1] at h3; rw [h2, ← h3]; simp
      · rw [h4] at h3; rw [h2, ← h3]; simp)
    cases p3 with
    | false =>
      have hk0 : k < 0 := HPk.out.2 rfl
      have HZ := Lib.hid (show R = (emO, 11) by rw [HR.out]; simp)
      have E := BR.out.on F6.out
      unfold emV at E
      have q0 := E.c 0; have q1 := E.c 1; have q2 := E.c 2; have q3 := E.c 3; have q4 := E.c 4; have q5 := E.c 5
      have t0 := E.f 0; have t1 := E.f 1; have t2 := E.f 2; have t3 := E.f 3; have t4 := E.f 4; have t5 := E.f 5
      simp only [List.getElem?_toArray, List.getElem?_cons_zero, List.getElem?_cons_succ] at q0 q1 q2 q3 q4 q5
      have HE := Lib.hid E
      clear E
      go_wp2
      refine o_ret2 rfl rfl rfl (o := emO) (A := A0) ⟨(((((HE.out.set_ 0 (.slice none 0 0)).set_ 1 (.slice none 0 0)).set_ 2 (.slice none 0 0)).set_ 3 (.slice none 0 0)).set_ 4 (.slice none 0 0)).set_ 5 (.slice none 0 0)⟩ ?_
      rw [HZ.out]
      have hb := HB.out
      exact ⟨A0, rfl, em_in _, fuwS (fuwS (fuwS (fuwS (fuwS (fuwS (FW.out.trans F6.out) hb) hb) hb) hb) hb) hb⟩
    | true =>
      have hk0 : ¬ k < 0 := fun h => by have := HPk.out.1 h; cases this
      have o1 := (BO.out.on F6.out).c1; have o2 := (BO.out.on F6.out).c2; have o3 := (BO.out.on F6.out).c3; have o4 := (BO.out.on F6.out).c4; have o5 := (BO.out.on F6.out).c5; have o6 := (BO.out.on F6.out).c6
      go_wp2_with fail
      go_at_call 32; refine (HCl.out _ F6.out).mono ?_; rintro e7 w7 ⟨A', lo, m5, m6, rfl, how, hlo, f7⟩
      have F7 := Lib.hid (F6.out.trans f7)
      have HOw := Lib.hid how
      have HLo := Lib.hid (show w2.heap.size ≤ lo from Nat.le_trans F6.out.size hlo)
      clear how hlo f7 o1 o2 o3 o4 o5 o6
      unfold ovv ovC
      go_upto_region 6 with fail
      obtain ⟨w8, hw8⟩ : ∃ w8, w7.alloc (.cells (ovC o A') 27) = w8 := ⟨_, rfl⟩
      have F8 := Lib.hid (show Fuw w7 w8 by rw [← hw8]; exact fuwA _ _)
      have BX := Lib.hid (show OB w8 w7.heap.size o A' from ⟨by rw [← hw8]; exact Bk.new _ _ _⟩)
      have HOw8 := Lib.hid (HOw.out.on F8.out)
      have HIn8 := Lib.hid (HOw8.out.in_ HI.out)
      have F28 := Lib.hid (F7.out.trans F8.out)
      unfold ovC at hw8
      rw [hw8]
      have HX8 := Lib.hid (idxof_any o.ads A'.a5 A'.k5 n w8 HIn8.out.a)
      unfold RetPos at HX8
      have x5 := BX.out.c5
      clear hw8 hk0
      go_wp2_with fail
      go_at_call 48; refine HX8.out.mono ?_; rintro x10 w10 ⟨k2, rfl, hk2, f10⟩
      have F10 := Lib.hid f10
      have HPos2 := Lib.hid hk2
      clear hk2 f10 x5
      have HOw10 := Lib.hid (HOw8.out.on F10.out)
      have F210 := Lib.hid (F28.out.trans F10.out)
      have BX10 := Lib.hid (BX.out.on F10.out)
      have HX7 := Lib.hid (show w7.heap.size < w8.heap.size from BX.out.k.lt)
      cases p4 with
      | true =>
        have HZ := Lib.hid (show R = (⟨o.c, dropJ o.ads n, o.dls⟩, 0) by rw [HR.out]; simp)
        have HAt := Lib.hid (show ∃ (i : Nat) (h : i < o.ads.length), k2 = i ∧ o.ads[i].2.2 = n from by
          rcases HPos2.out with ⟨h1, -⟩ | ⟨j, h1, h2, h3, -⟩
          · rw [HP4.out] at h1; cases h1
          · exact ⟨j, h1, h2, h3⟩)
        obtain ⟨i, hil, rfl, hin⟩ := HAt.out
        have HIn := Lib.hid hin
        obtain ⟨g, cap, hg, -⟩ := own_pos HOw10.out.a.o (by omega)
        have HG := Lib.hid hg
        have HGb := Lib.hid (show m5 ≤ g ∧ g < m6 from ⟨(HOw10.out.a.o.lt g (by rw [HG.out]; rfl)).1, HOw10.out.a.h g (by rw [HG.out]; rfl)⟩)
        have HGc := Lib.hid (show A'.a5 = some ⟨g, 0, none⟩ ∧ A'.k5 = cap by have := HG.out; injection this with h1 h2 h3; exact ⟨h1, h3⟩)
        clear hg hin
        have HDel := Lib.hid (show Calls Tryz.prog 57 #[.slice A'.a5 o.ads.length A'.k5, .int .i64 (i : Int), .int .i64 ((i : Int) + 1)] w10 (RetDel w10 m5 42 3 g cap (o.ads.length - 1) ((aC o.ads).take (i * 3) ++ (aC o.ads).drop ((i + 1) * 3))) from by
          rw [HGc.out.1, HGc.out.2]
          have h := HOw10.out.a.o
          rw [HGc.out.1, HGc.out.2] at h
          exact delj_j h i (i + 1) rfl hil (one_adjs _))
        unfold RetDel at HDel
        have x5 := BX10.out.c5
        have hz1 : IntKind.i64.wrap ((i : Int) + 1) = (i : Int) + 1 := IntWalk.i64_in _ (by have := HT.out.a; omega)
        have hk0 : (0 : Int) ≤ (i : Int) := by omega
        go_wp2_with fail
        go_at_call 57; refine HDel.out.mono ?_; rintro e12 w12 ⟨rfl, o12, g12⟩
        have HND := Lib.hid (ads_nd HP1.out)
        have HList := Lib.hid (show (aC o.ads).take (i * 3) ++ (aC o.ads).drop ((i + 1) * 3) = aC (dropJ o.ads n) from by
          rw [aC_take, aC_drop, ← aC_app, dropJ_at HND.out hil, HIn.out])
        have HLen := Lib.hid (show o.ads.length - 1 = (dropJ o.ads n).length from by
          rw [← HIn.out, ← dropJ_at HND.out hil, List.length_append, List.length_take, List.length_drop]; omega)
        rw [HList.out, HLen.out] at o12
        have HO12 := Lib.hid o12
        have HG12 := Lib.hid g12
        have hl5 := HOw10.out.l5
        have hl6 := HOw10.out.l6
        have hlh := HOw10.out.lh
        have E := BX10.out.k.grown HG12.out (by have := HGb.out; intro e; cases e; omega)
        have ER := (BR.out.on F210.out).grown HG12.out (by have := HGb.out; have := HLo.out; have := HB2.out; intro e; cases e; omega)
        unfold ovC at E
        unfold emV at ER
        have HER := Lib.hid ER
        have y0 := E.c 0; have y1 := E.c 1; have y2 := E.c 2; have y3 := E.c 3; have y4 := E.c 4; have y5 := E.c 5
        have s4 := E.f 4
        have q0 := ER.c 0; have q1 := ER.c 1; have q2 := ER.c 2; have q3 := ER.c 3; have q4 := ER.c 4; have q5 := ER.c 5
        have t0 := ER.f 0; have t1 := ER.f 1; have t2 := ER.f 2; have t3 := ER.f 3; have t4 := ER.f 4; have t5 := ER.f 5
        simp only [List.getElem?_toArray, List.getElem?_cons_zero, List.getElem?_cons_succ] at y0 y1 y2 y3 y4 y5 q0 q1 q2 q3 q4 q5
        have hne : w7.heap.size ≠ w1.heap.size := by have := HB2.out; have := F7.out.size; omega
        have hne' : w1.heap.size ≠ w7.heap.size := fun e => hne e.symm
        clear E ER o12 g12 x5 hz1 hl5 hl6 hlh
        have OW := Lib.hid (show OwO w12 lo m5 m6 w7.heap.size ⟨o.c, dropJ o.ads n, o.dls⟩ ⟨A'.c, some ⟨g, 0, none⟩, A'.a6, cap, A'.k6⟩ from by
          have X := HOw10.out
          have h6 := HGb.out
          exact ⟨X.n.keep HG12.out (fun k e => by cases e; right; omega), X.f.keep HG12.out (fun k e => by cases e; right; omega), X.t.keep HG12.out (fun k e => by cases e; right; omega), X.e.keep HG12.out (fun k e => by cases e; right; omega), ⟨HO12.out, fun k e => by cases e; exact HGb.out.2⟩, X.d.keep HG12.out (fun k e => by cases e; left; omega), X.l5, X.l6, X.lh⟩)
        have FW12 := Lib.hid (show Fuw w w12 from Below.grown (FW.out.trans F210.out) HG12.out ((FW.out.trans F210.out).size) (fun k e => by cases e; have := HGb.out; have := HOw10.out.l5; have := HLo.out; have := FW.out.size; omega))
        rw [HLen.out]
        go_wp2
        have BF := (((((HER.out.far (p := ⟨w7.heap.size, 4, none⟩) hne' (.slice (some ⟨g, 0, none⟩) (dropJ o.ads n).length cap)).set_ 0 (.slice A'.c.a1 o.c.ns.length A'.c.k1)).set_ 1 (.slice A'.c.a2 o.c.fs.length A'.c.k2)).set_ 2 (.slice A'.c.a3 o.c.ts.length A'.c.k3)).set_ 3 (.slice A'.c.a4 o.c.es.length A'.c.k4))
        refine o_ret2 rfl rfl rfl (o := ⟨o.c, dropJ o.ads n, o.dls⟩) (A := ⟨A'.c, some ⟨g, 0, none⟩, A'.a6, cap, A'.k6⟩) ⟨(BF.set_ 4 (.slice (some ⟨g, 0, none⟩) (dropJ o.ads n).length cap)).set_ 5 (.slice A'.a6 o.dls.length A'.k6)⟩ ?_
        rw [HZ.out]
        have hb := HB.out
        refine ⟨⟨A'.c, some ⟨g, 0, none⟩, A'.a6, cap, A'.k6⟩, rfl, ?_, fuwS (fuwS (fuwS (fuwS (fuwS (fuwS (fuwS FW12.out (Nat.le_trans FW.out.size F7.out.size)) hb) hb) hb) hb) hb) hb⟩
        have I2 : I64O ⟨o.c, dropJ o.ads n, o.dls⟩ := ⟨HI.out.n, HI.out.f, HI.out.t, HI.out.e, fun x hx => HI.out.a x (List.mem_filter.1 hx).1, HI.out.d⟩
        have O1 := OW.out.keep (grown_set w12 w7.heap.size 4 (.slice (some ⟨g, 0, none⟩) (dropJ o.ads n).length cap)) (fun k e => by cases e; right; exact Nat.le_refl _)
        exact (O1.keep (g := some w1.heap.size) (grown_trans (grown_trans (grown_trans (grown_trans (grown_trans (grown_set _ _ _ _) (grown_set _ _ _ _)) (grown_set _ _ _ _)) (grown_set _ _ _ _)) (grown_set _ _ _ _)) (grown_set _ _ _ _)) (fun k e => by cases e; left; have := HB2.out; have := HLo.out; omega)).in_ I2
      | false =>
        have HZ := Lib.hid (show R = (⟨o.c, o.ads, putI o.dls n⟩, 0) by rw [HR.out]; simp)
        have HK2 := Lib.hid (show k2 = -1 from by
          rcases HPos2.out with ⟨-, h2⟩ | ⟨j, h1, h2, h3, h4⟩
          · exact h2
          · rw [HP4.out] at h4; cases h4)
        have hk0 : ¬ 0 ≤ k2 := by have := HK2.out; omega
        have HDc := Lib.hid (del_dels HP3.out HP4.out)
        have HDi := Lib.hid (valO_iff.1 HP1.out).d
        have HBs := Lib.hid (bs_any o.dls A'.a6 A'.k6 n w10 (HOw10.out.in_ HI.out).d HDi.out (HT.out.sm.d))
        unfold RetBs at HBs
        have HPut := Lib.hid (putI_at HDi.out HDc.out)
        have HCo := Lib.hid (show o.dls.countP (fun y => decide (y < n)) ≤ o.dls.length from List.countP_le_length)
        obtain ⟨i, hi⟩ : ∃ i, i = o.dls.countP fun y => decide (y < n) := ⟨_, rfl⟩
        rw [← hi] at HBs HPut HCo
        clear hi
        have hil := HCo.out
        generalize o.dls.contains n = qq at HBs
        have x6 := BX10.out.c6
        go_wp2_with fail
        go_at_call 51; refine HBs.out.mono ?_; rintro e11 w11 ⟨rfl, hd11⟩
        have F11 := Lib.hid (quF hd11)
        clear hd11 x6
        have F211 := Lib.hid (F210.out.trans F11.out)
        have BX11 := Lib.hid (BX10.out.on F11.out)
        have HOw11 := Lib.hid (HOw10.out.on F11.out)
        have HIns := Lib.hid (show Calls Tryz.prog 58 #[.slice A'.a6 o.dls.length A'.k6, .int .i64 (i : Int), .slice (some ⟨w11.heap.size, 0, none⟩) 1 1] (w11.alloc (.cells #[.int .i64 n] 3)) (RetIns (w11.alloc (.cells #[.int .i64 n] 3)) m6 3 1 (.slice A'.a6 o.dls.length A'.k6) (o.dls.length + 1) ((cs o.dls).take (i * 1) ++ [.int .i64 n] ++ (cs o.dls).drop (i * 1))) from by
          have h := (HOw11.out.d.on (fuwA w11 (.cells #[.int .i64 n] 3)))
          refine ins_i h.o i hil (HT.out.d) ?_ (vb := w11.heap.size) (news := [.int .i64 n]) (Bk.new _ _ _) rfl ?_ (cs_one _) (one_int n)
          · have := HOw11.out.lh; have := (F8.out.trans (F10.out.trans F11.out)).size
            simp; omega
          · intro e
            have := h.h _ e
            have := (F8.out.trans (F10.out.trans F11.out)).size
            omega)
        unfold RetIns at HIns
        have x6 := BX11.out.c6
        go_wp2_with fail
        go_at_call 58; refine HIns.out.mono ?_; rintro e12 w12 ⟨v', rfl, o12, g12, hat⟩
        obtain ⟨b', c', hv'⟩ := own_form o12
        subst hv'
        have HList := Lib.hid (show (cs o.dls).take (i * 1) ++ [.int .i64 n] ++ (cs o.dls).drop (i * 1) = cs (putI o.dls n) from by
          rw [cs_take, cs_drop, show [Value.int .i64 n] = cs [n] from rfl, ← cs_app, ← cs_app, HPut.out])
        have HLen := Lib.hid (show o.dls.length + 1 = (putI o.dls n).length from ((putI_perm n o.dls).length_eq).symm)
        rw [HList.out, HLen.out] at o12
        rw [HLen.out] at hat
        have HO12 := Lib.hid o12
        have HG12 := Lib.hid g12
        have HAt := Lib.hid hat
        obtain ⟨W, hW⟩ : ∃ W, W = w11.alloc (.cells #[.int .i64 n] 3) := ⟨_, rfl⟩
        have FWW := Lib.hid (show Fuw w11 W by rw [hW]; exact fuwA _ _)
        rw [← hW] at HG12 HAt
        have HOW := Lib.hid (HOw11.out.on FWW.out)
        have HQ := Lib.hid (show ∀ k, (Value.slice A'.a6 o.dls.length A'.k6).ownBlock = some k → m6 ≤ k ∧ k < w7.heap.size from fun k e => ⟨(HOW.out.d.o.lt k e).1, HOW.out.d.h k e⟩)
        have HS7 := Lib.hid (show m6 ≤ w7.heap.size ∧ w7.heap.size < w11.heap.size ∧ w11.heap.size ≤ W.heap.size ∧ w1.heap.size < lo ∧ w1.heap.size < w7.heap.size ∧ lo ≤ m5 ∧ m5 ≤ m6 from by
          have h1 := HOw11.out.lh; have h2 := HX7.out; have h3 := (F10.out.trans F11.out).size; have h4 := HLo.out; have h5 := HB2.out; have h6 := HOw11.out.l5; have h7 := HOw11.out.l6; have h8 := FWW.out.size
          refine ⟨h1, by omega, h8, by omega, by omega, h6, h7⟩)
        have E := (BX11.out.on FWW.out).k.grown HG12.out (fun e => by have := HQ.out _ e.symm; have := HS7.out; omega)
        have ER := (BR.out.on (F211.out.trans FWW.out)).grown HG12.out (fun e => by have := HQ.out _ e.symm; have := HS7.out; omega)
        unfold ovC at E
        unfold emV at ER
        have HER := Lib.hid ER
        have y0 := E.c 0; have y1 := E.c 1; have y2 := E.c 2; have y3 := E.c 3; have y4 := E.c 4; have y5 := E.c 5
        have s5 := E.f 5
        have q0 := ER.c 0; have q1 := ER.c 1; have q2 := ER.c 2; have q3 := ER.c 3; have q4 := ER.c 4; have q5 := ER.c 5
        have t0 := ER.f 0; have t1 := ER.f 1; have t2 := ER.f 2; have t3 := ER.f 3; have t4 := ER.f 4; have t5 := ER.f 5
        simp only [List.getElem?_toArray, List.getElem?_cons_zero, List.getElem?_cons_succ] at y0 y1 y2 y3 y4 y5 q0 q1 q2 q3 q4 q5
        have hne : w7.heap.size ≠ w1.heap.size := by have := HS7.out; omega
        have hne' : w1.heap.size ≠ w7.heap.size := fun e => hne e.symm
        clear E ER o12 g12 hat hW x6
        have HCol := Lib.hid (show Ow w12 lo m5 3 1 (.slice A'.c.a1 o.c.ns.length A'.c.k1) o.c.ns.length (cs o.c.ns) ∧ Ow w12 lo m5 3 1 (.slice A'.c.a2 o.c.fs.length A'.c.k2) o.c.fs.length (cs o.c.fs) ∧ Ow w12 lo m5 3 1 (.slice A'.c.a3 o.c.ts.length A'.c.k3) o.c.ts.length (cs o.c.ts) ∧ Ow w12 lo m5 3 1 (.slice A'.c.a4 o.c.es.length A'.c.k4) o.c.es.length (cs o.c.es) ∧ Ow w12 m5 m6 42 3 (.slice A'.a5 o.ads.length A'.k5) o.ads.length (aC o.ads) from by
          have X := HOW.out
          have Y := HS7.out
          exact ⟨X.n.keep HG12.out (fun k e => by have := HQ.out k e; right; omega), X.f.keep HG12.out (fun k e => by have := HQ.out k e; right; omega), X.t.keep HG12.out (fun k e => by have := HQ.out k e; right; omega), X.e.keep HG12.out (fun k e => by have := HQ.out k e; right; omega), X.a.keep HG12.out (fun k e => by have := HQ.out k e; right; omega)⟩)
        have HNb := Lib.hid (show ∀ k, (Value.slice b' (putI o.dls n).length c').ownBlock = some k → k ≠ w7.heap.size ∧ k ≠ w1.heap.size from fun k e => by
          have h0 := HS7.out
          rcases HAt.out with h | h
          · rw [h] at e; have := HQ.out k e; omega
          · have := h k e; omega)
        have FW12 := Lib.hid (show Fuw w w12 from Below.grown (FW.out.trans (F211.out.trans FWW.out)) HG12.out ((FW.out.trans (F211.out.trans FWW.out)).size) (fun k e => by have := HQ.out k e; have := HS7.out; have := HLo.out; have := FW.out.size; omega))
        rw [HLen.out]
        go_wp2
        have BF := (((((HER.out.far (p := ⟨w7.heap.size, 5, none⟩) hne' (.slice b' (putI o.dls n).length c')).set_ 0 (.slice A'.c.a1 o.c.ns.length A'.c.k1)).set_ 1 (.slice A'.c.a2 o.c.fs.length A'.c.k2)).set_ 2 (.slice A'.c.a3 o.c.ts.length A'.c.k3)).set_ 3 (.slice A'.c.a4 o.c.es.length A'.c.k4))
        refine o_ret2 rfl rfl rfl (o := ⟨o.c, o.ads, putI o.dls n⟩) (A := ⟨A'.c, A'.a5, b', A'.k5, c'⟩) ⟨(BF.set_ 4 (.slice A'.a5 o.ads.length A'.k5)).set_ 5 (.slice b' (putI o.dls n).length c')⟩ ?_
        rw [HZ.out]
        have hb := HB.out
        refine ⟨⟨A'.c, A'.a5, b', A'.k5, c'⟩, rfl, ?_, fuwS (fuwS (fuwS (fuwS (fuwS (fuwS (fuwS FW12.out (Nat.le_trans FW.out.size F7.out.size)) hb) hb) hb) hb) hb) hb⟩
        have g1 := grown_set w12 w7.heap.size 5 (.slice b' (putI o.dls n).length c')
        have hh := HS7.out
        obtain ⟨c1, c2, c3, c4, c5⟩ := HCol.out
        have k1 : ∀ k, some w7.heap.size = some k → k < lo ∨ m5 ≤ k := fun k e => by cases e; right; omega
        have k2 : ∀ k, some w1.heap.size = some k → k < lo ∨ m5 ≤ k := fun k e => by cases e; left; omega
        have g2 := (grown_trans (grown_trans (grown_trans (grown_trans (grown_trans (grown_set (w12.setCell ⟨w7.heap.size, 5, none⟩ (.slice b' (putI o.dls n).length c')) w1.heap.size 0 (.slice A'.c.a1 o.c.ns.length A'.c.k1)) (grown_set _ _ 1 (.slice A'.c.a2 o.c.fs.length A'.c.k2))) (grown_set _ _ 2 (.slice A'.c.a3 o.c.ts.length A'.c.k3))) (grown_set _ _ 3 (.slice A'.c.a4 o.c.es.length A'.c.k4))) (grown_set _ _ 4 (.slice A'.a5 o.ads.length A'.k5))) (grown_set _ _ 5 (.slice b' (putI o.dls n).length c')))
        have I := HI.out
        have hdls : ∀ x ∈ putI o.dls n, I64 x := fun x hx => by
          rcases List.mem_cons.1 ((putI_perm n o.dls).mem_iff.1 hx) with e | k
          · subst e; exact HN64.out
          · exact I.d x k
        have oA := (HO12.out.kept g1 (by
          cases e : (Value.slice b' (putI o.dls n).length c').ownBlock with
          | none => exact .inl rfl
          | some k => right; intro h; have := (HNb.out k e).1; injection h; omega)).kept g2 (by
          cases e : (Value.slice b' (putI o.dls n).length c').ownBlock with
          | none => exact .inl rfl
          | some k => right; intro h; have := (HNb.out k e).2; injection h; omega)
        obtain ⟨ba, ca, ea, -, hsa⟩ := slI_own oA hdls
        cases ea
        exact ⟨⟨slI_of ((c1.keep g1 k1).keep g2 k2) I.n, slI_of ((c2.keep g1 k1).keep g2 k2) I.f, slI_of ((c3.keep g1 k1).keep g2 k2) I.t, slI_of ((c4.keep g1 k1).keep g2 k2) I.e⟩, slJ_of ((c5.keep g1 (fun k e => by cases e; right; omega)).keep g2 (fun k e => by cases e; left; omega)) I.a, hsa⟩
end Go.Proofs.YtpjikijfendmhaaGreat
