
/-
  Package overlay: Row, Compact. Nothing that was there turns.
-/
import Derived.Test.YtpjikijfendmhaaGreatCoP
namespace Go.Proofs.YtpjikijfendmhaaGreat
open Go.RowKit

def rowF (n : Int) (l : List Aj) : List Aj := l.filter fun x => decide (x.1 = n)
theorem rowF_snoc {n : Int} {l : List Aj} {i : Nat} (h : i < l.length) : rowF n (l.take (i + 1)) = rowF n (l.take i) ++ if l[i].1 = n then [l[i]] else [] := by
  unfold rowF
  rw [List.take_succ_eq_append_getElem h, List.filter_append]
  congr 1
  by_cases g : l[i].1 = n
  · rw [if_pos g, List.filter_cons_of_pos (by simpa using g)]; rfl
  · rw [if_neg g, List.filter_cons_of_neg (by simpa using g)]; rfl
theorem rowF_len (n : Int) (l : List Aj) : (rowF n l).length ≤ l.length := List.length_filter_le _ _
set_option maxHeartbeats 6400000 in
set_option maxRecDepth 100000 in
theorem rowo_any (o : Ov) (A : OA) (n : Int) (w : World) (hO : OIn w o A) (ht : Tiny o) (hle : (entS o).length ≤ 1000000) : Calls Tryz.prog 17 #[ovv o A, .int .i64 n] w (RetJ w (rowS o n)) := by
  obtain ⟨w0, hw0⟩ : ∃ w0, w.alloc (.cells (ovC o A) 27) = w0 := ⟨_, rfl⟩
  have B0 := Lib.hid (show OB w0 w.heap.size o A from ⟨by rw [← hw0]; exact Bk.new _ _ _⟩)
  have F0 := Lib.hid (show Fuw w w0 by rw [← hw0]; exact fuwA _ _)
  have HO := Lib.hid (hO.on F0.out)
  have HE := Lib.hid (ents_x A w0 HO.out ht)
  have HR := Lib.hid (show rowS o n = rowF n (entS o) from rfl)
  obtain ⟨R, hR⟩ : ∃ R, rowS o n = R := ⟨_, rfl⟩
  rw [hR] at HR ⊢
  obtain ⟨i0, hi0, hz0, hz1, hz2⟩ := info_parts infoJ
  have d1 := B0.out.c1; have d2 := B0.out.c2; have d3 := B0.out.c3; have d4 := B0.out.c4; have d5 := B0.out.c5; have d6 := B0.out.c6
  unfold ovv at HE ⊢
  unfold ovC at hw0 HE ⊢
  unfold RetL at HE
  clear hO hR
  generalize entS o = l at *
  go_enter Tryz.func17, Tryz.ntmps17
  go_upto_region 2 with fail
  clear hw0
  go_wp2_with fail
  go_at_call 15; refine HE.out.mono ?_; rintro e1 w1 ⟨ao, cap, rfl, hs, f1⟩
  have HS := Lib.hid hs
  have F1 := Lib.hid f1
  clear hs f1 d1 d2 d3 d4 d5 d6
  go_wp2
  go_loopw [5, 11] (fun lv iv wr => ∃ i : Nat, iv = .int .i64 i ∧ i ≤ l.length ∧ Hid (OwnJ w1 wr lv (rowF n (l.take i))) ∧ Hid (Fuw w1 wr)) (fun _ iv _ => l.length - (RowKit.intOf iv).toNat)
  case atStart => exact ⟨0, rfl, Nat.zero_le _, Lib.hid (World.ownsRow_nil _ _ _ _), Lib.hid (Fuw.refl _)⟩
  case round =>
    obtain ⟨i, rfl, hi, HOw, hf⟩ := hrel
    by_cases hlt : i < l.length
    · obtain ⟨b, of, rfl, -, -, -, c0, c1, c2⟩ := (slJ_on hf.out HS.out).get hlt
      have HT := Lib.hid (rowF_snoc (n := n) hlt)
      have hL : (rowF n (l.take i)).length ≤ 1000000 := by
        have h1 := rowF_len n (l.take i)
        rw [List.length_take] at h1; omega
      generalize rowF n (l.take i) = L at *
      generalize l[i] = x at *
      obtain ⟨x0, x1, x2⟩ := x
      simp only at c0 c1 c2 HT
      go_upto_region 5 with fail
      obtain ⟨W, hW⟩ : ∃ W, wr.alloc (.cells #[.int .i64 x0, .int .i64 x1, .int .i64 x2] 42) = W := ⟨_, rfl⟩
      have FWr := Lib.hid (show Fuw wr W by rw [← hW]; exact fuwA _ _)
      have FW := Lib.hid (hf.out.trans FWr.out)
      have HOW := Lib.hid (own_on HOw.out FWr.out)
      have BA := Lib.hid (show Bk W wr.heap.size #[.int .i64 x0, .int .i64 x1, .int .i64 x2] 42 by rw [← hW]; exact Bk.new _ _ _)
      rw [hW]
      clear hW c0 c1 c2
      have c0 := BA.out.c 0; have c1 := BA.out.c 1; have c2 := BA.out.c 2
      simp only [List.getElem?_toArray, List.getElem?_cons_zero, List.getElem?_cons_succ] at c0 c1 c2
      by_cases hx : x0 = n
      · have p : (x0 == n) = true := by rw [beq_iff_eq]; exact hx
        have HT2 := Lib.hid (show rowF n (l.take (i + 1)) = L ++ [(x0, x1, x2)] by rw [HT.out, if_pos hx])
        clear hx
        go_wp2_with (at_builtin; refine wpList_append_own_at _ rfl (.tmp 19) (.tmp 21) 25 rfl w1.heap.size 42 i0 (.agg #[.int .i64 0, .int .i64 0, .int .i64 0]) 3 24 Tryz.underlying25 hi0 hz0 hz1 hz2 rfl (by decide) _ L.length (aC L) rfl (own_on HOW.out (fuwA _ _)) ⟨W.heap.size, 0, none⟩ 1 1 (aE (x0, x1, x2)) rfl rfl (World.news_of_block (heap_alloc_new W _)) (one_adj _) (by unfold maxLen; omega) (by omega) (Nat.le_trans FW.out.size (by simp)) ?_; intro v' w5 hown5 hgrow _ _)
        have HG := Lib.hid (fuw_grown (FW.out.trans (fuwA _ _)) (own_on HOW.out (fuwA _ _)) hgrow)
        have HO2 := Lib.hid (show OwnJ w1 w5 v' (rowF n (l.take (i + 1))) from by
          unfold OwnJ
          rw [HT2.out, aC_app, List.length_append]; exact hown5)
        clear hown5 hgrow c0 c1 c2 p
        go_wp2
        go_roundw
        case rel => exact ⟨i + 1, by go_num, by omega, HO2, HG⟩
        case measure => simp [RowKit.intOf]; omega
      · have p : (x0 == n) = false := by rw [beq_eq_false_iff_ne]; exact hx
        have HO2 := Lib.hid (show OwnJ w1 W _ (rowF n (l.take (i + 1))) from by rw [HT.out, if_neg hx, List.append_nil]; exact HOW.out)
        clear hx
        go_wp2
        go_roundw
        case rel => exact ⟨i + 1, by go_num, by omega, HO2, FW⟩
        case measure => simp [RowKit.intOf]; omega
    · have HL := Lib.hid (show rowF n (l.take i) = R by rw [List.take_of_length_le (by omega)]; exact HR.out.symm)
      have hge : ¬ (i : Int) < (l.length : Int) := by omega
      go_wp2
      go_ret
      exact ⟨_, rfl, by rw [← HL.out]; exact own_le (own_on HOw.out (Fuw.refl _)) (Nat.le_trans F0.out.size F1.out.size), F0.out.trans (F1.out.trans hf.out)⟩
set_option maxHeartbeats 6400000 in
set_option maxRecDepth 100000 in
theorem cmpo_any (o : Ov) (A : OA) (w : World) (hO : OIn w o A) (ht : Tiny o) (hsz : (keepD o.dls (entC o.c) ++ o.ads).length ≤ 5000) : Calls Tryz.prog 8 #[ovv o A] w (RetCo w (cmpV o)) := by
  obtain ⟨w0, hw0⟩ : ∃ w0, w.alloc (.cells (ovC o A) 27) = w0 := ⟨_, rfl⟩
  obtain ⟨wA, hwA⟩ : ∃ wA, w0.alloc (.cells #[.slice none 0 0, .slice none 0 0, .slice none 0 0, .slice none 0 0] 24) = wA := ⟨_, rfl⟩
  have F0 := Lib.hid (show Fuw w w0 by rw [← hw0]; exact fuwA _ _)
  have FA := Lib.hid (show Fuw w0 wA by rw [← hwA]; exact fuwA _ _)
  have B0 := Lib.hid (show OB wA w.heap.size o A from (show OB w0 w.heap.size o A from ⟨by rw [← hw0]; exact Bk.new _ _ _⟩).on FA.out)
  have BR := Lib.hid (show Bk wA w0.heap.size #[.slice none 0 0, .slice none 0 0, .slice none 0 0, .slice none 0 0] 24 by rw [← hwA]; exact Bk.new _ _ _)
  have FR := Lib.hid (F0.out.trans FA.out)
  have HO := Lib.hid (hO.on FR.out)
  have H1 := Lib.hid (valo_any o A wA HO.out ht.sm)
  have H6 := Lib.hid (fun w' (hf : Fuw wA w') (h : valO o = true) => ento_any o A w' (HO.out.on hf) ht.sm (valO_iff.1 h).d)
  have HK := Lib.hid (fun h : valO o = true => entO_ok h)
  have HI := Lib.hid (entO_i64 hO)
  obtain ⟨P, hP⟩ : ∃ P, cmpV o = P := ⟨_, rfl⟩
  have HP := Lib.hid (show P = if valO o = true then ofV (entO o) else (emC, 19) from hP.symm)
  rw [hP]
  have d1 := B0.out.c1; have d2 := B0.out.c2; have d3 := B0.out.c3; have d4 := B0.out.c4; have d5 := B0.out.c5; have d6 := B0.out.c6
  unfold ovv at H1 H6 ⊢
  unfold ovC at hw0 H1 H6 ⊢
  clear hO ht hP
  obtain ⟨q, hq⟩ : ∃ q, valO o = q := ⟨_, rfl⟩
  rw [hq] at HP H1
  have HQ := Lib.hid hq
  clear hq
  go_enter Tryz.func8, Tryz.ntmps8
  go_upto_region 1 with fail
  obtain ⟨R, hR⟩ : ∃ R, R = w0.heap.size := ⟨_, rfl⟩
  rw [← hR] at BR ⊢
  have HRb := Lib.hid (show w.heap.size ≤ R by rw [hR]; exact F0.out.size)
  clear hR hw0 hwA
  go_wp2_with fail
  go_at_call 12; refine H1.out.mono ?_; rintro e1 w1 ⟨rfl, f1⟩
  have F1 := Lib.hid f1
  replace d1 := (B0.out.on F1.out).c1; replace d2 := (B0.out.on F1.out).c2; replace d3 := (B0.out.on F1.out).c3; replace d4 := (B0.out.on F1.out).c4; replace d5 := (B0.out.on F1.out).c5; replace d6 := (B0.out.on F1.out).c6
  clear f1
  cases q with
  | false =>
    have HZ := Lib.hid (show P = (emC, 19) by rw [HP.out]; rfl)
    have E0 := Lib.hid (show Bk w1 R #[.slice none 0 0, .slice none 0 0, .slice none 0 0, .slice none 0 0] 24 from BR.out.on F1.out)
    have FE := Lib.hid (FR.out.trans F1.out)
    have r0 := E0.out.c 0; have r1 := E0.out.c 1; have r2 := E0.out.c 2; have r3 := E0.out.c 3
    have t0 := E0.out.f 0; have t1 := E0.out.f 1; have t2 := E0.out.f 2; have t3 := E0.out.f 3
    simp only [List.getElem?_toArray, List.getElem?_cons_zero, List.getElem?_cons_succ] at r0 r1 r2 r3
    clear d1 d2 d3 d4 d5 d6
    go_wp2
    have hK := set4_ok (w0 := w) (c' := emC) (A' := A0c) (show Bk _ R (colC emC A0c) 24 from E0.out) HRb.out FE.out
    unfold set4 at hK
    exact c_ret2 rfl rfl rfl hK.1 (by rw [HZ.out]; exact ⟨A0c, rfl, emc_in _, hK.2.1⟩)
  | true =>
    have HZ := Lib.hid (show P = ofV (keepD o.dls (entC o.c) ++ o.ads) by rw [HP.out, HK.out HQ.out]; rfl)
    generalize keepD o.dls (entC o.c) ++ o.ads = L at *
    go_wp2_with fail
    go_at_call 28; refine (H6.out _ F1.out HQ.out).mono ?_; rintro e6 w6 ⟨v, rfl, ho, f6⟩
    obtain ⟨a, cp, hv, -, hS⟩ := slJ_own ho HI.out
    subst hv
    have F6 := Lib.hid (F1.out.trans f6)
    have HC := Lib.hid (ofc_any L a cp w6 hS hsz)
    unfold RetCo at HC
    rw [← HZ.out] at HC
    obtain ⟨LV, n⟩ := P
    clear ho f6 hS d1 d2 d3 d4 d5 d6
    go_wp2_with fail
    go_at_call 27; refine HC.out.mono ?_; rintro e4 w4 ⟨X, rfl, hcin, f4⟩
    have HCIN := Lib.hid hcin
    have E0 := Lib.hid (show Bk w4 R #[.slice none 0 0, .slice none 0 0, .slice none 0 0, .slice none 0 0] 24 from BR.out.on (F6.out.trans f4))
    have FE := Lib.hid (FR.out.trans (F6.out.trans f4))
    have r0 := E0.out.c 0; have r1 := E0.out.c 1; have r2 := E0.out.c 2; have r3 := E0.out.c 3
    have t0 := E0.out.f 0; have t1 := E0.out.f 1; have t2 := E0.out.f 2; have t3 := E0.out.f 3
    simp only [List.getElem?_toArray, List.getElem?_cons_zero, List.getElem?_cons_succ] at r0 r1 r2 r3
    clear hcin f4 HC
    unfold colv colC
    go_wp2
    have hK := set4_ok (w0 := w) (c' := LV) (A' := X) (show Bk _ R (colC emC A0c) 24 from E0.out) HRb.out FE.out
    have hC2 := hK.2.2 _ X HCIN.out
    unfold set4 at hK hC2
    exact c_ret2 rfl rfl rfl hK.1 ⟨X, rfl, hC2, hK.2.1⟩
end Go.Proofs.YtpjikijfendmhaaGreat
