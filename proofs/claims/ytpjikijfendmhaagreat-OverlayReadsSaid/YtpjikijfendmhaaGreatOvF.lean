
/-
  Package overlay: whether all entries have ids, whether their edges differ, whether edges are a column's. Nothing that was there turns.
-/
import Derived.Test.YtpjikijfendmhaaGreatOvE
namespace Go.Proofs.YtpjikijfendmhaaGreat
open Go.RowKit

set_option maxHeartbeats 3200000 in
set_option maxRecDepth 100000 in
theorem hvids_any (l : List Aj) (ao : Option Addr) (cap : Nat) (w : World) (hs : SlJ w ao l cap) : Calls Tryz.prog 39 #[.slice ao l.length cap] w (FwB w (l.all idJ)) := by
  have hl := hs.len
  have HS := Lib.hid hs
  obtain ⟨R, hR⟩ : ∃ R, R = l.all idJ := ⟨_, rfl⟩
  rw [← hR]
  have HR := Lib.hid (show R = (l.drop 0).all idJ from hR)
  clear hR hs
  go_enter Tryz.func39, Tryz.ntmps39
  go_wp2
  go_loopw [7] (fun iv wr => ∃ i : Nat, iv = .int .i64 i ∧ i ≤ l.length ∧ Hid (R = (l.drop i).all idJ) ∧ Hid (Fuw w wr)) (fun iv _ => l.length - (RowKit.intOf iv).toNat)
  case atStart => exact ⟨0, rfl, Nat.zero_le _, HR, Lib.hid (Fuw.refl _)⟩
  case round =>
    obtain ⟨i, rfl, hi, HQ, hf⟩ := hrel
    by_cases hlt : i < l.length
    · obtain ⟨b, o, rfl, -, -, -, c0, c1, c2⟩ := (slJ_on hf.out HS.out).get hlt
      have HA := Lib.hid (all_drop (p := idJ) hlt)
      have HC := Lib.hid (fun w' => hids_any l[i] w')
      unfold adv at HC
      generalize l[i] = x at *
      obtain ⟨x0, x1, x2⟩ := x
      simp only at c0 c1 c2 HC
      generalize idJ (x0, x1, x2) = q at *
      go_upto_region 4 with fail
      obtain ⟨W, hW⟩ : ∃ W, W = wr.alloc (.cells #[.int .i64 x0, .int .i64 x1, .int .i64 x2] 42) := ⟨_, rfl⟩
      have hfW : Fuw wr W := by rw [hW]; exact fuwA _ _
      have hBn : Bk W wr.heap.size #[.int .i64 x0, .int .i64 x1, .int .i64 x2] 42 := by rw [hW]; exact Bk.new _ _ _
      rw [← hW]
      clear hW c0 c1 c2
      have d0 := hBn.c 0; have d1 := hBn.c 1; have d2 := hBn.c 2
      simp only [List.getElem?_toArray, List.getElem?_cons_zero, List.getElem?_cons_succ] at d0 d1 d2
      clear hBn
      go_wp2_with fail
      go_at_call 47; refine (HC.out _).mono ?_; rintro e1 w1 ⟨rfl, f1⟩
      have HF := Lib.hid ((hf.out.trans hfW).trans f1)
      clear f1
      cases q
      · have HZ := Lib.hid (show R = false by rw [HQ.out, HA.out, Bool.false_and])
        go_wp2
        go_ret
        exact ⟨ret_bool HZ.out.symm, HF.out⟩
      · have HZ := Lib.hid (show R = (l.drop (i + 1)).all idJ by rw [HQ.out, HA.out, Bool.true_and])
        go_wp2
        go_roundw
        case rel => exact ⟨i + 1, by go_num, by omega, HZ, HF⟩
        case measure => simp [RowKit.intOf]; omega
    · have HZ := Lib.hid (show R = true by rw [HQ.out, all_end (by omega)])
      have hge : ¬ (i : Int) < (l.length : Int) := by omega
      go_wp2
      go_ret
      exact ⟨ret_bool HZ.out.symm, hf.out⟩
theorem one_int (x : Int) : ∀ u ∈ [Value.int .i64 x], u.oneCell' = true := by
  intro u hu
  have : u = .int .i64 x := by simpa using hu
  subst this; rfl
theorem take_map_snoc {l : List Aj} {i : Nat} (h : i < l.length) : edg (l.take (i + 1)) = edg (l.take i) ++ [l[i].2.2] := by
  unfold edg
  rw [List.take_succ_eq_append_getElem h, List.map_append]; rfl
theorem edg_len (l : List Aj) : (edg l).length = l.length := List.length_map ..
theorem edg_i64 {w : World} {ao : Option Addr} {l : List Aj} {cap : Nat} (hs : SlJ w ao l cap) : ∀ x ∈ edg l, I64 x := fun x hx => by
  obtain ⟨y, hy, rfl⟩ := List.mem_map.1 hx
  obtain ⟨i, hi, rfl⟩ := List.getElem_of_mem hy
  obtain ⟨b, o, -, hp⟩ := hs.get hi
  exact hp.2.2.1
set_option maxHeartbeats 3200000 in
set_option maxRecDepth 100000 in
theorem hvdst_any (l : List Aj) (ao : Option Addr) (cap : Nat) (w : World) (hs : SlJ w ao l cap) (hn : l.length ≤ 1000000) : Calls Tryz.prog 41 #[.slice ao l.length cap] w (FwB w (dstI (edg l))) := by
  have HS := Lib.hid hs
  have HI := Lib.hid (edg_i64 hs)
  have HD := Lib.hid (dstI_srt (edg l))
  obtain ⟨i0, hi0, hz0, hz1, hz2⟩ := info_parts infoI
  clear hs
  go_enter Tryz.func41, Tryz.ntmps41
  go_wp2
  go_loopw [3, 8] (fun lv iv wr => ∃ i : Nat, iv = .int .i64 i ∧ i ≤ l.length ∧ Hid (wr.ownsRow w.heap.size 3 1 lv (edg (l.take i)).length (cs (edg (l.take i)))) ∧ Hid (Fuw w wr)) (fun _ iv _ => l.length - (RowKit.intOf iv).toNat)
  case atStart => exact ⟨0, rfl, Nat.zero_le _, Lib.hid (World.ownsRow_nil _ _ _ _), Lib.hid (Fuw.refl _)⟩
  case round =>
    obtain ⟨i, rfl, hi, HO, hf⟩ := hrel
    by_cases hlt : i < l.length
    · obtain ⟨b, o, rfl, -, -, -, c0, c1, c2⟩ := (slJ_on hf.out HS.out).get hlt
      have HT := Lib.hid (take_map_snoc hlt)
      have hL : (edg (l.take i)).length ≤ i := by rw [edg_len, List.length_take]; omega
      generalize edg (l.take i) = L at *
      generalize l[i] = x at *
      obtain ⟨x0, x1, x2⟩ := x
      simp only at c0 c1 c2 HT
      go_upto_region 5 with fail
      obtain ⟨W, hW⟩ : ∃ W, W = wr.alloc (.cells #[.int .i64 x0, .int .i64 x1, .int .i64 x2] 42) := ⟨_, rfl⟩
      have hfW : Fuw wr W := by rw [hW]; exact fuwA _ _
      have hBn : Bk W wr.heap.size #[.int .i64 x0, .int .i64 x1, .int .i64 x2] 42 := by rw [hW]; exact Bk.new _ _ _
      rw [← hW]
      clear hW c0 c1 c2
      have d0 := hBn.c 0; have d1 := hBn.c 1; have d2 := hBn.c 2
      simp only [List.getElem?_toArray, List.getElem?_cons_zero, List.getElem?_cons_succ] at d0 d1 d2
      clear hBn
      have HOW := Lib.hid (own_on HO.out hfW)
      have HFW := Lib.hid (hf.out.trans hfW)
      clear hfW
      go_wp2_with (at_builtin; refine wpList_append_own_at _ rfl (.tmp 12) (.tmp 15) 22 rfl w.heap.size 3 i0 (.int .i64 0) 1 8 Tryz.underlying22 hi0 hz0 hz1 hz2 rfl (by decide) _ L.length (cs L) rfl (own_on HOW.out (fuwA _ _)) ⟨W.heap.size, 0, none⟩ 1 1 [.int .i64 x2] rfl rfl (World.news_of_block (heap_alloc_new W _)) (one_int _) (by unfold maxLen; omega) (by omega) (Nat.le_trans HFW.out.size (by simp)) ?_; intro v' w5 hown5 hgrow _ _)
      have HG := Lib.hid (fuw_grown (HFW.out.trans (fuwA _ _)) (own_on HOW.out (fuwA _ _)) hgrow)
      have HO2 := Lib.hid (show w5.ownsRow w.heap.size 3 1 v' (edg (l.take (i + 1))).length (cs (edg (l.take (i + 1)))) from by
        rw [HT.out, cs_app, List.length_append]; exact hown5)
      clear hown5 hgrow d0 d1 d2
      go_wp2
      go_roundw
      case rel => exact ⟨i + 1, by go_num, by omega, HO2, HG⟩
      case measure => simp [RowKit.intOf]; omega
    · have e : l.take i = l := List.take_of_length_le (by omega)
      rw [e] at HO
      have hge : ¬ (i : Int) < (l.length : Int) := by omega
      have HC := Lib.hid (sort_own HO.out (Nat.le_refl _) hf.out (by rw [edg_len]; exact hn))
      clear e
      go_wp2_with fail
      go_at_call 81; refine HC.out.mono ?_; rintro e2 w2 ⟨rfl, o2, f2⟩
      obtain ⟨a, cp, hv, -, hS⟩ := slI_own o2 (srt_i64 HI.out)
      have HV := Lib.hid hv
      have HC2 := Lib.hid (inci_any (srtI (edg l)) a cp w2 hS)
      rw [← HV.out] at HC2
      have F2 := Lib.hid f2
      clear o2 hS hv f2
      go_wp2_with fail
      go_at_call 37; refine HC2.out.mono ?_; rintro e3 w3 ⟨rfl, f3⟩
      go_wp2
      go_ret
      exact ⟨ret_bool HD.out, F2.out.trans f3⟩
theorem srt_has (l : List Int) (x : Int) : (srtI l).contains x = l.contains x := by
  rw [Bool.eq_iff_iff, List.contains_iff_mem, List.contains_iff_mem, (srtI_perm l).mem_iff]
set_option maxHeartbeats 3200000 in
set_option maxRecDepth 100000 in
theorem hedges_any (c : Cm) (A : CA) (l : List Int) (ao : Option Addr) (cap : Nat) (w : World) (hC : CIn w c A) (hs : SlI w ao l cap) (hn : c.es.length ≤ 1000000) :
    Calls Tryz.prog 40 #[colv c A, .slice ao l.length cap] w (FwB w (l.all fun n => c.es.contains n)) := by
  obtain ⟨w0, hw0⟩ : ∃ w0, w.alloc (.cells (colC c A) 24) = w0 := ⟨_, rfl⟩
  have B0 := Lib.hid (show Bk w0 w.heap.size (colC c A) 24 by rw [← hw0]; exact Bk.new _ _ _)
  have F0 := Lib.hid (show Fuw w w0 by rw [← hw0]; exact fuwA _ _)
  have HS := Lib.hid (slI_on F0.out hs)
  have hl := hs.len
  have HE := Lib.hid (slI_on F0.out hC.e)
  have HI := Lib.hid (slI_i64 hC.e)
  have HB := Lib.hid (ints_of HE.out)
  have HSo := Lib.hid (fun w' (hf : Below w0.heap.size w0 w') (hc : w'.cell? ⟨w0.heap.size, 0, none⟩ = some (.slice A.a4 c.es.length A.k4)) (hlt : w0.heap.size < w'.heap.size) =>
    sortd_any w0.heap.size (.slice A.a4 c.es.length A.k4) c.es hn w' hlt hc (IntsB.mono (HB.out.below hf) (Nat.le_of_lt hlt)))
  obtain ⟨R, hR⟩ : ∃ R, R = l.all fun n => c.es.contains n := ⟨_, rfl⟩
  have HR := Lib.hid (show R = (l.drop 0).all (fun n => (srtI c.es).contains n) from by rw [hR, List.drop_zero]; congr 1; funext n; rw [srt_has])
  rw [← hR]
  have d4 := B0.out.c 3
  have hsl : (srtI c.es).length ≤ 1000000 := by rw [srtI_len]; exact hn
  have HP := Lib.hid (srtI_pw c.es)
  unfold colv
  unfold colC at d4 hw0 ⊢
  simp only [List.getElem?_toArray, List.getElem?_cons_zero, List.getElem?_cons_succ] at d4
  clear hC hs hR
  go_enter Tryz.func40, Tryz.ntmps40
  go_upto_region 1 with fail
  clear hw0
  go_wp2_with fail
  go_at_call 80; refine (values_any _ _ _ _).mono ?_; rintro e1 w1 ⟨rfl, hw1⟩
  have F1 := Lib.hid (show Fuw w0 w1 by rw [hw1]; exact fuwA _ _)
  have C1 := Lib.hid (show w1.cell? ⟨w0.heap.size, 0, none⟩ = some (.slice A.a4 c.es.length A.k4) by rw [hw1]; exact (Bk.new _ _ _).c 0)
  have L1 := Lib.hid (show w0.heap.size < w1.heap.size by rw [hw1]; simp)
  clear hw1 d4
  go_wp2_with fail
  go_at_call 79; refine (HSo.out w1 F1.out C1.out L1.out).mono ?_; rintro e2 w2 ⟨v, rfl, ho, f2⟩
  obtain ⟨a, cp, hv, -, hS⟩ := slI_own ho (srt_i64 HI.out)
  subst hv
  have HS2 := Lib.hid hS
  have F2 := Lib.hid (F1.out.trans f2)
  clear ho f2 hS
  generalize srtI c.es = E at *
  go_wp2
  go_loopw [16] (fun iv wr => ∃ i : Nat, iv = .int .i64 i ∧ i ≤ l.length ∧ Hid (R = (l.drop i).all (fun n => E.contains n)) ∧ Hid (Fuw w2 wr)) (fun iv _ => l.length - (RowKit.intOf iv).toNat)
  case atStart => exact ⟨0, rfl, Nat.zero_le _, HR, Lib.hid (Fuw.refl _)⟩
  case round =>
    obtain ⟨i, rfl, hi, HQ, hf⟩ := hrel
    by_cases hlt : i < l.length
    · obtain ⟨b, o, rfl, -, c0⟩ := (slI_on (F2.out.trans hf.out) HS.out).get hlt
      have HA := Lib.hid (all_drop (p := fun n => E.contains n) hlt)
      generalize l[i] = x at *
      rw [Nat.mul_one] at c0
      have HBs := Lib.hid (fun w' (hf' : Fuw wr w') => bsl_any E a cp x w' (slI_on (hf.out.trans hf') HS2.out) HP.out hsl)
      unfold RetBs at HBs
      generalize E.contains x = q at *
      generalize (E.countP fun y => decide (y < x)) = k at *
      go_wp2_with fail
      go_at_call 51; refine (HBs.out _ (Fuw.refl _)).mono ?_; rintro e3 w3 ⟨rfl, hd⟩
      have HF := Lib.hid (hf.out.trans (quF hd))
      clear hd
      cases q
      · have HZ := Lib.hid (show R = false by rw [HQ.out, HA.out, Bool.false_and])
        go_wp2
        go_ret
        exact ⟨ret_bool HZ.out.symm, F0.out.trans (F2.out.trans HF.out)⟩
      · have HZ := Lib.hid (show R = (l.drop (i + 1)).all (fun n => E.contains n) by rw [HQ.out, HA.out, Bool.true_and])
        go_wp2
        go_roundw
        case rel => exact ⟨i + 1, by go_num, by omega, HZ, HF⟩
        case measure => simp [RowKit.intOf]; omega
    · have HZ := Lib.hid (show R = true by rw [HQ.out, all_end (by omega)])
      have hge : ¬ (i : Int) < (l.length : Int) := by omega
      go_wp2
      go_ret
      exact ⟨ret_bool HZ.out.symm, F0.out.trans (F2.out.trans hf.out)⟩
end Go.Proofs.YtpjikijfendmhaaGreat
