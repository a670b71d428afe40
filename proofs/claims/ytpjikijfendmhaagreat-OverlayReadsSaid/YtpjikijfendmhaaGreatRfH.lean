
/-
  The reference of overlays: an overlay's entries. Nothing that was there turns.
-/
import Derived.Test.YtpjikijfendmhaaGreatRfG
namespace Go.Proofs.YtpjikijfendmhaaGreat
open Go.RowKit

theorem fold_perm : ∀ (A B : List Aj), (A.foldl wthV B).Perm (B ++ A)
  | [], B => by rw [List.append_nil]; exact List.Perm.refl _
  | a :: r, B => by
    refine (fold_perm r (wthV B a)).trans ?_
    refine ((wthV_perm a B).append_right r).trans ?_
    exact List.perm_middle.symm
theorem fold_snoc {A B : List Aj} {i : Nat} (h : i < A.length) : (A.take (i + 1)).foldl wthV B = wthV ((A.take i).foldl wthV B) A[i] := by
  rw [take_snoc A h, List.foldl_append]; rfl
theorem rhas_q (l : List Int) (ao : Option Addr) (cap : Nat) (x : Int) (w : World) (hs : SlI w ao l cap) : Calls Tryz.prog 67 #[.slice ao l.length cap, .int .i64 x] w (QB w (l.contains x)) := (rhas_any l ao cap x w hs).mono fun _ _ ⟨he, hw⟩ => ⟨he, 0, hw.symm⟩
theorem redge_q (l : List Aj) (ao : Option Addr) (cap : Nat) (x : Int) (w : World) (hs : SlJ w ao l cap) : Calls Tryz.prog 44 #[.slice ao l.length cap, .int .i64 x] w (QB w ((edg l).contains x)) := (redge_any l ao cap x w hs).mono fun _ _ ⟨he, hw⟩ => ⟨he, 0, hw.symm⟩
theorem entR_i64 {o : Ov} {w : World} {A : OA} (hO : OIn w o A) (hv : valC o.c = true) : ∀ i, ∀ x ∈ (o.ads.take i).foldl wthV (keepD o.dls (entL o.c)), I64 x.1 ∧ I64 x.2.1 ∧ I64 x.2.2 := fun i x hx => by
  rcases List.mem_append.1 ((fold_perm _ _).mem_iff.1 hx) with h | h
  · exact ent_i64 hO.c (valC_iff.1 hv).b x (List.mem_filter.1 h).1
  · exact slJ_i64 hO.a x (List.mem_of_mem_take h)
set_option maxHeartbeats 12800000 in
set_option maxRecDepth 100000 in
theorem rents_any (o : Ov) (A : OA) (w : World) (hO : OIn w o A) (hs : SmO o) (hv : valC o.c = true) (hz : o.c.ts.length + o.ads.length ≤ 50000) : Calls Tryz.prog 30 #[ovv o A] w (RetJ w (entR o)) := by
  obtain ⟨w0, hw0⟩ : ∃ w0, w.alloc (.cells (ovC o A) 27) = w0 := ⟨_, rfl⟩
  have B0 := Lib.hid (show OB w0 w.heap.size o A from ⟨by rw [← hw0]; exact Bk.new _ _ _⟩)
  have F0 := Lib.hid (show Fuw w w0 by rw [← hw0]; exact fuwA _ _)
  have HO := Lib.hid (hO.on F0.out)
  have HE := Lib.hid (rent12_any o.c A.c w0 HO.out.c hs.c)
  rw [show entC o.c = entL o.c from if_pos hv] at HE
  have HI := Lib.hid (ent_i64 HO.out.c (valC_iff.1 hv).b)
  have HIR := Lib.hid (entR_i64 HO.out hv)
  have hel : (entL o.c).length ≤ 50000 := by rw [ent_len (valC_iff.1 hv).b]; omega
  have hal : o.ads.length ≤ 50000 := by omega
  have HLR := Lib.hid (fun i => show ((o.ads.take i).foldl wthV (keepD o.dls (entL o.c))).length ≤ 50000 by
    rw [(fold_perm _ _).length_eq, List.length_append, List.length_take]
    have h1 := keepD_len o.dls (entL o.c)
    rw [ent_len (valC_iff.1 hv).b] at h1
    omega)
  have HR := Lib.hid (show (o.ads.take o.ads.length).foldl wthV (keepD o.dls (entL o.c)) = entR o by rw [List.take_length]; rfl)
  obtain ⟨R, hR⟩ : ∃ R, entR o = R := ⟨_, rfl⟩
  rw [hR] at HR ⊢
  obtain ⟨i0, hi0, hz0, hz1, hz2⟩ := info_parts infoJ
  have x1 := B0.out.c1; have x2 := B0.out.c2; have x3 := B0.out.c3; have x4 := B0.out.c4; have x5 := B0.out.c5; have x6 := B0.out.c6
  unfold colv colC at HE
  unfold ovv
  unfold ovC at hw0 ⊢
  clear hO hs hR hz
  go_enter Tryz.func30, Tryz.ntmps30
  go_upto_region 2 with fail
  clear hw0
  go_wp2_with fail
  go_at_call 25; refine HE.out.mono ?_; rintro e1 w1 ⟨v, rfl, ho, f1⟩
  obtain ⟨ao, cp, hvv, -, hS⟩ := slJ_own ho HI.out
  subst hvv
  have HS := Lib.hid hS
  have F1 := Lib.hid f1
  have HK0 := Lib.hid (show ([] : List Aj).foldl wthV (keepD o.dls (entL o.c)) = keepD o.dls (entL o.c) from rfl)
  clear ho f1 hS x1 x2 x3 x4 x5 x6
  obtain ⟨E, hE⟩ : ∃ E, entL o.c = E := ⟨_, rfl⟩
  rw [hE] at HS HI HIR HLR HR hel HK0 ⊢
  clear hE
  go_wp2
  go_loopw [3, 5] (fun lv iv wr => ∃ i : Nat, iv = .int .i64 i ∧ i ≤ E.length ∧ Hid (OwnJ w1 wr lv (keepD o.dls (E.take i))) ∧ Hid (Fuw w1 wr)) (fun _ iv _ => E.length - (RowKit.intOf iv).toNat)
  case atStart => exact ⟨0, rfl, Nat.zero_le _, Lib.hid (World.ownsRow_nil _ _ _ _), Lib.hid (Fuw.refl _)⟩
  case round =>
    obtain ⟨i, rfl, hi, HOw, hf⟩ := hrel
    by_cases hlt : i < E.length
    · obtain ⟨b, of, rfl, -, -, -, c0, c1, c2⟩ := (slJ_on hf.out HS.out).get hlt
      have HKs := Lib.hid (keepD_snoc (d := o.dls) hlt)
      have HKl := Lib.hid (show (keepD o.dls (E.take i)).length ≤ 50000 from Nat.le_trans (keepD_len _ _) (by rw [List.length_take]; omega))
      generalize keepD o.dls (E.take i) = L at *
      generalize E[i] = x at *
      obtain ⟨y0, y1, y2⟩ := x
      simp only at c0 c1 c2 HKs
      have x6 := (B0.out.on (F1.out.trans hf.out)).c6
      have HQ := Lib.hid (fun m => rhas_q o.dls A.a6 A.k6 y2 (wr.drewN m) (slI_on (F1.out.trans (hf.out.trans (fuw_dr wr m))) HO.out.d))
      have z1 : (i : Int) < (E.length : Int) := by omega
      generalize o.dls.contains y2 = q at *
      go_upto_region 6 with fail
      go_quiet ((go_at_call 67; exact Calls.quiet_of (HQ.out _)))
      obtain ⟨V, hV⟩ : ∃ V, wr.drewN nq = V := ⟨_, rfl⟩
      have FV0 := Lib.hid (show Fuw wr V by rw [← hV]; exact fuw_dr wr nq)
      have FV := Lib.hid (hf.out.trans FV0.out)
      have HOV := Lib.hid (own_on HOw.out FV0.out)
      replace c0 := cellOnw FV0.out c0; replace c1 := cellOnw FV0.out c1; replace c2 := cellOnw FV0.out c2
      rw [hV]
      clear hV x6
      cases q with
      | false =>
        have HK2 := Lib.hid (show keepD o.dls (E.take (i + 1)) = L ++ [(y0, y1, y2)] by rw [HKs.out]; simp)
        have hLl := HKl.out
        go_wp2_with (at_builtin; refine wpList_append_own_at _ rfl (.tmp 25) (.tmp 30) 25 rfl w1.heap.size 42 i0 (.agg #[.int .i64 0, .int .i64 0, .int .i64 0]) 3 24 Tryz.underlying25 hi0 hz0 hz1 hz2 rfl (by decide) _ L.length (aC L) rfl (own_on HOV.out (fuwA _ _)) ⟨V.heap.size, 0, none⟩ 1 1 (aE (y0, y1, y2)) rfl rfl (World.news_of_block (heap_alloc_new V _)) (one_adj _) (by unfold maxLen; omega) (by omega) (Nat.le_trans FV.out.size (by simp)) ?_; intro v' w5 hown5 hgrow _ _)
        have HG := Lib.hid (fuw_grown (FV.out.trans (fuwA _ _)) (own_on HOV.out (fuwA _ _)) hgrow)
        have HO2 := Lib.hid (show OwnJ w1 w5 v' (keepD o.dls (E.take (i + 1))) from by
          unfold OwnJ
          rw [HK2.out, aC_app, List.length_append]; exact hown5)
        clear hown5 hgrow c0 c1 c2
        go_wp2
        go_roundw
        case rel => exact ⟨i + 1, by go_num, by omega, HO2, HG⟩
        case measure => simp [RowKit.intOf]; omega
      | true =>
        have HO2 := Lib.hid (show OwnJ w1 V _ (keepD o.dls (E.take (i + 1))) from by rw [HKs.out]; simp only [if_true, List.append_nil]; exact HOV.out)
        go_wp2
        go_roundw
        case rel => exact ⟨i + 1, by go_num, by omega, HO2, FV⟩
        case measure => simp [RowKit.intOf]; omega
    · have hge : ¬ (i : Int) < (E.length : Int) := by omega
      have HO1 := Lib.hid (show OwnJ w1 wr _ ((o.ads.take 0).foldl wthV (keepD o.dls E)) from by
        rw [List.take_zero, HK0.out]
        have := HOw.out
        rwa [List.take_of_length_le (show E.length ≤ i by omega)] at this)
      have F2 := Lib.hid hf.out
      clear HOw hf
      generalize keepD o.dls E = K at *
      go_wp2
      go_loopw [3, 6] (fun lv iv wr => ∃ i : Nat, iv = .int .i64 i ∧ i ≤ o.ads.length ∧ Hid (OwnJ w1 wr lv ((o.ads.take i).foldl wthV K)) ∧ Hid (Fuw w1 wr)) (fun _ iv _ => o.ads.length - (RowKit.intOf iv).toNat)
      case atStart => exact ⟨0, rfl, Nat.zero_le _, HO1, F2⟩
      case round =>
        clear hlt hge
        obtain ⟨i, rfl, hi, HOw, hf⟩ := hrel
        have x5 := (B0.out.on (F1.out.trans hf.out)).c5
        by_cases hlt : i < o.ads.length
        · have HAd := Lib.hid (slJ_on (F1.out.trans hf.out) HO.out.a)
          obtain ⟨b5, o5, e5, -, -, -, c0, c1, c2⟩ := HAd.out.get hlt
          rw [e5] at x5
          have HSn := Lib.hid (fold_snoc (B := K) hlt)
          have hLl := HLR.out i
          obtain ⟨la, lk, hlv, -, hLs⟩ := slJ_own HOw.out (HIR.out i)
          subst hlv
          have HW := Lib.hid (rwithin_any _ la lk o.ads[i] wr hLs (by omega))
          generalize (o.ads.take i).foldl wthV K = L at *
          generalize o.ads[i] = x at *
          obtain ⟨y0, y1, y2⟩ := x
          simp only at c0 c1 c2 HSn HW
          unfold adv RetJ at HW
          have z1 : (i : Int) < (o.ads.length : Int) := by omega
          clear e5 hLs
          go_wp2_with fail
          go_at_call 56; refine HW.out.mono ?_; rintro e7 w7 ⟨v7, rfl, ho7, f7⟩
          have F7 := Lib.hid (hf.out.trans f7)
          have HO7 := Lib.hid (show OwnJ w1 w7 v7 ((o.ads.take (i + 1)).foldl wthV K) from by
            rw [HSn.out]; exact own_le ho7 hf.out.size)
          clear ho7 f7 c0 c1 c2 x5
          go_wp2
          go_roundw
          case rel => exact ⟨i + 1, by go_num, by omega, HO7, F7⟩
          case measure => simp [RowKit.intOf]; omega
        · have hge : ¬ (i : Int) < (o.ads.length : Int) := by omega
          have HL := Lib.hid (show (o.ads.take i).foldl wthV K = R by rw [← HR.out, show i = o.ads.length by omega])
          go_wp2
          go_ret
          exact ⟨_, rfl, by rw [← HL.out]; exact own_le (own_on HOw.out (Fuw.refl _)) (Nat.le_trans F0.out.size F1.out.size), F0.out.trans (F1.out.trans hf.out)⟩
end Go.Proofs.YtpjikijfendmhaaGreat
