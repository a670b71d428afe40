/-
  RfO, RfP, RfQ, OvRd: texts of one kind in one file; each part says what it holds.
-/
import Derived.Test.YtpjikijfendmhaaGreatRfE
import Derived.Test.YtpjikijfendmhaaGreatCoP
import Derived.Test.YtpjikijfendmhaaGreatRfJN
import Derived.Test.YtpjikijfendmhaaGreatOvY

/-! The reference of columns: the column of a list of entries. Nothing that was there turns. -/
namespace Go.Proofs.YtpjikijfendmhaaGreat
open Go.RowKit

set_option maxHeartbeats 25600000 in
set_option maxRecDepth 100000 in
theorem rlaid_any (L : List Aj) (ao : Option Addr) (cap : Nat) (wt : World) (hs : SlJ wt ao L cap) (hl : L.length ≤ 50000) :
    Calls Tryz.prog 66 #[.slice ao L.length cap] wt (RetCm wt (layV (srtJ L))) := by
  obtain ⟨w0, hw0⟩ : ∃ w0, wt.alloc (.cells #[.slice none 0 0, .slice none 0 0, .slice none 0 0, .slice none 0 0] 24) = w0 := ⟨_, rfl⟩
  have FT0 := Lib.hid (show Fuw wt w0 by rw [← hw0]; exact fuwA _ _)
  obtain ⟨R, hRe⟩ : ∃ R, R = wt.heap.size := ⟨_, rfl⟩
  have BR := Lib.hid (show Bk w0 R emK 24 by rw [hRe, ← hw0]; exact Bk.new _ _ _)
  have HR := Lib.hid (show wt.heap.size ≤ R by rw [hRe]; exact Nat.le_refl _)
  have HSo := Lib.hid (rsorted_any L ao cap w0 (slJ_on FT0.out hs) (by omega))
  have HI := Lib.hid (srtJ_i64 (slJ_i64 hs))
  have hsl : (srtJ L).length ≤ 50000 := by rw [srtJ_len]; exact hl
  have HLi := Lib.hid (lay_i64 HI.out (Nat.le_trans hsl (by decide)))
  have tyC : 24 ≠ 3 := by decide
  obtain ⟨i0, hi0, hz0, hz1, hz2⟩ := info_parts infoI
  unfold RetJ at HSo
  clear hs hl
  go_enter Tryz.func66, Tryz.ntmps66
  go_upto_region 1 with fail
  rw [← hRe]
  clear hw0 hRe
  go_wp2_with fail
  go_at_call 94; refine HSo.out.mono ?_; rintro e1 w1 ⟨v, rfl, o1, f1⟩
  have F1 := Lib.hid f1
  have BR1 := Lib.hid (BR.out.on f1)
  obtain ⟨so, sc, hv, -, hS⟩ := slJ_own o1 HI.out
  subst hv
  have HS := Lib.hid hS
  have HRl := Lib.hid (show R < w1.heap.size from BR1.out.lt)
  clear o1 hS f1 HSo
  have HLV := Lib.hid (show layV (srtJ L) = ⟨(layN (srtJ L) (srtJ L).length).ns, (layN (srtJ L) (srtJ L).length).fs ++ (if (srtJ L).length = 0 then [] else [((srtJ L).length : Int)]), (layN (srtJ L) (srtJ L).length).ts, (layN (srtJ L) (srtJ L).length).es⟩ from rfl)
  obtain ⟨LV, hLV⟩ : ∃ LV, layV (srtJ L) = LV := ⟨_, rfl⟩
  rw [hLV] at HLV HLi
  have HLX := Lib.hid hLV
  clear hLV
  generalize srtJ L = s at *
  go_upto_region 3 with fail
  obtain ⟨w2, hw2⟩ : ∃ w2, w1.alloc (.cells #[.slice none 0 0, .slice none 0 0, .slice none 0 0, .slice none 0 0] 24) = w2 := ⟨_, rfl⟩
  obtain ⟨B, hB⟩ : ∃ B, B = w1.heap.size := ⟨_, rfl⟩
  have F2 := Lib.hid (show Fuw w1 w2 by rw [← hw2]; exact fuwA _ _)
  have FB := Lib.hid (show Fam w2 w1.heap.size B 24 _ _ from fam_0 (by rw [hB, ← hw2]; exact Bk.new _ _ _) (by rw [hB]; exact Nat.le_refl _))
  rw [hw2]
  rw [← hB]
  clear hw2 hB
  go_wp2
  go_loopw [5] (fun iv wr => ∃ i : Nat, iv = .int .i64 i ∧ i ≤ s.length ∧ Hid (∃ v0 v1 v2 v3, Fam wr w1.heap.size B 24 [v0, v1, v2, v3] [(layN s i).ns, (layN s i).fs, (layN s i).ts, (layN s i).es]) ∧ Hid (Fuw w1 wr)) (fun iv _ => s.length - (RowKit.intOf iv).toNat)
  case atStart => exact ⟨0, rfl, Nat.zero_le _, Lib.hid ⟨_, _, _, _, FB.out⟩, Lib.hid F2.out⟩
  case round =>
    obtain ⟨i, rfl, hi, HFm, hf⟩ := hrel
    by_cases hlt : i < s.length
    · by_cases h0 : i = 0
      · have HT := Lib.hid (layN_t hlt (show hdB s i = true by unfold hdB; rw [decide_eq_true h0]; rfl))
        obtain ⟨b, o, rfl, hg⟩ := (slJ_on hf.out HS.out).get hlt
        obtain ⟨x, hx⟩ : ∃ x, s[i] = x := ⟨_, rfl⟩
        have HX := Lib.hid hx
        rw [hx] at HT
        obtain ⟨x0, x1, x2⟩ := x
        simp only at HT
        have hi0q : ((i : Int) == 0) = true := by rw [h0]; rfl
        clear h0 hx hg
        have hq4 := layN_len s i
        have hlt' : (i : Int) < (s.length : Int) := by omega
        generalize (layN s i).ns = n at *
        generalize (layN s i).fs = f at *
        generalize (layN s i).ts = t at *
        generalize (layN s i).es = e at *
        have HLn0 := Lib.hid (show n.length ≤ 50000 by omega)
        have HLn1 := Lib.hid (show f.length ≤ 50000 by omega)
        have HLn2 := Lib.hid (show t.length ≤ 50000 by omega)
        have HLn3 := Lib.hid (show e.length ≤ 50000 by omega)
        clear hq4
        obtain ⟨v0, v1, v2, v3, FM⟩ := HFm.out
        go_upto_region 6 with fail
        go_quiet (fail)
        obtain ⟨V, hV⟩ : ∃ V, wr.drewN nq = V := ⟨_, rfl⟩
        have FV := Lib.hid (show Fuw wr V by rw [← hV]; exact fuw_dr wr nq)
        have FX := Lib.hid (hf.out.trans FV.out)
        have FA := Lib.hid (FM.on FV.out)
        rw [hV]
        clear hV hi0q
        have k0 : V.cell? ⟨B, 0, none⟩ = some v0 := FA.out.c 0
        have f0 := FA.out.f 0
        have FDA := Lib.hid (show Fuw V (V.drew.alloc (.cells #[.int .i64 x0] 3)) from (fuw_dr V 1).trans (fuwA _ _))
        have FT := Lib.hid (FA.out.on FDA.out)
        have FTf := Lib.hid (FX.out.trans FDA.out)
        obtain ⟨b', o', e', hg⟩ := (slJ_on FX.out HS.out).get hlt
        cases e'
        rw [HX.out] at hg
        obtain ⟨-, -, -, c0, c1, c2⟩ := hg
        simp only at c0 c1 c2
        go_upto_region 7 with fail
        obtain ⟨S, hS⟩ : ∃ S : World → Prop, S = (fun w8 => w8.cell? ⟨B, 0, none⟩ = some v0 ∧ w8.cell? ⟨b, o + i * 3, none⟩ = some (.int .i64 x0)) := ⟨_, rfl⟩
        have HS4 := Lib.hid hS
        clear hS
        refine lst_start [8, 10] S (by kernel_rfl) ?_
        have hS0 : S V.drew := by rw [HS4.out]; exact ⟨cellOnw (fuw_dr V 1) k0, cellOnw (fuw_dr V 1) c0⟩
        refine takeP (i := 0) (d := some 30) (v := ?_) rfl rfl (by kernel_rfl) (by kernel_rfl) (by kernel_rfl) (by kernel_rfl) (by kernel_rfl) (fun _ _ _ h => h) (Or.inl ⟨by rfl, ?_⟩) (by first | exact Or.inr (by assumption) | exact Or.inl (by kernel_rfl)) ?_
        rotate_left
        · ((intro w8 _; go_simp); try with_reducible rfl)
        try simp only [Act.put]
        try simp only [List.setIfInBounds_toArray]
        try simp only [List.set_cons_succ]
        try simp only [List.set_cons_zero]
        refine takeL (i := 1) (d := some 31) (v := ?_) rfl rfl (by kernel_rfl) (by kernel_rfl) (by kernel_rfl) (by kernel_rfl) (by kernel_rfl) (fun _ _ _ h => h) (Or.inl ⟨by rfl, ?_⟩) (by assumption) ?_
        rotate_left
        · ((intro w8 hSw; rw [HS4.out] at hSw; obtain ⟨h1, h2⟩ := hSw; go_simp); try with_reducible rfl)
        try simp only [Act.put]
        try simp only [List.setIfInBounds_toArray]
        try simp only [List.set_cons_succ]
        try simp only [List.set_cons_zero]
        refine takeP (i := 2) (d := some 32) (v := ?_) rfl rfl (by kernel_rfl) (by kernel_rfl) (by kernel_rfl) (by kernel_rfl) (by kernel_rfl) (fun _ _ _ h => h) (Or.inl ⟨by rfl, ?_⟩) (by first | exact Or.inr (by assumption) | exact Or.inl (by kernel_rfl)) ?_
        rotate_left
        · ((intro w8 _; go_simp); try with_reducible rfl)
        try simp only [Act.put]
        try simp only [List.setIfInBounds_toArray]
        try simp only [List.set_cons_succ]
        try simp only [List.set_cons_zero]
        refine takeP (i := 3) (d := some 33) (v := ?_) rfl rfl (by kernel_rfl) (by kernel_rfl) (by kernel_rfl) (by kernel_rfl) (by kernel_rfl) (fun _ _ _ h => h) (Or.inl ⟨by rfl, ?_⟩) (by first | exact Or.inr (by assumption) | exact Or.inl (by kernel_rfl)) ?_
        rotate_left
        · ((intro w8 _; go_simp); try with_reducible rfl)
        try simp only [Act.put]
        try simp only [List.setIfInBounds_toArray]
        try simp only [List.set_cons_succ]
        try simp only [List.set_cons_zero]
        refine takeP (i := 4) (d := some 34) (v := ?_) rfl rfl (by kernel_rfl) (by kernel_rfl) (by kernel_rfl) (by kernel_rfl) (by kernel_rfl) (fun _ _ _ h => h) (Or.inl ⟨by rfl, ?_⟩) (by first | exact Or.inr (by assumption) | exact Or.inl (by kernel_rfl)) ?_
        rotate_left
        · ((intro w8 _; go_simp); try with_reducible rfl)
        try simp only [Act.put]
        try simp only [List.setIfInBounds_toArray]
        try simp only [List.set_cons_succ]
        try simp only [List.set_cons_zero]
        refine takeP (i := 5) (d := some 35) (v := ?_) rfl rfl (by kernel_rfl) (by kernel_rfl) (by kernel_rfl) (by kernel_rfl) (by kernel_rfl) (fun _ _ _ h => h) (Or.inl ⟨by rfl, ?_⟩) (by first | exact Or.inr (by assumption) | exact Or.inl (by kernel_rfl)) ?_
        rotate_left
        · ((intro w8 _; go_simp); try with_reducible rfl)
        try simp only [Act.put]
        try simp only [List.setIfInBounds_toArray]
        try simp only [List.set_cons_succ]
        try simp only [List.set_cons_zero]
        refine takeL (i := 6) (d := some 36) (v := ?_) rfl rfl (by kernel_rfl) (by kernel_rfl) (by kernel_rfl) (by kernel_rfl) (by kernel_rfl) (fun _ _ _ h => h) (Or.inl ⟨by rfl, ?_⟩) (by assumption) ?_
        rotate_left
        · ((intro w8 hSw; rw [HS4.out] at hSw; obtain ⟨h1, h2⟩ := hSw; go_simp); try with_reducible rfl)
        try simp only [Act.put]
        try simp only [List.setIfInBounds_toArray]
        try simp only [List.set_cons_succ]
        try simp only [List.set_cons_zero]
        refine oneL (i := 7) rfl (by kernel_rfl) (fun K8 hK8 => ?_)
        go_simp
        skip
        refine hK8 _ _ (by rw [HS4.out]; exact ⟨cellOnw FDA.out k0, cellOnw FDA.out c0⟩) ?_
        try simp only [Act.put]
        try simp only [List.setIfInBounds_toArray]
        try simp only [List.set_cons_succ]
        try simp only [List.set_cons_zero]
        refine outL (i := 8) rfl (by kernel_rfl) (by kernel_rfl) (fun K8 hK8 => ?_)
        refine step_append_lies _ rfl (.tmp 31) (.tmp 37) 22 rfl w1.heap.size 3 i0 (.int .i64 0) 1 8 Tryz.underlying22 hi0 hz0 hz1 hz2 rfl (by decide) _ n.length (cs n) rfl (FT.out.o 0 (by simp) (by simp)) ⟨V.heap.size, 0, none⟩ 1 1 [.int .i64 x0] rfl rfl (World.news_of_block (by exact heap_alloc_new V.drew _)) (one_int _) (by decide) (by have := HLn0.out; unfold maxLen; omega) (by have := HLn0.out; omega) FTf.out.size _ rfl ?_
        intro g0 p0 w5 hown5 hgrow hat _; have MT := Lib.hid (FT.out.mid tyC (j := 0) (by simp) (by simp) hgrow); have k1 : w5.cell? ⟨B, 0, none⟩ = some v0 := MT.out.c 0; have f1 := MT.out.f 0; have FP := Lib.hid (FT.out.app tyC (j := 0) (by simp) (by simp) hown5 hgrow (lies_at hat)); have FQ := Lib.hid (FT.out.appW FTf.out (j := 0) (by simp) (by simp) hgrow (.slice (some ⟨g0, 0, none⟩) (n.length + 1) p0)); clear hown5 hgrow hat MT
        refine hK8 _ _ ?_
        try simp only [Act.put]
        try simp only [List.setIfInBounds_toArray]
        try simp only [List.set_cons_succ]
        try simp only [List.set_cons_zero]
        refine takeP (i := 9) (d := some 39) (v := ?_) rfl rfl (by kernel_rfl) (by kernel_rfl) (by kernel_rfl) (by kernel_rfl) (by kernel_rfl) (fun _ _ _ h => h) (Or.inl ⟨by rfl, ?_⟩) (by first | exact Or.inr (by assumption) | exact Or.inl (by kernel_rfl)) ?_
        rotate_left
        · ((intro w8 _; go_simp); try with_reducible rfl)
        try simp only [Act.put]
        try simp only [List.setIfInBounds_toArray]
        try simp only [List.set_cons_succ]
        try simp only [List.set_cons_zero]
        refine outL (i := 10) rfl (by kernel_rfl) (by kernel_rfl) (fun K8 hK8 => ?_)
        go_simp

        refine hK8 _ _ ?_
        try simp only [Act.put]
        try simp only [List.setIfInBounds_toArray]
        try simp only [List.set_cons_succ]
        try simp only [List.set_cons_zero]
        refine lst_done (by kernel_rfl) ?_ _
        obtain ⟨y0, hw⟩ : ∃ y0, w5.setCell ⟨B, 0, none⟩ (.slice (some ⟨g0, 0, none⟩) (n.length + 1) p0) = y0 := ⟨_, rfl⟩
        rw [hw] at FP FQ
        have FA0 := Lib.hid (show Fam y0 w1.heap.size B 24 [.slice (some ⟨g0, 0, none⟩) (n.length + 1) p0, v1, v2, v3] [(n ++ [x0]), f, t, e] from FP.out)
        have FX0 := FQ
        rw [hw]
        clear hw k1 f1 FT FP k0 f0
        clear c0 c1 c2 FDA FTf
        have k0 : y0.cell? ⟨B, 1, none⟩ = some v1 := FA0.out.c 1
        have f0 := FA0.out.f 1
        have FT := Lib.hid (FA0.out.on (fuwA y0 (.cells #[.int .i64 (i : Int)] 3)))
        have FTf := Lib.hid (show Fuw w1 (y0.alloc (.cells #[.int .i64 (i : Int)] 3)) from FX0.out.trans (fuwA _ _))
        go_upto_region 9 with (at_builtin; refine wpList_append_lies _ rfl (.tmp 41) (.tmp 43) 22 rfl w1.heap.size 3 i0 (.int .i64 0) 1 8 Tryz.underlying22 hi0 hz0 hz1 hz2 rfl (by decide) _ f.length (cs f) rfl (FT.out.o 1 (by simp) (by simp)) ⟨y0.heap.size, 0, none⟩ 1 1 [.int .i64 (i : Int)] rfl rfl (World.news_of_block (heap_alloc_new y0 _)) (one_int _) (by decide) (by have := HLn1.out; unfold maxLen; omega) (by have := HLn1.out; omega) (Nat.le_trans FX0.out.size (by simp)) _ rfl ?_; intro g1 p1 w5 hown5 hgrow hat _; have MT := Lib.hid (FT.out.mid tyC (j := 1) (by simp) (by simp) hgrow); have k1 : w5.cell? ⟨B, 1, none⟩ = some v1 := MT.out.c 1; have f1 := MT.out.f 1; have FP := Lib.hid (FT.out.app tyC (j := 1) (by simp) (by simp) hown5 hgrow (lies_at hat)); have FQ := Lib.hid (FT.out.appW FTf.out (j := 1) (by simp) (by simp) hgrow (.slice (some ⟨g1, 0, none⟩) (f.length + 1) p1)); clear hown5 hgrow hat MT)
        obtain ⟨y1, hw⟩ : ∃ y1, w5.setCell ⟨B, 1, none⟩ (.slice (some ⟨g1, 0, none⟩) (f.length + 1) p1) = y1 := ⟨_, rfl⟩
        rw [hw] at FP FQ
        have FA01 := Lib.hid (show Fam y1 w1.heap.size B 24 [.slice (some ⟨g0, 0, none⟩) (n.length + 1) p0, .slice (some ⟨g1, 0, none⟩) (f.length + 1) p1, v2, v3] [(n ++ [x0]), (f ++ [(i : Int)]), t, e] from FP.out)
        have FX01 := FQ
        rw [hw]
        clear hw k1 f1 FT FP k0 f0
        clear FTf
        have k0 : y1.cell? ⟨B, 2, none⟩ = some v2 := FA01.out.c 2
        have f0 := FA01.out.f 2
        have FDA := Lib.hid (show Fuw y1 (y1.drew.alloc (.cells #[.int .i64 x1] 3)) from (fuw_dr y1 1).trans (fuwA _ _))
        have FT := Lib.hid (FA01.out.on FDA.out)
        have FTf := Lib.hid (FX01.out.trans FDA.out)
        obtain ⟨b', o', e', hg⟩ := (slJ_on FX01.out HS.out).get hlt
        cases e'
        rw [HX.out] at hg
        obtain ⟨-, -, -, c0, c1, c2⟩ := hg
        simp only at c0 c1 c2
        go_upto_region 9 with fail
        obtain ⟨S, hS⟩ : ∃ S : World → Prop, S = (fun w8 => w8.cell? ⟨B, 2, none⟩ = some v2 ∧ w8.cell? ⟨b, o + i * 3 + 1, none⟩ = some (.int .i64 x1)) := ⟨_, rfl⟩
        have HS4 := Lib.hid hS
        clear hS
        refine lst_start [8, 10] S (by kernel_rfl) ?_
        have hS0 : S y1.drew := by rw [HS4.out]; exact ⟨cellOnw (fuw_dr y1 1) k0, cellOnw (fuw_dr y1 1) c1⟩
        refine takeP (i := 0) (d := some 46) (v := ?_) rfl rfl (by kernel_rfl) (by kernel_rfl) (by kernel_rfl) (by kernel_rfl) (by kernel_rfl) (fun _ _ _ h => h) (Or.inl ⟨by rfl, ?_⟩) (by first | exact Or.inr (by assumption) | exact Or.inl (by kernel_rfl)) ?_
        rotate_left
        · ((intro w8 _; go_simp); try with_reducible rfl)
        try simp only [Act.put]
        try simp only [List.setIfInBounds_toArray]
        try simp only [List.set_cons_succ]
        try simp only [List.set_cons_zero]
        refine takeL (i := 1) (d := some 47) (v := ?_) rfl rfl (by kernel_rfl) (by kernel_rfl) (by kernel_rfl) (by kernel_rfl) (by kernel_rfl) (fun _ _ _ h => h) (Or.inl ⟨by rfl, ?_⟩) (by assumption) ?_
        rotate_left
        · ((intro w8 hSw; rw [HS4.out] at hSw; obtain ⟨h1, h2⟩ := hSw; go_simp); try with_reducible rfl)
        try simp only [Act.put]
        try simp only [List.setIfInBounds_toArray]
        try simp only [List.set_cons_succ]
        try simp only [List.set_cons_zero]
        refine takeP (i := 2) (d := some 48) (v := ?_) rfl rfl (by kernel_rfl) (by kernel_rfl) (by kernel_rfl) (by kernel_rfl) (by kernel_rfl) (fun _ _ _ h => h) (Or.inl ⟨by rfl, ?_⟩) (by first | exact Or.inr (by assumption) | exact Or.inl (by kernel_rfl)) ?_
        rotate_left
        · ((intro w8 _; go_simp); try with_reducible rfl)
        try simp only [Act.put]
        try simp only [List.setIfInBounds_toArray]
        try simp only [List.set_cons_succ]
        try simp only [List.set_cons_zero]
        refine takeP (i := 3) (d := some 49) (v := ?_) rfl rfl (by kernel_rfl) (by kernel_rfl) (by kernel_rfl) (by kernel_rfl) (by kernel_rfl) (fun _ _ _ h => h) (Or.inl ⟨by rfl, ?_⟩) (by first | exact Or.inr (by assumption) | exact Or.inl (by kernel_rfl)) ?_
        rotate_left
        · ((intro w8 _; go_simp); try with_reducible rfl)
        try simp only [Act.put]
        try simp only [List.setIfInBounds_toArray]
        try simp only [List.set_cons_succ]
        try simp only [List.set_cons_zero]
        refine takeP (i := 4) (d := some 50) (v := ?_) rfl rfl (by kernel_rfl) (by kernel_rfl) (by kernel_rfl) (by kernel_rfl) (by kernel_rfl) (fun _ _ _ h => h) (Or.inl ⟨by rfl, ?_⟩) (by first | exact Or.inr (by assumption) | exact Or.inl (by kernel_rfl)) ?_
        rotate_left
        · ((intro w8 _; go_simp); try with_reducible rfl)
        try simp only [Act.put]
        try simp only [List.setIfInBounds_toArray]
        try simp only [List.set_cons_succ]
        try simp only [List.set_cons_zero]
        refine takeP (i := 5) (d := some 51) (v := ?_) rfl rfl (by kernel_rfl) (by kernel_rfl) (by kernel_rfl) (by kernel_rfl) (by kernel_rfl) (fun _ _ _ h => h) (Or.inl ⟨by rfl, ?_⟩) (by first | exact Or.inr (by assumption) | exact Or.inl (by kernel_rfl)) ?_
        rotate_left
        · ((intro w8 _; go_simp); try with_reducible rfl)
        try simp only [Act.put]
        try simp only [List.setIfInBounds_toArray]
        try simp only [List.set_cons_succ]
        try simp only [List.set_cons_zero]
        refine takeL (i := 6) (d := some 52) (v := ?_) rfl rfl (by kernel_rfl) (by kernel_rfl) (by kernel_rfl) (by kernel_rfl) (by kernel_rfl) (fun _ _ _ h => h) (Or.inl ⟨by rfl, ?_⟩) (by assumption) ?_
        rotate_left
        · ((intro w8 hSw; rw [HS4.out] at hSw; obtain ⟨h1, h2⟩ := hSw; go_simp); try with_reducible rfl)
        try simp only [Act.put]
        try simp only [List.setIfInBounds_toArray]
        try simp only [List.set_cons_succ]
        try simp only [List.set_cons_zero]
        refine oneL (i := 7) rfl (by kernel_rfl) (fun K8 hK8 => ?_)
        go_simp
        skip
        refine hK8 _ _ (by rw [HS4.out]; exact ⟨cellOnw FDA.out k0, cellOnw FDA.out c1⟩) ?_
        try simp only [Act.put]
        try simp only [List.setIfInBounds_toArray]
        try simp only [List.set_cons_succ]
        try simp only [List.set_cons_zero]
        refine outL (i := 8) rfl (by kernel_rfl) (by kernel_rfl) (fun K8 hK8 => ?_)
        refine step_append_lies _ rfl (.tmp 47) (.tmp 53) 22 rfl w1.heap.size 3 i0 (.int .i64 0) 1 8 Tryz.underlying22 hi0 hz0 hz1 hz2 rfl (by decide) _ t.length (cs t) rfl (FT.out.o 2 (by simp) (by simp)) ⟨y1.heap.size, 0, none⟩ 1 1 [.int .i64 x1] rfl rfl (World.news_of_block (by exact heap_alloc_new y1.drew _)) (one_int _) (by decide) (by have := HLn2.out; unfold maxLen; omega) (by have := HLn2.out; omega) FTf.out.size _ rfl ?_
        intro g2 p2 w5 hown5 hgrow hat _; have MT := Lib.hid (FT.out.mid tyC (j := 2) (by simp) (by simp) hgrow); have k1 : w5.cell? ⟨B, 2, none⟩ = some v2 := MT.out.c 2; have f1 := MT.out.f 2; have FP := Lib.hid (FT.out.app tyC (j := 2) (by simp) (by simp) hown5 hgrow (lies_at hat)); have FQ := Lib.hid (FT.out.appW FTf.out (j := 2) (by simp) (by simp) hgrow (.slice (some ⟨g2, 0, none⟩) (t.length + 1) p2)); clear hown5 hgrow hat MT
        refine hK8 _ _ ?_
        try simp only [Act.put]
        try simp only [List.setIfInBounds_toArray]
        try simp only [List.set_cons_succ]
        try simp only [List.set_cons_zero]
        refine takeP (i := 9) (d := some 55) (v := ?_) rfl rfl (by kernel_rfl) (by kernel_rfl) (by kernel_rfl) (by kernel_rfl) (by kernel_rfl) (fun _ _ _ h => h) (Or.inl ⟨by rfl, ?_⟩) (by first | exact Or.inr (by assumption) | exact Or.inl (by kernel_rfl)) ?_
        rotate_left
        · ((intro w8 _; go_simp); try with_reducible rfl)
        try simp only [Act.put]
        try simp only [List.setIfInBounds_toArray]
        try simp only [List.set_cons_succ]
        try simp only [List.set_cons_zero]
        refine outL (i := 10) rfl (by kernel_rfl) (by kernel_rfl) (fun K8 hK8 => ?_)
        go_simp

        refine hK8 _ _ ?_
        try simp only [Act.put]
        try simp only [List.setIfInBounds_toArray]
        try simp only [List.set_cons_succ]
        try simp only [List.set_cons_zero]
        refine lst_done (by kernel_rfl) ?_ _
        obtain ⟨y2, hw⟩ : ∃ y2, w5.setCell ⟨B, 2, none⟩ (.slice (some ⟨g2, 0, none⟩) (t.length + 1) p2) = y2 := ⟨_, rfl⟩
        rw [hw] at FP FQ
        have FA012 := Lib.hid (show Fam y2 w1.heap.size B 24 [.slice (some ⟨g0, 0, none⟩) (n.length + 1) p0, .slice (some ⟨g1, 0, none⟩) (f.length + 1) p1, .slice (some ⟨g2, 0, none⟩) (t.length + 1) p2, v3] [(n ++ [x0]), (f ++ [(i : Int)]), (t ++ [x1]), e] from FP.out)
        have FX012 := FQ
        rw [hw]
        clear hw k1 f1 FT FP k0 f0
        clear c0 c1 c2 FDA FTf
        have k0 : y2.cell? ⟨B, 3, none⟩ = some v3 := FA012.out.c 3
        have f0 := FA012.out.f 3
        have FDA := Lib.hid (show Fuw y2 (y2.drew.alloc (.cells #[.int .i64 x2] 3)) from (fuw_dr y2 1).trans (fuwA _ _))
        have FT := Lib.hid (FA012.out.on FDA.out)
        have FTf := Lib.hid (FX012.out.trans FDA.out)
        obtain ⟨b', o', e', hg⟩ := (slJ_on FX012.out HS.out).get hlt
        cases e'
        rw [HX.out] at hg
        obtain ⟨-, -, -, c0, c1, c2⟩ := hg
        simp only at c0 c1 c2
        go_upto_region 10 with fail
        obtain ⟨S, hS⟩ : ∃ S : World → Prop, S = (fun w8 => w8.cell? ⟨B, 3, none⟩ = some v3 ∧ w8.cell? ⟨b, o + i * 3 + 2, none⟩ = some (.int .i64 x2)) := ⟨_, rfl⟩
        have HS4 := Lib.hid hS
        clear hS
        refine lst_start [8, 10] S (by kernel_rfl) ?_
        have hS0 : S y2.drew := by rw [HS4.out]; exact ⟨cellOnw (fuw_dr y2 1) k0, cellOnw (fuw_dr y2 1) c2⟩
        refine takeP (i := 0) (d := some 56) (v := ?_) rfl rfl (by kernel_rfl) (by kernel_rfl) (by kernel_rfl) (by kernel_rfl) (by kernel_rfl) (fun _ _ _ h => h) (Or.inl ⟨by rfl, ?_⟩) (by first | exact Or.inr (by assumption) | exact Or.inl (by kernel_rfl)) ?_
        rotate_left
        · ((intro w8 _; go_simp); try with_reducible rfl)
        try simp only [Act.put]
        try simp only [List.setIfInBounds_toArray]
        try simp only [List.set_cons_succ]
        try simp only [List.set_cons_zero]
        refine takeL (i := 1) (d := some 57) (v := ?_) rfl rfl (by kernel_rfl) (by kernel_rfl) (by kernel_rfl) (by kernel_rfl) (by kernel_rfl) (fun _ _ _ h => h) (Or.inl ⟨by rfl, ?_⟩) (by assumption) ?_
        rotate_left
        · ((intro w8 hSw; rw [HS4.out] at hSw; obtain ⟨h1, h2⟩ := hSw; go_simp); try with_reducible rfl)
        try simp only [Act.put]
        try simp only [List.setIfInBounds_toArray]
        try simp only [List.set_cons_succ]
        try simp only [List.set_cons_zero]
        refine takeP (i := 2) (d := some 58) (v := ?_) rfl rfl (by kernel_rfl) (by kernel_rfl) (by kernel_rfl) (by kernel_rfl) (by kernel_rfl) (fun _ _ _ h => h) (Or.inl ⟨by rfl, ?_⟩) (by first | exact Or.inr (by assumption) | exact Or.inl (by kernel_rfl)) ?_
        rotate_left
        · ((intro w8 _; go_simp); try with_reducible rfl)
        try simp only [Act.put]
        try simp only [List.setIfInBounds_toArray]
        try simp only [List.set_cons_succ]
        try simp only [List.set_cons_zero]
        refine takeP (i := 3) (d := some 59) (v := ?_) rfl rfl (by kernel_rfl) (by kernel_rfl) (by kernel_rfl) (by kernel_rfl) (by kernel_rfl) (fun _ _ _ h => h) (Or.inl ⟨by rfl, ?_⟩) (by first | exact Or.inr (by assumption) | exact Or.inl (by kernel_rfl)) ?_
        rotate_left
        · ((intro w8 _; go_simp); try with_reducible rfl)
        try simp only [Act.put]
        try simp only [List.setIfInBounds_toArray]
        try simp only [List.set_cons_succ]
        try simp only [List.set_cons_zero]
        refine takeP (i := 4) (d := some 60) (v := ?_) rfl rfl (by kernel_rfl) (by kernel_rfl) (by kernel_rfl) (by kernel_rfl) (by kernel_rfl) (fun _ _ _ h => h) (Or.inl ⟨by rfl, ?_⟩) (by first | exact Or.inr (by assumption) | exact Or.inl (by kernel_rfl)) ?_
        rotate_left
        · ((intro w8 _; go_simp); try with_reducible rfl)
        try simp only [Act.put]
        try simp only [List.setIfInBounds_toArray]
        try simp only [List.set_cons_succ]
        try simp only [List.set_cons_zero]
        refine takeP (i := 5) (d := some 61) (v := ?_) rfl rfl (by kernel_rfl) (by kernel_rfl) (by kernel_rfl) (by kernel_rfl) (by kernel_rfl) (fun _ _ _ h => h) (Or.inl ⟨by rfl, ?_⟩) (by first | exact Or.inr (by assumption) | exact Or.inl (by kernel_rfl)) ?_
        rotate_left
        · ((intro w8 _; go_simp); try with_reducible rfl)
        try simp only [Act.put]
        try simp only [List.setIfInBounds_toArray]
        try simp only [List.set_cons_succ]
        try simp only [List.set_cons_zero]
        refine takeL (i := 6) (d := some 62) (v := ?_) rfl rfl (by kernel_rfl) (by kernel_rfl) (by kernel_rfl) (by kernel_rfl) (by kernel_rfl) (fun _ _ _ h => h) (Or.inl ⟨by rfl, ?_⟩) (by assumption) ?_
        rotate_left
        · ((intro w8 hSw; rw [HS4.out] at hSw; obtain ⟨h1, h2⟩ := hSw; go_simp); try with_reducible rfl)
        try simp only [Act.put]
        try simp only [List.setIfInBounds_toArray]
        try simp only [List.set_cons_succ]
        try simp only [List.set_cons_zero]
        refine oneL (i := 7) rfl (by kernel_rfl) (fun K8 hK8 => ?_)
        go_simp
        skip
        refine hK8 _ _ (by rw [HS4.out]; exact ⟨cellOnw FDA.out k0, cellOnw FDA.out c2⟩) ?_
        try simp only [Act.put]
        try simp only [List.setIfInBounds_toArray]
        try simp only [List.set_cons_succ]
        try simp only [List.set_cons_zero]
        refine outL (i := 8) rfl (by kernel_rfl) (by kernel_rfl) (fun K8 hK8 => ?_)
        refine step_append_lies _ rfl (.tmp 57) (.tmp 63) 22 rfl w1.heap.size 3 i0 (.int .i64 0) 1 8 Tryz.underlying22 hi0 hz0 hz1 hz2 rfl (by decide) _ e.length (cs e) rfl (FT.out.o 3 (by simp) (by simp)) ⟨y2.heap.size, 0, none⟩ 1 1 [.int .i64 x2] rfl rfl (World.news_of_block (by exact heap_alloc_new y2.drew _)) (one_int _) (by decide) (by have := HLn3.out; unfold maxLen; omega) (by have := HLn3.out; omega) FTf.out.size _ rfl ?_
        intro g3 p3 w5 hown5 hgrow hat _; have MT := Lib.hid (FT.out.mid tyC (j := 3) (by simp) (by simp) hgrow); have k1 : w5.cell? ⟨B, 3, none⟩ = some v3 := MT.out.c 3; have f1 := MT.out.f 3; have FP := Lib.hid (FT.out.app tyC (j := 3) (by simp) (by simp) hown5 hgrow (lies_at hat)); have FQ := Lib.hid (FT.out.appW FTf.out (j := 3) (by simp) (by simp) hgrow (.slice (some ⟨g3, 0, none⟩) (e.length + 1) p3)); clear hown5 hgrow hat MT
        refine hK8 _ _ ?_
        try simp only [Act.put]
        try simp only [List.setIfInBounds_toArray]
        try simp only [List.set_cons_succ]
        try simp only [List.set_cons_zero]
        refine takeP (i := 9) (d := some 65) (v := ?_) rfl rfl (by kernel_rfl) (by kernel_rfl) (by kernel_rfl) (by kernel_rfl) (by kernel_rfl) (fun _ _ _ h => h) (Or.inl ⟨by rfl, ?_⟩) (by first | exact Or.inr (by assumption) | exact Or.inl (by kernel_rfl)) ?_
        rotate_left
        · ((intro w8 _; go_simp); try with_reducible rfl)
        try simp only [Act.put]
        try simp only [List.setIfInBounds_toArray]
        try simp only [List.set_cons_succ]
        try simp only [List.set_cons_zero]
        refine outL (i := 10) rfl (by kernel_rfl) (by kernel_rfl) (fun K8 hK8 => ?_)
        go_simp

        refine hK8 _ _ ?_
        try simp only [Act.put]
        try simp only [List.setIfInBounds_toArray]
        try simp only [List.set_cons_succ]
        try simp only [List.set_cons_zero]
        refine lst_done (by kernel_rfl) ?_ _
        obtain ⟨y3, hw⟩ : ∃ y3, w5.setCell ⟨B, 3, none⟩ (.slice (some ⟨g3, 0, none⟩) (e.length + 1) p3) = y3 := ⟨_, rfl⟩
        rw [hw] at FP FQ
        have FA0123 := Lib.hid (show Fam y3 w1.heap.size B 24 [.slice (some ⟨g0, 0, none⟩) (n.length + 1) p0, .slice (some ⟨g1, 0, none⟩) (f.length + 1) p1, .slice (some ⟨g2, 0, none⟩) (t.length + 1) p2, .slice (some ⟨g3, 0, none⟩) (e.length + 1) p3] [(n ++ [x0]), (f ++ [(i : Int)]), (t ++ [x1]), (e ++ [x2])] from FP.out)
        have FX0123 := FQ
        rw [hw]
        clear hw k1 f1 FT FP k0 f0
        clear c0 c1 c2 FDA FTf
        have HFm2 := Lib.hid (show ∃ v0 v1 v2 v3, Fam y3 w1.heap.size B 24 [v0, v1, v2, v3] [(layN s (i + 1)).ns, (layN s (i + 1)).fs, (layN s (i + 1)).ts, (layN s (i + 1)).es] from ⟨_, _, _, _, by rw [HT.out]; exact FA0123.out⟩)
        go_wp2
        go_roundw
        case rel => exact ⟨i + 1, by go_num, by omega, HFm2, FX0123⟩
        case measure => simp [RowKit.intOf]; omega
      · obtain ⟨m, hm⟩ : ∃ m, i = m + 1 := ⟨i - 1, by omega⟩
        have hml : m < s.length := by omega
        obtain ⟨b, o, rfl, ⟨-, -, -, p0, -, -⟩, hg⟩ := (slJ_on hf.out HS.out).get2 hml hlt
        have HH := Lib.hid (show hdB s i = !decide (s[i].1 = s[m].1) by
          unfold hdB
          rw [decide_eq_false h0, gdJ hlt, show i - 1 = m by omega, gdJ hml]; rfl)
        have HTt := Lib.hid (fun h => layN_t hlt h)
        have HTf := Lib.hid (fun h => layN_f hlt h)
        generalize s[m].1 = pv at *
        obtain ⟨x, hx⟩ : ∃ x, s[i] = x := ⟨_, rfl⟩
        have HX := Lib.hid hx
        rw [hx] at HTt HTf HH hg
        obtain ⟨x0, x1, x2⟩ := x
        obtain ⟨-, -, -, c0, -, -⟩ := hg
        simp only at c0 HTt HTf HH
        have hi0q : ((i : Int) == 0) = false := by rw [beq_eq_false_iff_ne]; omega
        have k1 : IntKind.i64.wrap ((i : Int) - 1) = (m : Int) := by rw [show (i : Int) - 1 = m by omega]; exact IntWalk.i64_in _ (by omega)
        have k2 : (m : Int) < (s.length : Int) := by omega
        clear h0 hm hx
        by_cases hxp : x0 = pv
        · have hq : (x0 != pv) = false := by rw [bne_eq_false_iff_eq]; exact hxp
          have HT := Lib.hid (HTf.out (by rw [HH.out, decide_eq_true hxp]; rfl))
          clear hxp HTt HTf HH
          have hq4 := layN_len s i
          have hlt' : (i : Int) < (s.length : Int) := by omega
          generalize (layN s i).ns = n at *
          generalize (layN s i).fs = f at *
          generalize (layN s i).ts = t at *
          generalize (layN s i).es = e at *
          have HLn0 := Lib.hid (show n.length ≤ 50000 by omega)
          have HLn1 := Lib.hid (show f.length ≤ 50000 by omega)
          have HLn2 := Lib.hid (show t.length ≤ 50000 by omega)
          have HLn3 := Lib.hid (show e.length ≤ 50000 by omega)
          clear hq4
          obtain ⟨v0, v1, v2, v3, FM⟩ := HFm.out
          go_upto_region 6 with fail
          go_quiet (fail)
          obtain ⟨V, hV⟩ : ∃ V, wr.drewN nq = V := ⟨_, rfl⟩
          have FV := Lib.hid (show Fuw wr V by rw [← hV]; exact fuw_dr wr nq)
          have FX := Lib.hid (hf.out.trans FV.out)
          have FA := Lib.hid (FM.on FV.out)
          rw [hV]
          clear hV hi0q k1 k2 hq p0 c0
          have k0 : V.cell? ⟨B, 2, none⟩ = some v2 := FA.out.c 2
          have f0 := FA.out.f 2
          have FDA := Lib.hid (show Fuw V (V.drew.alloc (.cells #[.int .i64 x1] 3)) from (fuw_dr V 1).trans (fuwA _ _))
          have FT := Lib.hid (FA.out.on FDA.out)
          have FTf := Lib.hid (FX.out.trans FDA.out)
          obtain ⟨b', o', e', hg⟩ := (slJ_on FX.out HS.out).get hlt
          cases e'
          rw [HX.out] at hg
          obtain ⟨-, -, -, c0, c1, c2⟩ := hg
          simp only at c0 c1 c2
          go_upto_region 9 with fail
          obtain ⟨S, hS⟩ : ∃ S : World → Prop, S = (fun w8 => w8.cell? ⟨B, 2, none⟩ = some v2 ∧ w8.cell? ⟨b, o + i * 3 + 1, none⟩ = some (.int .i64 x1)) := ⟨_, rfl⟩
          have HS4 := Lib.hid hS
          clear hS
          refine lst_start [8, 10] S (by kernel_rfl) ?_
          have hS0 : S V.drew := by rw [HS4.out]; exact ⟨cellOnw (fuw_dr V 1) k0, cellOnw (fuw_dr V 1) c1⟩
          refine takeP (i := 0) (d := some 46) (v := ?_) rfl rfl (by kernel_rfl) (by kernel_rfl) (by kernel_rfl) (by kernel_rfl) (by kernel_rfl) (fun _ _ _ h => h) (Or.inl ⟨by rfl, ?_⟩) (by first | exact Or.inr (by assumption) | exact Or.inl (by kernel_rfl)) ?_
          rotate_left
          · ((intro w8 _; go_simp); try with_reducible rfl)
          try simp only [Act.put]
          try simp only [List.setIfInBounds_toArray]
          try simp only [List.set_cons_succ]
          try simp only [List.set_cons_zero]
          refine takeL (i := 1) (d := some 47) (v := ?_) rfl rfl (by kernel_rfl) (by kernel_rfl) (by kernel_rfl) (by kernel_rfl) (by kernel_rfl) (fun _ _ _ h => h) (Or.inl ⟨by rfl, ?_⟩) (by assumption) ?_
          rotate_left
          · ((intro w8 hSw; rw [HS4.out] at hSw; obtain ⟨h1, h2⟩ := hSw; go_simp); try with_reducible rfl)
          try simp only [Act.put]
          try simp only [List.setIfInBounds_toArray]
          try simp only [List.set_cons_succ]
          try simp only [List.set_cons_zero]
          refine takeP (i := 2) (d := some 48) (v := ?_) rfl rfl (by kernel_rfl) (by kernel_rfl) (by kernel_rfl) (by kernel_rfl) (by kernel_rfl) (fun _ _ _ h => h) (Or.inl ⟨by rfl, ?_⟩) (by first | exact Or.inr (by assumption) | exact Or.inl (by kernel_rfl)) ?_
          rotate_left
          · ((intro w8 _; go_simp); try with_reducible rfl)
          try simp only [Act.put]
          try simp only [List.setIfInBounds_toArray]
          try simp only [List.set_cons_succ]
          try simp only [List.set_cons_zero]
          refine takeP (i := 3) (d := some 49) (v := ?_) rfl rfl (by kernel_rfl) (by kernel_rfl) (by kernel_rfl) (by kernel_rfl) (by kernel_rfl) (fun _ _ _ h => h) (Or.inl ⟨by rfl, ?_⟩) (by first | exact Or.inr (by assumption) | exact Or.inl (by kernel_rfl)) ?_
          rotate_left
          · ((intro w8 _; go_simp); try with_reducible rfl)
          try simp only [Act.put]
          try simp only [List.setIfInBounds_toArray]
          try simp only [List.set_cons_succ]
          try simp only [List.set_cons_zero]
          refine takeP (i := 4) (d := some 50) (v := ?_) rfl rfl (by kernel_rfl) (by kernel_rfl) (by kernel_rfl) (by kernel_rfl) (by kernel_rfl) (fun _ _ _ h => h) (Or.inl ⟨by rfl, ?_⟩) (by first | exact Or.inr (by assumption) | exact Or.inl (by kernel_rfl)) ?_
          rotate_left
          · ((intro w8 _; go_simp); try with_reducible rfl)
          try simp only [Act.put]
          try simp only [List.setIfInBounds_toArray]
          try simp only [List.set_cons_succ]
          try simp only [List.set_cons_zero]
          refine takeP (i := 5) (d := some 51) (v := ?_) rfl rfl (by kernel_rfl) (by kernel_rfl) (by kernel_rfl) (by kernel_rfl) (by kernel_rfl) (fun _ _ _ h => h) (Or.inl ⟨by rfl, ?_⟩) (by first | exact Or.inr (by assumption) | exact Or.inl (by kernel_rfl)) ?_
          rotate_left
          · ((intro w8 _; go_simp); try with_reducible rfl)
          try simp only [Act.put]
          try simp only [List.setIfInBounds_toArray]
          try simp only [List.set_cons_succ]
          try simp only [List.set_cons_zero]
          refine takeL (i := 6) (d := some 52) (v := ?_) rfl rfl (by kernel_rfl) (by kernel_rfl) (by kernel_rfl) (by kernel_rfl) (by kernel_rfl) (fun _ _ _ h => h) (Or.inl ⟨by rfl, ?_⟩) (by assumption) ?_
          rotate_left
          · ((intro w8 hSw; rw [HS4.out] at hSw; obtain ⟨h1, h2⟩ := hSw; go_simp); try with_reducible rfl)
          try simp only [Act.put]
          try simp only [List.setIfInBounds_toArray]
          try simp only [List.set_cons_succ]
          try simp only [List.set_cons_zero]
          refine oneL (i := 7) rfl (by kernel_rfl) (fun K8 hK8 => ?_)
          go_simp
          skip
          refine hK8 _ _ (by rw [HS4.out]; exact ⟨cellOnw FDA.out k0, cellOnw FDA.out c1⟩) ?_
          try simp only [Act.put]
          try simp only [List.setIfInBounds_toArray]
          try simp only [List.set_cons_succ]
          try simp only [List.set_cons_zero]
          refine outL (i := 8) rfl (by kernel_rfl) (by kernel_rfl) (fun K8 hK8 => ?_)
          refine step_append_lies _ rfl (.tmp 47) (.tmp 53) 22 rfl w1.heap.size 3 i0 (.int .i64 0) 1 8 Tryz.underlying22 hi0 hz0 hz1 hz2 rfl (by decide) _ t.length (cs t) rfl (FT.out.o 2 (by simp) (by simp)) ⟨V.heap.size, 0, none⟩ 1 1 [.int .i64 x1] rfl rfl (World.news_of_block (by exact heap_alloc_new V.drew _)) (one_int _) (by decide) (by have := HLn2.out; unfold maxLen; omega) (by have := HLn2.out; omega) FTf.out.size _ rfl ?_
          intro g2 p2 w5 hown5 hgrow hat _; have MT := Lib.hid (FT.out.mid tyC (j := 2) (by simp) (by simp) hgrow); have k1 : w5.cell? ⟨B, 2, none⟩ = some v2 := MT.out.c 2; have f1 := MT.out.f 2; have FP := Lib.hid (FT.out.app tyC (j := 2) (by simp) (by simp) hown5 hgrow (lies_at hat)); have FQ := Lib.hid (FT.out.appW FTf.out (j := 2) (by simp) (by simp) hgrow (.slice (some ⟨g2, 0, none⟩) (t.length + 1) p2)); clear hown5 hgrow hat MT
          refine hK8 _ _ ?_
          try simp only [Act.put]
          try simp only [List.setIfInBounds_toArray]
          try simp only [List.set_cons_succ]
          try simp only [List.set_cons_zero]
          refine takeP (i := 9) (d := some 55) (v := ?_) rfl rfl (by kernel_rfl) (by kernel_rfl) (by kernel_rfl) (by kernel_rfl) (by kernel_rfl) (fun _ _ _ h => h) (Or.inl ⟨by rfl, ?_⟩) (by first | exact Or.inr (by assumption) | exact Or.inl (by kernel_rfl)) ?_
          rotate_left
          · ((intro w8 _; go_simp); try with_reducible rfl)
          try simp only [Act.put]
          try simp only [List.setIfInBounds_toArray]
          try simp only [List.set_cons_succ]
          try simp only [List.set_cons_zero]
          refine outL (i := 10) rfl (by kernel_rfl) (by kernel_rfl) (fun K8 hK8 => ?_)
          go_simp

          refine hK8 _ _ ?_
          try simp only [Act.put]
          try simp only [List.setIfInBounds_toArray]
          try simp only [List.set_cons_succ]
          try simp only [List.set_cons_zero]
          refine lst_done (by kernel_rfl) ?_ _
          obtain ⟨y2, hw⟩ : ∃ y2, w5.setCell ⟨B, 2, none⟩ (.slice (some ⟨g2, 0, none⟩) (t.length + 1) p2) = y2 := ⟨_, rfl⟩
          rw [hw] at FP FQ
          have FA2 := Lib.hid (show Fam y2 w1.heap.size B 24 [v0, v1, .slice (some ⟨g2, 0, none⟩) (t.length + 1) p2, v3] [n, f, (t ++ [x1]), e] from FP.out)
          have FX2 := FQ
          rw [hw]
          clear hw k1 f1 FT FP k0 f0
          clear c0 c1 c2 FDA FTf
          have k0 : y2.cell? ⟨B, 3, none⟩ = some v3 := FA2.out.c 3
          have f0 := FA2.out.f 3
          have FDA := Lib.hid (show Fuw y2 (y2.drew.alloc (.cells #[.int .i64 x2] 3)) from (fuw_dr y2 1).trans (fuwA _ _))
          have FT := Lib.hid (FA2.out.on FDA.out)
          have FTf := Lib.hid (FX2.out.trans FDA.out)
          obtain ⟨b', o', e', hg⟩ := (slJ_on FX2.out HS.out).get hlt
          cases e'
          rw [HX.out] at hg
          obtain ⟨-, -, -, c0, c1, c2⟩ := hg
          simp only at c0 c1 c2
          go_upto_region 10 with fail
          obtain ⟨S, hS⟩ : ∃ S : World → Prop, S = (fun w8 => w8.cell? ⟨B, 3, none⟩ = some v3 ∧ w8.cell? ⟨b, o + i * 3 + 2, none⟩ = some (.int .i64 x2)) := ⟨_, rfl⟩
          have HS4 := Lib.hid hS
          clear hS
          refine lst_start [8, 10] S (by kernel_rfl) ?_
          have hS0 : S y2.drew := by rw [HS4.out]; exact ⟨cellOnw (fuw_dr y2 1) k0, cellOnw (fuw_dr y2 1) c2⟩
          refine takeP (i := 0) (d := some 56) (v := ?_) rfl rfl (by kernel_rfl) (by kernel_rfl) (by kernel_rfl) (by kernel_rfl) (by kernel_rfl) (fun _ _ _ h => h) (Or.inl ⟨by rfl, ?_⟩) (by first | exact Or.inr (by assumption) | exact Or.inl (by kernel_rfl)) ?_
          rotate_left
          · ((intro w8 _; go_simp); try with_reducible rfl)
          try simp only [Act.put]
          try simp only [List.setIfInBounds_toArray]
          try simp only [List.set_cons_succ]
          try simp only [List.set_cons_zero]
          refine takeL (i := 1) (d := some 57) (v := ?_) rfl rfl (by kernel_rfl) (by kernel_rfl) (by kernel_rfl) (by kernel_rfl) (by kernel_rfl) (fun _ _ _ h => h) (Or.inl ⟨by rfl, ?_⟩) (by assumption) ?_
          rotate_left
          · ((intro w8 hSw; rw [HS4.out] at hSw; obtain ⟨h1, h2⟩ := hSw; go_simp); try with_reducible rfl)
          try simp only [Act.put]
          try simp only [List.setIfInBounds_toArray]
          try simp only [List.set_cons_succ]
          try simp only [List.set_cons_zero]
          refine takeP (i := 2) (d := some 58) (v := ?_) rfl rfl (by kernel_rfl) (by kernel_rfl) (by kernel_rfl) (by kernel_rfl) (by kernel_rfl) (fun _ _ _ h => h) (Or.inl ⟨by rfl, ?_⟩) (by first | exact Or.inr (by assumption) | exact Or.inl (by kernel_rfl)) ?_
          rotate_left
          · ((intro w8 _; go_simp); try with_reducible rfl)
          try simp only [Act.put]
          try simp only [List.setIfInBounds_toArray]
          try simp only [List.set_cons_succ]
          try simp only [List.set_cons_zero]
          refine takeP (i := 3) (d := some 59) (v := ?_) rfl rfl (by kernel_rfl) (by kernel_rfl) (by kernel_rfl) (by kernel_rfl) (by kernel_rfl) (fun _ _ _ h => h) (Or.inl ⟨by rfl, ?_⟩) (by first | exact Or.inr (by assumption) | exact Or.inl (by kernel_rfl)) ?_
          rotate_left
          · ((intro w8 _; go_simp); try with_reducible rfl)
          try simp only [Act.put]
          try simp only [List.setIfInBounds_toArray]
          try simp only [List.set_cons_succ]
          try simp only [List.set_cons_zero]
          refine takeP (i := 4) (d := some 60) (v := ?_) rfl rfl (by kernel_rfl) (by kernel_rfl) (by kernel_rfl) (by kernel_rfl) (by kernel_rfl) (fun _ _ _ h => h) (Or.inl ⟨by rfl, ?_⟩) (by first | exact Or.inr (by assumption) | exact Or.inl (by kernel_rfl)) ?_
          rotate_left
          · ((intro w8 _; go_simp); try with_reducible rfl)
          try simp only [Act.put]
          try simp only [List.setIfInBounds_toArray]
          try simp only [List.set_cons_succ]
          try simp only [List.set_cons_zero]
          refine takeP (i := 5) (d := some 61) (v := ?_) rfl rfl (by kernel_rfl) (by kernel_rfl) (by kernel_rfl) (by kernel_rfl) (by kernel_rfl) (fun _ _ _ h => h) (Or.inl ⟨by rfl, ?_⟩) (by first | exact Or.inr (by assumption) | exact Or.inl (by kernel_rfl)) ?_
          rotate_left
          · ((intro w8 _; go_simp); try with_reducible rfl)
          try simp only [Act.put]
          try simp only [List.setIfInBounds_toArray]
          try simp only [List.set_cons_succ]
          try simp only [List.set_cons_zero]
          refine takeL (i := 6) (d := some 62) (v := ?_) rfl rfl (by kernel_rfl) (by kernel_rfl) (by kernel_rfl) (by kernel_rfl) (by kernel_rfl) (fun _ _ _ h => h) (Or.inl ⟨by rfl, ?_⟩) (by assumption) ?_
          rotate_left
          · ((intro w8 hSw; rw [HS4.out] at hSw; obtain ⟨h1, h2⟩ := hSw; go_simp); try with_reducible rfl)
          try simp only [Act.put]
          try simp only [List.setIfInBounds_toArray]
          try simp only [List.set_cons_succ]
          try simp only [List.set_cons_zero]
          refine oneL (i := 7) rfl (by kernel_rfl) (fun K8 hK8 => ?_)
          go_simp
          skip
          refine hK8 _ _ (by rw [HS4.out]; exact ⟨cellOnw FDA.out k0, cellOnw FDA.out c2⟩) ?_
          try simp only [Act.put]
          try simp only [List.setIfInBounds_toArray]
          try simp only [List.set_cons_succ]
          try simp only [List.set_cons_zero]
          refine outL (i := 8) rfl (by kernel_rfl) (by kernel_rfl) (fun K8 hK8 => ?_)
          refine step_append_lies _ rfl (.tmp 57) (.tmp 63) 22 rfl w1.heap.size 3 i0 (.int .i64 0) 1 8 Tryz.underlying22 hi0 hz0 hz1 hz2 rfl (by decide) _ e.length (cs e) rfl (FT.out.o 3 (by simp) (by simp)) ⟨y2.heap.size, 0, none⟩ 1 1 [.int .i64 x2] rfl rfl (World.news_of_block (by exact heap_alloc_new y2.drew _)) (one_int _) (by decide) (by have := HLn3.out; unfold maxLen; omega) (by have := HLn3.out; omega) FTf.out.size _ rfl ?_
          intro g3 p3 w5 hown5 hgrow hat _; have MT := Lib.hid (FT.out.mid tyC (j := 3) (by simp) (by simp) hgrow); have k1 : w5.cell? ⟨B, 3, none⟩ = some v3 := MT.out.c 3; have f1 := MT.out.f 3; have FP := Lib.hid (FT.out.app tyC (j := 3) (by simp) (by simp) hown5 hgrow (lies_at hat)); have FQ := Lib.hid (FT.out.appW FTf.out (j := 3) (by simp) (by simp) hgrow (.slice (some ⟨g3, 0, none⟩) (e.length + 1) p3)); clear hown5 hgrow hat MT
          refine hK8 _ _ ?_
          try simp only [Act.put]
          try simp only [List.setIfInBounds_toArray]
          try simp only [List.set_cons_succ]
          try simp only [List.set_cons_zero]
          refine takeP (i := 9) (d := some 65) (v := ?_) rfl rfl (by kernel_rfl) (by kernel_rfl) (by kernel_rfl) (by kernel_rfl) (by kernel_rfl) (fun _ _ _ h => h) (Or.inl ⟨by rfl, ?_⟩) (by first | exact Or.inr (by assumption) | exact Or.inl (by kernel_rfl)) ?_
          rotate_left
          · ((intro w8 _; go_simp); try with_reducible rfl)
          try simp only [Act.put]
          try simp only [List.setIfInBounds_toArray]
          try simp only [List.set_cons_succ]
          try simp only [List.set_cons_zero]
          refine outL (i := 10) rfl (by kernel_rfl) (by kernel_rfl) (fun K8 hK8 => ?_)
          go_simp

          refine hK8 _ _ ?_
          try simp only [Act.put]
          try simp only [List.setIfInBounds_toArray]
          try simp only [List.set_cons_succ]
          try simp only [List.set_cons_zero]
          refine lst_done (by kernel_rfl) ?_ _
          obtain ⟨y3, hw⟩ : ∃ y3, w5.setCell ⟨B, 3, none⟩ (.slice (some ⟨g3, 0, none⟩) (e.length + 1) p3) = y3 := ⟨_, rfl⟩
          rw [hw] at FP FQ
          have FA23 := Lib.hid (show Fam y3 w1.heap.size B 24 [v0, v1, .slice (some ⟨g2, 0, none⟩) (t.length + 1) p2, .slice (some ⟨g3, 0, none⟩) (e.length + 1) p3] [n, f, (t ++ [x1]), (e ++ [x2])] from FP.out)
          have FX23 := FQ
          rw [hw]
          clear hw k1 f1 FT FP k0 f0
          clear c0 c1 c2 FDA FTf
          have HFm2 := Lib.hid (show ∃ v0 v1 v2 v3, Fam y3 w1.heap.size B 24 [v0, v1, v2, v3] [(layN s (i + 1)).ns, (layN s (i + 1)).fs, (layN s (i + 1)).ts, (layN s (i + 1)).es] from ⟨_, _, _, _, by rw [HT.out]; exact FA23.out⟩)
          go_wp2
          go_roundw
          case rel => exact ⟨i + 1, by go_num, by omega, HFm2, FX23⟩
          case measure => simp [RowKit.intOf]; omega
        · have hq : (x0 != pv) = true := by rw [bne_iff_ne]; exact hxp
          have HT := Lib.hid (HTt.out (by rw [HH.out, decide_eq_false hxp]; rfl))
          clear hxp HTt HTf HH
          have hq4 := layN_len s i
          have hlt' : (i : Int) < (s.length : Int) := by omega
          generalize (layN s i).ns = n at *
          generalize (layN s i).fs = f at *
          generalize (layN s i).ts = t at *
          generalize (layN s i).es = e at *
          have HLn0 := Lib.hid (show n.length ≤ 50000 by omega)
          have HLn1 := Lib.hid (show f.length ≤ 50000 by omega)
          have HLn2 := Lib.hid (show t.length ≤ 50000 by omega)
          have HLn3 := Lib.hid (show e.length ≤ 50000 by omega)
          clear hq4
          obtain ⟨v0, v1, v2, v3, FM⟩ := HFm.out
          go_upto_region 6 with fail
          go_quiet (fail)
          obtain ⟨V, hV⟩ : ∃ V, wr.drewN nq = V := ⟨_, rfl⟩
          have FV := Lib.hid (show Fuw wr V by rw [← hV]; exact fuw_dr wr nq)
          have FX := Lib.hid (hf.out.trans FV.out)
          have FA := Lib.hid (FM.on FV.out)
          rw [hV]
          clear hV hi0q k1 k2 hq p0 c0
          have k0 : V.cell? ⟨B, 0, none⟩ = some v0 := FA.out.c 0
          have f0 := FA.out.f 0
          have FDA := Lib.hid (show Fuw V (V.drew.alloc (.cells #[.int .i64 x0] 3)) from (fuw_dr V 1).trans (fuwA _ _))
          have FT := Lib.hid (FA.out.on FDA.out)
          have FTf := Lib.hid (FX.out.trans FDA.out)
          obtain ⟨b', o', e', hg⟩ := (slJ_on FX.out HS.out).get hlt
          cases e'
          rw [HX.out] at hg
          obtain ⟨-, -, -, c0, c1, c2⟩ := hg
          simp only at c0 c1 c2
          go_upto_region 7 with fail
          obtain ⟨S, hS⟩ : ∃ S : World → Prop, S = (fun w8 => w8.cell? ⟨B, 0, none⟩ = some v0 ∧ w8.cell? ⟨b, o + i * 3, none⟩ = some (.int .i64 x0)) := ⟨_, rfl⟩
          have HS4 := Lib.hid hS
          clear hS
          refine lst_start [8, 10] S (by kernel_rfl) ?_
          have hS0 : S V.drew := by rw [HS4.out]; exact ⟨cellOnw (fuw_dr V 1) k0, cellOnw (fuw_dr V 1) c0⟩
          refine takeP (i := 0) (d := some 30) (v := ?_) rfl rfl (by kernel_rfl) (by kernel_rfl) (by kernel_rfl) (by kernel_rfl) (by kernel_rfl) (fun _ _ _ h => h) (Or.inl ⟨by rfl, ?_⟩) (by first | exact Or.inr (by assumption) | exact Or.inl (by kernel_rfl)) ?_
          rotate_left
          · ((intro w8 _; go_simp); try with_reducible rfl)
          try simp only [Act.put]
          try simp only [List.setIfInBounds_toArray]
          try simp only [List.set_cons_succ]
          try simp only [List.set_cons_zero]
          refine takeL (i := 1) (d := some 31) (v := ?_) rfl rfl (by kernel_rfl) (by kernel_rfl) (by kernel_rfl) (by kernel_rfl) (by kernel_rfl) (fun _ _ _ h => h) (Or.inl ⟨by rfl, ?_⟩) (by assumption) ?_
          rotate_left
          · ((intro w8 hSw; rw [HS4.out] at hSw; obtain ⟨h1, h2⟩ := hSw; go_simp); try with_reducible rfl)
          try simp only [Act.put]
          try simp only [List.setIfInBounds_toArray]
          try simp only [List.set_cons_succ]
          try simp only [List.set_cons_zero]
          refine takeP (i := 2) (d := some 32) (v := ?_) rfl rfl (by kernel_rfl) (by kernel_rfl) (by kernel_rfl) (by kernel_rfl) (by kernel_rfl) (fun _ _ _ h => h) (Or.inl ⟨by rfl, ?_⟩) (by first | exact Or.inr (by assumption) | exact Or.inl (by kernel_rfl)) ?_
          rotate_left
          · ((intro w8 _; go_simp); try with_reducible rfl)
          try simp only [Act.put]
          try simp only [List.setIfInBounds_toArray]
          try simp only [List.set_cons_succ]
          try simp only [List.set_cons_zero]
          refine takeP (i := 3) (d := some 33) (v := ?_) rfl rfl (by kernel_rfl) (by kernel_rfl) (by kernel_rfl) (by kernel_rfl) (by kernel_rfl) (fun _ _ _ h => h) (Or.inl ⟨by rfl, ?_⟩) (by first | exact Or.inr (by assumption) | exact Or.inl (by kernel_rfl)) ?_
          rotate_left
          · ((intro w8 _; go_simp); try with_reducible rfl)
          try simp only [Act.put]
          try simp only [List.setIfInBounds_toArray]
          try simp only [List.set_cons_succ]
          try simp only [List.set_cons_zero]
          refine takeP (i := 4) (d := some 34) (v := ?_) rfl rfl (by kernel_rfl) (by kernel_rfl) (by kernel_rfl) (by kernel_rfl) (by kernel_rfl) (fun _ _ _ h => h) (Or.inl ⟨by rfl, ?_⟩) (by first | exact Or.inr (by assumption) | exact Or.inl (by kernel_rfl)) ?_
          rotate_left
          · ((intro w8 _; go_simp); try with_reducible rfl)
          try simp only [Act.put]
          try simp only [List.setIfInBounds_toArray]
          try simp only [List.set_cons_succ]
          try simp only [List.set_cons_zero]
          refine takeP (i := 5) (d := some 35) (v := ?_) rfl rfl (by kernel_rfl) (by kernel_rfl) (by kernel_rfl) (by kernel_rfl) (by kernel_rfl) (fun _ _ _ h => h) (Or.inl ⟨by rfl, ?_⟩) (by first | exact Or.inr (by assumption) | exact Or.inl (by kernel_rfl)) ?_
          rotate_left
          · ((intro w8 _; go_simp); try with_reducible rfl)
          try simp only [Act.put]
          try simp only [List.setIfInBounds_toArray]
          try simp only [List.set_cons_succ]
          try simp only [List.set_cons_zero]
          refine takeL (i := 6) (d := some 36) (v := ?_) rfl rfl (by kernel_rfl) (by kernel_rfl) (by kernel_rfl) (by kernel_rfl) (by kernel_rfl) (fun _ _ _ h => h) (Or.inl ⟨by rfl, ?_⟩) (by assumption) ?_
          rotate_left
          · ((intro w8 hSw; rw [HS4.out] at hSw; obtain ⟨h1, h2⟩ := hSw; go_simp); try with_reducible rfl)
          try simp only [Act.put]
          try simp only [List.setIfInBounds_toArray]
          try simp only [List.set_cons_succ]
          try simp only [List.set_cons_zero]
          refine oneL (i := 7) rfl (by kernel_rfl) (fun K8 hK8 => ?_)
          go_simp
          skip
          refine hK8 _ _ (by rw [HS4.out]; exact ⟨cellOnw FDA.out k0, cellOnw FDA.out c0⟩) ?_
          try simp only [Act.put]
          try simp only [List.setIfInBounds_toArray]
          try simp only [List.set_cons_succ]
          try simp only [List.set_cons_zero]
          refine outL (i := 8) rfl (by kernel_rfl) (by kernel_rfl) (fun K8 hK8 => ?_)
          refine step_append_lies _ rfl (.tmp 31) (.tmp 37) 22 rfl w1.heap.size 3 i0 (.int .i64 0) 1 8 Tryz.underlying22 hi0 hz0 hz1 hz2 rfl (by decide) _ n.length (cs n) rfl (FT.out.o 0 (by simp) (by simp)) ⟨V.heap.size, 0, none⟩ 1 1 [.int .i64 x0] rfl rfl (World.news_of_block (by exact heap_alloc_new V.drew _)) (one_int _) (by decide) (by have := HLn0.out; unfold maxLen; omega) (by have := HLn0.out; omega) FTf.out.size _ rfl ?_
          intro g0 p0 w5 hown5 hgrow hat _; have MT := Lib.hid (FT.out.mid tyC (j := 0) (by simp) (by simp) hgrow); have k1 : w5.cell? ⟨B, 0, none⟩ = some v0 := MT.out.c 0; have f1 := MT.out.f 0; have FP := Lib.hid (FT.out.app tyC (j := 0) (by simp) (by simp) hown5 hgrow (lies_at hat)); have FQ := Lib.hid (FT.out.appW FTf.out (j := 0) (by simp) (by simp) hgrow (.slice (some ⟨g0, 0, none⟩) (n.length + 1) p0)); clear hown5 hgrow hat MT
          refine hK8 _ _ ?_
          try simp only [Act.put]
          try simp only [List.setIfInBounds_toArray]
          try simp only [List.set_cons_succ]
          try simp only [List.set_cons_zero]
          refine takeP (i := 9) (d := some 39) (v := ?_) rfl rfl (by kernel_rfl) (by kernel_rfl) (by kernel_rfl) (by kernel_rfl) (by kernel_rfl) (fun _ _ _ h => h) (Or.inl ⟨by rfl, ?_⟩) (by first | exact Or.inr (by assumption) | exact Or.inl (by kernel_rfl)) ?_
          rotate_left
          · ((intro w8 _; go_simp); try with_reducible rfl)
          try simp only [Act.put]
          try simp only [List.setIfInBounds_toArray]
          try simp only [List.set_cons_succ]
          try simp only [List.set_cons_zero]
          refine outL (i := 10) rfl (by kernel_rfl) (by kernel_rfl) (fun K8 hK8 => ?_)
          go_simp

          refine hK8 _ _ ?_
          try simp only [Act.put]
          try simp only [List.setIfInBounds_toArray]
          try simp only [List.set_cons_succ]
          try simp only [List.set_cons_zero]
          refine lst_done (by kernel_rfl) ?_ _
          obtain ⟨y0, hw⟩ : ∃ y0, w5.setCell ⟨B, 0, none⟩ (.slice (some ⟨g0, 0, none⟩) (n.length + 1) p0) = y0 := ⟨_, rfl⟩
          rw [hw] at FP FQ
          have FA0 := Lib.hid (show Fam y0 w1.heap.size B 24 [.slice (some ⟨g0, 0, none⟩) (n.length + 1) p0, v1, v2, v3] [(n ++ [x0]), f, t, e] from FP.out)
          have FX0 := FQ
          rw [hw]
          clear hw k1 f1 FT FP k0 f0
          clear c0 c1 c2 FDA FTf
          have k0 : y0.cell? ⟨B, 1, none⟩ = some v1 := FA0.out.c 1
          have f0 := FA0.out.f 1
          have FT := Lib.hid (FA0.out.on (fuwA y0 (.cells #[.int .i64 (i : Int)] 3)))
          have FTf := Lib.hid (show Fuw w1 (y0.alloc (.cells #[.int .i64 (i : Int)] 3)) from FX0.out.trans (fuwA _ _))
          go_upto_region 9 with (at_builtin; refine wpList_append_lies _ rfl (.tmp 41) (.tmp 43) 22 rfl w1.heap.size 3 i0 (.int .i64 0) 1 8 Tryz.underlying22 hi0 hz0 hz1 hz2 rfl (by decide) _ f.length (cs f) rfl (FT.out.o 1 (by simp) (by simp)) ⟨y0.heap.size, 0, none⟩ 1 1 [.int .i64 (i : Int)] rfl rfl (World.news_of_block (heap_alloc_new y0 _)) (one_int _) (by decide) (by have := HLn1.out; unfold maxLen; omega) (by have := HLn1.out; omega) (Nat.le_trans FX0.out.size (by simp)) _ rfl ?_; intro g1 p1 w5 hown5 hgrow hat _; have MT := Lib.hid (FT.out.mid tyC (j := 1) (by simp) (by simp) hgrow); have k1 : w5.cell? ⟨B, 1, none⟩ = some v1 := MT.out.c 1; have f1 := MT.out.f 1; have FP := Lib.hid (FT.out.app tyC (j := 1) (by simp) (by simp) hown5 hgrow (lies_at hat)); have FQ := Lib.hid (FT.out.appW FTf.out (j := 1) (by simp) (by simp) hgrow (.slice (some ⟨g1, 0, none⟩) (f.length + 1) p1)); clear hown5 hgrow hat MT)
          obtain ⟨y1, hw⟩ : ∃ y1, w5.setCell ⟨B, 1, none⟩ (.slice (some ⟨g1, 0, none⟩) (f.length + 1) p1) = y1 := ⟨_, rfl⟩
          rw [hw] at FP FQ
          have FA01 := Lib.hid (show Fam y1 w1.heap.size B 24 [.slice (some ⟨g0, 0, none⟩) (n.length + 1) p0, .slice (some ⟨g1, 0, none⟩) (f.length + 1) p1, v2, v3] [(n ++ [x0]), (f ++ [(i : Int)]), t, e] from FP.out)
          have FX01 := FQ
          rw [hw]
          clear hw k1 f1 FT FP k0 f0
          clear FTf
          have k0 : y1.cell? ⟨B, 2, none⟩ = some v2 := FA01.out.c 2
          have f0 := FA01.out.f 2
          have FDA := Lib.hid (show Fuw y1 (y1.drew.alloc (.cells #[.int .i64 x1] 3)) from (fuw_dr y1 1).trans (fuwA _ _))
          have FT := Lib.hid (FA01.out.on FDA.out)
          have FTf := Lib.hid (FX01.out.trans FDA.out)
          obtain ⟨b', o', e', hg⟩ := (slJ_on FX01.out HS.out).get hlt
          cases e'
          rw [HX.out] at hg
          obtain ⟨-, -, -, c0, c1, c2⟩ := hg
          simp only at c0 c1 c2
          go_upto_region 9 with fail
          obtain ⟨S, hS⟩ : ∃ S : World → Prop, S = (fun w8 => w8.cell? ⟨B, 2, none⟩ = some v2 ∧ w8.cell? ⟨b, o + i * 3 + 1, none⟩ = some (.int .i64 x1)) := ⟨_, rfl⟩
          have HS4 := Lib.hid hS
          clear hS
          refine lst_start [8, 10] S (by kernel_rfl) ?_
          have hS0 : S y1.drew := by rw [HS4.out]; exact ⟨cellOnw (fuw_dr y1 1) k0, cellOnw (fuw_dr y1 1) c1⟩
          refine takeP (i := 0) (d := some 46) (v := ?_) rfl rfl (by kernel_rfl) (by kernel_rfl) (by kernel_rfl) (by kernel_rfl) (by kernel_rfl) (fun _ _ _ h => h) (Or.inl ⟨by rfl, ?_⟩) (by first | exact Or.inr (by assumption) | exact Or.inl (by kernel_rfl)) ?_
          rotate_left
          · ((intro w8 _; go_simp); try with_reducible rfl)
          try simp only [Act.put]
          try simp only [List.setIfInBounds_toArray]
          try simp only [List.set_cons_succ]
          try simp only [List.set_cons_zero]
          refine takeL (i := 1) (d := some 47) (v := ?_) rfl rfl (by kernel_rfl) (by kernel_rfl) (by kernel_rfl) (by kernel_rfl) (by kernel_rfl) (fun _ _ _ h => h) (Or.inl ⟨by rfl, ?_⟩) (by assumption) ?_
          rotate_left
          · ((intro w8 hSw; rw [HS4.out] at hSw; obtain ⟨h1, h2⟩ := hSw; go_simp); try with_reducible rfl)
          try simp only [Act.put]
          try simp only [List.setIfInBounds_toArray]
          try simp only [List.set_cons_succ]
          try simp only [List.set_cons_zero]
          refine takeP (i := 2) (d := some 48) (v := ?_) rfl rfl (by kernel_rfl) (by kernel_rfl) (by kernel_rfl) (by kernel_rfl) (by kernel_rfl) (fun _ _ _ h => h) (Or.inl ⟨by rfl, ?_⟩) (by first | exact Or.inr (by assumption) | exact Or.inl (by kernel_rfl)) ?_
          rotate_left
          · ((intro w8 _; go_simp); try with_reducible rfl)
          try simp only [Act.put]
          try simp only [List.setIfInBounds_toArray]
          try simp only [List.set_cons_succ]
          try simp only [List.set_cons_zero]
          refine takeP (i := 3) (d := some 49) (v := ?_) rfl rfl (by kernel_rfl) (by kernel_rfl) (by kernel_rfl) (by kernel_rfl) (by kernel_rfl) (fun _ _ _ h => h) (Or.inl ⟨by rfl, ?_⟩) (by first | exact Or.inr (by assumption) | exact Or.inl (by kernel_rfl)) ?_
          rotate_left
          · ((intro w8 _; go_simp); try with_reducible rfl)
          try simp only [Act.put]
          try simp only [List.setIfInBounds_toArray]
          try simp only [List.set_cons_succ]
          try simp only [List.set_cons_zero]
          refine takeP (i := 4) (d := some 50) (v := ?_) rfl rfl (by kernel_rfl) (by kernel_rfl) (by kernel_rfl) (by kernel_rfl) (by kernel_rfl) (fun _ _ _ h => h) (Or.inl ⟨by rfl, ?_⟩) (by first | exact Or.inr (by assumption) | exact Or.inl (by kernel_rfl)) ?_
          rotate_left
          · ((intro w8 _; go_simp); try with_reducible rfl)
          try simp only [Act.put]
          try simp only [List.setIfInBounds_toArray]
          try simp only [List.set_cons_succ]
          try simp only [List.set_cons_zero]
          refine takeP (i := 5) (d := some 51) (v := ?_) rfl rfl (by kernel_rfl) (by kernel_rfl) (by kernel_rfl) (by kernel_rfl) (by kernel_rfl) (fun _ _ _ h => h) (Or.inl ⟨by rfl, ?_⟩) (by first | exact Or.inr (by assumption) | exact Or.inl (by kernel_rfl)) ?_
          rotate_left
          · ((intro w8 _; go_simp); try with_reducible rfl)
          try simp only [Act.put]
          try simp only [List.setIfInBounds_toArray]
          try simp only [List.set_cons_succ]
          try simp only [List.set_cons_zero]
          refine takeL (i := 6) (d := some 52) (v := ?_) rfl rfl (by kernel_rfl) (by kernel_rfl) (by kernel_rfl) (by kernel_rfl) (by kernel_rfl) (fun _ _ _ h => h) (Or.inl ⟨by rfl, ?_⟩) (by assumption) ?_
          rotate_left
          · ((intro w8 hSw; rw [HS4.out] at hSw; obtain ⟨h1, h2⟩ := hSw; go_simp); try with_reducible rfl)
          try simp only [Act.put]
          try simp only [List.setIfInBounds_toArray]
          try simp only [List.set_cons_succ]
          try simp only [List.set_cons_zero]
          refine oneL (i := 7) rfl (by kernel_rfl) (fun K8 hK8 => ?_)
          go_simp
          skip
          refine hK8 _ _ (by rw [HS4.out]; exact ⟨cellOnw FDA.out k0, cellOnw FDA.out c1⟩) ?_
          try simp only [Act.put]
          try simp only [List.setIfInBounds_toArray]
          try simp only [List.set_cons_succ]
          try simp only [List.set_cons_zero]
          refine outL (i := 8) rfl (by kernel_rfl) (by kernel_rfl) (fun K8 hK8 => ?_)
          refine step_append_lies _ rfl (.tmp 47) (.tmp 53) 22 rfl w1.heap.size 3 i0 (.int .i64 0) 1 8 Tryz.underlying22 hi0 hz0 hz1 hz2 rfl (by decide) _ t.length (cs t) rfl (FT.out.o 2 (by simp) (by simp)) ⟨y1.heap.size, 0, none⟩ 1 1 [.int .i64 x1] rfl rfl (World.news_of_block (by exact heap_alloc_new y1.drew _)) (one_int _) (by decide) (by have := HLn2.out; unfold maxLen; omega) (by have := HLn2.out; omega) FTf.out.size _ rfl ?_
          intro g2 p2 w5 hown5 hgrow hat _; have MT := Lib.hid (FT.out.mid tyC (j := 2) (by simp) (by simp) hgrow); have k1 : w5.cell? ⟨B, 2, none⟩ = some v2 := MT.out.c 2; have f1 := MT.out.f 2; have FP := Lib.hid (FT.out.app tyC (j := 2) (by simp) (by simp) hown5 hgrow (lies_at hat)); have FQ := Lib.hid (FT.out.appW FTf.out (j := 2) (by simp) (by simp) hgrow (.slice (some ⟨g2, 0, none⟩) (t.length + 1) p2)); clear hown5 hgrow hat MT
          refine hK8 _ _ ?_
          try simp only [Act.put]
          try simp only [List.setIfInBounds_toArray]
          try simp only [List.set_cons_succ]
          try simp only [List.set_cons_zero]
          refine takeP (i := 9) (d := some 55) (v := ?_) rfl rfl (by kernel_rfl) (by kernel_rfl) (by kernel_rfl) (by kernel_rfl) (by kernel_rfl) (fun _ _ _ h => h) (Or.inl ⟨by rfl, ?_⟩) (by first | exact Or.inr (by assumption) | exact Or.inl (by kernel_rfl)) ?_
          rotate_left
          · ((intro w8 _; go_simp); try with_reducible rfl)
          try simp only [Act.put]
          try simp only [List.setIfInBounds_toArray]
          try simp only [List.set_cons_succ]
          try simp only [List.set_cons_zero]
          refine outL (i := 10) rfl (by kernel_rfl) (by kernel_rfl) (fun K8 hK8 => ?_)
          go_simp

          refine hK8 _ _ ?_
          try simp only [Act.put]
          try simp only [List.setIfInBounds_toArray]
          try simp only [List.set_cons_succ]
          try simp only [List.set_cons_zero]
          refine lst_done (by kernel_rfl) ?_ _
          obtain ⟨y2, hw⟩ : ∃ y2, w5.setCell ⟨B, 2, none⟩ (.slice (some ⟨g2, 0, none⟩) (t.length + 1) p2) = y2 := ⟨_, rfl⟩
          rw [hw] at FP FQ
          have FA012 := Lib.hid (show Fam y2 w1.heap.size B 24 [.slice (some ⟨g0, 0, none⟩) (n.length + 1) p0, .slice (some ⟨g1, 0, none⟩) (f.length + 1) p1, .slice (some ⟨g2, 0, none⟩) (t.length + 1) p2, v3] [(n ++ [x0]), (f ++ [(i : Int)]), (t ++ [x1]), e] from FP.out)
          have FX012 := FQ
          rw [hw]
          clear hw k1 f1 FT FP k0 f0
          clear c0 c1 c2 FDA FTf
          have k0 : y2.cell? ⟨B, 3, none⟩ = some v3 := FA012.out.c 3
          have f0 := FA012.out.f 3
          have FDA := Lib.hid (show Fuw y2 (y2.drew.alloc (.cells #[.int .i64 x2] 3)) from (fuw_dr y2 1).trans (fuwA _ _))
          have FT := Lib.hid (FA012.out.on FDA.out)
          have FTf := Lib.hid (FX012.out.trans FDA.out)
          obtain ⟨b', o', e', hg⟩ := (slJ_on FX012.out HS.out).get hlt
          cases e'
          rw [HX.out] at hg
          obtain ⟨-, -, -, c0, c1, c2⟩ := hg
          simp only at c0 c1 c2
          go_upto_region 10 with fail
          obtain ⟨S, hS⟩ : ∃ S : World → Prop, S = (fun w8 => w8.cell? ⟨B, 3, none⟩ = some v3 ∧ w8.cell? ⟨b, o + i * 3 + 2, none⟩ = some (.int .i64 x2)) := ⟨_, rfl⟩
          have HS4 := Lib.hid hS
          clear hS
          refine lst_start [8, 10] S (by kernel_rfl) ?_
          have hS0 : S y2.drew := by rw [HS4.out]; exact ⟨cellOnw (fuw_dr y2 1) k0, cellOnw (fuw_dr y2 1) c2⟩
          refine takeP (i := 0) (d := some 56) (v := ?_) rfl rfl (by kernel_rfl) (by kernel_rfl) (by kernel_rfl) (by kernel_rfl) (by kernel_rfl) (fun _ _ _ h => h) (Or.inl ⟨by rfl, ?_⟩) (by first | exact Or.inr (by assumption) | exact Or.inl (by kernel_rfl)) ?_
          rotate_left
          · ((intro w8 _; go_simp); try with_reducible rfl)
          try simp only [Act.put]
          try simp only [List.setIfInBounds_toArray]
          try simp only [List.set_cons_succ]
          try simp only [List.set_cons_zero]
          refine takeL (i := 1) (d := some 57) (v := ?_) rfl rfl (by kernel_rfl) (by kernel_rfl) (by kernel_rfl) (by kernel_rfl) (by kernel_rfl) (fun _ _ _ h => h) (Or.inl ⟨by rfl, ?_⟩) (by assumption) ?_
          rotate_left
          · ((intro w8 hSw; rw [HS4.out] at hSw; obtain ⟨h1, h2⟩ := hSw; go_simp); try with_reducible rfl)
          try simp only [Act.put]
          try simp only [List.setIfInBounds_toArray]
          try simp only [List.set_cons_succ]
          try simp only [List.set_cons_zero]
          refine takeP (i := 2) (d := some 58) (v := ?_) rfl rfl (by kernel_rfl) (by kernel_rfl) (by kernel_rfl) (by kernel_rfl) (by kernel_rfl) (fun _ _ _ h => h) (Or.inl ⟨by rfl, ?_⟩) (by first | exact Or.inr (by assumption) | exact Or.inl (by kernel_rfl)) ?_
          rotate_left
          · ((intro w8 _; go_simp); try with_reducible rfl)
          try simp only [Act.put]
          try simp only [List.setIfInBounds_toArray]
          try simp only [List.set_cons_succ]
          try simp only [List.set_cons_zero]
          refine takeP (i := 3) (d := some 59) (v := ?_) rfl rfl (by kernel_rfl) (by kernel_rfl) (by kernel_rfl) (by kernel_rfl) (by kernel_rfl) (fun _ _ _ h => h) (Or.inl ⟨by rfl, ?_⟩) (by first | exact Or.inr (by assumption) | exact Or.inl (by kernel_rfl)) ?_
          rotate_left
          · ((intro w8 _; go_simp); try with_reducible rfl)
          try simp only [Act.put]
          try simp only [List.setIfInBounds_toArray]
          try simp only [List.set_cons_succ]
          try simp only [List.set_cons_zero]
          refine takeP (i := 4) (d := some 60) (v := ?_) rfl rfl (by kernel_rfl) (by kernel_rfl) (by kernel_rfl) (by kernel_rfl) (by kernel_rfl) (fun _ _ _ h => h) (Or.inl ⟨by rfl, ?_⟩) (by first | exact Or.inr (by assumption) | exact Or.inl (by kernel_rfl)) ?_
          rotate_left
          · ((intro w8 _; go_simp); try with_reducible rfl)
          try simp only [Act.put]
          try simp only [List.setIfInBounds_toArray]
          try simp only [List.set_cons_succ]
          try simp only [List.set_cons_zero]
          refine takeP (i := 5) (d := some 61) (v := ?_) rfl rfl (by kernel_rfl) (by kernel_rfl) (by kernel_rfl) (by kernel_rfl) (by kernel_rfl) (fun _ _ _ h => h) (Or.inl ⟨by rfl, ?_⟩) (by first | exact Or.inr (by assumption) | exact Or.inl (by kernel_rfl)) ?_
          rotate_left
          · ((intro w8 _; go_simp); try with_reducible rfl)
          try simp only [Act.put]
          try simp only [List.setIfInBounds_toArray]
          try simp only [List.set_cons_succ]
          try simp only [List.set_cons_zero]
          refine takeL (i := 6) (d := some 62) (v := ?_) rfl rfl (by kernel_rfl) (by kernel_rfl) (by kernel_rfl) (by kernel_rfl) (by kernel_rfl) (fun _ _ _ h => h) (Or.inl ⟨by rfl, ?_⟩) (by assumption) ?_
          rotate_left
          · ((intro w8 hSw; rw [HS4.out] at hSw; obtain ⟨h1, h2⟩ := hSw; go_simp); try with_reducible rfl)
          try simp only [Act.put]
          try simp only [List.setIfInBounds_toArray]
          try simp only [List.set_cons_succ]
          try simp only [List.set_cons_zero]
          refine oneL (i := 7) rfl (by kernel_rfl) (fun K8 hK8 => ?_)
          go_simp
          skip
          refine hK8 _ _ (by rw [HS4.out]; exact ⟨cellOnw FDA.out k0, cellOnw FDA.out c2⟩) ?_
          try simp only [Act.put]
          try simp only [List.setIfInBounds_toArray]
          try simp only [List.set_cons_succ]
          try simp only [List.set_cons_zero]
          refine outL (i := 8) rfl (by kernel_rfl) (by kernel_rfl) (fun K8 hK8 => ?_)
          refine step_append_lies _ rfl (.tmp 57) (.tmp 63) 22 rfl w1.heap.size 3 i0 (.int .i64 0) 1 8 Tryz.underlying22 hi0 hz0 hz1 hz2 rfl (by decide) _ e.length (cs e) rfl (FT.out.o 3 (by simp) (by simp)) ⟨y2.heap.size, 0, none⟩ 1 1 [.int .i64 x2] rfl rfl (World.news_of_block (by exact heap_alloc_new y2.drew _)) (one_int _) (by decide) (by have := HLn3.out; unfold maxLen; omega) (by have := HLn3.out; omega) FTf.out.size _ rfl ?_
          intro g3 p3 w5 hown5 hgrow hat _; have MT := Lib.hid (FT.out.mid tyC (j := 3) (by simp) (by simp) hgrow); have k1 : w5.cell? ⟨B, 3, none⟩ = some v3 := MT.out.c 3; have f1 := MT.out.f 3; have FP := Lib.hid (FT.out.app tyC (j := 3) (by simp) (by simp) hown5 hgrow (lies_at hat)); have FQ := Lib.hid (FT.out.appW FTf.out (j := 3) (by simp) (by simp) hgrow (.slice (some ⟨g3, 0, none⟩) (e.length + 1) p3)); clear hown5 hgrow hat MT
          refine hK8 _ _ ?_
          try simp only [Act.put]
          try simp only [List.setIfInBounds_toArray]
          try simp only [List.set_cons_succ]
          try simp only [List.set_cons_zero]
          refine takeP (i := 9) (d := some 65) (v := ?_) rfl rfl (by kernel_rfl) (by kernel_rfl) (by kernel_rfl) (by kernel_rfl) (by kernel_rfl) (fun _ _ _ h => h) (Or.inl ⟨by rfl, ?_⟩) (by first | exact Or.inr (by assumption) | exact Or.inl (by kernel_rfl)) ?_
          rotate_left
          · ((intro w8 _; go_simp); try with_reducible rfl)
          try simp only [Act.put]
          try simp only [List.setIfInBounds_toArray]
          try simp only [List.set_cons_succ]
          try simp only [List.set_cons_zero]
          refine outL (i := 10) rfl (by kernel_rfl) (by kernel_rfl) (fun K8 hK8 => ?_)
          go_simp

          refine hK8 _ _ ?_
          try simp only [Act.put]
          try simp only [List.setIfInBounds_toArray]
          try simp only [List.set_cons_succ]
          try simp only [List.set_cons_zero]
          refine lst_done (by kernel_rfl) ?_ _
          obtain ⟨y3, hw⟩ : ∃ y3, w5.setCell ⟨B, 3, none⟩ (.slice (some ⟨g3, 0, none⟩) (e.length + 1) p3) = y3 := ⟨_, rfl⟩
          rw [hw] at FP FQ
          have FA0123 := Lib.hid (show Fam y3 w1.heap.size B 24 [.slice (some ⟨g0, 0, none⟩) (n.length + 1) p0, .slice (some ⟨g1, 0, none⟩) (f.length + 1) p1, .slice (some ⟨g2, 0, none⟩) (t.length + 1) p2, .slice (some ⟨g3, 0, none⟩) (e.length + 1) p3] [(n ++ [x0]), (f ++ [(i : Int)]), (t ++ [x1]), (e ++ [x2])] from FP.out)
          have FX0123 := FQ
          rw [hw]
          clear hw k1 f1 FT FP k0 f0
          clear c0 c1 c2 FDA FTf
          have HFm2 := Lib.hid (show ∃ v0 v1 v2 v3, Fam y3 w1.heap.size B 24 [v0, v1, v2, v3] [(layN s (i + 1)).ns, (layN s (i + 1)).fs, (layN s (i + 1)).ts, (layN s (i + 1)).es] from ⟨_, _, _, _, by rw [HT.out]; exact FA0123.out⟩)
          go_wp2
          go_roundw
          case rel => exact ⟨i + 1, by go_num, by omega, HFm2, FX0123⟩
          case measure => simp [RowKit.intOf]; omega
    · have hge : ¬ (i : Int) < (s.length : Int) := by omega
      have e : i = s.length := by omega
      have HFe := Lib.hid (show ∃ v0 v1 v2 v3, Fam wr w1.heap.size B 24 [v0, v1, v2, v3] [(layN s s.length).ns, (layN s s.length).fs, (layN s s.length).ts, (layN s s.length).es] by rw [← e]; exact HFm.out)
      obtain ⟨v0, v1, v2, v3, FM⟩ := HFe.out
      have hq4 := layN_len s s.length
      have FX := Lib.hid hf.out
      have BRr := Lib.hid (BR1.out.on hf.out)
      clear e HFm hf
      generalize (layN s s.length).ns = n at *
      generalize (layN s s.length).fs = f at *
      generalize (layN s s.length).ts = t at *
      generalize (layN s s.length).es = e at *
      by_cases hp : s.length = 0
      · have p1 : ¬ (0 : Int) < (s.length : Int) := by omega
        have HLW := Lib.hid (show LV = ⟨n, f, t, e⟩ by rw [HLV.out, if_pos hp, List.append_nil])
        clear hp hq4
        have hli := HLi.out
        rw [HLW.out] at hli
        obtain ⟨X, rfl, rfl, rfl, rfl, hcin⟩ := fam_cin FM hli.1 hli.2.1 hli.2.2.1 hli.2.2.2
        have HCIN := Lib.hid hcin
        have k0 := FM.c 0; have k1 := FM.c 1; have k2 := FM.c 2; have k3 := FM.c 3
        have E := BRr.out
        unfold emK at E
        have r0 := E.c 0; have r1 := E.c 1; have r2 := E.c 2; have r3 := E.c 3
        have t0 := E.f 0; have t1 := E.f 1; have t2 := E.f 2; have t3 := E.f 3
        simp only [List.getElem?_toArray, List.getElem?_cons_zero, List.getElem?_cons_succ] at r0 r1 r2 r3 k0 k1 k2 k3
        clear E hli hcin
        go_wp2
        have hK := set4_ok (w0 := wt) (c' := LV) (A' := X) (show Bk _ R (colC emC A0c) 24 from BRr.out) HR.out (FT0.out.trans (F1.out.trans FX.out))
        have hC2 := hK.2.2 _ X HCIN.out
        rw [← HLW.out] at hC2
        unfold set4 at hK hC2
        rw [HLX.out]
        rw [HLW.out] at hK hC2 ⊢
        exact c_ret rfl rfl hK.1 ⟨X, rfl, hC2, hK.2.1⟩
      · have p1 : (0 : Int) < (s.length : Int) := by omega
        have HLW := Lib.hid (show LV = ⟨n, f ++ [(s.length : Int)], t, e⟩ by rw [HLV.out, if_neg hp])
        have HLn1 := Lib.hid (show f.length ≤ 50000 by omega)
        have FA := Lib.hid FM
        clear hp hq4
        have k0 : wr.cell? ⟨B, 1, none⟩ = some v1 := FA.out.c 1
        have f0 := FA.out.f 1
        have FT := Lib.hid (FA.out.on (fuwA wr (.cells #[.int .i64 (s.length : Int)] 3)))
        have FTf := Lib.hid (show Fuw w1 (wr.alloc (.cells #[.int .i64 (s.length : Int)] 3)) from FX.out.trans (fuwA _ _))
        go_upto_region 13 with (at_builtin; refine wpList_append_lies _ rfl (.tmp 70) (.tmp 73) 22 rfl w1.heap.size 3 i0 (.int .i64 0) 1 8 Tryz.underlying22 hi0 hz0 hz1 hz2 rfl (by decide) _ f.length (cs f) rfl (FT.out.o 1 (by simp) (by simp)) ⟨wr.heap.size, 0, none⟩ 1 1 [.int .i64 (s.length : Int)] rfl rfl (World.news_of_block (heap_alloc_new wr _)) (one_int _) (by decide) (by have := HLn1.out; unfold maxLen; omega) (by have := HLn1.out; omega) (Nat.le_trans FX.out.size (by simp)) _ rfl ?_; intro g1 p1 w5 hown5 hgrow hat _; have MT := Lib.hid (FT.out.mid tyC (j := 1) (by simp) (by simp) hgrow); have k1 : w5.cell? ⟨B, 1, none⟩ = some v1 := MT.out.c 1; have f1 := MT.out.f 1; have FP := Lib.hid (FT.out.app tyC (j := 1) (by simp) (by simp) hown5 hgrow (lies_at hat)); have FQ := Lib.hid (FT.out.appW FTf.out (j := 1) (by simp) (by simp) hgrow (.slice (some ⟨g1, 0, none⟩) (f.length + 1) p1)); clear hown5 hgrow hat MT)
        obtain ⟨y9, hw⟩ : ∃ y9, w5.setCell ⟨B, 1, none⟩ (.slice (some ⟨g1, 0, none⟩) (f.length + 1) p1) = y9 := ⟨_, rfl⟩
        rw [hw] at FP FQ
        have FA1 := Lib.hid (show Fam y9 w1.heap.size B 24 [v0, .slice (some ⟨g1, 0, none⟩) (f.length + 1) p1, v2, v3] [n, (f ++ [(s.length : Int)]), t, e] from FP.out)
        have FX1 := FQ
        rw [hw]
        clear hw k1 f1 FT FP k0 f0
        clear FTf
        have FE : ∃ v1', Fam y9 w1.heap.size B 24 [v0, v1', v2, v3] [n, f ++ [(s.length : Int)], t, e] := ⟨_, FA1.out⟩
        clear FM
        obtain ⟨v1', FM⟩ := FE
        obtain ⟨F, hF⟩ : ∃ F, f ++ [(s.length : Int)] = F := ⟨_, rfl⟩
        rw [hF] at FM HLW
        clear hF FA1 FA
        replace BRr := Lib.hid (BR1.out.on FX1.out)
        have FX := FX1
        have hli := HLi.out
        rw [HLW.out] at hli
        obtain ⟨X, rfl, rfl, rfl, rfl, hcin⟩ := fam_cin FM hli.1 hli.2.1 hli.2.2.1 hli.2.2.2
        have HCIN := Lib.hid hcin
        have k0 := FM.c 0; have k1 := FM.c 1; have k2 := FM.c 2; have k3 := FM.c 3
        have E := BRr.out
        unfold emK at E
        have r0 := E.c 0; have r1 := E.c 1; have r2 := E.c 2; have r3 := E.c 3
        have t0 := E.f 0; have t1 := E.f 1; have t2 := E.f 2; have t3 := E.f 3
        simp only [List.getElem?_toArray, List.getElem?_cons_zero, List.getElem?_cons_succ] at r0 r1 r2 r3 k0 k1 k2 k3
        clear E hli hcin
        go_wp2
        have hK := set4_ok (w0 := wt) (c' := LV) (A' := X) (show Bk _ R (colC emC A0c) 24 from BRr.out) HR.out (FT0.out.trans (F1.out.trans FX.out))
        have hC2 := hK.2.2 _ X HCIN.out
        rw [← HLW.out] at hC2
        unfold set4 at hK hC2
        rw [HLX.out]
        rw [HLW.out] at hK hC2 ⊢
        exact c_ret rfl rfl hK.1 ⟨X, rfl, hC2, hK.2.1⟩
end Go.Proofs.YtpjikijfendmhaaGreat

/-! The reference of columns: the column of a list of entries and its error. Nothing that was there turns. -/
namespace Go.Proofs.YtpjikijfendmhaaGreat
open Go.RowKit

set_option maxHeartbeats 25600000 in
set_option maxRecDepth 100000 in
theorem rofc_any (l : List Aj) (ao : Option Addr) (cap : Nat) (w : World) (hs : SlJ w ao l cap) (hl : l.length ≤ 50000) :
    Calls Tryz.prog 29 #[.slice ao l.length cap] w (RetCo w (ofV l)) := by
  obtain ⟨w0, hw0⟩ : ∃ w0, w.alloc (.cells #[.slice none 0 0, .slice none 0 0, .slice none 0 0, .slice none 0 0] 24) = w0 := ⟨_, rfl⟩
  have FR := Lib.hid (show Fuw w w0 by rw [← hw0]; exact fuwA _ _)
  obtain ⟨R, hR⟩ : ∃ R, R = w.heap.size := ⟨_, rfl⟩
  have BR := Lib.hid (show Bk w0 R #[.slice none 0 0, .slice none 0 0, .slice none 0 0, .slice none 0 0] 24 by rw [hR, ← hw0]; exact Bk.new _ _ _)
  have HRb := Lib.hid (show w.heap.size ≤ R by rw [hR]; exact Nat.le_refl _)
  have HS := Lib.hid (slJ_on FR.out hs)
  have HLd := Lib.hid (fun w' (hf : Fuw w0 w') => rlaid_any l ao cap w' (slJ_on hf HS.out) hl)
  obtain ⟨P, hP⟩ : ∃ P, P = ofV l := ⟨_, rfl⟩
  have HP := Lib.hid (show P = if l.all idJ = true then (if dstI (edg l) = true then (layV (srtJ l), 0) else (emC, 7)) else (emC, 1) from hP)
  rw [← hP]
  clear hs hP
  go_enter Tryz.func29, Tryz.ntmps29
  go_upto_region 1 with fail
  rw [← hR]
  clear hw0 hR
  go_wp2
  go_loopw [4] (fun iv wr => ∃ i : Nat, iv = .int .i64 i ∧ i ≤ l.length ∧ Hid (∀ j (h : j < l.length), j < i → idJ l[j] = true) ∧ Hid (Fuw w0 wr)) (fun iv _ => l.length - (RowKit.intOf iv).toNat)
  case atStart => exact ⟨0, rfl, Nat.zero_le _, Lib.hid (fun j _ h => absurd h (Nat.not_lt_zero j)), Lib.hid (Fuw.refl _)⟩
  case round =>
    obtain ⟨i, rfl, hi, HA, hf⟩ := hrel
    by_cases hlt : i < l.length
    · obtain ⟨b, o, rfl, -, -, -, c0, c1, c2⟩ := (slJ_on hf.out HS.out).get hlt
      have HBad := Lib.hid (fun h : idJ l[i] = false => show P = (emC, 1) by rw [HP.out, all_take hlt h]; rfl)
      have HGo := Lib.hid (fun h : idJ l[i] = true => show ∀ j (h : j < l.length), j < i + 1 → idJ l[j] = true from fun j hj hji => by
        rcases Nat.lt_or_eq_of_le (Nat.le_of_lt_succ hji) with q | q
        · exact HA.out j hj q
        · subst q; exact h)
      have z1 : (i : Int) < (l.length : Int) := by omega
      generalize l[i] = x at *
      obtain ⟨x0, x1, x2⟩ := x
      simp only at c0 c1 c2
      have HJ := Lib.hid (show idJ (x0, x1, x2) = (idB x0 && idB x1 && idB x2) from rfl)
      have HI0 := Lib.hid (fun w' => rid12_any x0 w')
      have HI1 := Lib.hid (fun w' => rid12_any x1 w')
      have HI2 := Lib.hid (fun w' => rid12_any x2 w')
      generalize idJ (x0, x1, x2) = qj at *
      generalize idB x0 = q0 at *
      generalize idB x1 = q1 at *
      generalize idB x2 = q2 at *
      cases q0 with
      | false =>
        have HZ := Lib.hid (HBad.out (by rw [HJ.out]; rfl))
        go_wp2_with fail
        go_at_call 65; refine (HI0.out _).mono ?_; rintro e9 w9 ⟨rfl, rfl⟩
        have E0 := Lib.hid (show Bk _ R #[.slice none 0 0, .slice none 0 0, .slice none 0 0, .slice none 0 0] 24 from BR.out.on hf.out)
        have FE := Lib.hid (FR.out.trans hf.out)
        have r0 := E0.out.c 0; have r1 := E0.out.c 1; have r2 := E0.out.c 2; have r3 := E0.out.c 3
        have t0 := E0.out.f 0; have t1 := E0.out.f 1; have t2 := E0.out.f 2; have t3 := E0.out.f 3
        simp only [List.getElem?_toArray, List.getElem?_cons_zero, List.getElem?_cons_succ] at r0 r1 r2 r3
        clear c0 c1 c2
        go_wp2
        have hK := set4_ok (w0 := w) (c' := emC) (A' := A0c) (show Bk _ R (colC emC A0c) 24 from E0.out) HRb.out FE.out
        unfold set4 at hK
        exact c_ret2 rfl rfl rfl hK.1 (by rw [HZ.out]; exact ⟨A0c, rfl, emc_in _, hK.2.1⟩)
      | true =>
        cases q1 with
        | false =>
          have HZ := Lib.hid (HBad.out (by rw [HJ.out]; rfl))
          go_wp2_with fail
          go_at_call 65; refine (HI0.out _).mono ?_; rintro e9 w9 ⟨rfl, rfl⟩
          go_wp2_with fail
          go_at_call 65; refine (HI1.out _).mono ?_; rintro e9 w9 ⟨rfl, rfl⟩
          have E0 := Lib.hid (show Bk _ R #[.slice none 0 0, .slice none 0 0, .slice none 0 0, .slice none 0 0] 24 from BR.out.on hf.out)
          have FE := Lib.hid (FR.out.trans hf.out)
          have r0 := E0.out.c 0; have r1 := E0.out.c 1; have r2 := E0.out.c 2; have r3 := E0.out.c 3
          have t0 := E0.out.f 0; have t1 := E0.out.f 1; have t2 := E0.out.f 2; have t3 := E0.out.f 3
          simp only [List.getElem?_toArray, List.getElem?_cons_zero, List.getElem?_cons_succ] at r0 r1 r2 r3
          clear c0 c1 c2
          go_wp2
          have hK := set4_ok (w0 := w) (c' := emC) (A' := A0c) (show Bk _ R (colC emC A0c) 24 from E0.out) HRb.out FE.out
          unfold set4 at hK
          exact c_ret2 rfl rfl rfl hK.1 (by rw [HZ.out]; exact ⟨A0c, rfl, emc_in _, hK.2.1⟩)
        | true =>
          cases q2 with
          | false =>
            have HZ := Lib.hid (HBad.out (by rw [HJ.out]; rfl))
            go_wp2_with fail
            go_at_call 65; refine (HI0.out _).mono ?_; rintro e9 w9 ⟨rfl, rfl⟩
            go_wp2_with fail
            go_at_call 65; refine (HI1.out _).mono ?_; rintro e9 w9 ⟨rfl, rfl⟩
            go_wp2_with fail
            go_at_call 65; refine (HI2.out _).mono ?_; rintro e9 w9 ⟨rfl, rfl⟩
            have E0 := Lib.hid (show Bk _ R #[.slice none 0 0, .slice none 0 0, .slice none 0 0, .slice none 0 0] 24 from BR.out.on hf.out)
            have FE := Lib.hid (FR.out.trans hf.out)
            have r0 := E0.out.c 0; have r1 := E0.out.c 1; have r2 := E0.out.c 2; have r3 := E0.out.c 3
            have t0 := E0.out.f 0; have t1 := E0.out.f 1; have t2 := E0.out.f 2; have t3 := E0.out.f 3
            simp only [List.getElem?_toArray, List.getElem?_cons_zero, List.getElem?_cons_succ] at r0 r1 r2 r3
            clear c0 c1 c2
            go_wp2
            have hK := set4_ok (w0 := w) (c' := emC) (A' := A0c) (show Bk _ R (colC emC A0c) 24 from E0.out) HRb.out FE.out
            unfold set4 at hK
            exact c_ret2 rfl rfl rfl hK.1 (by rw [HZ.out]; exact ⟨A0c, rfl, emc_in _, hK.2.1⟩)
          | true =>
            have HY := Lib.hid (HGo.out (by rw [HJ.out]; rfl))
            go_wp2_with fail
            go_at_call 65; refine (HI0.out _).mono ?_; rintro e9 w9 ⟨rfl, rfl⟩
            go_wp2_with fail
            go_at_call 65; refine (HI1.out _).mono ?_; rintro e9 w9 ⟨rfl, rfl⟩
            go_wp2_with fail
            go_at_call 65; refine (HI2.out _).mono ?_; rintro e9 w9 ⟨rfl, rfl⟩
            go_wp2
            go_roundw
            case rel => exact ⟨i + 1, by go_num, by omega, HY, hf⟩
            case measure => simp [RowKit.intOf]; omega
    · have hge : ¬ (i : Int) < (l.length : Int) := by omega
      have HAll := Lib.hid (show l.all idJ = true from List.all_eq_true.2 fun x hx => by
        obtain ⟨j, hj, rfl⟩ := List.getElem_of_mem hx
        exact HA.out j hj (by omega))
      have HP2 := Lib.hid (show P = if dstI (edg l) = true then (layV (srtJ l), 0) else (emC, 7) by rw [HP.out, if_pos HAll.out])
      have F3 := Lib.hid hf.out
      clear HA hf HP HAll
      go_wp2
      go_loopw [5] (fun iv wr => ∃ i : Nat, iv = .int .i64 i ∧ i ≤ l.length ∧ Hid (dstJ l i) ∧ Hid (Fuw w0 wr)) (fun iv _ => l.length - (RowKit.intOf iv).toNat)
      case atStart => exact ⟨0, rfl, Nat.zero_le _, Lib.hid (fun i j _ _ h => absurd h (Nat.not_lt_zero j)), F3⟩
      case round =>
        clear hlt hge hi
        obtain ⟨i, rfl, hi, HDj, hf⟩ := hrel
        by_cases hlt : i < l.length
        · have z1 : (i : Int) < (l.length : Int) := by omega
          have FI := Lib.hid hf.out
          clear hf
          go_wp2
          go_loopw [6] (fun jv wr => ∃ j : Nat, jv = .int .i64 j ∧ j ≤ i ∧ Hid (∀ m (hm : m < i), m < j → (l[m]'(Nat.lt_trans hm hlt)).2.2 ≠ l[i].2.2) ∧ Hid (Fuw w0 wr)) (fun jv _ => i - (RowKit.intOf jv).toNat)
          case atStart => exact ⟨0, rfl, Nat.zero_le _, Lib.hid (fun m _ h => absurd h (Nat.not_lt_zero m)), FI⟩
          case round =>
            obtain ⟨j, rfl, hj, HM, hf⟩ := hrel
            by_cases hji : j < i
            · have hjl : j < l.length := by omega
              obtain ⟨b, o, rfl, ⟨-, -, -, -, -, x2⟩, -, -, -, -, -, y2⟩ := (slJ_on hf.out HS.out).get2 hjl hlt
              have HEq := Lib.hid (fun h : l[j].2.2 = l[i].2.2 => dst_no hji hlt h)
              have HNe := Lib.hid (fun h : l[j].2.2 ≠ l[i].2.2 => show ∀ m (hm : m < i), m < j + 1 → (l[m]'(Nat.lt_trans hm hlt)).2.2 ≠ l[i].2.2 from fun m hm hmj => by
                rcases Nat.lt_or_eq_of_le (Nat.le_of_lt_succ hmj) with q | q
                · exact HM.out m hm q
                · subst q; exact h)
              obtain ⟨u, hu⟩ : ∃ u, l[j].2.2 = u := ⟨_, rfl⟩
              obtain ⟨v, hv⟩ : ∃ v, l[i].2.2 = v := ⟨_, rfl⟩
              rw [hu, hv] at HEq HNe
              have HV := Lib.hid hv
              rw [hu] at x2
              rw [hv] at y2
              have z2 : (j : Int) < (i : Int) := by omega
              have z3 : (j : Int) < (l.length : Int) := by omega
              clear hu hv
              by_cases huv : u = v
              · have p : (u == v) = true := by rw [beq_iff_eq]; exact huv
                have HZ := Lib.hid (show P = (emC, 7) by rw [HP2.out, HEq.out huv]; rfl)
                clear huv
                go_upto_region 12 with fail
                go_quiet (fail)
                clear x2 y2 p
                have hf2 := hf.out.trans (fuw_dr wr nq)
                have E0 := Lib.hid (show Bk _ R #[.slice none 0 0, .slice none 0 0, .slice none 0 0, .slice none 0 0] 24 from BR.out.on hf2)
                have FE := Lib.hid (FR.out.trans hf2)
                have r0 := E0.out.c 0; have r1 := E0.out.c 1; have r2 := E0.out.c 2; have r3 := E0.out.c 3
                have t0 := E0.out.f 0; have t1 := E0.out.f 1; have t2 := E0.out.f 2; have t3 := E0.out.f 3
                simp only [List.getElem?_toArray, List.getElem?_cons_zero, List.getElem?_cons_succ] at r0 r1 r2 r3
                go_wp2
                have hK := set4_ok (w0 := w) (c' := emC) (A' := A0c) (show Bk _ R (colC emC A0c) 24 from E0.out) HRb.out FE.out
                unfold set4 at hK
                exact c_ret2 rfl rfl rfl hK.1 (by rw [HZ.out]; exact ⟨A0c, rfl, emc_in _, hK.2.1⟩)
              · have p : (u == v) = false := by rw [beq_eq_false_iff_ne]; exact huv
                have HY := Lib.hid (show ∀ m (hm : m < i), m < j + 1 → (l[m]'(Nat.lt_trans hm hlt)).2.2 ≠ l[i].2.2 by have := HNe.out huv; rw [← HV.out] at this; exact this)
                clear huv
                go_upto_region 12 with fail
                go_quiet (fail)
                clear x2 y2 p
                go_wp2
                go_roundw
                case rel => exact ⟨j + 1, by go_num, by omega, HY, Lib.hid (hf.out.trans (fuw_dr _ _))⟩
                case measure => simp [RowKit.intOf]; omega
            · have hge : ¬ (j : Int) < (i : Int) := by omega
              have HY := Lib.hid (dstJ_step hlt HDj.out fun m hm => HM.out m hm (by omega))
              go_wp2
              go_roundw
              case rel => exact ⟨i + 1, by go_num, by omega, HY, hf⟩
              case measure => simp [RowKit.intOf]; omega
        · have hge : ¬ (i : Int) < (l.length : Int) := by omega
          have HZ := Lib.hid (show P = (layV (srtJ l), 0) by rw [HP2.out, dst_yes (by have := HDj.out; rwa [show i = l.length by omega] at this)]; rfl)
          have HC := Lib.hid (HLd.out wr hf.out)
          have FX := Lib.hid hf.out
          generalize layV (srtJ l) = LV at *
          unfold RetCm at HC
          clear hf HDj HP2 HLd
          go_wp2_with fail
          go_at_call 66; refine HC.out.mono ?_; rintro e4 w4 ⟨X, rfl, hcin, f4⟩
          have HCIN := Lib.hid hcin
          have F4 := Lib.hid f4
          have E0 := Lib.hid (show Bk w4 R #[.slice none 0 0, .slice none 0 0, .slice none 0 0, .slice none 0 0] 24 from BR.out.on (FX.out.trans F4.out))
          have FE := Lib.hid (FR.out.trans (FX.out.trans F4.out))
          have r0 := E0.out.c 0; have r1 := E0.out.c 1; have r2 := E0.out.c 2; have r3 := E0.out.c 3
          have t0 := E0.out.f 0; have t1 := E0.out.f 1; have t2 := E0.out.f 2; have t3 := E0.out.f 3
          simp only [List.getElem?_toArray, List.getElem?_cons_zero, List.getElem?_cons_succ] at r0 r1 r2 r3
          clear hcin f4 HC
          unfold colv colC
          go_wp2
          have hK := set4_ok (w0 := w) (c' := LV) (A' := X) (show Bk _ R (colC emC A0c) 24 from E0.out) HRb.out FE.out
          have hC2 := hK.2.2 _ X HCIN.out
          unfold set4 at hK hC2
          exact c_ret2 rfl rfl rfl hK.1 (by rw [HZ.out]; exact ⟨X, rfl, hC2, hK.2.1⟩)
end Go.Proofs.YtpjikijfendmhaaGreat

/-! The reference of overlays: Row, Compact. Nothing that was there turns. -/
namespace Go.Proofs.YtpjikijfendmhaaGreat
open Go.RowKit

set_option maxHeartbeats 6400000 in
set_option maxRecDepth 100000 in
theorem rrow13_any (o : Ov) (A : OA) (n : Int) (w : World) (hO : OIn w o A) (ht : Tiny o) (hz : o.c.ts.length + o.ads.length ≤ 50000) (hle : (entS o).length ≤ 1000000) : Calls Tryz.prog 18 #[ovv o A, .int .i64 n] w (RetJ w (rowS o n)) := by
  obtain ⟨w0, hw0⟩ : ∃ w0, w.alloc (.cells (ovC o A) 27) = w0 := ⟨_, rfl⟩
  have B0 := Lib.hid (show OB w0 w.heap.size o A from ⟨by rw [← hw0]; exact Bk.new _ _ _⟩)
  have F0 := Lib.hid (show Fuw w w0 by rw [← hw0]; exact fuwA _ _)
  have HO := Lib.hid (hO.on F0.out)
  have HE := Lib.hid (rentr13_any o A w0 HO.out ht.sm hz)
  have HI := Lib.hid (@entS_i64 o)
  have HR := Lib.hid (show rowS o n = rowF n (entS o) from rfl)
  obtain ⟨R, hR⟩ : ∃ R, rowS o n = R := ⟨_, rfl⟩
  rw [hR] at HR ⊢
  obtain ⟨i0, hi0, hz0, hz1, hz2⟩ := info_parts infoJ
  have d1 := B0.out.c1; have d2 := B0.out.c2; have d3 := B0.out.c3; have d4 := B0.out.c4; have d5 := B0.out.c5; have d6 := B0.out.c6
  unfold ovv at HE ⊢
  unfold ovC at hw0 HE ⊢
  clear hO hR
  generalize entS o = l at *
  go_enter Tryz.func18, Tryz.ntmps18
  go_upto_region 2 with fail
  clear hw0
  go_wp2_with fail
  go_at_call 16; refine HE.out.mono ?_; rintro e1 w1 ⟨v, rfl, ho, f1⟩
  obtain ⟨ao, cap, hvv, -, hs⟩ := slJ_own ho HI.out
  subst hvv
  have HS := Lib.hid hs
  have F1 := Lib.hid f1
  clear ho hs f1 d1 d2 d3 d4 d5 d6
  go_wp2
  go_loopw [5, 7] (fun lv iv wr => ∃ i : Nat, iv = .int .i64 i ∧ i ≤ l.length ∧ Hid (OwnJ w1 wr lv (rowF n (l.take i))) ∧ Hid (Fuw w1 wr)) (fun _ iv _ => l.length - (RowKit.intOf iv).toNat)
  case atStart => exact ⟨0, rfl, Nat.zero_le _, Lib.hid (World.ownsRow_nil _ _ _ _), Lib.hid (Fuw.refl _)⟩
  case round =>
    obtain ⟨i, rfl, hi, HOw, hf⟩ := hrel
    by_cases hlt : i < l.length
    · obtain ⟨b, of, rfl, -, -, -, c0, c1, c2⟩ := (slJ_on hf.out HS.out).get hlt
      have HT := Lib.hid (rowF_snoc (n := n) hlt)
      have hL : (rowF n (l.take i)).length ≤ 1000000 := by
        have h1 := rowF_len n (l.take i)
        rw [List.length_take] at h1; omega
      generalize rowF n (l.take i) = L at *
      generalize l[i] = x at *
      obtain ⟨x0, x1, x2⟩ := x
      simp only at c0 c1 c2 HT
      have z1 : (i : Int) < (l.length : Int) := by omega
      by_cases hx : x0 = n
      · have p : (x0 == n) = true := by rw [beq_iff_eq]; exact hx
        have HT2 := Lib.hid (show rowF n (l.take (i + 1)) = L ++ [(x0, x1, x2)] by rw [HT.out, if_pos hx])
        clear hx
        go_wp2_with (at_builtin; refine wpList_append_own_at _ rfl (.tmp 23) (.tmp 28) 25 rfl w1.heap.size 42 i0 (.agg #[.int .i64 0, .int .i64 0, .int .i64 0]) 3 24 Tryz.underlying25 hi0 hz0 hz1 hz2 rfl (by decide) _ L.length (aC L) rfl (own_on HOw.out (fuwA _ _)) ⟨wr.heap.size, 0, none⟩ 1 1 (aE (x0, x1, x2)) rfl rfl (World.news_of_block (heap_alloc_new wr _)) (one_adj _) (by unfold maxLen; omega) (by omega) (Nat.le_trans hf.out.size (by simp)) ?_; intro v' w5 hown5 hgrow _ _)
        have HG := Lib.hid (fuw_grown (hf.out.trans (fuwA _ _)) (own_on HOw.out (fuwA _ _)) hgrow)
        have HO2 := Lib.hid (show OwnJ w1 w5 v' (rowF n (l.take (i + 1))) from by
          unfold OwnJ
          rw [HT2.out, aC_app, List.length_append]; exact hown5)
        clear hown5 hgrow c0 c1 c2 p
        go_wp2
        go_roundw
        case rel => exact ⟨i + 1, by go_num, by omega, HO2, HG⟩
        case measure => simp [RowKit.intOf]; omega
      · have p : (x0 == n) = false := by rw [beq_eq_false_iff_ne]; exact hx
        have HO2 := Lib.hid (show OwnJ w1 wr _ (rowF n (l.take (i + 1))) from by rw [HT.out, if_neg hx, List.append_nil]; exact HOw.out)
        clear hx
        go_wp2
        go_roundw
        case rel => exact ⟨i + 1, by go_num, by omega, HO2, hf⟩
        case measure => simp [RowKit.intOf]; omega
    · have HL := Lib.hid (show rowF n (l.take i) = R by rw [List.take_of_length_le (by omega)]; exact HR.out.symm)
      have hge : ¬ (i : Int) < (l.length : Int) := by omega
      go_wp2
      go_ret
      exact ⟨_, rfl, by rw [← HL.out]; exact own_le (own_on HOw.out (Fuw.refl _)) (Nat.le_trans F0.out.size F1.out.size), F0.out.trans (F1.out.trans hf.out)⟩
set_option maxHeartbeats 6400000 in
set_option maxRecDepth 100000 in
theorem rcmp13_any (o : Ov) (A : OA) (w : World) (hO : OIn w o A) (ht : Tiny o) (hz : o.c.ts.length + o.ads.length ≤ 50000) (hsz : valO o = true → (entR o).length ≤ 50000) : Calls Tryz.prog 9 #[ovv o A] w (RetCo w (cmpV o)) := by
  obtain ⟨w0, hw0⟩ : ∃ w0, w.alloc (.cells (ovC o A) 27) = w0 := ⟨_, rfl⟩
  obtain ⟨wA, hwA⟩ : ∃ wA, w0.alloc (.cells #[.slice none 0 0, .slice none 0 0, .slice none 0 0, .slice none 0 0] 24) = wA := ⟨_, rfl⟩
  have F0 := Lib.hid (show Fuw w w0 by rw [← hw0]; exact fuwA _ _)
  have FA := Lib.hid (show Fuw w0 wA by rw [← hwA]; exact fuwA _ _)
  have B0 := Lib.hid (show OB wA w.heap.size o A from (show OB w0 w.heap.size o A from ⟨by rw [← hw0]; exact Bk.new _ _ _⟩).on FA.out)
  have BR := Lib.hid (show Bk wA w0.heap.size #[.slice none 0 0, .slice none 0 0, .slice none 0 0, .slice none 0 0] 24 by rw [← hwA]; exact Bk.new _ _ _)
  have FR := Lib.hid (F0.out.trans FA.out)
  have HSz := Lib.hid hsz
  clear hsz
  have HO := Lib.hid (hO.on FR.out)
  have H1 := Lib.hid (rvalid13_any o A wA HO.out ht.sm hz)
  have H6 := Lib.hid (fun w' (hf : Fuw wA w') (h : valO o = true) => rents_any o A w' (HO.out.on hf) ht.sm (valC_iff.2 (valO_iff.1 h).c) hz)
  have HI := Lib.hid (fun h : valO o = true => show ∀ x ∈ entR o, I64 x.1 ∧ I64 x.2.1 ∧ I64 x.2.2 by
    have := entR_i64 hO (valC_iff.2 (valO_iff.1 h).c) o.ads.length
    rw [List.take_length] at this; exact this)
  have HK := Lib.hid (fun h : valO o = true => cmpV_R h)
  obtain ⟨P, hP⟩ : ∃ P, cmpV o = P := ⟨_, rfl⟩
  have HP := Lib.hid (show P = if valO o = true then cmpV o else (emC, 19) by rw [← hP]; unfold cmpV; by_cases h : valO o = true <;> simp [h])
  rw [hP]
  have d1 := B0.out.c1; have d2 := B0.out.c2; have d3 := B0.out.c3; have d4 := B0.out.c4; have d5 := B0.out.c5; have d6 := B0.out.c6
  unfold ovv at H1 H6 ⊢
  unfold ovC at hw0 H1 H6 ⊢
  clear hO ht hP
  obtain ⟨q, hq⟩ : ∃ q, valO o = q := ⟨_, rfl⟩
  rw [hq] at HP H1
  have HQ := Lib.hid hq
  clear hq
  go_enter Tryz.func9, Tryz.ntmps9
  go_upto_region 1 with fail
  obtain ⟨R, hR⟩ : ∃ R, R = w0.heap.size := ⟨_, rfl⟩
  rw [← hR] at BR ⊢
  have HRb := Lib.hid (show w.heap.size ≤ R by rw [hR]; exact F0.out.size)
  clear hR hw0 hwA
  go_wp2_with fail
  go_at_call 13; refine H1.out.mono ?_; rintro e1 w1 ⟨rfl, f1⟩
  have F1 := Lib.hid f1
  replace d1 := (B0.out.on F1.out).c1; replace d2 := (B0.out.on F1.out).c2; replace d3 := (B0.out.on F1.out).c3; replace d4 := (B0.out.on F1.out).c4; replace d5 := (B0.out.on F1.out).c5; replace d6 := (B0.out.on F1.out).c6
  clear f1
  cases q with
  | false =>
    have HZ := Lib.hid (show P = (emC, 19) by rw [HP.out]; rfl)
    have E0 := Lib.hid (show Bk w1 R #[.slice none 0 0, .slice none 0 0, .slice none 0 0, .slice none 0 0] 24 from BR.out.on F1.out)
    have FE := Lib.hid (FR.out.trans F1.out)
    have r0 := E0.out.c 0; have r1 := E0.out.c 1; have r2 := E0.out.c 2; have r3 := E0.out.c 3
    have t0 := E0.out.f 0; have t1 := E0.out.f 1; have t2 := E0.out.f 2; have t3 := E0.out.f 3
    simp only [List.getElem?_toArray, List.getElem?_cons_zero, List.getElem?_cons_succ] at r0 r1 r2 r3
    clear d1 d2 d3 d4 d5 d6
    go_wp2
    have hK := set4_ok (w0 := w) (c' := emC) (A' := A0c) (show Bk _ R (colC emC A0c) 24 from E0.out) HRb.out FE.out
    unfold set4 at hK
    exact c_ret2 rfl rfl rfl hK.1 (by rw [HZ.out]; exact ⟨A0c, rfl, emc_in _, hK.2.1⟩)
  | true =>
    have HZ := Lib.hid (show P = ofV (entR o) by rw [HP.out, if_pos rfl, HK.out HQ.out])
    have HI2 := Lib.hid (HI.out HQ.out)
    have HS2 := Lib.hid (HSz.out HQ.out)
    clear HI HK HP HSz
    generalize entR o = L at *
    go_wp2_with fail
    go_at_call 30; refine (H6.out _ F1.out HQ.out).mono ?_; rintro e6 w6 ⟨v, rfl, ho, f6⟩
    obtain ⟨a, cp, hv, -, hS⟩ := slJ_own ho HI2.out
    subst hv
    have F6 := Lib.hid (F1.out.trans f6)
    have HC := Lib.hid (rofc_any L a cp w6 hS HS2.out)
    unfold RetCo at HC
    rw [← HZ.out] at HC
    obtain ⟨LV, n⟩ := P
    clear ho f6 hS d1 d2 d3 d4 d5 d6
    go_wp2_with fail
    go_at_call 29; refine HC.out.mono ?_; rintro e4 w4 ⟨X, rfl, hcin, f4⟩
    have HCIN := Lib.hid hcin
    have E0 := Lib.hid (show Bk w4 R #[.slice none 0 0, .slice none 0 0, .slice none 0 0, .slice none 0 0] 24 from BR.out.on (F6.out.trans f4))
    have FE := Lib.hid (FR.out.trans (F6.out.trans f4))
    have r0 := E0.out.c 0; have r1 := E0.out.c 1; have r2 := E0.out.c 2; have r3 := E0.out.c 3
    have t0 := E0.out.f 0; have t1 := E0.out.f 1; have t2 := E0.out.f 2; have t3 := E0.out.f 3
    simp only [List.getElem?_toArray, List.getElem?_cons_zero, List.getElem?_cons_succ] at r0 r1 r2 r3
    clear hcin f4 HC
    unfold colv colC
    go_wp2
    have hK := set4_ok (w0 := w) (c' := LV) (A' := X) (show Bk _ R (colC emC A0c) 24 from E0.out) HRb.out FE.out
    have hC2 := hK.2.2 _ X HCIN.out
    unfold set4 at hK hC2
    exact c_ret2 rfl rfl rfl hK.1 ⟨X, rfl, hC2, hK.2.1⟩
end Go.Proofs.YtpjikijfendmhaaGreat

/-! OverlayReads: the law's walk. Nothing that was there turns. -/
namespace Go.Proofs.YtpjikijfendmhaaGreat
open Go.RowKit

def RetC2 (w : World) (c : Cm) (n : Int) (e : Ending) (w' : World) : Prop := ∃ A, e = .returned (.tuple #[colv c A, .int .i64 n]) ∧ CIn w' c A ∧ Fuw w w'
theorem entR_len {o : Ov} (h : valC o.c = true) : (entR o).length ≤ o.c.ts.length + o.ads.length := by
  have q := (fold_perm o.ads (keepD o.dls (entL o.c))).length_eq
  have h1 := keepD_len o.dls (entL o.c)
  rw [ent_len (valC_iff.1 h).b] at h1
  rw [List.length_append] at q
  show (o.ads.foldl wthV (keepD o.dls (entL o.c))).length ≤ _
  omega
theorem entO_l {o : Ov} {k : Nat} (h : Sz k o) (hk : k ≤ 100) : (keepD o.dls (entC o.c) ++ o.ads).length ≤ 5000 := by
  rw [List.length_append]
  have h1 := keepD_len o.dls (entC o.c)
  have h2 := entc_len (c := o.c)
  have h3 := h.t
  have h4 := h.a
  omega
theorem cmpo_x {o : Ov} {c : Cm} {n : Int} (A : OA) (w : World) (hO : OIn w o A) (ht : Tiny o) (hl : (keepD o.dls (entC o.c) ++ o.ads).length ≤ 5000) (h : cmpV o = (c, n)) : Calls Tryz.prog 8 #[ovv o A] w (RetC2 w c n) := by
  have q := cmpo_any o A w hO ht hl
  rw [h] at q; exact q
theorem rcmp_x {o : Ov} {c : Cm} {n : Int} (A : OA) (w : World) (hO : OIn w o A) (ht : Tiny o) (hz : o.c.ts.length + o.ads.length ≤ 50000) (h : cmpV o = (c, n)) : Calls Tryz.prog 9 #[ovv o A] w (RetC2 w c n) := by
  have q := rcmp13_any o A w hO ht hz (fun v => Nat.le_trans (entR_len (valC_iff.2 (valO_iff.1 v).c)) hz)
  rw [h] at q; exact q
theorem newo_x {c : Cm} {x : Ov} {n : Int} (A : CA) (w : World) (hC : CIn w c A) (ht : Tiny ⟨c, [], []⟩) (h : newV c = (x, n)) : Calls Tryz.prog 10 #[colv c A] w (RetX w x n) := by
  have q := newo_any c A w hC ht
  rw [h] at q; exact q
theorem rnew_x {c : Cm} {x : Ov} {n : Int} (A : CA) (w : World) (hC : CIn w c A) (ht : Tiny ⟨c, [], []⟩) (h : newV c = (x, n)) : Calls Tryz.prog 11 #[colv c A] w (RetX w x n) := by
  have q := rnew_any c A w hC ht
  rw [h] at q; exact q
theorem rval_x {o : Ov} (A : OA) (w : World) (hO : OIn w o A) (ht : Tiny o) (hz : o.c.ts.length + o.ads.length ≤ 50000) {q : Bool} (h : valO o = q) : Calls Tryz.prog 13 #[ovv o A] w (FwB w q) := by
  have k := rvalid13_any o A w hO ht.sm hz
  rw [h] at k; exact k
theorem retl_of {w : World} {L : List Aj} (h : ∀ x ∈ L, I64 x.1 ∧ I64 x.2.1 ∧ I64 x.2.2) (e : Ending) (w' : World) : RetJ w L e w' → RetL w L e w' := by
  rintro ⟨v, rfl, ho, hf⟩
  obtain ⟨a, k, rfl, -, hs⟩ := slJ_own ho h
  exact ⟨a, k, rfl, hs, hf⟩
theorem rowS_i64 {o : Ov} {m : Int} : ∀ x ∈ rowS o m, I64 x.1 ∧ I64 x.2.1 ∧ I64 x.2.2 := fun x hx => entS_i64 x (List.mem_filter.1 hx).1
theorem rents_x {o : Ov} (A : OA) (w : World) (hO : OIn w o A) (ht : Tiny o) (hz : o.c.ts.length + o.ads.length ≤ 50000) : Calls Tryz.prog 16 #[ovv o A] w (RetL w (entS o)) :=
  (rentr13_any o A w hO ht.sm hz).mono (retl_of entS_i64)
theorem row_x {o : Ov} (A : OA) (m : Int) (w : World) (hO : OIn w o A) (ht : Tiny o) (hl : (entS o).length ≤ 1000000) : Calls Tryz.prog 17 #[ovv o A, .int .i64 m] w (RetL w (rowS o m)) :=
  (rowo_any o A m w hO ht hl).mono (retl_of rowS_i64)
theorem rrow_x {o : Ov} (A : OA) (m : Int) (w : World) (hO : OIn w o A) (ht : Tiny o) (hz : o.c.ts.length + o.ads.length ≤ 50000) (hl : (entS o).length ≤ 1000000) : Calls Tryz.prog 18 #[ovv o A, .int .i64 m] w (RetL w (rowS o m)) :=
  (rrow13_any o A m w hO ht hz hl).mono (retl_of rowS_i64)
theorem adjs_x {l : List Aj} {a1 a2 : Option Addr} {k1 k2 : Nat} {w : World} (hs : SlJ w a1 l k1) (hm : SlJ w a2 l k2) : Calls Tryz.prog 14 #[.slice a1 l.length k1, .slice a2 l.length k2] w (FwB w true) := by
  have q := adjs_any l l a1 a2 k1 k2 w hs hm
  rwa [decide_eq_true (rfl : l = l)] at q
set_option maxHeartbeats 25600000 in
set_option maxRecDepth 100000 in
theorem reads_walk (o : Ov) (A : OA) (m : Int) (w : World) (hO : OIn w o A) :
    Calls Tryz.prog 3 #[ovv o A, .int .i64 m] w (FwB w true) := by
  obtain ⟨w1, hw1⟩ : ∃ w1, w.alloc (.cells (ovC o A) 27) = w1 := ⟨_, rfl⟩
  have F1 := Lib.hid (show Fuw w w1 by rw [← hw1]; exact fuwA _ _)
  have BO := Lib.hid (show OB w1 w.heap.size o A from ⟨by rw [← hw1]; exact Bk.new _ _ _⟩)
  have HO := Lib.hid (hO.on F1.out)
  clear hO
  unfold ovv
  unfold ovC at hw1 ⊢
  go_enter Tryz.func3, Tryz.ntmps3
  go_upto_region 1 with fail
  clear hw1
  generalize w.heap.size = B3 at *
  have x1 := BO.out.c1; have x2 := BO.out.c2; have x3 := BO.out.c3; have x4 := BO.out.c4; have x5 := BO.out.c5; have x6 := BO.out.c6
  have HK := Lib.hid (few_any o A w1)
  unfold ovv ovC RetFew at HK
  go_wp2_with fail
  go_at_call 6; refine HK.out.mono ?_; rintro e2 w2 ⟨q, rfl, hq, f2⟩
  have F2 := Lib.hid (F1.out.trans f2)
  have BO2 := Lib.hid (BO.out.on f2)
  have HO2 := Lib.hid (HO.out.on f2)
  have HQ := Lib.hid hq
  clear hq f2 HK x1 x2 x3 x4 x5 x6 BO HO
  cases q with
  | false =>
    go_wp2_with fail
    go_at_call 7; refine (alive_any _).mono ?_; rintro e9 w9 ⟨rfl, f9⟩
    have FZ := Lib.hid (F2.out.trans f9)
    clear f9
    go_wp2
    go_ret
    exact ⟨ret_bool (by simp), FZ.out⟩
  | true =>
    have HF := Lib.hid (HQ.out rfl).sz
    have HZ5 := Lib.hid (show o.c.ts.length + o.ads.length ≤ 50000 by have h1 := HF.out.t; have h2 := HF.out.a; omega)
    have HTy := Lib.hid (HF.out.tiny (by decide))
    have HTc := Lib.hid (show Tiny ⟨o.c, [], []⟩ from ⟨HTy.out.n, HTy.out.f, HTy.out.t, HTy.out.e, Nat.zero_le _, Nat.zero_le _⟩)
    have HLe := Lib.hid (entO_l HF.out (by decide))
    have HLs := Lib.hid (entS_len HF.out (by decide))
    obtain ⟨c, hc⟩ : ∃ c, (cmpV o).1 = c := ⟨_, rfl⟩
    obtain ⟨e, he⟩ : ∃ e, (cmpV o).2 = e := ⟨_, rfl⟩
    have HCm := Lib.hid (show cmpV o = (c, e) from Prod.ext hc he)
    obtain ⟨x, hx⟩ : ∃ x, (newV o.c).1 = x := ⟨_, rfl⟩
    obtain ⟨n, hn⟩ : ∃ n, (newV o.c).2 = n := ⟨_, rfl⟩
    have HNw := Lib.hid (show newV o.c = (x, n) from Prod.ext hx hn)
    obtain ⟨q, hq⟩ : ∃ q, valO o = q := ⟨_, rfl⟩
    have HQv := Lib.hid hq
    clear hc he hx hn hq
    go_upto_region 3 with fail
    have HK := Lib.hid (cmpo_x A w2 HO2.out HTy.out HLe.out HCm.out)
    unfold ovv ovC at HK
    unfold RetC2 colv colC at HK
    have x1 := BO2.out.c1; have x2 := BO2.out.c2; have x3 := BO2.out.c3; have x4 := BO2.out.c4; have x5 := BO2.out.c5; have x6 := BO2.out.c6
    go_wp2_with fail
    go_at_call 8; refine HK.out.mono ?_; rintro e9 w3 ⟨Y4, rfl, hyi, f9⟩
    have G4 := Lib.hid f9
    have HY := Lib.hid hyi
    clear f9 hyi HK x1 x2 x3 x4 x5 x6
    go_upto_region 4 with fail
    obtain ⟨w4, hw⟩ : ∃ w99, World.alloc w3 (.cells (colC c Y4) 24) = w99 := ⟨_, rfl⟩
    have GG := Lib.hid (show Fuw w3 w4 by rw [← hw]; exact fuwA _ _)
    have H4 := Lib.hid (G4.out.trans GG.out)
    obtain ⟨C4, hC⟩ : ∃ C, C = w3.heap.size := ⟨_, rfl⟩
    have BX4 := Lib.hid (show Bk w4 C4 (colC c Y4) 24 by rw [hC, ← hw]; exact Bk.new _ _ _)
    unfold colC at hw
    rw [hw, ← hC]
    clear hw hC
    have HX4 := Lib.hid (HY.out.on GG.out)
    have F4 := Lib.hid (F2.out.trans H4.out)
    have BO4 := Lib.hid (BO2.out.on H4.out)
    have HO4 := Lib.hid (HO2.out.on H4.out)
    clear BO2 HO2 HY
    have HK := Lib.hid (rcmp_x A w4 HO4.out HTy.out HZ5.out HCm.out)
    unfold ovv ovC at HK
    unfold RetC2 colv colC at HK
    have x1 := BO4.out.c1; have x2 := BO4.out.c2; have x3 := BO4.out.c3; have x4 := BO4.out.c4; have x5 := BO4.out.c5; have x6 := BO4.out.c6
    go_wp2_with fail
    go_at_call 9; refine HK.out.mono ?_; rintro e9 w5 ⟨Y6, rfl, hyi, f9⟩
    have G6 := Lib.hid f9
    have HY := Lib.hid hyi
    clear f9 hyi HK x1 x2 x3 x4 x5 x6
    go_upto_region 5 with fail
    obtain ⟨w6, hw⟩ : ∃ w99, World.alloc w5 (.cells (colC c Y6) 24) = w99 := ⟨_, rfl⟩
    have GG := Lib.hid (show Fuw w5 w6 by rw [← hw]; exact fuwA _ _)
    have H6 := Lib.hid (G6.out.trans GG.out)
    obtain ⟨C6, hC⟩ : ∃ C, C = w5.heap.size := ⟨_, rfl⟩
    have BX6 := Lib.hid (show Bk w6 C6 (colC c Y6) 24 by rw [hC, ← hw]; exact Bk.new _ _ _)
    unfold colC at hw
    rw [hw, ← hC]
    clear hw hC
    have HX6 := Lib.hid (HY.out.on GG.out)
    have F6 := Lib.hid (F4.out.trans H6.out)
    have BO6 := Lib.hid (BO4.out.on H6.out)
    have HO6 := Lib.hid (HO4.out.on H6.out)
    have BX4 := Lib.hid (BX4.out.on H6.out)
    have HX4 := Lib.hid (HX4.out.on H6.out)
    clear BO4 HO4 HY
    have HK := Lib.hid (newo_x A.c w6 HO6.out.c HTc.out HNw.out)
    unfold colv colC at HK
    unfold RetX ovv ovC at HK
    have x1 := BO6.out.c1; have x2 := BO6.out.c2; have x3 := BO6.out.c3; have x4 := BO6.out.c4; have x5 := BO6.out.c5; have x6 := BO6.out.c6
    go_wp2_with fail
    go_at_call 10; refine HK.out.mono ?_; rintro e9 w7 ⟨Y8, rfl, hyi, f9⟩
    have G8 := Lib.hid f9
    have HY := Lib.hid hyi
    clear f9 hyi HK x1 x2 x3 x4 x5 x6
    go_upto_region 6 with fail
    obtain ⟨w8, hw⟩ : ∃ w99, World.alloc w7 (.cells (ovC x Y8) 27) = w99 := ⟨_, rfl⟩
    have GG := Lib.hid (show Fuw w7 w8 by rw [← hw]; exact fuwA _ _)
    have H8 := Lib.hid (G8.out.trans GG.out)
    obtain ⟨C8, hC⟩ : ∃ C, C = w7.heap.size := ⟨_, rfl⟩
    have BX8 := Lib.hid (show OB w8 C8 x Y8 from ⟨by rw [hC, ← hw]; exact Bk.new _ _ _⟩)
    unfold ovC at hw
    rw [hw, ← hC]
    clear hw hC
    have HX8 := Lib.hid (HY.out.on GG.out)
    have F8 := Lib.hid (F6.out.trans H8.out)
    have BO8 := Lib.hid (BO6.out.on H8.out)
    have HO8 := Lib.hid (HO6.out.on H8.out)
    have BX4 := Lib.hid (BX4.out.on H8.out)
    have HX4 := Lib.hid (HX4.out.on H8.out)
    have BX6 := Lib.hid (BX6.out.on H8.out)
    have HX6 := Lib.hid (HX6.out.on H8.out)
    clear BO6 HO6 HY
    have HK := Lib.hid (rnew_x A.c w8 HO8.out.c HTc.out HNw.out)
    unfold colv colC at HK
    unfold RetX ovv ovC at HK
    have x1 := BO8.out.c1; have x2 := BO8.out.c2; have x3 := BO8.out.c3; have x4 := BO8.out.c4; have x5 := BO8.out.c5; have x6 := BO8.out.c6
    go_wp2_with fail
    go_at_call 11; refine HK.out.mono ?_; rintro e9 w9 ⟨Y10, rfl, hyi, f9⟩
    have G10 := Lib.hid f9
    have HY := Lib.hid hyi
    clear f9 hyi HK x1 x2 x3 x4 x5 x6
    go_upto_region 7 with fail
    obtain ⟨w10, hw⟩ : ∃ w99, World.alloc w9 (.cells (ovC x Y10) 27) = w99 := ⟨_, rfl⟩
    have GG := Lib.hid (show Fuw w9 w10 by rw [← hw]; exact fuwA _ _)
    have H10 := Lib.hid (G10.out.trans GG.out)
    obtain ⟨C10, hC⟩ : ∃ C, C = w9.heap.size := ⟨_, rfl⟩
    have BX10 := Lib.hid (show OB w10 C10 x Y10 from ⟨by rw [hC, ← hw]; exact Bk.new _ _ _⟩)
    unfold ovC at hw
    rw [hw, ← hC]
    clear hw hC
    have HX10 := Lib.hid (HY.out.on GG.out)
    have F10 := Lib.hid (F8.out.trans H10.out)
    have BO10 := Lib.hid (BO8.out.on H10.out)
    have HO10 := Lib.hid (HO8.out.on H10.out)
    have BX4 := Lib.hid (BX4.out.on H10.out)
    have HX4 := Lib.hid (HX4.out.on H10.out)
    have BX6 := Lib.hid (BX6.out.on H10.out)
    have HX6 := Lib.hid (HX6.out.on H10.out)
    have BX8 := Lib.hid (BX8.out.on H10.out)
    have HX8 := Lib.hid (HX8.out.on H10.out)
    clear BO8 HO8 HY
    generalize w10 = W at *
    have X0 := Lib.hid (fuw_dr W 1)
    have p1 : (q == q) = true := by simp
    have p2 : (e == e) = true := by simp
    have p3 : (n == n) = true := by simp
    have K1 := Lib.hid (fun w' (h : Fuw W w') => valo_x A w' (HO10.out.on h) HTy.out HQv.out)
    have K2 := Lib.hid (fun w' (h : Fuw W w') => rval_x A w' (HO10.out.on h) HTy.out HZ5.out HQv.out)
    have K3 := Lib.hid (fun w' (h : Fuw W w') => ents_x A w' (HO10.out.on h) HTy.out)
    have K4 := Lib.hid (fun w' (h : Fuw W w') => rents_x A w' (HO10.out.on h) HTy.out HZ5.out)
    have K6 := Lib.hid (fun w' (h : Fuw W w') => row_x A m w' (HO10.out.on h) HTy.out HLs.out)
    have K7 := Lib.hid (fun w' (h : Fuw W w') => rrow_x A m w' (HO10.out.on h) HTy.out HZ5.out HLs.out)
    have K9 := Lib.hid (fun w' (h : Fuw W w') => rcols_any c Y4 Y6 w' (HX4.out.on h) (HX6.out.on h))
    have K10 := Lib.hid (fun w' (h : Fuw W w') => rsame_any x Y8 Y10 w' (HX8.out.on h) (HX10.out.on h))
    unfold ovv ovC at K1 K2 K3 K4 K6 K7 K10
    unfold colv colC at K9
    unfold RetL at K3 K4 K6 K7
    generalize entS o = ls at *
    generalize rowS o m = lr at *
    obtain ⟨S, hS⟩ : ∃ S : World → Prop, S = (fun w8 => Fuw W w8) := ⟨_, rfl⟩
    have HS4 := Lib.hid hS
    clear hS
    refine lst_start [] S (by kernel_rfl) ?_
    have hS0 : S W.drew := by rw [HS4.out]; exact X0.out
    refine takeL (i := 0) (d := some 39) (v := ?_) rfl rfl (by kernel_rfl) (by kernel_rfl) (by kernel_rfl) (by kernel_rfl) (by kernel_rfl) (fun _ _ _ h => h) (Or.inl ⟨by rfl, ?_⟩) (by assumption) ?_
    rotate_left
    · ((intro w8 hSw; rw [HS4.out] at hSw; have hO9 := BO10.out.on hSw; have h1 := hO9.c1; have h2 := hO9.c2; have h3 := hO9.c3; have h4 := hO9.c4; have h5 := hO9.c5; have h6 := hO9.c6; clear hSw hO9; go_simp); try with_reducible rfl)
    try simp only [Act.put]
    try simp only [List.setIfInBounds_toArray]
    try simp only [List.set_cons_succ]
    try simp only [List.set_cons_zero]
    refine takeL (i := 2) (d := some 41) (v := ?_) rfl rfl (by kernel_rfl) (by kernel_rfl) (by kernel_rfl) (by kernel_rfl) (by kernel_rfl) (fun _ _ _ h => h) (Or.inl ⟨by rfl, ?_⟩) (by assumption) ?_
    rotate_left
    · ((intro w8 hSw; rw [HS4.out] at hSw; have hO9 := BO10.out.on hSw; have h1 := hO9.c1; have h2 := hO9.c2; have h3 := hO9.c3; have h4 := hO9.c4; have h5 := hO9.c5; have h6 := hO9.c6; clear hSw hO9; go_simp); try with_reducible rfl)
    try simp only [Act.put]
    try simp only [List.setIfInBounds_toArray]
    try simp only [List.set_cons_succ]
    try simp only [List.set_cons_zero]
    refine oneL (i := 1) rfl (by kernel_rfl) (fun K8 hK8 => ?_)
    go_simp
    go_at_call 12; refine (K1.out _ X0.out).mono ?_; rintro e9 v1 ⟨rfl, f9⟩
    have X1 := Lib.hid (X0.out.trans f9)
    clear f9
    have hS1 : S v1 := by rw [HS4.out]; exact X1.out
    refine hK8 _ _ hS1 ?_
    try simp only [Act.put]
    try simp only [List.setIfInBounds_toArray]
    try simp only [List.set_cons_succ]
    try simp only [List.set_cons_zero]
    refine oneL (i := 3) rfl (by kernel_rfl) (fun K8 hK8 => ?_)
    go_simp
    go_at_call 13; refine (K2.out _ X1.out).mono ?_; rintro e9 v2 ⟨rfl, f9⟩
    have X2 := Lib.hid (X1.out.trans f9)
    clear f9
    have hS2 : S v2 := by rw [HS4.out]; exact X2.out
    refine hK8 _ _ hS2 ?_
    try simp only [Act.put]
    try simp only [List.setIfInBounds_toArray]
    try simp only [List.set_cons_succ]
    try simp only [List.set_cons_zero]
    refine takeP (i := 4) (d := some 43) (v := ?_) rfl rfl (by kernel_rfl) (by kernel_rfl) (by kernel_rfl) (by kernel_rfl) (by kernel_rfl) (fun _ _ _ h => h) (Or.inl ⟨by rfl, ?_⟩) (by first | exact Or.inr (by assumption) | exact Or.inl (by kernel_rfl)) ?_
    rotate_left
    · ((intro w8 _; go_simp); try with_reducible rfl)
    try simp only [Act.put]
    try simp only [List.setIfInBounds_toArray]
    try simp only [List.set_cons_succ]
    try simp only [List.set_cons_zero]
    refine takeP (i := 5) (d := some 44) (v := ?_) rfl rfl (by kernel_rfl) (by kernel_rfl) (by kernel_rfl) (by kernel_rfl) (by kernel_rfl) (fun _ _ _ h => h) (Or.inl ⟨by rfl, ?_⟩) (by first | exact Or.inr (by assumption) | exact Or.inl (by kernel_rfl)) ?_
    rotate_left
    · ((intro w8 _; go_simp); try with_reducible rfl)
    try simp only [Act.put]
    try simp only [List.setIfInBounds_toArray]
    try simp only [List.set_cons_succ]
    try simp only [List.set_cons_zero]
    refine takeL (i := 6) (d := some 45) (v := ?_) rfl rfl (by kernel_rfl) (by kernel_rfl) (by kernel_rfl) (by kernel_rfl) (by kernel_rfl) (fun _ _ _ h => h) (Or.inl ⟨by rfl, ?_⟩) (by assumption) ?_
    rotate_left
    · ((intro w8 hSw; rw [HS4.out] at hSw; have hO9 := BO10.out.on hSw; have h1 := hO9.c1; have h2 := hO9.c2; have h3 := hO9.c3; have h4 := hO9.c4; have h5 := hO9.c5; have h6 := hO9.c6; clear hSw hO9; go_simp); try with_reducible rfl)
    try simp only [Act.put]
    try simp only [List.setIfInBounds_toArray]
    try simp only [List.set_cons_succ]
    try simp only [List.set_cons_zero]
    refine takeL (i := 8) (d := some 47) (v := ?_) rfl rfl (by kernel_rfl) (by kernel_rfl) (by kernel_rfl) (by kernel_rfl) (by kernel_rfl) (fun _ _ _ h => h) (Or.inl ⟨by rfl, ?_⟩) (by assumption) ?_
    rotate_left
    · ((intro w8 hSw; rw [HS4.out] at hSw; have hO9 := BO10.out.on hSw; have h1 := hO9.c1; have h2 := hO9.c2; have h3 := hO9.c3; have h4 := hO9.c4; have h5 := hO9.c5; have h6 := hO9.c6; clear hSw hO9; go_simp); try with_reducible rfl)
    try simp only [Act.put]
    try simp only [List.setIfInBounds_toArray]
    try simp only [List.set_cons_succ]
    try simp only [List.set_cons_zero]
    refine oneL (i := 7) rfl (by kernel_rfl) (fun K8 hK8 => ?_)
    go_simp
    go_at_call 15; refine (K3.out _ X2.out).mono ?_; rintro e9 v3 ⟨a7, k7, rfl, s7, f9⟩
    have X3 := Lib.hid (X2.out.trans f9)
    have S7 := Lib.hid s7
    clear s7
    clear f9
    have hS3 : S v3 := by rw [HS4.out]; exact X3.out
    refine hK8 _ _ hS3 ?_
    try simp only [Act.put]
    try simp only [List.setIfInBounds_toArray]
    try simp only [List.set_cons_succ]
    try simp only [List.set_cons_zero]
    refine oneL (i := 9) rfl (by kernel_rfl) (fun K8 hK8 => ?_)
    go_simp
    go_at_call 16; refine (K4.out _ X3.out).mono ?_; rintro e9 v4 ⟨a9, k9, rfl, s9, f9⟩
    have X4 := Lib.hid (X3.out.trans f9)
    have S9 := Lib.hid s9
    have K5 := Lib.hid (adjs_x (slJ_on f9 S7.out) S9.out)
    clear s9
    clear f9
    have hS4 : S v4 := by rw [HS4.out]; exact X4.out
    refine hK8 _ _ hS4 ?_
    try simp only [Act.put]
    try simp only [List.setIfInBounds_toArray]
    try simp only [List.set_cons_succ]
    try simp only [List.set_cons_zero]
    refine oneL (i := 10) rfl (by kernel_rfl) (fun K8 hK8 => ?_)
    go_simp
    go_at_call 14; refine (K5.out).mono ?_; rintro e9 v5 ⟨rfl, f9⟩
    have X5 := Lib.hid (X4.out.trans f9)
    clear f9
    have hS5 : S v5 := by rw [HS4.out]; exact X5.out
    refine hK8 _ _ hS5 ?_
    try simp only [Act.put]
    try simp only [List.setIfInBounds_toArray]
    try simp only [List.set_cons_succ]
    try simp only [List.set_cons_zero]
    refine takeP (i := 11) (d := some 50) (v := ?_) rfl rfl (by kernel_rfl) (by kernel_rfl) (by kernel_rfl) (by kernel_rfl) (by kernel_rfl) (fun _ _ _ h => h) (Or.inl ⟨by rfl, ?_⟩) (by first | exact Or.inr (by assumption) | exact Or.inl (by kernel_rfl)) ?_
    rotate_left
    · ((intro w8 _; go_simp); try with_reducible rfl)
    try simp only [Act.put]
    try simp only [List.setIfInBounds_toArray]
    try simp only [List.set_cons_succ]
    try simp only [List.set_cons_zero]
    refine takeP (i := 12) (d := some 51) (v := ?_) rfl rfl (by kernel_rfl) (by kernel_rfl) (by kernel_rfl) (by kernel_rfl) (by kernel_rfl) (fun _ _ _ h => h) (Or.inl ⟨by rfl, ?_⟩) (by first | exact Or.inr (by assumption) | exact Or.inl (by kernel_rfl)) ?_
    rotate_left
    · ((intro w8 _; go_simp); try with_reducible rfl)
    try simp only [Act.put]
    try simp only [List.setIfInBounds_toArray]
    try simp only [List.set_cons_succ]
    try simp only [List.set_cons_zero]
    refine takeL (i := 13) (d := some 52) (v := ?_) rfl rfl (by kernel_rfl) (by kernel_rfl) (by kernel_rfl) (by kernel_rfl) (by kernel_rfl) (fun _ _ _ h => h) (Or.inl ⟨by rfl, ?_⟩) (by assumption) ?_
    rotate_left
    · ((intro w8 hSw; rw [HS4.out] at hSw; have hO9 := BO10.out.on hSw; have h1 := hO9.c1; have h2 := hO9.c2; have h3 := hO9.c3; have h4 := hO9.c4; have h5 := hO9.c5; have h6 := hO9.c6; clear hSw hO9; go_simp); try with_reducible rfl)
    try simp only [Act.put]
    try simp only [List.setIfInBounds_toArray]
    try simp only [List.set_cons_succ]
    try simp only [List.set_cons_zero]
    refine takeP (i := 14) (d := some 53) (v := ?_) rfl rfl (by kernel_rfl) (by kernel_rfl) (by kernel_rfl) (by kernel_rfl) (by kernel_rfl) (fun _ _ _ h => h) (Or.inl ⟨by rfl, ?_⟩) (by first | exact Or.inr (by assumption) | exact Or.inl (by kernel_rfl)) ?_
    rotate_left
    · ((intro w8 _; go_simp); try with_reducible rfl)
    try simp only [Act.put]
    try simp only [List.setIfInBounds_toArray]
    try simp only [List.set_cons_succ]
    try simp only [List.set_cons_zero]
    refine takeL (i := 16) (d := some 55) (v := ?_) rfl rfl (by kernel_rfl) (by kernel_rfl) (by kernel_rfl) (by kernel_rfl) (by kernel_rfl) (fun _ _ _ h => h) (Or.inl ⟨by rfl, ?_⟩) (by assumption) ?_
    rotate_left
    · ((intro w8 hSw; rw [HS4.out] at hSw; have hO9 := BO10.out.on hSw; have h1 := hO9.c1; have h2 := hO9.c2; have h3 := hO9.c3; have h4 := hO9.c4; have h5 := hO9.c5; have h6 := hO9.c6; clear hSw hO9; go_simp); try with_reducible rfl)
    try simp only [Act.put]
    try simp only [List.setIfInBounds_toArray]
    try simp only [List.set_cons_succ]
    try simp only [List.set_cons_zero]
    refine takeP (i := 17) (d := some 56) (v := ?_) rfl rfl (by kernel_rfl) (by kernel_rfl) (by kernel_rfl) (by kernel_rfl) (by kernel_rfl) (fun _ _ _ h => h) (Or.inl ⟨by rfl, ?_⟩) (by first | exact Or.inr (by assumption) | exact Or.inl (by kernel_rfl)) ?_
    rotate_left
    · ((intro w8 _; go_simp); try with_reducible rfl)
    try simp only [Act.put]
    try simp only [List.setIfInBounds_toArray]
    try simp only [List.set_cons_succ]
    try simp only [List.set_cons_zero]
    refine oneL (i := 15) rfl (by kernel_rfl) (fun K8 hK8 => ?_)
    go_simp
    go_at_call 17; refine (K6.out _ X5.out).mono ?_; rintro e9 v6 ⟨a15, k15, rfl, s15, f9⟩
    have X6 := Lib.hid (X5.out.trans f9)
    have S15 := Lib.hid s15
    clear s15
    clear f9
    have hS6 : S v6 := by rw [HS4.out]; exact X6.out
    refine hK8 _ _ hS6 ?_
    try simp only [Act.put]
    try simp only [List.setIfInBounds_toArray]
    try simp only [List.set_cons_succ]
    try simp only [List.set_cons_zero]
    refine oneL (i := 18) rfl (by kernel_rfl) (fun K8 hK8 => ?_)
    go_simp
    go_at_call 18; refine (K7.out _ X6.out).mono ?_; rintro e9 v7 ⟨a18, k18, rfl, s18, f9⟩
    have X7 := Lib.hid (X6.out.trans f9)
    have S18 := Lib.hid s18
    have M8 := Lib.hid (adjs_x (slJ_on f9 S15.out) S18.out)
    clear s18
    clear f9
    have hS7 : S v7 := by rw [HS4.out]; exact X7.out
    refine hK8 _ _ hS7 ?_
    try simp only [Act.put]
    try simp only [List.setIfInBounds_toArray]
    try simp only [List.set_cons_succ]
    try simp only [List.set_cons_zero]
    refine oneL (i := 19) rfl (by kernel_rfl) (fun K8 hK8 => ?_)
    go_simp
    go_at_call 14; refine (M8.out).mono ?_; rintro e9 v8 ⟨rfl, f9⟩
    have X8 := Lib.hid (X7.out.trans f9)
    clear f9
    have hS8 : S v8 := by rw [HS4.out]; exact X8.out
    refine hK8 _ _ hS8 ?_
    try simp only [Act.put]
    try simp only [List.setIfInBounds_toArray]
    try simp only [List.set_cons_succ]
    try simp only [List.set_cons_zero]
    refine takeP (i := 20) (d := some 59) (v := ?_) rfl rfl (by kernel_rfl) (by kernel_rfl) (by kernel_rfl) (by kernel_rfl) (by kernel_rfl) (fun _ _ _ h => h) (Or.inl ⟨by rfl, ?_⟩) (by first | exact Or.inr (by assumption) | exact Or.inl (by kernel_rfl)) ?_
    rotate_left
    · ((intro w8 _; go_simp); try with_reducible rfl)
    try simp only [Act.put]
    try simp only [List.setIfInBounds_toArray]
    try simp only [List.set_cons_succ]
    try simp only [List.set_cons_zero]
    refine takeP (i := 21) (d := some 60) (v := ?_) rfl rfl (by kernel_rfl) (by kernel_rfl) (by kernel_rfl) (by kernel_rfl) (by kernel_rfl) (fun _ _ _ h => h) (Or.inl ⟨by rfl, ?_⟩) (by first | exact Or.inr (by assumption) | exact Or.inl (by kernel_rfl)) ?_
    rotate_left
    · ((intro w8 _; go_simp); try with_reducible rfl)
    try simp only [Act.put]
    try simp only [List.setIfInBounds_toArray]
    try simp only [List.set_cons_succ]
    try simp only [List.set_cons_zero]
    refine takeL (i := 22) (d := some 61) (v := ?_) rfl rfl (by kernel_rfl) (by kernel_rfl) (by kernel_rfl) (by kernel_rfl) (by kernel_rfl) (fun _ _ _ h => h) (Or.inl ⟨by rfl, ?_⟩) (by assumption) ?_
    rotate_left
    · ((intro w8 hSw; rw [HS4.out] at hSw; have hO9 := BX4.out.on hSw; have h1 := hO9.c 0; have h2 := hO9.c 1; have h3 := hO9.c 2; have h4 := hO9.c 3; unfold colC at h1 h2 h3 h4; simp only [List.getElem?_toArray, List.getElem?_cons_zero, List.getElem?_cons_succ] at h1 h2 h3 h4; clear hSw hO9; go_simp); try with_reducible rfl)
    try simp only [Act.put]
    try simp only [List.setIfInBounds_toArray]
    try simp only [List.set_cons_succ]
    try simp only [List.set_cons_zero]
    refine takeL (i := 23) (d := some 62) (v := ?_) rfl rfl (by kernel_rfl) (by kernel_rfl) (by kernel_rfl) (by kernel_rfl) (by kernel_rfl) (fun _ _ _ h => h) (Or.inl ⟨by rfl, ?_⟩) (by assumption) ?_
    rotate_left
    · ((intro w8 hSw; rw [HS4.out] at hSw; have hO9 := BX6.out.on hSw; have h1 := hO9.c 0; have h2 := hO9.c 1; have h3 := hO9.c 2; have h4 := hO9.c 3; unfold colC at h1 h2 h3 h4; simp only [List.getElem?_toArray, List.getElem?_cons_zero, List.getElem?_cons_succ] at h1 h2 h3 h4; clear hSw hO9; go_simp); try with_reducible rfl)
    try simp only [Act.put]
    try simp only [List.setIfInBounds_toArray]
    try simp only [List.set_cons_succ]
    try simp only [List.set_cons_zero]
    refine oneL (i := 24) rfl (by kernel_rfl) (fun K8 hK8 => ?_)
    go_simp
    go_at_call 19; refine (K9.out _ X8.out).mono ?_; rintro e9 v9 ⟨rfl, f9⟩
    have X9 := Lib.hid (X8.out.trans f9)
    clear f9
    have hS9 : S v9 := by rw [HS4.out]; exact X9.out
    refine hK8 _ _ hS9 ?_
    try simp only [Act.put]
    try simp only [List.setIfInBounds_toArray]
    try simp only [List.set_cons_succ]
    try simp only [List.set_cons_zero]
    refine takeP (i := 25) (d := some 64) (v := ?_) rfl rfl (by kernel_rfl) (by kernel_rfl) (by kernel_rfl) (by kernel_rfl) (by kernel_rfl) (fun _ _ _ h => h) (Or.inl ⟨by rfl, ?_⟩) (by first | exact Or.inr (by assumption) | exact Or.inl (by kernel_rfl)) ?_
    rotate_left
    · ((intro w8 _; go_simp); try with_reducible rfl)
    try simp only [Act.put]
    try simp only [List.setIfInBounds_toArray]
    try simp only [List.set_cons_succ]
    try simp only [List.set_cons_zero]
    refine takeP (i := 26) (d := some 65) (v := ?_) rfl rfl (by kernel_rfl) (by kernel_rfl) (by kernel_rfl) (by kernel_rfl) (by kernel_rfl) (fun _ _ _ h => h) (Or.inl ⟨by rfl, ?_⟩) (by first | exact Or.inr (by assumption) | exact Or.inl (by kernel_rfl)) ?_
    rotate_left
    · ((intro w8 _; go_simp); try with_reducible rfl)
    try simp only [Act.put]
    try simp only [List.setIfInBounds_toArray]
    try simp only [List.set_cons_succ]
    try simp only [List.set_cons_zero]
    refine takeP (i := 27) (d := some 66) (v := ?_) rfl rfl (by kernel_rfl) (by kernel_rfl) (by kernel_rfl) (by kernel_rfl) (by kernel_rfl) (fun _ _ _ h => h) (Or.inl ⟨by rfl, ?_⟩) (by first | exact Or.inr (by assumption) | exact Or.inl (by kernel_rfl)) ?_
    rotate_left
    · ((intro w8 _; go_simp); try with_reducible rfl)
    try simp only [Act.put]
    try simp only [List.setIfInBounds_toArray]
    try simp only [List.set_cons_succ]
    try simp only [List.set_cons_zero]
    refine takeP (i := 28) (d := some 67) (v := ?_) rfl rfl (by kernel_rfl) (by kernel_rfl) (by kernel_rfl) (by kernel_rfl) (by kernel_rfl) (fun _ _ _ h => h) (Or.inl ⟨by rfl, ?_⟩) (by first | exact Or.inr (by assumption) | exact Or.inl (by kernel_rfl)) ?_
    rotate_left
    · ((intro w8 _; go_simp); try with_reducible rfl)
    try simp only [Act.put]
    try simp only [List.setIfInBounds_toArray]
    try simp only [List.set_cons_succ]
    try simp only [List.set_cons_zero]
    refine takeP (i := 29) (d := some 68) (v := ?_) rfl rfl (by kernel_rfl) (by kernel_rfl) (by kernel_rfl) (by kernel_rfl) (by kernel_rfl) (fun _ _ _ h => h) (Or.inl ⟨by rfl, ?_⟩) (by first | exact Or.inr (by assumption) | exact Or.inl (by kernel_rfl)) ?_
    rotate_left
    · ((intro w8 _; go_simp); try with_reducible rfl)
    try simp only [Act.put]
    try simp only [List.setIfInBounds_toArray]
    try simp only [List.set_cons_succ]
    try simp only [List.set_cons_zero]
    refine takeP (i := 30) (d := some 69) (v := ?_) rfl rfl (by kernel_rfl) (by kernel_rfl) (by kernel_rfl) (by kernel_rfl) (by kernel_rfl) (fun _ _ _ h => h) (Or.inl ⟨by rfl, ?_⟩) (by first | exact Or.inr (by assumption) | exact Or.inl (by kernel_rfl)) ?_
    rotate_left
    · ((intro w8 _; go_simp); try with_reducible rfl)
    try simp only [Act.put]
    try simp only [List.setIfInBounds_toArray]
    try simp only [List.set_cons_succ]
    try simp only [List.set_cons_zero]
    refine takeP (i := 31) (d := some 70) (v := ?_) rfl rfl (by kernel_rfl) (by kernel_rfl) (by kernel_rfl) (by kernel_rfl) (by kernel_rfl) (fun _ _ _ h => h) (Or.inl ⟨by rfl, ?_⟩) (by first | exact Or.inr (by assumption) | exact Or.inl (by kernel_rfl)) ?_
    rotate_left
    · ((intro w8 _; go_simp); try with_reducible rfl)
    try simp only [Act.put]
    try simp only [List.setIfInBounds_toArray]
    try simp only [List.set_cons_succ]
    try simp only [List.set_cons_zero]
    refine takeL (i := 32) (d := some 71) (v := ?_) rfl rfl (by kernel_rfl) (by kernel_rfl) (by kernel_rfl) (by kernel_rfl) (by kernel_rfl) (fun _ _ _ h => h) (Or.inl ⟨by rfl, ?_⟩) (by assumption) ?_
    rotate_left
    · ((intro w8 hSw; rw [HS4.out] at hSw; have hO9 := BX8.out.on hSw; have h1 := hO9.c1; have h2 := hO9.c2; have h3 := hO9.c3; have h4 := hO9.c4; have h5 := hO9.c5; have h6 := hO9.c6; clear hSw hO9; go_simp); try with_reducible rfl)
    try simp only [Act.put]
    try simp only [List.setIfInBounds_toArray]
    try simp only [List.set_cons_succ]
    try simp only [List.set_cons_zero]
    refine takeL (i := 33) (d := some 72) (v := ?_) rfl rfl (by kernel_rfl) (by kernel_rfl) (by kernel_rfl) (by kernel_rfl) (by kernel_rfl) (fun _ _ _ h => h) (Or.inl ⟨by rfl, ?_⟩) (by assumption) ?_
    rotate_left
    · ((intro w8 hSw; rw [HS4.out] at hSw; have hO9 := BX10.out.on hSw; have h1 := hO9.c1; have h2 := hO9.c2; have h3 := hO9.c3; have h4 := hO9.c4; have h5 := hO9.c5; have h6 := hO9.c6; clear hSw hO9; go_simp); try with_reducible rfl)
    try simp only [Act.put]
    try simp only [List.setIfInBounds_toArray]
    try simp only [List.set_cons_succ]
    try simp only [List.set_cons_zero]
    refine oneL (i := 34) rfl (by kernel_rfl) (fun K8 hK8 => ?_)
    go_simp
    go_at_call 20; refine (K10.out _ X9.out).mono ?_; rintro e9 v10 ⟨rfl, f9⟩
    have X10 := Lib.hid (X9.out.trans f9)
    clear f9
    have hS10 : S v10 := by rw [HS4.out]; exact X10.out
    refine hK8 _ _ hS10 ?_
    try simp only [Act.put]
    try simp only [List.setIfInBounds_toArray]
    try simp only [List.set_cons_succ]
    try simp only [List.set_cons_zero]
    refine takeP (i := 35) (d := some 74) (v := ?_) rfl rfl (by kernel_rfl) (by kernel_rfl) (by kernel_rfl) (by kernel_rfl) (by kernel_rfl) (fun _ _ _ h => h) (Or.inl ⟨by rfl, ?_⟩) (by first | exact Or.inr (by assumption) | exact Or.inl (by kernel_rfl)) ?_
    rotate_left
    · ((intro w8 _; go_simp); try with_reducible rfl)
    try simp only [Act.put]
    try simp only [List.setIfInBounds_toArray]
    try simp only [List.set_cons_succ]
    try simp only [List.set_cons_zero]
    refine takeP (i := 36) (d := some 75) (v := ?_) rfl rfl (by kernel_rfl) (by kernel_rfl) (by kernel_rfl) (by kernel_rfl) (by kernel_rfl) (fun _ _ _ h => h) (Or.inl ⟨by rfl, ?_⟩) (by first | exact Or.inr (by assumption) | exact Or.inl (by kernel_rfl)) ?_
    rotate_left
    · ((intro w8 _; go_simp); try with_reducible rfl)
    try simp only [Act.put]
    try simp only [List.setIfInBounds_toArray]
    try simp only [List.set_cons_succ]
    try simp only [List.set_cons_zero]
    refine takeP (i := 37) (d := some 76) (v := ?_) rfl rfl (by kernel_rfl) (by kernel_rfl) (by kernel_rfl) (by kernel_rfl) (by kernel_rfl) (fun _ _ _ h => h) (Or.inl ⟨by rfl, ?_⟩) (by first | exact Or.inr (by assumption) | exact Or.inl (by kernel_rfl)) ?_
    rotate_left
    · ((intro w8 _; go_simp); try with_reducible rfl)
    try simp only [Act.put]
    try simp only [List.setIfInBounds_toArray]
    try simp only [List.set_cons_succ]
    try simp only [List.set_cons_zero]
    refine takeP (i := 38) (d := some 77) (v := ?_) rfl rfl (by kernel_rfl) (by kernel_rfl) (by kernel_rfl) (by kernel_rfl) (by kernel_rfl) (fun _ _ _ h => h) (Or.inl ⟨by rfl, ?_⟩) (by first | exact Or.inr (by assumption) | exact Or.inl (by kernel_rfl)) ?_
    rotate_left
    · ((intro w8 _; go_simp); try with_reducible rfl)
    try simp only [Act.put]
    try simp only [List.setIfInBounds_toArray]
    try simp only [List.set_cons_succ]
    try simp only [List.set_cons_zero]
    refine takeP (i := 39) (d := some 78) (v := ?_) rfl rfl (by kernel_rfl) (by kernel_rfl) (by kernel_rfl) (by kernel_rfl) (by kernel_rfl) (fun _ _ _ h => h) (Or.inl ⟨by rfl, ?_⟩) (by first | exact Or.inr (by assumption) | exact Or.inl (by kernel_rfl)) ?_
    rotate_left
    · ((intro w8 _; go_simp); try with_reducible rfl)
    try simp only [Act.put]
    try simp only [List.setIfInBounds_toArray]
    try simp only [List.set_cons_succ]
    try simp only [List.set_cons_zero]
    refine takeP (i := 40) (d := some 79) (v := ?_) rfl rfl (by kernel_rfl) (by kernel_rfl) (by kernel_rfl) (by kernel_rfl) (by kernel_rfl) (fun _ _ _ h => h) (Or.inl ⟨by rfl, ?_⟩) (by first | exact Or.inr (by assumption) | exact Or.inl (by kernel_rfl)) ?_
    rotate_left
    · ((intro w8 _; go_simp); try with_reducible rfl)
    try simp only [Act.put]
    try simp only [List.setIfInBounds_toArray]
    try simp only [List.set_cons_succ]
    try simp only [List.set_cons_zero]
    refine takeP (i := 41) (d := some 80) (v := ?_) rfl rfl (by kernel_rfl) (by kernel_rfl) (by kernel_rfl) (by kernel_rfl) (by kernel_rfl) (fun _ _ _ h => h) (Or.inl ⟨by rfl, ?_⟩) (by first | exact Or.inr (by assumption) | exact Or.inl (by kernel_rfl)) ?_
    rotate_left
    · ((intro w8 _; go_simp); try with_reducible rfl)
    try simp only [Act.put]
    try simp only [List.setIfInBounds_toArray]
    try simp only [List.set_cons_succ]
    try simp only [List.set_cons_zero]
    refine oneL (i := 42) rfl (by kernel_rfl) (fun K8 hK8 => ?_)
    go_simp
    go_at_call 7; refine (alive_any _).mono ?_; rintro e9 w9 ⟨rfl, f9⟩
    have X11 := Lib.hid (X10.out.trans f9)
    have FZ := Lib.hid (F10.out.trans X11.out)
    clear f9
    have hS11 : S w9 := by rw [HS4.out]; exact X11.out
    refine hK8 _ _ hS11 ?_
    try simp only [Act.put]
    try simp only [List.setIfInBounds_toArray]
    try simp only [List.set_cons_succ]
    try simp only [List.set_cons_zero]
    refine takeP (i := 43) (d := some 82) (v := ?_) rfl rfl (by kernel_rfl) (by kernel_rfl) (by kernel_rfl) (by kernel_rfl) (by kernel_rfl) (fun _ _ _ h => h) (Or.inl ⟨by rfl, ?_⟩) (by first | exact Or.inr (by assumption) | exact Or.inl (by kernel_rfl)) ?_
    rotate_left
    · ((intro w8 _; go_simp); try with_reducible rfl)
    try simp only [Act.put]
    try simp only [List.setIfInBounds_toArray]
    try simp only [List.set_cons_succ]
    try simp only [List.set_cons_zero]
    refine takeP (i := 44) (d := some 4) (v := ?_) rfl rfl (by kernel_rfl) (by kernel_rfl) (by kernel_rfl) (by kernel_rfl) (by kernel_rfl) (fun _ _ _ h => h) (Or.inl ⟨by rfl, ?_⟩) (by first | exact Or.inr (by assumption) | exact Or.inl (by kernel_rfl)) ?_
    rotate_left
    · ((intro w8 _; go_simp); try with_reducible rfl)
    try simp only [Act.put]
    try simp only [List.setIfInBounds_toArray]
    try simp only [List.set_cons_succ]
    try simp only [List.set_cons_zero]
    refine lst_done (by kernel_rfl) ?_ _
    go_wp2
    go_ret
    exact ⟨ret_bool (by simp), FZ.out⟩
end Go.Proofs.YtpjikijfendmhaaGreat
