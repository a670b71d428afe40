
/-
  Package overlay: the entries of an overlay, the column's before the inserted ones. Nothing that was there turns.
-/
import Derived.Test.YtpjikijfendmhaaGreatOvF
namespace Go.Proofs.YtpjikijfendmhaaGreat
open Go.RowKit

/-- Where the slices of an overlay lie; an overlay as the model has it. -/
structure OA where
  c : CA
  a5 : Option Addr
  a6 : Option Addr
  k5 : Nat
  k6 : Nat
def ovC (o : Ov) (A : OA) : Array Value := #[.slice A.c.a1 o.c.ns.length A.c.k1, .slice A.c.a2 o.c.fs.length A.c.k2, .slice A.c.a3 o.c.ts.length A.c.k3, .slice A.c.a4 o.c.es.length A.c.k4, .slice A.a5 o.ads.length A.k5, .slice A.a6 o.dls.length A.k6]
def ovv (o : Ov) (A : OA) : Value := .agg (ovC o A)
structure OIn (w : World) (o : Ov) (A : OA) : Prop where
  c : CIn w o.c A.c
  a : SlJ w A.a5 o.ads A.k5
  d : SlI w A.a6 o.dls A.k6
theorem OIn.on {w w' : World} {o : Ov} {A : OA} (h : OIn w o A) (hf : Fuw w w') : OIn w' o A := ⟨h.c.on hf, slJ_on hf h.a, slI_on hf h.d⟩
/-- An overlay that is small enough to be looked at. -/
structure SmO (o : Ov) : Prop where
  c : Sm o.c
  a : o.ads.length ≤ 1000000
  d : o.dls.length ≤ 1000000
  m : o.c.ts.length + o.ads.length ≤ 1000000
/-- The six cells of an overlay's box, in a later world. -/
structure OB (w : World) (B : Nat) (o : Ov) (A : OA) : Prop where
  k : Bk w B (ovC o A) 27
theorem OB.on {w w' : World} {B : Nat} {o : Ov} {A : OA} (h : OB w B o A) (hf : Fuw w w') : OB w' B o A := ⟨h.k.on hf⟩
section
variable {w : World} {B : Nat} {o : Ov} {A : OA} (h : OB w B o A)
include h
theorem OB.c1 : w.cell? ⟨B, 0, none⟩ = some (.slice A.c.a1 o.c.ns.length A.c.k1) := h.k.c 0
theorem OB.c2 : w.cell? ⟨B, 1, none⟩ = some (.slice A.c.a2 o.c.fs.length A.c.k2) := h.k.c 1
theorem OB.c3 : w.cell? ⟨B, 2, none⟩ = some (.slice A.c.a3 o.c.ts.length A.c.k3) := h.k.c 2
theorem OB.c4 : w.cell? ⟨B, 3, none⟩ = some (.slice A.c.a4 o.c.es.length A.c.k4) := h.k.c 3
theorem OB.c5 : w.cell? ⟨B, 4, none⟩ = some (.slice A.a5 o.ads.length A.k5) := h.k.c 4
theorem OB.c6 : w.cell? ⟨B, 5, none⟩ = some (.slice A.a6 o.dls.length A.k6) := h.k.c 5
end
theorem entc_i64 {c : Cm} {w : World} {A : CA} (hC : CIn w c A) : ∀ x ∈ entC c, I64 x.1 ∧ I64 x.2.1 ∧ I64 x.2.2 := by
  unfold entC
  by_cases h : valC c = true
  · rw [if_pos h]; exact ent_i64 hC (valC_b h)
  · rw [if_neg h]; exact fun x hx => absurd hx (by simp)
theorem entc_len {c : Cm} : (entC c).length ≤ c.ts.length := by
  unfold entC
  by_cases h : valC c = true
  · rw [if_pos h, ent_len (valC_b h)]; exact Nat.le_refl _
  · rw [if_neg h]; exact Nat.zero_le _
theorem keepD_snoc {d : List Int} {l : List Aj} {i : Nat} (h : i < l.length) : keepD d (l.take (i + 1)) = keepD d (l.take i) ++ if d.contains l[i].2.2 = true then [] else [l[i]] := by
  unfold keepD
  rw [List.take_succ_eq_append_getElem h, List.filter_append]
  congr 1
  by_cases g : d.contains l[i].2.2 = true
  · rw [if_pos g, List.filter_cons_of_neg (by rw [g]; decide)]; rfl
  · rw [if_neg g, List.filter_cons_of_pos (by simpa using g)]; rfl
theorem keepD_len (d : List Int) (l : List Aj) : (keepD d l).length ≤ l.length := List.length_filter_le _ _
theorem slJ_i64 {w : World} {ao : Option Addr} {l : List Aj} {cap : Nat} (h : SlJ w ao l cap) : ∀ x ∈ l, I64 x.1 ∧ I64 x.2.1 ∧ I64 x.2.2 := fun x hx => by
  obtain ⟨i, hi, rfl⟩ := List.getElem_of_mem hx
  obtain ⟨b, o, -, hp⟩ := h.get hi
  exact ⟨hp.1, hp.2.1, hp.2.2.1⟩
/-- What a slice of entries holds, cell by cell. -/
theorem slJ_news {w : World} {l : List Aj} {cap b o : Nat} (h : SlJ w (some ⟨b, o, none⟩) l cap) : ∀ j u, (aC l)[j]? = some u → w.cell? ((⟨b, o, none⟩ : Addr).add j) = some u := by
  intro j u hu
  have hj : j < l.length * 3 := by
    have := (List.getElem?_eq_some_iff.1 hu).1
    rwa [aC_len] at this
  have e : j = j / 3 * 3 + j % 3 := by omega
  have h1 : j / 3 < l.length := by omega
  have k := aC_get l (j / 3) (j % 3) (by omega) h1
  rw [← e, hu] at k
  obtain ⟨b', o', e', -, -, -, c0, c1, c2⟩ := h.get h1
  cases e'
  rw [Addr.add_lit]
  have h3 : j % 3 = 0 ∨ j % 3 = 1 ∨ j % 3 = 2 := by omega
  rcases h3 with g | g | g <;> rw [g] at k
  · rw [show o + j = o + j / 3 * 3 by omega, c0]; exact k.symm
  · rw [show o + j = o + j / 3 * 3 + 1 by omega, c1]; exact k.symm
  · rw [show o + j = o + j / 3 * 3 + 2 by omega, c2]; exact k.symm
set_option maxHeartbeats 6400000 in
set_option maxRecDepth 100000 in
theorem ento_any (o : Ov) (A : OA) (w : World) (hO : OIn w o A) (hs : SmO o) (hd : incI o.dls = true) : Calls Tryz.prog 28 #[ovv o A] w (RetJ w (keepD o.dls (entC o.c) ++ o.ads)) := by
  obtain ⟨w0, hw0⟩ : ∃ w0, w.alloc (.cells (ovC o A) 27) = w0 := ⟨_, rfl⟩
  have B0 := Lib.hid (show OB w0 w.heap.size o A from ⟨by rw [← hw0]; exact Bk.new _ _ _⟩)
  have F0 := Lib.hid (show Fuw w w0 by rw [← hw0]; exact fuwA _ _)
  have HO := Lib.hid (hO.on F0.out)
  have HEn := Lib.hid (entc_any o.c A.c w0 HO.out.c hs.c)
  have HI := Lib.hid (entc_i64 HO.out.c)
  have HLn := Lib.hid (show (entC o.c).length ≤ 1000000 from Nat.le_trans entc_len hs.c.t)
  have HBs := Lib.hid (fun (x : Int) w' (hf : Fuw w0 w') => bs_any o.dls A.a6 A.k6 x w' (slI_on hf HO.out.d) hd hs.d)
  have hal := hs.a
  obtain ⟨i0, hi0, hz0, hz1, hz2⟩ := info_parts infoJ
  have d1 := B0.out.c1; have d2 := B0.out.c2; have d3 := B0.out.c3; have d4 := B0.out.c4; have d5 := B0.out.c5; have d6 := B0.out.c6
  unfold ovv
  unfold colv at HEn
  unfold colC at HEn
  unfold ovC at hw0 ⊢
  clear hO hs hd
  go_enter Tryz.func28, Tryz.ntmps28
  go_upto_region 2 with fail
  clear hw0
  go_wp2_with fail
  go_at_call 64; refine HEn.out.mono ?_; rintro e1 w1 ⟨v, rfl, ho, f1⟩
  obtain ⟨a, cp, hv, -, hS⟩ := slJ_own ho HI.out
  subst hv
  have HS := Lib.hid hS
  have F1 := Lib.hid f1
  have hE := HLn.out
  generalize entC o.c = E at *
  clear ho f1 hS d1 d2 d3 d4 d5 d6
  go_wp2
  go_loopw [3, 12] (fun lv iv wr => ∃ i : Nat, iv = .int .i64 i ∧ i ≤ E.length ∧ Hid (OwnJ w1 wr lv (keepD o.dls (E.take i))) ∧ Hid (Fuw w1 wr)) (fun _ iv _ => E.length - (RowKit.intOf iv).toNat)
  case atStart => exact ⟨0, rfl, Nat.zero_le _, Lib.hid (World.ownsRow_nil _ _ _ _), Lib.hid (Fuw.refl _)⟩
  case round =>
    obtain ⟨i, rfl, hi, HOw, hf⟩ := hrel
    have HF := Lib.hid (F1.out.trans hf.out)
    by_cases hlt : i < E.length
    · obtain ⟨b, of, rfl, -, -, -, c0, c1, c2⟩ := (slJ_on hf.out HS.out).get hlt
      have HK := Lib.hid (keepD_snoc (d := o.dls) hlt)
      have HKl := Lib.hid (show (keepD o.dls (E.take i)).length ≤ i from Nat.le_trans (keepD_len _ _) (by rw [List.length_take]; omega))
      generalize keepD o.dls (E.take i) = L at *
      generalize E[i] = x at *
      obtain ⟨x0, x1, x2⟩ := x
      simp only at c0 c1 c2 HK
      have HB := Lib.hid (fun w' (hf' : Fuw w0 w') => HBs.out x2 w' hf')
      unfold RetBs at HB
      generalize o.dls.contains x2 = q at *
      generalize (o.dls.countP fun y => decide (y < x2)) = k at *
      go_upto_region 5 with fail
      obtain ⟨W, hW⟩ : ∃ W, W = wr.alloc (.cells #[.int .i64 x0, .int .i64 x1, .int .i64 x2] 42) := ⟨_, rfl⟩
      have HW := Lib.hid (show Fuw w0 W by rw [hW]; exact HF.out.trans (fuwA _ _))
      have HW1 := Lib.hid (show Fuw wr W by rw [hW]; exact fuwA _ _)
      have HBk := Lib.hid (show Bk W wr.heap.size #[.int .i64 x0, .int .i64 x1, .int .i64 x2] 42 by rw [hW]; exact Bk.new _ _ _)
      rw [← hW]
      clear hW c0 c1 c2
      have d2 := HBk.out.c 2
      simp only [List.getElem?_toArray, List.getElem?_cons_zero, List.getElem?_cons_succ] at d2
      have d6 := (B0.out.on HW.out).c6
      go_wp2_with fail
      go_at_call 51; refine (HB.out _ HW.out).mono ?_; rintro e3 w3 ⟨rfl, hd⟩
      have HF3 := Lib.hid (quF hd)
      clear hd d2 d6
      have HO3 := Lib.hid (own_on HOw.out (HW1.out.trans HF3.out))
      cases q
      · have HK2 := Lib.hid (show keepD o.dls (E.take (i + 1)) = L ++ [(x0, x1, x2)] by rw [HK.out]; simp)
        have g0 := (HBk.out.on HF3.out).c 0; have g1 := (HBk.out.on HF3.out).c 1; have g2 := (HBk.out.on HF3.out).c 2
        simp only [List.getElem?_toArray, List.getElem?_cons_zero, List.getElem?_cons_succ] at g0 g1 g2
        have hLl := HKl.out
        go_wp2_with (at_builtin; refine wpList_append_own_at _ rfl (.tmp 26) (.tmp 28) 25 rfl w1.heap.size 42 i0 (.agg #[.int .i64 0, .int .i64 0, .int .i64 0]) 3 24 Tryz.underlying25 hi0 hz0 hz1 hz2 rfl (by decide) _ L.length (aC L) rfl (own_on HO3.out (fuwA _ _)) ⟨w3.heap.size, 0, none⟩ 1 1 (aE (x0, x1, x2)) rfl rfl (World.news_of_block (heap_alloc_new w3 _)) (one_adj _) (by unfold maxLen; omega) (by omega) (Nat.le_trans ((hf.out.trans HW1.out).trans HF3.out).size (by simp)) ?_; intro v' w5 hown5 hgrow _ _)
        have HG := Lib.hid (fuw_grown (((hf.out.trans HW1.out).trans HF3.out).trans (fuwA _ _)) (own_on HO3.out (fuwA _ _)) hgrow)
        have HO2 := Lib.hid (show OwnJ w1 w5 v' (keepD o.dls (E.take (i + 1))) from by
          unfold OwnJ
          rw [HK2.out, aC_app, List.length_append]; exact hown5)
        clear hown5 hgrow g0 g1 g2
        go_wp2
        go_roundw
        case rel => exact ⟨i + 1, by go_num, by omega, HO2, HG⟩
        case measure => simp [RowKit.intOf]; omega
      · have HK2 := Lib.hid (show keepD o.dls (E.take (i + 1)) = L by rw [HK.out]; simp)
        have HG := Lib.hid (show Fuw w1 w3 from (hf.out.trans HW1.out).trans HF3.out)
        have HO2 := Lib.hid (show OwnJ w1 w3 _ (keepD o.dls (E.take (i + 1))) from by rw [HK2.out]; exact HO3.out)
        go_wp2
        go_roundw
        case rel => exact ⟨i + 1, by go_num, by omega, HO2, HG⟩
        case measure => simp [RowKit.intOf]; omega
    · have HL2 := Lib.hid (show keepD o.dls (E.take i) = keepD o.dls E by rw [List.take_of_length_le (by omega)])
      have HKl := Lib.hid (show (keepD o.dls (E.take i)).length ≤ 1000000 from Nat.le_trans (keepD_len _ _) (Nat.le_trans (List.length_take_le _ _) (by omega)))
      rw [HL2.out] at HKl HOw
      generalize keepD o.dls E = L at *
      have hge : ¬ (i : Int) < (E.length : Int) := by omega
      have d5 := (B0.out.on HF.out).c5
      have hLl := HKl.out
      cases h5 : A.a5 with
      | none =>
        have h6 := HO.out.a.nil h5
        have h7 := HO.out.a.le
        have h8 : o.ads = [] := List.length_eq_zero_iff.1 (by omega)
        rw [h5, h6, h8] at d5
        have H8 := Lib.hid h8
        clear h5 h6 h7 h8 hLl hal
        go_wp2_with (at_builtin; refine wpList_append_own_none rfl (.tmp 31) (.tmp 33) 25 rfl w1.heap.size 42 i0 3 Tryz.underlying25 hi0 _ L.length (aC L) rfl HOw.out rfl ?_)
        go_wp2
        go_ret
        exact ⟨_, rfl, by rw [H8.out, List.append_nil]; exact own_le (own_on HOw.out (Fuw.refl _)) (Nat.le_trans F0.out.size F1.out.size), F0.out.trans HF.out⟩
      | some p =>
        have HAd := Lib.hid (slJ_on HF.out HO.out.a)
        rw [h5] at d5 HAd
        obtain ⟨b5, o5, x5⟩ := p
        have HN := Lib.hid (show x5 = none ∨ o.ads.length = 0 from by
          rcases Nat.eq_zero_or_pos o.ads.length with g | g
          · exact .inr g
          · obtain ⟨b, o', e, -⟩ := HAd.out.at_ g
            cases e; exact .inl rfl)
        have HNw := Lib.hid (show ∀ j u, (aC o.ads)[j]? = some u → wr.cell? ((⟨b5, o5, x5⟩ : Addr).add j) = some u from by
          rcases HN.out with g | g
          · subst g; exact slJ_news HAd.out
          · have e := List.length_eq_zero_iff.1 g
            rw [e]
            intro j u hu
            cases hu)
        clear h5
        go_wp2_with (at_builtin; refine wpList_append_own_at _ rfl (.tmp 31) (.tmp 33) 25 rfl w1.heap.size 42 i0 (.agg #[.int .i64 0, .int .i64 0, .int .i64 0]) 3 24 Tryz.underlying25 hi0 hz0 hz1 hz2 rfl (by decide) _ L.length (aC L) rfl HOw.out ⟨b5, o5, x5⟩ o.ads.length A.k5 (aC o.ads) rfl (aC_len _) HNw.out (one_adjs _) (by unfold maxLen; omega) (by omega) hf.out.size ?_; intro v' w5 hown5 hgrow _ _)
        have HG := Lib.hid (fuw_grown hf.out HOw.out hgrow)
        have HO2 := Lib.hid (show OwnJ w1 w5 v' (L ++ o.ads) from by
          unfold OwnJ
          rw [aC_app, List.length_append]; exact hown5)
        clear hown5 hgrow d5
        go_wp2
        go_ret
        exact ⟨_, rfl, own_le HO2.out (Nat.le_trans F0.out.size F1.out.size), F0.out.trans (F1.out.trans HG.out)⟩
end Go.Proofs.YtpjikijfendmhaaGreat
