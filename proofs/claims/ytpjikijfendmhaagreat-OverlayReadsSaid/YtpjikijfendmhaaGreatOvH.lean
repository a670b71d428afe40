
/-
  Package overlay: whether an overlay is valid; its entries in order; where an edge stands in a list of entries. Nothing that was there turns.
-/
import Derived.Test.YtpjikijfendmhaaGreatOvG
namespace Go.Proofs.YtpjikijfendmhaaGreat
open Go.RowKit

theorem entC_ok {c : Cm} (h : valC c = true) : entC c = entL c := if_pos h
set_option maxHeartbeats 6400000 in
set_option maxRecDepth 100000 in
theorem valo_any (o : Ov) (A : OA) (w : World) (hO : OIn w o A) (hs : SmO o) : Calls Tryz.prog 12 #[ovv o A] w (FwB w (valO o)) := by
  obtain ⟨w0, hw0⟩ : ∃ w0, w.alloc (.cells (ovC o A) 27) = w0 := ⟨_, rfl⟩
  have B0 := Lib.hid (show OB w0 w.heap.size o A from ⟨by rw [← hw0]; exact Bk.new _ _ _⟩)
  have F0 := Lib.hid (show Fuw w w0 by rw [← hw0]; exact fuwA _ _)
  have HO := Lib.hid (hO.on F0.out)
  have H1 := Lib.hid (fun w' (hf : Fuw w0 w') => valid_any o.c A.c w' (HO.out.on hf).c hs.c)
  have H2 := Lib.hid (fun w' (hf : Fuw w0 w') => inco_any o.ads A.a5 A.k5 w' (HO.out.on hf).a)
  have H3 := Lib.hid (fun w' (hf : Fuw w0 w') => inci_any o.dls A.a6 A.k6 w' (HO.out.on hf).d)
  have H4 := Lib.hid (fun w' (hf : Fuw w0 w') => hvids_any o.ads A.a5 A.k5 w' (HO.out.on hf).a)
  have H5 := Lib.hid (fun w' (hf : Fuw w0 w') => hedges_any o.c A.c o.dls A.a6 A.k6 w' (HO.out.on hf).c (HO.out.on hf).d hs.c.e)
  have H6 := Lib.hid (fun w' (hf : Fuw w0 w') (hd : incI o.dls = true) => ento_any o A w' (HO.out.on hf) hs hd)
  have HLn := Lib.hid (show (keepD o.dls (entC o.c) ++ o.ads).length ≤ 1000000 by
    rw [List.length_append]
    have h1 := keepD_len o.dls (entC o.c)
    have h2 := entc_len (c := o.c)
    have h3 := hs.m
    omega)
  have HI := Lib.hid (show ∀ x ∈ keepD o.dls (entC o.c) ++ o.ads, I64 x.1 ∧ I64 x.2.1 ∧ I64 x.2.2 from fun x hx => by
    rcases List.mem_append.1 hx with h | h
    · exact entc_i64 HO.out.c x (List.mem_filter.1 h).1
    · exact slJ_i64 HO.out.a x h)
  obtain ⟨R, hR⟩ : ∃ R, R = valO o := ⟨_, rfl⟩
  have HR := Lib.hid (show R = (valC o.c && incJ o.ads && incI o.dls && o.ads.all idJ && o.dls.all (fun n => o.c.es.contains n) && dstI (edg (entO o))) from hR)
  have HEC := Lib.hid (fun h : valC o.c = true => show dstI (edg (entO o)) = dstI (edg (keepD o.dls (entC o.c) ++ o.ads)) by rw [entC_ok h]; rfl)
  rw [← hR]
  have d1 := B0.out.c1; have d2 := B0.out.c2; have d3 := B0.out.c3; have d4 := B0.out.c4; have d5 := B0.out.c5; have d6 := B0.out.c6
  unfold ovv at H6 ⊢
  unfold colv colC at H1 H5
  unfold ovC at hw0 H6 ⊢
  clear hO hs hR
  generalize dstI (edg (entO o)) = q6 at *
  generalize keepD o.dls (entC o.c) ++ o.ads = L at *
  obtain ⟨q1, hq1⟩ : ∃ q1, valC o.c = q1 := ⟨_, rfl⟩
  rw [hq1] at HR H1
  have HQ1 := Lib.hid hq1
  obtain ⟨q3, hq3⟩ : ∃ q3, incI o.dls = q3 := ⟨_, rfl⟩
  rw [hq3] at HR H3
  have HQ3 := Lib.hid hq3
  clear hq1 hq3
  generalize incJ o.ads = q2 at *
  generalize o.ads.all idJ = q4 at *
  generalize (o.dls.all fun n => o.c.es.contains n) = q5 at *
  go_enter Tryz.func12, Tryz.ntmps12
  go_upto_region 1 with fail
  clear hw0
  have FW0 := Lib.hid (Fuw.refl w0)
  go_wp2_with fail
  go_at_call 31; refine (H1.out _ FW0.out).mono ?_; rintro e1 w1 ⟨rfl, f1⟩
  have FW1 := Lib.hid (FW0.out.trans f1)
  clear f1
  replace d1 := (B0.out.on FW1.out).c1; replace d2 := (B0.out.on FW1.out).c2; replace d3 := (B0.out.on FW1.out).c3; replace d4 := (B0.out.on FW1.out).c4; replace d5 := (B0.out.on FW1.out).c5; replace d6 := (B0.out.on FW1.out).c6
  cases q1 with
  | false =>
    have HZ := Lib.hid (show R = false by rw [HR.out]; simp)
    go_wp2
    go_ret
    exact ⟨ret_bool HZ.out.symm, F0.out.trans FW1.out⟩
  | true =>
    go_wp2_with fail
    go_at_call 35; refine (H2.out _ FW1.out).mono ?_; rintro e2 w2 ⟨rfl, f2⟩
    have FW2 := Lib.hid (FW1.out.trans f2)
    clear f2
    replace d1 := (B0.out.on FW2.out).c1; replace d2 := (B0.out.on FW2.out).c2; replace d3 := (B0.out.on FW2.out).c3; replace d4 := (B0.out.on FW2.out).c4; replace d5 := (B0.out.on FW2.out).c5; replace d6 := (B0.out.on FW2.out).c6
    cases q2 with
    | false =>
      have HZ := Lib.hid (show R = false by rw [HR.out]; simp)
      go_wp2
      go_ret
      exact ⟨ret_bool HZ.out.symm, F0.out.trans FW2.out⟩
    | true =>
      go_wp2_with fail
      go_at_call 37; refine (H3.out _ FW2.out).mono ?_; rintro e3 w3 ⟨rfl, f3⟩
      have FW3 := Lib.hid (FW2.out.trans f3)
      clear f3
      replace d1 := (B0.out.on FW3.out).c1; replace d2 := (B0.out.on FW3.out).c2; replace d3 := (B0.out.on FW3.out).c3; replace d4 := (B0.out.on FW3.out).c4; replace d5 := (B0.out.on FW3.out).c5; replace d6 := (B0.out.on FW3.out).c6
      cases q3 with
      | false =>
        have HZ := Lib.hid (show R = false by rw [HR.out]; simp)
        go_wp2
        go_ret
        exact ⟨ret_bool HZ.out.symm, F0.out.trans FW3.out⟩
      | true =>
        go_wp2_with fail
        go_at_call 39; refine (H4.out _ FW3.out).mono ?_; rintro e4 w4 ⟨rfl, f4⟩
        have FW4 := Lib.hid (FW3.out.trans f4)
        clear f4
        replace d1 := (B0.out.on FW4.out).c1; replace d2 := (B0.out.on FW4.out).c2; replace d3 := (B0.out.on FW4.out).c3; replace d4 := (B0.out.on FW4.out).c4; replace d5 := (B0.out.on FW4.out).c5; replace d6 := (B0.out.on FW4.out).c6
        cases q4 with
        | false =>
          have HZ := Lib.hid (show R = false by rw [HR.out]; simp)
          go_wp2
          go_ret
          exact ⟨ret_bool HZ.out.symm, F0.out.trans FW4.out⟩
        | true =>
          go_wp2_with fail
          go_at_call 40; refine (H5.out _ FW4.out).mono ?_; rintro e5 w5 ⟨rfl, f5⟩
          have FW5 := Lib.hid (FW4.out.trans f5)
          clear f5
          replace d1 := (B0.out.on FW5.out).c1; replace d2 := (B0.out.on FW5.out).c2; replace d3 := (B0.out.on FW5.out).c3; replace d4 := (B0.out.on FW5.out).c4; replace d5 := (B0.out.on FW5.out).c5; replace d6 := (B0.out.on FW5.out).c6
          cases q5 with
          | false =>
            have HZ := Lib.hid (show R = false by rw [HR.out]; simp)
            go_wp2
            go_ret
            exact ⟨ret_bool HZ.out.symm, F0.out.trans FW5.out⟩
          | true =>
            have HZ := Lib.hid (show R = dstI (edg L) by rw [HR.out, HEC.out HQ1.out]; simp)
            go_wp2_with fail
            go_at_call 28; refine (H6.out _ FW5.out HQ3.out).mono ?_; rintro e6 w6 ⟨v, rfl, ho, f6⟩
            obtain ⟨a, cp, hv, -, hS⟩ := slJ_own ho HI.out
            subst hv
            have H7 := Lib.hid (hvdst_any L a cp w6 hS HLn.out)
            have FW6 := Lib.hid (FW5.out.trans f6)
            generalize dstI (edg L) = q7 at *
            clear f6 ho hS d1 d2 d3 d4 d5 d6
            go_wp2_with fail
            go_at_call 41; refine H7.out.mono ?_; rintro e7 w7 ⟨rfl, f7⟩
            have FW7 := Lib.hid (FW6.out.trans f7)
            clear f7
            go_wp2
            go_ret
            exact ⟨ret_bool HZ.out.symm, F0.out.trans FW7.out⟩

theorem entO_ok {o : Ov} (h : valO o = true) : keepD o.dls (entC o.c) ++ o.ads = entO o := by
  rw [entC_ok (valC_iff.2 (valO_iff.1 h).c)]; rfl
theorem entO_len {o : Ov} (hs : SmO o) : (keepD o.dls (entC o.c) ++ o.ads).length ≤ 1000000 := by
  rw [List.length_append]
  have h1 := keepD_len o.dls (entC o.c)
  have h2 := entc_len (c := o.c)
  have h3 := hs.m
  omega
theorem entO_i64 {o : Ov} {w : World} {A : OA} (hO : OIn w o A) : ∀ x ∈ keepD o.dls (entC o.c) ++ o.ads, I64 x.1 ∧ I64 x.2.1 ∧ I64 x.2.2 := fun x hx => by
  rcases List.mem_append.1 hx with h | h
  · exact entc_i64 hO.c x (List.mem_filter.1 h).1
  · exact slJ_i64 hO.a x h
theorem enters_ord : ∀ args w, (callFunc 36 args).run Tryz.prog w = .ok (.enter 36 args) w := enters_of Tryz.func36 (by kernel_rfl) rfl
set_option maxHeartbeats 6400000 in
set_option maxRecDepth 100000 in
theorem ents_any (o : Ov) (A : OA) (w : World) (hO : OIn w o A) (hs : SmO o) : Calls Tryz.prog 15 #[ovv o A] w (RetJ w (entS o)) := by
  obtain ⟨w0, hw0⟩ : ∃ w0, w.alloc (.cells (ovC o A) 27) = w0 := ⟨_, rfl⟩
  have B0 := Lib.hid (show OB w0 w.heap.size o A from ⟨by rw [← hw0]; exact Bk.new _ _ _⟩)
  have F0 := Lib.hid (show Fuw w w0 by rw [← hw0]; exact fuwA _ _)
  have HO := Lib.hid (hO.on F0.out)
  have H1 := Lib.hid (valo_any o A w0 HO.out hs)
  have H6 := Lib.hid (fun w' (hf : Fuw w0 w') (h : valO o = true) => ento_any o A w' (HO.out.on hf) hs (valO_iff.1 h).d)
  have HLn := Lib.hid (entO_len hs)
  have HK := Lib.hid (fun h : valO o = true => entO_ok h)
  obtain ⟨R, hR⟩ : ∃ R, R = entS o := ⟨_, rfl⟩
  have HR := Lib.hid (show R = if valO o = true then srtJ (entO o) else [] from hR)
  rw [← hR]
  have d1 := B0.out.c1; have d2 := B0.out.c2; have d3 := B0.out.c3; have d4 := B0.out.c4; have d5 := B0.out.c5; have d6 := B0.out.c6
  unfold ovv at H1 H6 ⊢
  unfold ovC at hw0 H1 H6 ⊢
  clear hO hs hR
  obtain ⟨q, hq⟩ : ∃ q, valO o = q := ⟨_, rfl⟩
  rw [hq] at HR H1
  have HQ := Lib.hid hq
  clear hq
  go_enter Tryz.func15, Tryz.ntmps15
  go_upto_region 1 with fail
  clear hw0
  go_wp2_with fail
  go_at_call 12; refine H1.out.mono ?_; rintro e1 w1 ⟨rfl, f1⟩
  have F1 := Lib.hid f1
  replace d1 := (B0.out.on F1.out).c1; replace d2 := (B0.out.on F1.out).c2; replace d3 := (B0.out.on F1.out).c3; replace d4 := (B0.out.on F1.out).c4; replace d5 := (B0.out.on F1.out).c5; replace d6 := (B0.out.on F1.out).c6
  clear f1
  cases q with
  | false =>
    have HZ := Lib.hid (show R = [] by rw [HR.out]; simp)
    go_wp2
    go_ret
    exact ⟨_, rfl, by rw [HZ.out]; exact World.ownsRow_nil _ _ _ _, F0.out.trans F1.out⟩
  | true =>
    have HZ := Lib.hid (show R = srtJ (keepD o.dls (entC o.c) ++ o.ads) by rw [HR.out, HK.out HQ.out]; simp)
    generalize keepD o.dls (entC o.c) ++ o.ads = L at *
    go_wp2_with fail
    go_at_call 28; refine (H6.out _ F1.out HQ.out).mono ?_; rintro e6 w6 ⟨v, rfl, ho, f6⟩
    have HS := Lib.hid (srt_own ordo_any enters_ord (w0 := w1) ho (Nat.le_refl _) f6 HLn.out)
    clear ho f6 d1 d2 d3 d4 d5 d6
    go_wp2_with fail
    go_at_call 45; refine HS.out.mono ?_; rintro e7 w7 ⟨rfl, o7, f7⟩
    have HO7 := Lib.hid o7
    have F7 := Lib.hid (F1.out.trans f7)
    clear o7 f7
    go_wp2
    go_ret
    exact ⟨_, rfl, by rw [HZ.out]; exact own_le HO7.out (Nat.le_trans F0.out.size F1.out.size), F0.out.trans F7.out⟩
end Go.Proofs.YtpjikijfendmhaaGreat
