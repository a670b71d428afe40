
/-
  Package column: Of. Nothing that was there turns.
-/
import Derived.Test.YtpjikijfendmhaaGreatCoO
namespace Go.Proofs.YtpjikijfendmhaaGreat
open Go.RowKit

def RetCo (w : World) (p : Cm × Int) (e : Ending) (w' : World) : Prop := ∃ A, e = .returned (.tuple #[colv p.1 A, .int .i64 p.2]) ∧ CIn w' p.1 A ∧ Fuw w w'
theorem emc_in (w : World) : CIn w emC A0c := ⟨Sl.empty _, Sl.empty _, Sl.empty _, Sl.empty _⟩
theorem c_ret2 {fn : Func} {p u : Tmp} (hres : fn.results = #[.cell p 24, .tmp u]) {tmps : Array Value} {B : Nat} {c : Cm} {A : CA} {n : Value} {w : World} {Q : Ending → World → Prop}
    (hp : tmps.getD p undef = .pointer (some ⟨B, 0, none⟩)) (hu : tmps.getD u undef = n) (h : Bk w B (colC c A) 24) (hQ : Q (.returned (.tuple #[colv c A, n])) w) : bodyPost Tryz.prog fn Q Exit.ret { tmps := tmps, defers := [] } w := by
  refine bodyPost_ret (v := .tuple #[colv c A, n]) ?_ rfl hQ
  have e : (asAddr (.pointer (some ⟨B, 0, none⟩))).run Tryz.prog w = .ok ⟨B, 0, none⟩ w := by go_simp
  rw [results_cell_tmp hres, hp, hu, e]
  simp only [Result.andThen]
  rw [load_cm w B c A h]
theorem all_take {l : List Aj} {i : Nat} (h : i < l.length) (hq : idJ l[i] = false) : l.all idJ = false := by
  rw [Bool.eq_false_iff]
  intro k
  rw [List.all_eq_true] at k
  rw [k _ (List.getElem_mem h)] at hq; cases hq
set_option maxHeartbeats 12800000 in
set_option maxRecDepth 100000 in
theorem ofc_any (l : List Aj) (ao : Option Addr) (cap : Nat) (w : World) (hs : SlJ w ao l cap) (hl : l.length ≤ 5000) :
    Calls Tryz.prog 27 #[.slice ao l.length cap] w (RetCo w (ofV l)) := by
  obtain ⟨wA, hwA⟩ : ∃ wA, w.alloc (.cells #[.slice none 0 0, .slice none 0 0, .slice none 0 0, .slice none 0 0] 24) = wA := ⟨_, rfl⟩
  have FR := Lib.hid (show Fuw w wA by rw [← hwA]; exact fuwA _ _)
  have BR0 := Lib.hid (show Bk wA w.heap.size #[.slice none 0 0, .slice none 0 0, .slice none 0 0, .slice none 0 0] 24 by rw [← hwA]; exact Bk.new _ _ _)
  have HS := Lib.hid (slJ_on FR.out hs)
  have HI64 := Lib.hid (slJ_i64 hs)
  have HED := Lib.hid (edg_i64 hs)
  obtain ⟨i0, hi0, hz0, hz1, hz2⟩ := info_parts infoI
  obtain ⟨P, hP⟩ : ∃ P, P = ofV l := ⟨_, rfl⟩
  have HP := Lib.hid (show P = if l.all idJ = true then (if dstI (edg l) = true then (layV (srtJ l), 0) else (emC, 7)) else (emC, 1) from hP)
  rw [← hP]
  clear hs hP
  go_enter Tryz.func27, Tryz.ntmps27
  go_upto_region 1 with fail
  clear hwA
  obtain ⟨R, hR⟩ : ∃ R, R = w.heap.size := ⟨_, rfl⟩
  rw [← hR] at BR0 ⊢
  have BR := BR0
  have HRb := Lib.hid (show w.heap.size ≤ R by rw [hR]; exact Nat.le_refl _)
  clear hR
  go_wp2
  go_loopw [4, 9] (fun lv iv wr => ∃ i : Nat, iv = .int .i64 i ∧ i ≤ l.length ∧ Hid (∀ j (h : j < l.length), j < i → idJ l[j] = true) ∧ Hid (wr.ownsRow wA.heap.size 3 1 lv (edg (l.take i)).length (cs (edg (l.take i)))) ∧ Hid (Fuw wA wr)) (fun _ iv _ => l.length - (RowKit.intOf iv).toNat)
  case atStart => exact ⟨0, rfl, Nat.zero_le _, Lib.hid (fun j _ h => absurd h (Nat.not_lt_zero j)), Lib.hid (World.ownsRow_nil _ _ _ _), Lib.hid (Fuw.refl _)⟩
  case round =>
    obtain ⟨i, rfl, hi, HA, HO, hf⟩ := hrel
    by_cases hlt : i < l.length
    · obtain ⟨b, o, rfl, -, -, -, c0, c1, c2⟩ := (slJ_on hf.out HS.out).get hlt
      have HT := Lib.hid (take_map_snoc hlt)
      have HBad := Lib.hid (fun h : idJ l[i] = false => show P = (emC, 1) by rw [HP.out, all_take hlt h]; rfl)
      have HGo := Lib.hid (fun h : idJ l[i] = true => show ∀ j (h : j < l.length), j < i + 1 → idJ l[j] = true from fun j hj hji => by
        rcases Nat.lt_or_eq_of_le (Nat.le_of_lt_succ hji) with q | q
        · exact HA.out j hj q
        · subst q; exact h)
      have hL : (edg (l.take i)).length ≤ 5000 := by rw [edg_len, List.length_take]; omega
      generalize edg (l.take i) = L at *
      generalize l[i] = x at *
      obtain ⟨x0, x1, x2⟩ := x
      simp only at c0 c1 c2 HT
      have HJ := Lib.hid (show idJ (x0, x1, x2) = (idB x0 && idB x1 && idB x2) from rfl)
      have HI0 := Lib.hid (fun w' => isid_any x0 w')
      have HI1 := Lib.hid (fun w' => isid_any x1 w')
      have HI2 := Lib.hid (fun w' => isid_any x2 w')
      generalize idJ (x0, x1, x2) = qj at *
      generalize idB x0 = q0 at *
      generalize idB x1 = q1 at *
      generalize idB x2 = q2 at *
      go_upto_region 5 with fail
      obtain ⟨W, hW⟩ : ∃ W, wr.alloc (.cells #[.int .i64 x0, .int .i64 x1, .int .i64 x2] 42) = W := ⟨_, rfl⟩
      have FWr := Lib.hid (show Fuw wr W by rw [← hW]; exact fuwA _ _)
      have FW := Lib.hid (hf.out.trans FWr.out)
      have HOW := Lib.hid (own_on HO.out FWr.out)
      obtain ⟨A0, hA0⟩ : ∃ A0, A0 = wr.heap.size := ⟨_, rfl⟩
      have BA := Lib.hid (show Bk W A0 #[.int .i64 x0, .int .i64 x1, .int .i64 x2] 42 by rw [hA0, ← hW]; exact Bk.new _ _ _)
      rw [hW]
      rw [← hA0]
      clear hW hA0 c0 c1 c2
      have c0 := BA.out.c 0; have c1 := BA.out.c 1; have c2 := BA.out.c 2
      simp only [List.getElem?_toArray, List.getElem?_cons_zero, List.getElem?_cons_succ] at c0 c1 c2
      cases q0 with
      | false =>
        have HZ := Lib.hid (HBad.out (by rw [HJ.out]; rfl))
        go_wp2_with fail
        go_at_call 60; refine (HI0.out _).mono ?_; rintro e9 w9 ⟨rfl, rfl⟩
        have E0 := Lib.hid (show Bk W R #[.slice none 0 0, .slice none 0 0, .slice none 0 0, .slice none 0 0] 24 from BR.out.on FW.out)
        have FE := Lib.hid (FR.out.trans FW.out)
        have r0 := E0.out.c 0; have r1 := E0.out.c 1; have r2 := E0.out.c 2; have r3 := E0.out.c 3
        have t0 := E0.out.f 0; have t1 := E0.out.f 1; have t2 := E0.out.f 2; have t3 := E0.out.f 3
        simp only [List.getElem?_toArray, List.getElem?_cons_zero, List.getElem?_cons_succ] at r0 r1 r2 r3
        clear c0 c1 c2
        go_wp2
        have hK := set4_ok (w0 := w) (c' := emC) (A' := A0c) (show Bk _ R (colC emC A0c) 24 from E0.out) HRb.out FE.out
        unfold set4 at hK
        exact c_ret2 rfl rfl rfl hK.1 (by rw [HZ.out]; exact ⟨A0c, rfl, emc_in _, hK.2.1⟩)
      | true =>
        cases q1 with
        | false =>
          have HZ := Lib.hid (HBad.out (by rw [HJ.out]; rfl))
          go_wp2_with fail
          go_at_call 60; refine (HI0.out _).mono ?_; rintro e9 w9 ⟨rfl, rfl⟩
          go_wp2_with fail
          go_at_call 60; refine (HI1.out _).mono ?_; rintro e9 w9 ⟨rfl, rfl⟩
          have E0 := Lib.hid (show Bk W R #[.slice none 0 0, .slice none 0 0, .slice none 0 0, .slice none 0 0] 24 from BR.out.on FW.out)
          have FE := Lib.hid (FR.out.trans FW.out)
          have r0 := E0.out.c 0; have r1 := E0.out.c 1; have r2 := E0.out.c 2; have r3 := E0.out.c 3
          have t0 := E0.out.f 0; have t1 := E0.out.f 1; have t2 := E0.out.f 2; have t3 := E0.out.f 3
          simp only [List.getElem?_toArray, List.getElem?_cons_zero, List.getElem?_cons_succ] at r0 r1 r2 r3
          clear c0 c1 c2
          go_wp2
          have hK := set4_ok (w0 := w) (c' := emC) (A' := A0c) (show Bk _ R (colC emC A0c) 24 from E0.out) HRb.out FE.out
          unfold set4 at hK
          exact c_ret2 rfl rfl rfl hK.1 (by rw [HZ.out]; exact ⟨A0c, rfl, emc_in _, hK.2.1⟩)
        | true =>
          cases q2 with
          | false =>
            have HZ := Lib.hid (HBad.out (by rw [HJ.out]; rfl))
            go_wp2_with fail
            go_at_call 60; refine (HI0.out _).mono ?_; rintro e9 w9 ⟨rfl, rfl⟩
            go_wp2_with fail
            go_at_call 60; refine (HI1.out _).mono ?_; rintro e9 w9 ⟨rfl, rfl⟩
            go_wp2_with fail
            go_at_call 60; refine (HI2.out _).mono ?_; rintro e9 w9 ⟨rfl, rfl⟩
            have E0 := Lib.hid (show Bk W R #[.slice none 0 0, .slice none 0 0, .slice none 0 0, .slice none 0 0] 24 from BR.out.on FW.out)
            have FE := Lib.hid (FR.out.trans FW.out)
            have r0 := E0.out.c 0; have r1 := E0.out.c 1; have r2 := E0.out.c 2; have r3 := E0.out.c 3
            have t0 := E0.out.f 0; have t1 := E0.out.f 1; have t2 := E0.out.f 2; have t3 := E0.out.f 3
            simp only [List.getElem?_toArray, List.getElem?_cons_zero, List.getElem?_cons_succ] at r0 r1 r2 r3
            clear c0 c1 c2
            go_wp2
            have hK := set4_ok (w0 := w) (c' := emC) (A' := A0c) (show Bk _ R (colC emC A0c) 24 from E0.out) HRb.out FE.out
            unfold set4 at hK
            exact c_ret2 rfl rfl rfl hK.1 (by rw [HZ.out]; exact ⟨A0c, rfl, emc_in _, hK.2.1⟩)
          | true =>
            have HY := Lib.hid (HGo.out (by rw [HJ.out]; rfl))
            go_wp2_with fail
            go_at_call 60; refine (HI0.out _).mono ?_; rintro e9 w9 ⟨rfl, rfl⟩
            go_wp2_with fail
            go_at_call 60; refine (HI1.out _).mono ?_; rintro e9 w9 ⟨rfl, rfl⟩
            go_wp2_with fail
            go_at_call 60; refine (HI2.out _).mono ?_; rintro e9 w9 ⟨rfl, rfl⟩
            go_wp2_with (at_builtin; refine wpList_append_own_at _ rfl (.tmp 30) (.tmp 33) 22 rfl wA.heap.size 3 i0 (.int .i64 0) 1 8 Tryz.underlying22 hi0 hz0 hz1 hz2 rfl (by decide) _ L.length (cs L) rfl (own_on HOW.out (fuwA _ _)) ⟨W.heap.size, 0, none⟩ 1 1 [.int .i64 x2] rfl rfl (World.news_of_block (heap_alloc_new W _)) (one_int _) (by unfold maxLen; omega) (by omega) (Nat.le_trans FW.out.size (by simp)) ?_; intro v' w5 hown5 hgrow _ _)
            have HG := Lib.hid (fuw_grown (FW.out.trans (fuwA _ _)) (own_on HOW.out (fuwA _ _)) hgrow)
            have HO2 := Lib.hid (show w5.ownsRow wA.heap.size 3 1 v' (edg (l.take (i + 1))).length (cs (edg (l.take (i + 1)))) from by
              rw [HT.out, cs_app, List.length_append]; exact hown5)
            clear hown5 hgrow c0 c1 c2
            go_wp2
            go_roundw
            case rel => exact ⟨i + 1, by go_num, by omega, HY, HO2, HG⟩
            case measure => simp [RowKit.intOf]; omega
    · have e : l.take i = l := List.take_of_length_le (by omega)
      rw [e] at HO
      have hge : ¬ (i : Int) < (l.length : Int) := by omega
      have HAll := Lib.hid (show l.all idJ = true from List.all_eq_true.2 fun x hx => by
        obtain ⟨j, hj, rfl⟩ := List.getElem_of_mem hx
        exact HA.out j hj (by omega))
      have HP2 := Lib.hid (show P = if dstI (edg l) = true then (layV (srtJ l), 0) else (emC, 7) by rw [HP.out, if_pos HAll.out])
      obtain ⟨ea, ek, hv, -, hES⟩ := slI_own HO.out HED.out
      have HV := Lib.hid hv
      have HD := Lib.hid (aredst_any (edg l) ea ek wr hES (by rw [edg_len]; omega))
      rw [← HV.out] at HD
      have FX := Lib.hid hf.out
      obtain ⟨q, hq⟩ : ∃ q, dstI (edg l) = q := ⟨_, rfl⟩
      rw [hq] at HD HP2
      clear e hv hES hf HA HO hq
      go_wp2_with fail
      go_at_call 61; refine HD.out.mono ?_; rintro e2 W ⟨rfl, f2⟩
      have FW := Lib.hid (FX.out.trans f2)
      clear f2
      cases q with
      | false =>
        have HZ := Lib.hid (show P = (emC, 7) by rw [HP2.out]; rfl)
        have E0 := Lib.hid (show Bk W R #[.slice none 0 0, .slice none 0 0, .slice none 0 0, .slice none 0 0] 24 from BR.out.on FW.out)
        have FE := Lib.hid (FR.out.trans FW.out)
        have r0 := E0.out.c 0; have r1 := E0.out.c 1; have r2 := E0.out.c 2; have r3 := E0.out.c 3
        have t0 := E0.out.f 0; have t1 := E0.out.f 1; have t2 := E0.out.f 2; have t3 := E0.out.f 3
        simp only [List.getElem?_toArray, List.getElem?_cons_zero, List.getElem?_cons_succ] at r0 r1 r2 r3
        go_wp2
        have hK := set4_ok (w0 := w) (c' := emC) (A' := A0c) (show Bk _ R (colC emC A0c) 24 from E0.out) HRb.out FE.out
        unfold set4 at hK
        exact c_ret2 rfl rfl rfl hK.1 (by rw [HZ.out]; exact ⟨A0c, rfl, emc_in _, hK.2.1⟩)
      | true =>
        have HZ := Lib.hid (show P = (layV (srtJ l), 0) by rw [HP2.out]; rfl)
        have HCl := Lib.hid (cln_j (slJ_on FW.out HS.out) hl)
        unfold RetCn at HCl
        go_wp2_with fail
        go_at_call 63; refine HCl.out.mono ?_; rintro e3 w3 ⟨v, rfl, ho, f3⟩
        have HC := Lib.hid (comp_any w3 ho f3 hl HI64.out)
        have F3 := Lib.hid (FW.out.trans f3)
        clear ho f3 HCl HD
        generalize layV (srtJ l) = LV at *
        unfold RetCm at HC
        go_wp2_with fail
        go_at_call 62; refine HC.out.mono ?_; rintro e4 w4 ⟨X, rfl, hcin, f4⟩
        have HCIN := Lib.hid hcin
        have F4 := Lib.hid (show Fuw W w4 from f4)
        have E0 := Lib.hid (show Bk w4 R #[.slice none 0 0, .slice none 0 0, .slice none 0 0, .slice none 0 0] 24 from BR.out.on (FW.out.trans F4.out))
        have FE := Lib.hid (FR.out.trans (FW.out.trans F4.out))
        have r0 := E0.out.c 0; have r1 := E0.out.c 1; have r2 := E0.out.c 2; have r3 := E0.out.c 3
        have t0 := E0.out.f 0; have t1 := E0.out.f 1; have t2 := E0.out.f 2; have t3 := E0.out.f 3
        simp only [List.getElem?_toArray, List.getElem?_cons_zero, List.getElem?_cons_succ] at r0 r1 r2 r3
        clear hcin f4 HC
        unfold colv colC
        go_wp2
        have hK := set4_ok (w0 := w) (c' := LV) (A' := X) (show Bk _ R (colC emC A0c) 24 from E0.out) HRb.out FE.out
        have hC2 := hK.2.2 _ X HCIN.out
        unfold set4 at hK hC2
        exact c_ret2 rfl rfl rfl hK.1 (by rw [HZ.out]; exact ⟨X, rfl, hC2, hK.2.1⟩)
end Go.Proofs.YtpjikijfendmhaaGreat
