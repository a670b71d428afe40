
/-
  The reference of columns: whether a column is valid, all its entries. Nothing that was there turns.
-/
import Derived.Test.YtpjikijfendmhaaGreatRfA
import Derived.Test.YtpjikijfendmhaaGreatRfC
import Derived.Test.YtpjikijfendmhaaGreatCoV0
namespace Go.Proofs.YtpjikijfendmhaaGreat
open Go.RowKit

theorem dstJ_step {l : List Aj} {k : Nat} (hk : k < l.length) (h : dstJ l k) (h2 : ∀ i (hi : i < k), (l[i]'(Nat.lt_trans hi hk)).2.2 ≠ l[k].2.2) : dstJ l (k + 1) := by
  intro i j hj hij hlt
  rcases Nat.lt_or_eq_of_le (Nat.le_of_lt_succ hlt) with q | q
  · exact h i j hj hij q
  · subst q; exact h2 i hij
theorem dst_no {l : List Aj} {i k : Nat} (hi : i < k) (hk : k < l.length) (h : (l[i]'(Nat.lt_trans hi hk)).2.2 = l[k].2.2) : dstI (edg l) = false := by
  rw [Bool.eq_false_iff, Ne, dst_pairs]
  intro q
  exact q i k hk hi hk h
theorem dst_yes {l : List Aj} (h : dstJ l l.length) : dstI (edg l) = true := dst_pairs.2 h
theorem incJ_no {l : List Aj} {k : Nat} (hk : k + 1 < l.length) (h : adjL l[k] l[k + 1] = false) : incJ l = false := by
  rw [Bool.eq_false_iff]
  intro q
  have := List.pairwise_iff_getElem.1 (incJ_iff.1 q) k (k + 1) (by omega) hk (by omega)
  rw [h] at this; cases this
set_option maxHeartbeats 25600000 in
set_option maxRecDepth 100000 in
theorem rvalid12_any (c : Cm) (A : CA) (w : World) (hC : CIn w c A) (hs : Sm c) :
    Calls Tryz.prog 33 #[colv c A] w (FwB w (valC c)) := by
  obtain ⟨w0, hw0⟩ : ∃ w0, w.alloc (.cells (colC c A) 24) = w0 := ⟨_, rfl⟩
  have B0 := Lib.hid (show Bk w0 w.heap.size (colC c A) 24 by rw [← hw0]; exact Bk.new _ _ _)
  have F0 := Lib.hid (show Fuw w w0 by rw [← hw0]; exact fuwA _ _)
  have HC0 := Lib.hid (hC.on F0.out)
  have HSh := Lib.hid (rshape_any c A w0 HC0.out hs.n)
  have HFlat := Lib.hid (fun w' (hf : Fuw w0 w') (hb : bndB c = true) => rflat_any c A w' (HC0.out.on hf) hb hs.t)
  obtain ⟨R, hR⟩ : ∃ R, R = valC c := ⟨_, rfl⟩
  have HR := Lib.hid (show R = (shpC c && (List.range c.ts.length).all (fun k => idB (c.ts.getD k 0) && idB (c.es.getD k 0)) && incJ (entL c) && dstI (edg (entL c))) from by rw [hR, ← rvalC_eq]; rfl)
  rw [← hR]
  have HSm := Lib.hid hs
  have HEL := Lib.hid (fun hb : bndB c = true => ent_i64 HC0.out hb)
  have HLE := Lib.hid (fun hb : bndB c = true => show (entL c).length ≤ 1000000 by rw [ent_len hb]; exact hs.t)
  have D1 := Lib.hid (B0.out.c 0); have D2 := Lib.hid (B0.out.c 1); have D3 := Lib.hid (B0.out.c 2); have D4 := Lib.hid (B0.out.c 3)
  unfold colv at HSh HFlat ⊢
  unfold colC at D1 D2 D3 D4 hw0 HSh HFlat ⊢
  simp only [List.getElem?_toArray, List.getElem?_cons_zero, List.getElem?_cons_succ] at D1 D2 D3 D4
  have tl := hs.t
  clear hC hR hs
  go_enter Tryz.func33, Tryz.ntmps33
  go_upto_region 1 with fail
  clear hw0
  have d1 := D1.out; have d2 := D2.out; have d3 := D3.out; have d4 := D4.out
  obtain ⟨q, hq⟩ : ∃ q, shpC c = q := ⟨_, rfl⟩
  have HQ := Lib.hid hq
  rw [hq] at HR HSh
  clear hq
  go_wp2_with fail
  go_at_call 75; refine HSh.out.mono ?_; rintro e1 w1 ⟨rfl, f1⟩
  have F1 := Lib.hid f1
  clear f1 d1 d2 d3 d4
  cases q with
  | false =>
    have HZ := Lib.hid (show R = false by rw [HR.out]; rfl)
    go_wp2
    go_ret
    exact ⟨ret_bool HZ.out.symm, F0.out.trans F1.out⟩
  | true =>
    have HBd := Lib.hid (shp_iff.1 HQ.out).1
    have HZ := Lib.hid (show R = ((List.range c.ts.length).all (fun k => idB (c.ts.getD k 0) && idB (c.es.getD k 0)) && incJ (entL c) && dstI (edg (entL c))) by rw [HR.out]; simp)
    have HTE := Lib.hid (bnd_len HBd.out)
    clear HR
    go_wp2
    go_loopw [3] (fun iv wr => ∃ i : Nat, iv = .int .i64 i ∧ i ≤ c.ts.length ∧ Hid (∀ j, j < i → (idB (c.ts.getD j 0) && idB (c.es.getD j 0)) = true) ∧ Hid (Fuw w0 wr)) (fun iv _ => c.ts.length - (RowKit.intOf iv).toNat)
    case atStart => exact ⟨0, rfl, Nat.zero_le _, Lib.hid (fun j h => absurd h (Nat.not_lt_zero j)), F1⟩
    case round =>
      obtain ⟨i, rfl, hi, HA, hf⟩ := hrel
      have d3 := cellOnw hf.out D3.out; have d4 := cellOnw hf.out D4.out
      by_cases hlt : i < c.ts.length
      · have hlt2 : i < c.es.length := by have := HTE.out; omega
        have HFl := Lib.hid (fun h : (idB c.ts[i] && idB c.es[i]) = false => show R = false by
          rw [HZ.out, all_rng hlt (by show (idB (c.ts.getD i 0) && idB (c.es.getD i 0)) = false; rw [gd hlt, gd hlt2]; exact h)]; rfl)
        have HTr := Lib.hid (fun h : (idB c.ts[i] && idB c.es[i]) = true => show ∀ j, j < i + 1 → (idB (c.ts.getD j 0) && idB (c.es.getD j 0)) = true from fun j hj => by
          rcases Nat.lt_or_eq_of_le (Nat.le_of_lt_succ hj) with q | q
          · exact HA.out j q
          · rw [q, gd hlt, gd hlt2]; exact h)
        obtain ⟨b3, o3, e3, -, ct⟩ := (slI_on hf.out HC0.out.t).get hlt
        obtain ⟨b4, o4, e4, -, ce⟩ := (slI_on hf.out HC0.out.e).get hlt2
        rw [e3] at d3
        rw [e4] at d4
        rw [Nat.mul_one] at ct ce
        generalize c.ts[i] = t at *
        generalize c.es[i] = e at *
        have x1 : (i : Int) < (c.ts.length : Int) := by omega
        have x2 : (i : Int) < (c.es.length : Int) := by omega
        obtain ⟨qt, hqt⟩ : ∃ qt, idB t = qt := ⟨_, rfl⟩
        obtain ⟨qe, hqe⟩ : ∃ qe, idB e = qe := ⟨_, rfl⟩
        have HI1 := Lib.hid (fun w' => rid12_any t w')
        have HI2 := Lib.hid (fun w' => rid12_any e w')
        rw [hqt, hqe] at HFl HTr
        rw [hqt] at HI1
        rw [hqe] at HI2
        clear hqt hqe e3 e4
        cases qt with
        | false =>
          have HY := Lib.hid (HFl.out rfl)
          go_wp2_with fail
          go_at_call 65; refine (HI1.out _).mono ?_; rintro e9 w9 ⟨rfl, rfl⟩
          go_wp2
          go_ret
          exact ⟨ret_bool HY.out.symm, F0.out.trans hf.out⟩
        | true =>
          cases qe with
          | false =>
            have HY := Lib.hid (HFl.out rfl)
            go_wp2_with fail
            go_at_call 65; refine (HI1.out _).mono ?_; rintro e9 w9 ⟨rfl, rfl⟩
            go_wp2_with fail
            go_at_call 65; refine (HI2.out _).mono ?_; rintro e9 w9 ⟨rfl, rfl⟩
            go_wp2
            go_ret
            exact ⟨ret_bool HY.out.symm, F0.out.trans hf.out⟩
          | true =>
            have HY := Lib.hid (HTr.out rfl)
            go_wp2_with fail
            go_at_call 65; refine (HI1.out _).mono ?_; rintro e9 w9 ⟨rfl, rfl⟩
            go_wp2_with fail
            go_at_call 65; refine (HI2.out _).mono ?_; rintro e9 w9 ⟨rfl, rfl⟩
            go_wp2
            go_roundw
            case rel => exact ⟨i + 1, by go_num, by omega, HY, hf⟩
            case measure => simp [RowKit.intOf]; omega
      · have hge : ¬ (i : Int) < (c.ts.length : Int) := by omega
        have HZ2 := Lib.hid (show R = (incJ (entL c) && dstI (edg (entL c))) by rw [HZ.out, all_rng1 fun j hj => HA.out j (by omega), Bool.true_and])
        have d1 := cellOnw hf.out D1.out; have d2 := cellOnw hf.out D2.out
        have HEn := Lib.hid (HFlat.out wr hf.out HBd.out)
        have FX := Lib.hid hf.out
        have HI64 := Lib.hid (HEL.out HBd.out)
        have hL := HLE.out HBd.out
        generalize entL c = L at *
        clear HZ HA
        go_wp2_with fail
        go_at_call 59; refine HEn.out.mono ?_; rintro e2 w2 ⟨v, rfl, ho, f2⟩
        obtain ⟨ao, cap, hv, -, hS⟩ := slJ_own ho HI64.out
        subst hv
        have HS := Lib.hid hS
        have F2 := Lib.hid (FX.out.trans f2)
        have hH0 := Lib.hid (show incJ (L.drop 0) = incJ L from rfl)
        clear ho f2 hS d1 d2 d3 d4 hf HEn
        go_wp2
        go_loopw [5] (fun iv wr => ∃ k : Nat, iv = .int .i64 ((k : Int) + 1) ∧ k ≤ L.length ∧ Hid (incJ (L.drop k) = incJ L) ∧ Hid (Fuw w2 wr)) (fun iv _ => L.length + 1 - (RowKit.intOf iv).toNat)
        case atStart => exact ⟨0, rfl, Nat.zero_le _, hH0, Lib.hid (Fuw.refl _)⟩
        case round =>
          clear hlt hge
          obtain ⟨k, rfl, hk, HI, hf⟩ := hrel
          by_cases hlt : k + 1 < L.length
          · obtain ⟨b, o, rfl, ⟨-, -, -, x0, x1, x2⟩, -, -, -, y0, y1, y2⟩ := (slJ_on hf.out HS.out).get2 (show k < L.length by omega) hlt
            have HA := Lib.hid (incJ_drop hlt)
            have HNo := Lib.hid (fun h => incJ_no hlt h)
            have HC := Lib.hid (fun w' => less12_any L[k] L[k + 1] w')
            unfold adv at HC
            generalize L[k + 1] = y at *
            generalize L[k] = x at *
            obtain ⟨y0', y1', y2'⟩ := y
            obtain ⟨x0', x1', x2'⟩ := x
            simp only at x0 x1 x2 y0 y1 y2 HC
            have z5 : IntKind.i64.wrap (k : Int) = k := IntWalk.i64_in _ (by omega)
            have z6 : IntKind.i64.wrap ((k : Int) + 1 - 1) = k := by rw [show (k : Int) + 1 - 1 = k by omega]; exact z5
            have e1 : (k : Int) + 1 - 1 = k := by omega
            have e2 : ((k : Int) + 1).toNat = k + 1 := by omega
            have z1 : (k : Int) + 1 < (L.length : Int) := by omega
            have z2 : (k : Int) < (L.length : Int) := by omega
            have z3 : (0 : Int) < (k : Int) + 1 := by omega
            have z4 : (0 : Int) ≤ (k : Int) + 1 := by omega
            obtain ⟨q, hq⟩ : ∃ q, adjL (x0', x1', x2') (y0', y1', y2') = q := ⟨_, rfl⟩
            rw [hq] at HC HA HNo
            clear hq
            go_upto_region 12 with fail
            obtain ⟨S, hS⟩ : ∃ S : World → Prop, S = (fun w8 => w8.cell? ⟨b, o + k * 3, none⟩ = some (.int .i64 x0') ∧ w8.cell? ⟨b, o + k * 3 + 1, none⟩ = some (.int .i64 x1') ∧ w8.cell? ⟨b, o + k * 3 + 2, none⟩ = some (.int .i64 x2') ∧ w8.cell? ⟨b, o + (k + 1) * 3, none⟩ = some (.int .i64 y0') ∧ w8.cell? ⟨b, o + (k + 1) * 3 + 1, none⟩ = some (.int .i64 y1') ∧ w8.cell? ⟨b, o + (k + 1) * 3 + 2, none⟩ = some (.int .i64 y2')) := ⟨_, rfl⟩
            have HS4 := Lib.hid hS
            clear hS
            refine lst_start [9] S (by kernel_rfl) ?_
            have hS0 : S wr.drew := by rw [HS4.out]; exact ⟨x0, x1, x2, y0, y1, y2⟩
            refine takeP (i := 0) (d := some 42) (v := ?_) rfl rfl (by kernel_rfl) (by kernel_rfl) (by kernel_rfl) (by kernel_rfl) (by kernel_rfl) (fun _ _ _ h => h) (Or.inl ⟨by rfl, ?_⟩) (by first | exact Or.inr (by assumption) | exact Or.inl (by kernel_rfl)) ?_
            rotate_left
            · ((intro w8 _; go_simp); try with_reducible rfl)
            try simp only [Act.put]
            try simp only [List.setIfInBounds_toArray]
            try simp only [List.set_cons_succ]
            try simp only [List.set_cons_zero]
            refine takeP (i := 1) (d := some 43) (v := ?_) rfl rfl (by kernel_rfl) (by kernel_rfl) (by kernel_rfl) (by kernel_rfl) (by kernel_rfl) (fun _ _ _ h => h) (Or.inl ⟨by rfl, ?_⟩) (by first | exact Or.inr (by assumption) | exact Or.inl (by kernel_rfl)) ?_
            rotate_left
            · ((intro w8 _; go_simp); try with_reducible rfl)
            try simp only [Act.put]
            try simp only [List.setIfInBounds_toArray]
            try simp only [List.set_cons_succ]
            try simp only [List.set_cons_zero]
            refine takeP (i := 2) (d := some 44) (v := ?_) rfl rfl (by kernel_rfl) (by kernel_rfl) (by kernel_rfl) (by kernel_rfl) (by kernel_rfl) (fun _ _ _ h => h) (Or.inl ⟨by rfl, ?_⟩) (by first | exact Or.inr (by assumption) | exact Or.inl (by kernel_rfl)) ?_
            rotate_left
            · ((intro w8 _; go_simp); try with_reducible rfl)
            try simp only [Act.put]
            try simp only [List.setIfInBounds_toArray]
            try simp only [List.set_cons_succ]
            try simp only [List.set_cons_zero]
            refine takeP (i := 3) (d := some 45) (v := ?_) rfl rfl (by kernel_rfl) (by kernel_rfl) (by kernel_rfl) (by kernel_rfl) (by kernel_rfl) (fun _ _ _ h => h) (Or.inl ⟨by rfl, ?_⟩) (by first | exact Or.inr (by assumption) | exact Or.inl (by kernel_rfl)) ?_
            rotate_left
            · ((intro w8 _; go_simp); try with_reducible rfl)
            try simp only [Act.put]
            try simp only [List.setIfInBounds_toArray]
            try simp only [List.set_cons_succ]
            try simp only [List.set_cons_zero]
            refine takeL (i := 4) (d := some 46) (v := ?_) rfl rfl (by kernel_rfl) (by kernel_rfl) (by kernel_rfl) (by kernel_rfl) (by kernel_rfl) (fun _ _ _ h => h) (Or.inl ⟨by rfl, ?_⟩) (by assumption) ?_
            rotate_left
            · ((intro w8 hSw; rw [HS4.out] at hSw; obtain ⟨y1, y2, y3, y4, y5, y6⟩ := hSw; go_simp); try with_reducible rfl)
            try simp only [Act.put]
            try simp only [List.setIfInBounds_toArray]
            try simp only [List.set_cons_succ]
            try simp only [List.set_cons_zero]
            refine takeP (i := 5) (d := some 47) (v := ?_) rfl rfl (by kernel_rfl) (by kernel_rfl) (by kernel_rfl) (by kernel_rfl) (by kernel_rfl) (fun _ _ _ h => h) (Or.inl ⟨by rfl, ?_⟩) (by first | exact Or.inr (by assumption) | exact Or.inl (by kernel_rfl)) ?_
            rotate_left
            · ((intro w8 _; go_simp); try with_reducible rfl)
            try simp only [Act.put]
            try simp only [List.setIfInBounds_toArray]
            try simp only [List.set_cons_succ]
            try simp only [List.set_cons_zero]
            refine takeP (i := 6) (d := some 48) (v := ?_) rfl rfl (by kernel_rfl) (by kernel_rfl) (by kernel_rfl) (by kernel_rfl) (by kernel_rfl) (fun _ _ _ h => h) (Or.inl ⟨by rfl, ?_⟩) (by first | exact Or.inr (by assumption) | exact Or.inl (by kernel_rfl)) ?_
            rotate_left
            · ((intro w8 _; go_simp); try with_reducible rfl)
            try simp only [Act.put]
            try simp only [List.setIfInBounds_toArray]
            try simp only [List.set_cons_succ]
            try simp only [List.set_cons_zero]
            refine takeP (i := 7) (d := some 49) (v := ?_) rfl rfl (by kernel_rfl) (by kernel_rfl) (by kernel_rfl) (by kernel_rfl) (by kernel_rfl) (fun _ _ _ h => h) (Or.inl ⟨by rfl, ?_⟩) (by first | exact Or.inr (by assumption) | exact Or.inl (by kernel_rfl)) ?_
            rotate_left
            · ((intro w8 _; go_simp); try with_reducible rfl)
            try simp only [Act.put]
            try simp only [List.setIfInBounds_toArray]
            try simp only [List.set_cons_succ]
            try simp only [List.set_cons_zero]
            refine takeL (i := 8) (d := some 50) (v := ?_) rfl rfl (by kernel_rfl) (by kernel_rfl) (by kernel_rfl) (by kernel_rfl) (by kernel_rfl) (fun _ _ _ h => h) (Or.inl ⟨by rfl, ?_⟩) (by assumption) ?_
            rotate_left
            · ((intro w8 hSw; rw [HS4.out] at hSw; obtain ⟨y1, y2, y3, y4, y5, y6⟩ := hSw; go_simp); try with_reducible rfl)
            try simp only [Act.put]
            try simp only [List.setIfInBounds_toArray]
            try simp only [List.set_cons_succ]
            try simp only [List.set_cons_zero]
            refine outL (i := 9) rfl (by kernel_rfl) (by kernel_rfl) (fun K8 hK8 => ?_)
            go_simp
            go_at_call 76; refine (HC.out _).mono ?_; rintro e9 w9 ⟨rfl, f9⟩
            have HF := Lib.hid ((hf.out.trans (fuw_dr wr 1)).trans f9)
            refine hK8 _ _ ?_
            try simp only [Act.put]
            try simp only [List.setIfInBounds_toArray]
            try simp only [List.set_cons_succ]
            try simp only [List.set_cons_zero]
            refine takeP (i := 10) (d := some 52) (v := ?_) rfl rfl (by kernel_rfl) (by kernel_rfl) (by kernel_rfl) (by kernel_rfl) (by kernel_rfl) (fun _ _ _ h => h) (Or.inl ⟨by rfl, ?_⟩) (by first | exact Or.inr (by assumption) | exact Or.inl (by kernel_rfl)) ?_
            rotate_left
            · ((intro w8 _; go_simp); try with_reducible rfl)
            try simp only [Act.put]
            try simp only [List.setIfInBounds_toArray]
            try simp only [List.set_cons_succ]
            try simp only [List.set_cons_zero]
            refine lst_done (by kernel_rfl) ?_ _
            cases q with
            | false =>
              have HY := Lib.hid (show R = false by rw [HZ2.out, HNo.out rfl]; rfl)
              go_wp2
              go_ret
              exact ⟨ret_bool HY.out.symm, F0.out.trans (F2.out.trans HF.out)⟩
            | true =>
              have HY := Lib.hid (show incJ (L.drop (k + 1)) = incJ L by rw [← HI.out, HA.out, Bool.true_and])
              go_wp2
              go_roundw
              case rel => exact ⟨k + 1, by go_num, by omega, HY, HF⟩
              case measure => simp [RowKit.intOf]; omega
          · have hge : ¬ (k : Int) + 1 < (L.length : Int) := by omega
            have HZ3 := Lib.hid (show R = dstI (edg L) by rw [HZ2.out, ← HI.out, incJ_end (by omega), Bool.true_and])
            have F3 := Lib.hid hf.out
            clear HZ2 HI hf
            go_wp2
            go_loopw [6] (fun iv wr => ∃ i : Nat, iv = .int .i64 i ∧ i ≤ L.length ∧ Hid (dstJ L i) ∧ Hid (Fuw w2 wr)) (fun iv _ => L.length - (RowKit.intOf iv).toNat)
            case atStart => exact ⟨0, rfl, Nat.zero_le _, Lib.hid (fun i j _ _ h => absurd h (Nat.not_lt_zero j)), F3⟩
            case round =>
              clear hlt hge
              obtain ⟨i, rfl, hi, HDj, hf⟩ := hrel
              by_cases hlt : i < L.length
              · have z1 : (i : Int) < (L.length : Int) := by omega
                have FI := Lib.hid hf.out
                clear hf
                go_wp2
                go_loopw [7] (fun jv wr => ∃ j : Nat, jv = .int .i64 j ∧ j ≤ i ∧ Hid (∀ m (hm : m < i), m < j → (L[m]'(Nat.lt_trans hm hlt)).2.2 ≠ L[i].2.2) ∧ Hid (Fuw w2 wr)) (fun jv _ => i - (RowKit.intOf jv).toNat)
                case atStart => exact ⟨0, rfl, Nat.zero_le _, Lib.hid (fun m _ h => absurd h (Nat.not_lt_zero m)), FI⟩
                case round =>
                  obtain ⟨j, rfl, hj, HM, hf⟩ := hrel
                  by_cases hji : j < i
                  · have hjl : j < L.length := by omega
                    obtain ⟨b, o, rfl, ⟨-, -, -, -, -, x2⟩, -, -, -, -, -, y2⟩ := (slJ_on hf.out HS.out).get2 hjl hlt
                    have HEq := Lib.hid (fun h : L[j].2.2 = L[i].2.2 => dst_no hji hlt h)
                    have HNe := Lib.hid (fun h : L[j].2.2 ≠ L[i].2.2 => show ∀ m (hm : m < i), m < j + 1 → (L[m]'(Nat.lt_trans hm hlt)).2.2 ≠ L[i].2.2 from fun m hm hmj => by
                      rcases Nat.lt_or_eq_of_le (Nat.le_of_lt_succ hmj) with q | q
                      · exact HM.out m hm q
                      · subst q; exact h)
                    obtain ⟨u, hu⟩ : ∃ u, L[j].2.2 = u := ⟨_, rfl⟩
                    obtain ⟨v, hv⟩ : ∃ v, L[i].2.2 = v := ⟨_, rfl⟩
                    rw [hu, hv] at HEq HNe
                    have HV := Lib.hid hv
                    rw [hu] at x2
                    rw [hv] at y2
                    have z2 : (j : Int) < (i : Int) := by omega
                    have z3 : (j : Int) < (L.length : Int) := by omega
                    clear hu hv
                    by_cases huv : u = v
                    · have p : (u == v) = true := by rw [beq_iff_eq]; exact huv
                      have HY := Lib.hid (show R = false by rw [HZ3.out]; exact HEq.out huv)
                      clear huv
                      go_upto_region 20 with fail
                      go_quiet (fail)
                      clear x2 y2 p
                      go_wp2
                      go_ret
                      exact ⟨ret_bool HY.out.symm, F0.out.trans (F2.out.trans (hf.out.trans (fuw_dr _ _)))⟩
                    · have p : (u == v) = false := by rw [beq_eq_false_iff_ne]; exact huv
                      have HY := Lib.hid (show ∀ m (hm : m < i), m < j + 1 → (L[m]'(Nat.lt_trans hm hlt)).2.2 ≠ L[i].2.2 by have := HNe.out huv; rw [← HV.out] at this; exact this)
                      clear huv
                      go_upto_region 20 with fail
                      go_quiet (fail)
                      clear x2 y2 p
                      go_wp2
                      go_roundw
                      case rel => exact ⟨j + 1, by go_num, by omega, HY, Lib.hid (hf.out.trans (fuw_dr _ _))⟩
                      case measure => simp [RowKit.intOf]; omega
                  · have hge : ¬ (j : Int) < (i : Int) := by omega
                    have HY := Lib.hid (dstJ_step hlt HDj.out fun m hm => HM.out m hm (by omega))
                    go_wp2
                    go_roundw
                    case rel => exact ⟨i + 1, by go_num, by omega, HY, hf⟩
                    case measure => simp [RowKit.intOf]; omega
              · have hge : ¬ (i : Int) < (L.length : Int) := by omega
                have HY := Lib.hid (show R = true by rw [HZ3.out]; exact dst_yes (by have := HDj.out; rwa [show i = L.length by omega] at this))
                go_wp2
                go_ret
                exact ⟨ret_bool HY.out.symm, F0.out.trans (F2.out.trans hf.out)⟩
set_option maxHeartbeats 3200000 in
set_option maxRecDepth 100000 in
set_option maxHeartbeats 3200000 in
set_option maxRecDepth 100000 in
theorem rent12_any (c : Cm) (A : CA) (w : World) (hC : CIn w c A) (hs : Sm c) : Calls Tryz.prog 25 #[colv c A] w (RetJ w (entC c)) := by
  obtain ⟨w0, hw0⟩ : ∃ w0, w.alloc (.cells (colC c A) 24) = w0 := ⟨_, rfl⟩
  have B0 := Lib.hid (show Bk w0 w.heap.size (colC c A) 24 by rw [← hw0]; exact Bk.new _ _ _)
  have F0 := Lib.hid (show Fuw w w0 by rw [← hw0]; exact fuwA _ _)
  have HC := Lib.hid (hC.on F0.out)
  have HV := Lib.hid (rvalid12_any c A w0 HC.out hs)
  have HE := Lib.hid (fun w' (hf : Fuw w0 w') (hb : bndB c = true) => rflat_any c A w' (HC.out.on hf) hb hs.t)
  have HB := Lib.hid (fun h : valC c = true => (valC_iff.1 h).b)
  have HR := Lib.hid (show entC c = if valC c = true then entL c else [] from rfl)
  have D1 := Lib.hid (B0.out.c 0); have D2 := Lib.hid (B0.out.c 1); have D3 := Lib.hid (B0.out.c 2); have D4 := Lib.hid (B0.out.c 3)
  unfold colv at HV HE ⊢
  unfold colC at D1 D2 D3 D4 hw0 HV HE ⊢
  simp only [List.getElem?_toArray, List.getElem?_cons_zero, List.getElem?_cons_succ] at D1 D2 D3 D4
  clear hC hs
  have d1 := D1.out; have d2 := D2.out; have d3 := D3.out; have d4 := D4.out
  obtain ⟨R, hRR⟩ : ∃ R, R = entC c := ⟨_, rfl⟩
  rw [← hRR] at HR ⊢
  clear hRR
  obtain ⟨q, hq⟩ : ∃ q, valC c = q := ⟨_, rfl⟩
  rw [hq] at HR HV
  have HQ := Lib.hid hq
  clear hq
  go_enter Tryz.func25, Tryz.ntmps25
  go_upto_region 1 with fail
  clear hw0
  go_wp2_with fail
  go_at_call 33; refine HV.out.mono ?_; rintro e1 w1 ⟨rfl, f1⟩
  have F1 := Lib.hid f1
  replace d1 := cellOnw F1.out D1.out; replace d2 := cellOnw F1.out D2.out; replace d3 := cellOnw F1.out D3.out; replace d4 := cellOnw F1.out D4.out
  clear f1
  cases q with
  | false =>
    have HZ := Lib.hid (show R = [] by rw [HR.out]; simp)
    go_wp2
    go_ret
    exact ⟨_, rfl, by rw [HZ.out]; exact World.ownsRow_nil _ _ _ _, F0.out.trans F1.out⟩
  | true =>
    have HZ := Lib.hid (show R = entL c by rw [HR.out]; simp)
    generalize entL c = L at *
    go_wp2_with fail
    go_at_call 59; refine (HE.out _ F1.out (HB.out HQ.out)).mono ?_; rintro e2 w2 ⟨v, rfl, ho, f2⟩
    have HO := Lib.hid ho
    have F2 := Lib.hid (F1.out.trans f2)
    clear ho f2
    go_wp2
    go_ret
    exact ⟨_, rfl, by rw [HZ.out]; exact own_le HO.out (Nat.le_trans F0.out.size F1.out.size), F0.out.trans F2.out⟩
end Go.Proofs.YtpjikijfendmhaaGreat
