
/-
  The reference of overlays: whether an overlay is valid; its entries. Nothing that was there turns.
-/
import Derived.Test.YtpjikijfendmhaaGreatRfH
namespace Go.Proofs.YtpjikijfendmhaaGreat
open Go.RowKit

/-- What the reference asks of each inserted entry, of each deleted edge. -/
def adOk (l : List Aj) (j : Nat) : Bool := idJ (l.getD j z3) && (decide (j = 0) || adjL (l.getD (j - 1) z3) (l.getD j z3))
def dlOk (p : Int → Bool) (l : List Int) (j : Nat) : Bool := (decide (j = 0) || decide (l.getD (j - 1) 0 < l.getD j 0)) && p (l.getD j 0)
theorem incJ_gd {l : List Aj} : incJ l = true ↔ ∀ i, i + 1 < l.length → adjL (l.getD i z3) (l.getD (i + 1) z3) = true := by
  constructor
  · intro h i hi
    rw [gdJ (show i < l.length by omega), gdJ hi]
    exact List.pairwise_iff_getElem.1 (incJ_iff.1 h) i (i + 1) (by omega) hi (by omega)
  · intro h
    rw [incJ_iff, List.pairwise_iff_getElem]
    intro i j hi hj hij
    obtain ⟨d, rfl⟩ : ∃ d, j = i + 1 + d := ⟨j - i - 1, by omega⟩
    clear hij
    induction d with
    | zero => have := h i hj; rwa [gdJ hi, gdJ hj] at this
    | succ d ih =>
      have h1 := ih (by omega)
      have h2 := h (i + 1 + d) (by omega)
      rw [gdJ (show i + 1 + d < l.length by omega), gdJ (show i + 1 + d + 1 < l.length by omega)] at h2
      exact adjL_tr h1 h2
theorem ad_all (l : List Aj) : (List.range l.length).all (adOk l) = (l.all idJ && incJ l) := by
  rw [Bool.eq_iff_iff, Bool.and_eq_true, List.all_eq_true, List.all_eq_true, incJ_gd]
  unfold adOk
  simp only [List.mem_range, Bool.and_eq_true, Bool.or_eq_true, decide_eq_true_eq]
  constructor
  · intro h
    refine ⟨fun x hx => ?_, fun i hi => ?_⟩
    · obtain ⟨i, hi, rfl⟩ := List.getElem_of_mem hx
      have := (h i hi).1
      rwa [gdJ hi] at this
    · rcases (h (i + 1) hi).2 with q | q
      · omega
      · exact q
  · rintro ⟨h1, h2⟩ i hi
    refine ⟨by rw [gdJ hi]; exact h1 _ (List.getElem_mem hi), ?_⟩
    rcases Nat.eq_zero_or_pos i with e | e
    · exact .inl e
    · refine .inr ?_
      have := h2 (i - 1) (by omega)
      rwa [show i - 1 + 1 = i by omega] at this
theorem dl_all (p : Int → Bool) (l : List Int) : (List.range l.length).all (dlOk p l) = (incI l && l.all p) := by
  rw [Bool.eq_iff_iff, Bool.and_eq_true, List.all_eq_true, List.all_eq_true, incI_at]
  unfold dlOk
  simp only [List.mem_range, Bool.and_eq_true, Bool.or_eq_true, decide_eq_true_eq]
  constructor
  · intro h
    refine ⟨fun i hi => ?_, fun x hx => ?_⟩
    · rcases (h (i + 1) hi).1 with q | q
      · omega
      · exact q
    · obtain ⟨i, hi, rfl⟩ := List.getElem_of_mem hx
      have := (h i hi).2
      rwa [gd hi] at this
  · rintro ⟨h1, h2⟩ i hi
    refine ⟨?_, by rw [gd hi]; exact h2 _ (List.getElem_mem hi)⟩
    rcases Nat.eq_zero_or_pos i with e | e
    · exact .inl e
    · refine .inr ?_
      have := h1 (i - 1) (by omega)
      rwa [show i - 1 + 1 = i by omega] at this
set_option maxHeartbeats 25600000 in
set_option maxRecDepth 100000 in
theorem rvalid13_any (o : Ov) (A : OA) (w : World) (hO : OIn w o A) (hs : SmO o) (hz : o.c.ts.length + o.ads.length ≤ 50000) :
    Calls Tryz.prog 13 #[ovv o A] w (FwB w (valO o)) := by
  obtain ⟨w0, hw0⟩ : ∃ w0, w.alloc (.cells (ovC o A) 27) = w0 := ⟨_, rfl⟩
  obtain ⟨B3, hB3⟩ : ∃ B3, B3 = w.heap.size := ⟨_, rfl⟩
  have B0 := Lib.hid (show OB w0 B3 o A from ⟨by rw [hB3, ← hw0]; exact Bk.new _ _ _⟩)
  have F0 := Lib.hid (show Fuw w w0 by rw [← hw0]; exact fuwA _ _)
  have HO := Lib.hid (hO.on F0.out)
  have HV := Lib.hid (rvalid12_any o.c A.c w0 HO.out.c hs.c)
  have HEn := Lib.hid (fun w' (hf : Fuw w0 w') => rent12_any o.c A.c w' (HO.out.c.on hf) hs.c)
  have HRe := Lib.hid (fun w' (hf : Fuw w0 w') (hv : valC o.c = true) => rents_any o A w' (HO.out.on hf) hs hv hz)
  obtain ⟨R, hR⟩ : ∃ R, R = valO o := ⟨_, rfl⟩
  have HR := Lib.hid (show R = (valC o.c && (List.range o.ads.length).all (adOk o.ads) && (List.range o.dls.length).all (dlOk (fun n => (edg (entL o.c)).contains n) o.dls) && dstI (edg (entR o))) from by rw [hR, ← rvalO_eq, ad_all, dl_all]; rfl)
  rw [← hR]
  have hal : o.ads.length ≤ 50000 := by omega
  have hdl := hs.d
  have HI64 := Lib.hid (fun hv : valC o.c = true => ent_i64 HO.out.c (valC_iff.1 hv).b)
  have HI64R := Lib.hid (fun hv : valC o.c = true => show ∀ x ∈ entR o, I64 x.1 ∧ I64 x.2.1 ∧ I64 x.2.2 by
    have := entR_i64 HO.out hv o.ads.length
    rw [List.take_length] at this; exact this)
  have HLR := Lib.hid (fun hv : valC o.c = true => show (entR o).length ≤ 50000 by
    have h := (fold_perm o.ads (keepD o.dls (entL o.c))).length_eq
    have h1 := keepD_len o.dls (entL o.c)
    rw [ent_len (valC_iff.1 hv).b] at h1
    rw [List.length_append] at h
    show (o.ads.foldl wthV (keepD o.dls (entL o.c))).length ≤ _
    omega)
  have x1 := B0.out.c1; have x2 := B0.out.c2; have x3 := B0.out.c3; have x4 := B0.out.c4; have x5 := B0.out.c5; have x6 := B0.out.c6
  unfold colv colC at HV HEn
  unfold ovv at HRe ⊢
  unfold ovC at hw0 HRe ⊢
  clear hO hs hR hz
  obtain ⟨q, hq⟩ : ∃ q, valC o.c = q := ⟨_, rfl⟩
  have HQ := Lib.hid hq
  rw [hq] at HR HV
  clear hq
  go_enter Tryz.func13, Tryz.ntmps13
  go_upto_region 1 with fail
  rw [← hB3]
  clear hw0 hB3
  go_wp2_with fail
  go_at_call 33; refine HV.out.mono ?_; rintro e1 w1 ⟨rfl, f1⟩
  have F1 := Lib.hid f1
  clear f1 x1 x2 x3 x4 x5 x6
  cases q with
  | false =>
    have HZ := Lib.hid (show R = false by rw [HR.out]; rfl)
    go_wp2
    go_ret
    exact ⟨ret_bool HZ.out.symm, F0.out.trans F1.out⟩
  | true =>
    have HZ := Lib.hid (show R = ((List.range o.ads.length).all (adOk o.ads) && (List.range o.dls.length).all (dlOk (fun n => (edg (entL o.c)).contains n) o.dls) && dstI (edg (entR o))) by rw [HR.out]; simp)
    clear HR
    go_wp2
    go_loopw [3] (fun iv wr => ∃ i : Nat, iv = .int .i64 i ∧ i ≤ o.ads.length ∧ Hid (∀ j, j < i → adOk o.ads j = true) ∧ Hid (Fuw w0 wr)) (fun iv _ => o.ads.length - (RowKit.intOf iv).toNat)
    case atStart => exact ⟨0, rfl, Nat.zero_le _, Lib.hid (fun j h => absurd h (Nat.not_lt_zero j)), F1⟩
    case round =>
      obtain ⟨i, rfl, hi, HA, hf⟩ := hrel
      have x5 := (B0.out.on hf.out).c5
      by_cases hlt : i < o.ads.length
      · have HFl := Lib.hid (fun h : adOk o.ads i = false => show R = false by rw [HZ.out, all_rng hlt h]; rfl)
        have HTr := Lib.hid (fun h : adOk o.ads i = true => show ∀ j, j < i + 1 → adOk o.ads j = true from fun j hj => by
          rcases Nat.lt_or_eq_of_le (Nat.le_of_lt_succ hj) with q | q
          · exact HA.out j q
          · rw [q]; exact h)
        have HAd := Lib.hid (show adOk o.ads i = (idJ o.ads[i] && (decide (i = 0) || adjL (o.ads.getD (i - 1) z3) o.ads[i])) by unfold adOk; rw [gdJ hlt])
        obtain ⟨b, f, e5, hc⟩ := (slJ_on hf.out HO.out.a).get hlt
        obtain ⟨-, -, -, c0, c1, c2⟩ := hc
        have HPv := Lib.hid (fun (j : Nat) (h : j < o.ads.length) w' (hf' : Fuw w0 w') => (slJ_on hf' HO.out.a).get h)
        rw [e5] at x5 HPv
        have E5 := Lib.hid e5
        have HLs := Lib.hid (fun (m : Nat) w' => less_any (o.ads.getD m z3) o.ads[i] w')
        generalize o.ads[i] = y at *
        obtain ⟨y0, y1, y2⟩ := y
        simp only at c0 c1 c2 HAd HLs
        have HJ := Lib.hid (show idJ (y0, y1, y2) = (idB y0 && idB y1 && idB y2) from rfl)
        have z1 : (i : Int) < (o.ads.length : Int) := by omega
        clear e5
        go_upto_region 7 with fail
        obtain ⟨W, hW⟩ : ∃ W, wr.alloc (.cells #[.int .i64 y0, .int .i64 y1, .int .i64 y2] 42) = W := ⟨_, rfl⟩
        have FWr := Lib.hid (show Fuw wr W by rw [← hW]; exact fuwA _ _)
        have FW := Lib.hid (hf.out.trans FWr.out)
        obtain ⟨C, hC⟩ : ∃ C, C = wr.heap.size := ⟨_, rfl⟩
        have BC := Lib.hid (show Bk W C #[.int .i64 y0, .int .i64 y1, .int .i64 y2] 42 by rw [hC, ← hW]; exact Bk.new _ _ _)
        have BOW := Lib.hid (B0.out.on FW.out)
        rw [hW]
        rw [← hC]
        clear hW hC c0 c1 c2 x5
        have x5 := BOW.out.c5
        rw [E5.out] at x5
        have k0 := BC.out.c 0; have k1 := BC.out.c 1; have k2 := BC.out.c 2
        simp only [List.getElem?_toArray, List.getElem?_cons_zero, List.getElem?_cons_succ] at k0 k1 k2
        have HI0 := Lib.hid (fun w' => rid13_any y0 w')
        have HI1 := Lib.hid (fun w' => rid13_any y1 w')
        have HI2 := Lib.hid (fun w' => rid13_any y2 w')
        have HQ0 := Lib.hid (fun m => rid13_q y0 (W.drewN m))
        have HQ1 := Lib.hid (fun m => rid13_q y1 (W.drewN m))
        have HQ2 := Lib.hid (fun m => rid13_q y2 (W.drewN m))
        generalize idJ (y0, y1, y2) = qj at *
        generalize idB y0 = t0 at *
        generalize idB y1 = t1 at *
        generalize idB y2 = t2 at *
        cases t0 with
        | false =>
          have HY := Lib.hid (HFl.out (by rw [HAd.out, HJ.out]; rfl))
          obtain ⟨S, hS⟩ : ∃ S : World → Prop, S = (fun w8 => OB w8 B3 o A ∧ Bk w8 C #[.int .i64 y0, .int .i64 y1, .int .i64 y2] 42) := ⟨_, rfl⟩
          have HS4 := Lib.hid hS
          clear hS
          refine lst_start [] S (by kernel_rfl) ?_
          have hS0 : S W.drew := by rw [HS4.out]; exact ⟨BOW.out.on (fuw_dr W 1), BC.out.on (fuw_dr W 1)⟩
          refine takeP (i := 0) (d := some 26) (v := ?_) rfl rfl (by kernel_rfl) (by kernel_rfl) (by kernel_rfl) (by kernel_rfl) (by kernel_rfl) (fun _ _ _ h => h) (Or.inl ⟨by rfl, ?_⟩) (by first | exact Or.inr (by assumption) | exact Or.inl (by kernel_rfl)) ?_
          rotate_left
          · ((intro w8 _; go_simp); try with_reducible rfl)
          try simp only [Act.put]
          try simp only [List.setIfInBounds_toArray]
          try simp only [List.set_cons_succ]
          try simp only [List.set_cons_zero]
          refine takeL (i := 1) (d := some 27) (v := ?_) rfl rfl (by kernel_rfl) (by kernel_rfl) (by kernel_rfl) (by kernel_rfl) (by kernel_rfl) (fun _ _ _ h => h) (Or.inl ⟨by rfl, ?_⟩) (by assumption) ?_
          rotate_left
          · ((intro w8 hSw; rw [HS4.out] at hSw; obtain ⟨h0, hC⟩ := hSw; have h5 := h0.c5; rw [E5.out] at h5; have q0 := hC.c 0; have q1 := hC.c 1; have q2 := hC.c 2; simp only [List.getElem?_toArray, List.getElem?_cons_zero, List.getElem?_cons_succ] at q0 q1 q2; go_simp); try with_reducible rfl)
          try simp only [Act.put]
          try simp only [List.setIfInBounds_toArray]
          try simp only [List.set_cons_succ]
          try simp only [List.set_cons_zero]
          refine oneL (i := 2) rfl (by kernel_rfl) (fun K8 hK8 => ?_)
          go_simp
          go_at_call 42; refine (HI0.out _).mono ?_; rintro e9 w9 ⟨rfl, rfl⟩
          refine hK8 _ _ hS0 ?_
          try simp only [Act.put]
          try simp only [List.setIfInBounds_toArray]
          try simp only [List.set_cons_succ]
          try simp only [List.set_cons_zero]
          refine takeP (i := 3) (d := some 29) (v := ?_) rfl rfl (by kernel_rfl) (by kernel_rfl) (by kernel_rfl) (by kernel_rfl) (by kernel_rfl) (fun _ _ _ h => h) (Or.inl ⟨by rfl, ?_⟩) (by first | exact Or.inr (by assumption) | exact Or.inl (by kernel_rfl)) ?_
          rotate_left
          · ((intro w8 _; go_simp); try with_reducible rfl)
          try simp only [Act.put]
          try simp only [List.setIfInBounds_toArray]
          try simp only [List.set_cons_succ]
          try simp only [List.set_cons_zero]
          refine takeP (i := 4) (d := some 30) (v := ?_) rfl rfl (by kernel_rfl) (by kernel_rfl) (by kernel_rfl) (by kernel_rfl) (by kernel_rfl) (fun _ _ _ h => h) (Or.inl ⟨by rfl, ?_⟩) (by first | exact Or.inr (by assumption) | exact Or.inl (by kernel_rfl)) ?_
          rotate_left
          · ((intro w8 _; go_simp); try with_reducible rfl)
          try simp only [Act.put]
          try simp only [List.setIfInBounds_toArray]
          try simp only [List.set_cons_succ]
          try simp only [List.set_cons_zero]
          refine takeP (i := 5) (d := some 31) (v := undef) rfl rfl (by kernel_rfl) (by kernel_rfl) (by kernel_rfl) (by kernel_rfl) (by kernel_rfl) (fun _ _ _ h => h) (Or.inr ⟨by rfl, rfl⟩) (by first | exact Or.inr (by assumption) | exact Or.inl (by kernel_rfl)) ?_
          try simp only [Act.put]
          try simp only [List.setIfInBounds_toArray]
          try simp only [List.set_cons_succ]
          try simp only [List.set_cons_zero]
          refine takeP (i := 6) (d := some 32) (v := undef) rfl rfl (by kernel_rfl) (by kernel_rfl) (by kernel_rfl) (by kernel_rfl) (by kernel_rfl) (fun _ _ _ h => h) (Or.inr ⟨by rfl, rfl⟩) (by first | exact Or.inr (by assumption) | exact Or.inl (by kernel_rfl)) ?_
          try simp only [Act.put]
          try simp only [List.setIfInBounds_toArray]
          try simp only [List.set_cons_succ]
          try simp only [List.set_cons_zero]
          refine takeP (i := 7) (d := some 33) (v := undef) rfl rfl (by kernel_rfl) (by kernel_rfl) (by kernel_rfl) (by kernel_rfl) (by kernel_rfl) (fun _ _ _ h => h) (Or.inr ⟨by rfl, rfl⟩) (by first | exact Or.inr (by assumption) | exact Or.inl (by kernel_rfl)) ?_
          try simp only [Act.put]
          try simp only [List.setIfInBounds_toArray]
          try simp only [List.set_cons_succ]
          try simp only [List.set_cons_zero]
          refine takeP (i := 8) (d := some 34) (v := undef) rfl rfl (by kernel_rfl) (by kernel_rfl) (by kernel_rfl) (by kernel_rfl) (by kernel_rfl) (fun _ _ _ h => h) (Or.inr ⟨by rfl, rfl⟩) (by first | exact Or.inr (by assumption) | exact Or.inl (by kernel_rfl)) ?_
          try simp only [Act.put]
          try simp only [List.setIfInBounds_toArray]
          try simp only [List.set_cons_succ]
          try simp only [List.set_cons_zero]
          refine takeP (i := 9) (d := some 35) (v := ?_) rfl rfl (by kernel_rfl) (by kernel_rfl) (by kernel_rfl) (by kernel_rfl) (by kernel_rfl) (fun _ _ _ h => h) (Or.inl ⟨by rfl, ?_⟩) (by first | exact Or.inr (by assumption) | exact Or.inl (by kernel_rfl)) ?_
          rotate_left
          · ((intro w8 _; go_simp); try with_reducible rfl)
          try simp only [Act.put]
          try simp only [List.setIfInBounds_toArray]
          try simp only [List.set_cons_succ]
          try simp only [List.set_cons_zero]
          refine takeP (i := 10) (d := some 36) (v := ?_) rfl rfl (by kernel_rfl) (by kernel_rfl) (by kernel_rfl) (by kernel_rfl) (by kernel_rfl) (fun _ _ _ h => h) (Or.inl ⟨by rfl, ?_⟩) (by first | exact Or.inr (by assumption) | exact Or.inl (by kernel_rfl)) ?_
          rotate_left
          · ((intro w8 _; go_simp); try with_reducible rfl)
          try simp only [Act.put]
          try simp only [List.setIfInBounds_toArray]
          try simp only [List.set_cons_succ]
          try simp only [List.set_cons_zero]
          refine takeP (i := 11) (d := some 37) (v := undef) rfl rfl (by kernel_rfl) (by kernel_rfl) (by kernel_rfl) (by kernel_rfl) (by kernel_rfl) (fun _ _ _ h => h) (Or.inr ⟨by rfl, rfl⟩) (by first | exact Or.inr (by assumption) | exact Or.inl (by kernel_rfl)) ?_
          try simp only [Act.put]
          try simp only [List.setIfInBounds_toArray]
          try simp only [List.set_cons_succ]
          try simp only [List.set_cons_zero]
          refine takeP (i := 12) (d := some 38) (v := undef) rfl rfl (by kernel_rfl) (by kernel_rfl) (by kernel_rfl) (by kernel_rfl) (by kernel_rfl) (fun _ _ _ h => h) (Or.inr ⟨by rfl, rfl⟩) (by first | exact Or.inr (by assumption) | exact Or.inl (by kernel_rfl)) ?_
          try simp only [Act.put]
          try simp only [List.setIfInBounds_toArray]
          try simp only [List.set_cons_succ]
          try simp only [List.set_cons_zero]
          refine takeP (i := 13) (d := some 39) (v := undef) rfl rfl (by kernel_rfl) (by kernel_rfl) (by kernel_rfl) (by kernel_rfl) (by kernel_rfl) (fun _ _ _ h => h) (Or.inr ⟨by rfl, rfl⟩) (by first | exact Or.inr (by assumption) | exact Or.inl (by kernel_rfl)) ?_
          try simp only [Act.put]
          try simp only [List.setIfInBounds_toArray]
          try simp only [List.set_cons_succ]
          try simp only [List.set_cons_zero]
          refine takeP (i := 14) (d := some 40) (v := undef) rfl rfl (by kernel_rfl) (by kernel_rfl) (by kernel_rfl) (by kernel_rfl) (by kernel_rfl) (fun _ _ _ h => h) (Or.inr ⟨by rfl, rfl⟩) (by first | exact Or.inr (by assumption) | exact Or.inl (by kernel_rfl)) ?_
          try simp only [Act.put]
          try simp only [List.setIfInBounds_toArray]
          try simp only [List.set_cons_succ]
          try simp only [List.set_cons_zero]
          refine takeP (i := 15) (d := some 41) (v := ?_) rfl rfl (by kernel_rfl) (by kernel_rfl) (by kernel_rfl) (by kernel_rfl) (by kernel_rfl) (fun _ _ _ h => h) (Or.inl ⟨by rfl, ?_⟩) (by first | exact Or.inr (by assumption) | exact Or.inl (by kernel_rfl)) ?_
          rotate_left
          · ((intro w8 _; go_simp); try with_reducible rfl)
          try simp only [Act.put]
          try simp only [List.setIfInBounds_toArray]
          try simp only [List.set_cons_succ]
          try simp only [List.set_cons_zero]
          refine takeP (i := 16) (d := some 42) (v := ?_) rfl rfl (by kernel_rfl) (by kernel_rfl) (by kernel_rfl) (by kernel_rfl) (by kernel_rfl) (fun _ _ _ h => h) (Or.inl ⟨by rfl, ?_⟩) (by first | exact Or.inr (by assumption) | exact Or.inl (by kernel_rfl)) ?_
          rotate_left
          · ((intro w8 _; go_simp); try with_reducible rfl)
          try simp only [Act.put]
          try simp only [List.setIfInBounds_toArray]
          try simp only [List.set_cons_succ]
          try simp only [List.set_cons_zero]
          refine takeP (i := 17) (d := some 43) (v := undef) rfl rfl (by kernel_rfl) (by kernel_rfl) (by kernel_rfl) (by kernel_rfl) (by kernel_rfl) (fun _ _ _ h => h) (Or.inr ⟨by rfl, rfl⟩) (by first | exact Or.inr (by assumption) | exact Or.inl (by kernel_rfl)) ?_
          try simp only [Act.put]
          try simp only [List.setIfInBounds_toArray]
          try simp only [List.set_cons_succ]
          try simp only [List.set_cons_zero]
          refine takeP (i := 18) (d := some 44) (v := undef) rfl rfl (by kernel_rfl) (by kernel_rfl) (by kernel_rfl) (by kernel_rfl) (by kernel_rfl) (fun _ _ _ h => h) (Or.inr ⟨by rfl, rfl⟩) (by first | exact Or.inr (by assumption) | exact Or.inl (by kernel_rfl)) ?_
          try simp only [Act.put]
          try simp only [List.setIfInBounds_toArray]
          try simp only [List.set_cons_succ]
          try simp only [List.set_cons_zero]
          refine takeP (i := 19) (d := some 45) (v := undef) rfl rfl (by kernel_rfl) (by kernel_rfl) (by kernel_rfl) (by kernel_rfl) (by kernel_rfl) (fun _ _ _ h => h) (Or.inr ⟨by rfl, rfl⟩) (by first | exact Or.inr (by assumption) | exact Or.inl (by kernel_rfl)) ?_
          try simp only [Act.put]
          try simp only [List.setIfInBounds_toArray]
          try simp only [List.set_cons_succ]
          try simp only [List.set_cons_zero]
          refine takeP (i := 20) (d := some 46) (v := undef) rfl rfl (by kernel_rfl) (by kernel_rfl) (by kernel_rfl) (by kernel_rfl) (by kernel_rfl) (fun _ _ _ h => h) (Or.inr ⟨by rfl, rfl⟩) (by first | exact Or.inr (by assumption) | exact Or.inl (by kernel_rfl)) ?_
          try simp only [Act.put]
          try simp only [List.setIfInBounds_toArray]
          try simp only [List.set_cons_succ]
          try simp only [List.set_cons_zero]
          refine takeP (i := 21) (d := some 47) (v := undef) rfl rfl (by kernel_rfl) (by kernel_rfl) (by kernel_rfl) (by kernel_rfl) (by kernel_rfl) (fun _ _ _ h => h) (Or.inr ⟨by rfl, rfl⟩) (by first | exact Or.inr (by assumption) | exact Or.inl (by kernel_rfl)) ?_
          try simp only [Act.put]
          try simp only [List.setIfInBounds_toArray]
          try simp only [List.set_cons_succ]
          try simp only [List.set_cons_zero]
          refine takeP (i := 22) (d := some 48) (v := undef) rfl rfl (by kernel_rfl) (by kernel_rfl) (by kernel_rfl) (by kernel_rfl) (by kernel_rfl) (fun _ _ _ h => h) (Or.inr ⟨by rfl, rfl⟩) (by first | exact Or.inr (by assumption) | exact Or.inl (by kernel_rfl)) ?_
          try simp only [Act.put]
          try simp only [List.setIfInBounds_toArray]
          try simp only [List.set_cons_succ]
          try simp only [List.set_cons_zero]
          refine takeP (i := 23) (d := some 49) (v := undef) rfl rfl (by kernel_rfl) (by kernel_rfl) (by kernel_rfl) (by kernel_rfl) (by kernel_rfl) (fun _ _ _ h => h) (Or.inr ⟨by rfl, rfl⟩) (by first | exact Or.inr (by assumption) | exact Or.inl (by kernel_rfl)) ?_
          try simp only [Act.put]
          try simp only [List.setIfInBounds_toArray]
          try simp only [List.set_cons_succ]
          try simp only [List.set_cons_zero]
          refine takeP (i := 24) (d := some 50) (v := undef) rfl rfl (by kernel_rfl) (by kernel_rfl) (by kernel_rfl) (by kernel_rfl) (by kernel_rfl) (fun _ _ _ h => h) (Or.inr ⟨by rfl, rfl⟩) (by first | exact Or.inr (by assumption) | exact Or.inl (by kernel_rfl)) ?_
          try simp only [Act.put]
          try simp only [List.setIfInBounds_toArray]
          try simp only [List.set_cons_succ]
          try simp only [List.set_cons_zero]
          refine takeP (i := 25) (d := some 51) (v := undef) rfl rfl (by kernel_rfl) (by kernel_rfl) (by kernel_rfl) (by kernel_rfl) (by kernel_rfl) (fun _ _ _ h => h) (Or.inr ⟨by rfl, rfl⟩) (by first | exact Or.inr (by assumption) | exact Or.inl (by kernel_rfl)) ?_
          try simp only [Act.put]
          try simp only [List.setIfInBounds_toArray]
          try simp only [List.set_cons_succ]
          try simp only [List.set_cons_zero]
          refine takeP (i := 26) (d := some 52) (v := undef) rfl rfl (by kernel_rfl) (by kernel_rfl) (by kernel_rfl) (by kernel_rfl) (by kernel_rfl) (fun _ _ _ h => h) (Or.inr ⟨by rfl, rfl⟩) (by first | exact Or.inr (by assumption) | exact Or.inl (by kernel_rfl)) ?_
          try simp only [Act.put]
          try simp only [List.setIfInBounds_toArray]
          try simp only [List.set_cons_succ]
          try simp only [List.set_cons_zero]
          refine takeP (i := 27) (d := some 53) (v := undef) rfl rfl (by kernel_rfl) (by kernel_rfl) (by kernel_rfl) (by kernel_rfl) (by kernel_rfl) (fun _ _ _ h => h) (Or.inr ⟨by rfl, rfl⟩) (by first | exact Or.inr (by assumption) | exact Or.inl (by kernel_rfl)) ?_
          try simp only [Act.put]
          try simp only [List.setIfInBounds_toArray]
          try simp only [List.set_cons_succ]
          try simp only [List.set_cons_zero]
          refine takeP (i := 28) (d := some 54) (v := undef) rfl rfl (by kernel_rfl) (by kernel_rfl) (by kernel_rfl) (by kernel_rfl) (by kernel_rfl) (fun _ _ _ h => h) (Or.inr ⟨by rfl, rfl⟩) (by first | exact Or.inr (by assumption) | exact Or.inl (by kernel_rfl)) ?_
          try simp only [Act.put]
          try simp only [List.setIfInBounds_toArray]
          try simp only [List.set_cons_succ]
          try simp only [List.set_cons_zero]
          refine takeP (i := 29) (d := some 55) (v := undef) rfl rfl (by kernel_rfl) (by kernel_rfl) (by kernel_rfl) (by kernel_rfl) (by kernel_rfl) (fun _ _ _ h => h) (Or.inr ⟨by rfl, rfl⟩) (by first | exact Or.inr (by assumption) | exact Or.inl (by kernel_rfl)) ?_
          try simp only [Act.put]
          try simp only [List.setIfInBounds_toArray]
          try simp only [List.set_cons_succ]
          try simp only [List.set_cons_zero]
          refine takeP (i := 30) (d := some 56) (v := ?_) rfl rfl (by kernel_rfl) (by kernel_rfl) (by kernel_rfl) (by kernel_rfl) (by kernel_rfl) (fun _ _ _ h => h) (Or.inl ⟨by rfl, ?_⟩) (by first | exact Or.inr (by assumption) | exact Or.inl (by kernel_rfl)) ?_
          rotate_left
          · ((intro w8 _; go_simp); try with_reducible rfl)
          try simp only [Act.put]
          try simp only [List.setIfInBounds_toArray]
          try simp only [List.set_cons_succ]
          try simp only [List.set_cons_zero]
          refine lst_done (by kernel_rfl) ?_ _
          clear k0 k1 k2 x5
          go_wp2
          go_ret
          exact ⟨ret_bool HY.out.symm, F0.out.trans (FW.out.trans (fuw_dr W 1))⟩
        | true =>
          cases t1 with
          | false =>
            have HY := Lib.hid (HFl.out (by rw [HAd.out, HJ.out]; rfl))
            obtain ⟨S, hS⟩ : ∃ S : World → Prop, S = (fun w8 => OB w8 B3 o A ∧ Bk w8 C #[.int .i64 y0, .int .i64 y1, .int .i64 y2] 42) := ⟨_, rfl⟩
            have HS4 := Lib.hid hS
            clear hS
            refine lst_start [] S (by kernel_rfl) ?_
            have hS0 : S W.drew := by rw [HS4.out]; exact ⟨BOW.out.on (fuw_dr W 1), BC.out.on (fuw_dr W 1)⟩
            refine takeP (i := 0) (d := some 26) (v := ?_) rfl rfl (by kernel_rfl) (by kernel_rfl) (by kernel_rfl) (by kernel_rfl) (by kernel_rfl) (fun _ _ _ h => h) (Or.inl ⟨by rfl, ?_⟩) (by first | exact Or.inr (by assumption) | exact Or.inl (by kernel_rfl)) ?_
            rotate_left
            · ((intro w8 _; go_simp); try with_reducible rfl)
            try simp only [Act.put]
            try simp only [List.setIfInBounds_toArray]
            try simp only [List.set_cons_succ]
            try simp only [List.set_cons_zero]
            refine takeL (i := 1) (d := some 27) (v := ?_) rfl rfl (by kernel_rfl) (by kernel_rfl) (by kernel_rfl) (by kernel_rfl) (by kernel_rfl) (fun _ _ _ h => h) (Or.inl ⟨by rfl, ?_⟩) (by assumption) ?_
            rotate_left
            · ((intro w8 hSw; rw [HS4.out] at hSw; obtain ⟨h0, hC⟩ := hSw; have h5 := h0.c5; rw [E5.out] at h5; have q0 := hC.c 0; have q1 := hC.c 1; have q2 := hC.c 2; simp only [List.getElem?_toArray, List.getElem?_cons_zero, List.getElem?_cons_succ] at q0 q1 q2; go_simp); try with_reducible rfl)
            try simp only [Act.put]
            try simp only [List.setIfInBounds_toArray]
            try simp only [List.set_cons_succ]
            try simp only [List.set_cons_zero]
            refine oneL (i := 2) rfl (by kernel_rfl) (fun K8 hK8 => ?_)
            go_simp
            go_at_call 42; refine (HI0.out _).mono ?_; rintro e9 w9 ⟨rfl, rfl⟩
            refine hK8 _ _ hS0 ?_
            try simp only [Act.put]
            try simp only [List.setIfInBounds_toArray]
            try simp only [List.set_cons_succ]
            try simp only [List.set_cons_zero]
            refine takeP (i := 3) (d := some 29) (v := ?_) rfl rfl (by kernel_rfl) (by kernel_rfl) (by kernel_rfl) (by kernel_rfl) (by kernel_rfl) (fun _ _ _ h => h) (Or.inl ⟨by rfl, ?_⟩) (by first | exact Or.inr (by assumption) | exact Or.inl (by kernel_rfl)) ?_
            rotate_left
            · ((intro w8 _; go_simp); try with_reducible rfl)
            try simp only [Act.put]
            try simp only [List.setIfInBounds_toArray]
            try simp only [List.set_cons_succ]
            try simp only [List.set_cons_zero]
            refine takeP (i := 4) (d := some 30) (v := ?_) rfl rfl (by kernel_rfl) (by kernel_rfl) (by kernel_rfl) (by kernel_rfl) (by kernel_rfl) (fun _ _ _ h => h) (Or.inl ⟨by rfl, ?_⟩) (by first | exact Or.inr (by assumption) | exact Or.inl (by kernel_rfl)) ?_
            rotate_left
            · ((intro w8 _; go_simp); try with_reducible rfl)
            try simp only [Act.put]
            try simp only [List.setIfInBounds_toArray]
            try simp only [List.set_cons_succ]
            try simp only [List.set_cons_zero]
            refine takeP (i := 5) (d := some 31) (v := ?_) rfl rfl (by kernel_rfl) (by kernel_rfl) (by kernel_rfl) (by kernel_rfl) (by kernel_rfl) (fun _ _ _ h => h) (Or.inl ⟨by rfl, ?_⟩) (by first | exact Or.inr (by assumption) | exact Or.inl (by kernel_rfl)) ?_
            rotate_left
            · ((intro w8 _; go_simp); try with_reducible rfl)
            try simp only [Act.put]
            try simp only [List.setIfInBounds_toArray]
            try simp only [List.set_cons_succ]
            try simp only [List.set_cons_zero]
            refine takeL (i := 6) (d := some 32) (v := ?_) rfl rfl (by kernel_rfl) (by kernel_rfl) (by kernel_rfl) (by kernel_rfl) (by kernel_rfl) (fun _ _ _ h => h) (Or.inl ⟨by rfl, ?_⟩) (by assumption) ?_
            rotate_left
            · ((intro w8 hSw; rw [HS4.out] at hSw; obtain ⟨h0, hC⟩ := hSw; have h5 := h0.c5; rw [E5.out] at h5; have q0 := hC.c 0; have q1 := hC.c 1; have q2 := hC.c 2; simp only [List.getElem?_toArray, List.getElem?_cons_zero, List.getElem?_cons_succ] at q0 q1 q2; go_simp); try with_reducible rfl)
            try simp only [Act.put]
            try simp only [List.setIfInBounds_toArray]
            try simp only [List.set_cons_succ]
            try simp only [List.set_cons_zero]
            refine oneL (i := 7) rfl (by kernel_rfl) (fun K8 hK8 => ?_)
            go_simp
            go_at_call 42; refine (HI1.out _).mono ?_; rintro e9 w9 ⟨rfl, rfl⟩
            refine hK8 _ _ hS0 ?_
            try simp only [Act.put]
            try simp only [List.setIfInBounds_toArray]
            try simp only [List.set_cons_succ]
            try simp only [List.set_cons_zero]
            refine takeP (i := 8) (d := some 34) (v := ?_) rfl rfl (by kernel_rfl) (by kernel_rfl) (by kernel_rfl) (by kernel_rfl) (by kernel_rfl) (fun _ _ _ h => h) (Or.inl ⟨by rfl, ?_⟩) (by first | exact Or.inr (by assumption) | exact Or.inl (by kernel_rfl)) ?_
            rotate_left
            · ((intro w8 _; go_simp); try with_reducible rfl)
            try simp only [Act.put]
            try simp only [List.setIfInBounds_toArray]
            try simp only [List.set_cons_succ]
            try simp only [List.set_cons_zero]
            refine takeP (i := 9) (d := some 35) (v := ?_) rfl rfl (by kernel_rfl) (by kernel_rfl) (by kernel_rfl) (by kernel_rfl) (by kernel_rfl) (fun _ _ _ h => h) (Or.inl ⟨by rfl, ?_⟩) (by first | exact Or.inr (by assumption) | exact Or.inl (by kernel_rfl)) ?_
            rotate_left
            · ((intro w8 _; go_simp); try with_reducible rfl)
            try simp only [Act.put]
            try simp only [List.setIfInBounds_toArray]
            try simp only [List.set_cons_succ]
            try simp only [List.set_cons_zero]
            refine takeP (i := 10) (d := some 36) (v := ?_) rfl rfl (by kernel_rfl) (by kernel_rfl) (by kernel_rfl) (by kernel_rfl) (by kernel_rfl) (fun _ _ _ h => h) (Or.inl ⟨by rfl, ?_⟩) (by first | exact Or.inr (by assumption) | exact Or.inl (by kernel_rfl)) ?_
            rotate_left
            · ((intro w8 _; go_simp); try with_reducible rfl)
            try simp only [Act.put]
            try simp only [List.setIfInBounds_toArray]
            try simp only [List.set_cons_succ]
            try simp only [List.set_cons_zero]
            refine takeP (i := 11) (d := some 37) (v := undef) rfl rfl (by kernel_rfl) (by kernel_rfl) (by kernel_rfl) (by kernel_rfl) (by kernel_rfl) (fun _ _ _ h => h) (Or.inr ⟨by rfl, rfl⟩) (by first | exact Or.inr (by assumption) | exact Or.inl (by kernel_rfl)) ?_
            try simp only [Act.put]
            try simp only [List.setIfInBounds_toArray]
            try simp only [List.set_cons_succ]
            try simp only [List.set_cons_zero]
            refine takeP (i := 12) (d := some 38) (v := undef) rfl rfl (by kernel_rfl) (by kernel_rfl) (by kernel_rfl) (by kernel_rfl) (by kernel_rfl) (fun _ _ _ h => h) (Or.inr ⟨by rfl, rfl⟩) (by first | exact Or.inr (by assumption) | exact Or.inl (by kernel_rfl)) ?_
            try simp only [Act.put]
            try simp only [List.setIfInBounds_toArray]
            try simp only [List.set_cons_succ]
            try simp only [List.set_cons_zero]
            refine takeP (i := 13) (d := some 39) (v := undef) rfl rfl (by kernel_rfl) (by kernel_rfl) (by kernel_rfl) (by kernel_rfl) (by kernel_rfl) (fun _ _ _ h => h) (Or.inr ⟨by rfl, rfl⟩) (by first | exact Or.inr (by assumption) | exact Or.inl (by kernel_rfl)) ?_
            try simp only [Act.put]
            try simp only [List.setIfInBounds_toArray]
            try simp only [List.set_cons_succ]
            try simp only [List.set_cons_zero]
            refine takeP (i := 14) (d := some 40) (v := undef) rfl rfl (by kernel_rfl) (by kernel_rfl) (by kernel_rfl) (by kernel_rfl) (by kernel_rfl) (fun _ _ _ h => h) (Or.inr ⟨by rfl, rfl⟩) (by first | exact Or.inr (by assumption) | exact Or.inl (by kernel_rfl)) ?_
            try simp only [Act.put]
            try simp only [List.setIfInBounds_toArray]
            try simp only [List.set_cons_succ]
            try simp only [List.set_cons_zero]
            refine takeP (i := 15) (d := some 41) (v := ?_) rfl rfl (by kernel_rfl) (by kernel_rfl) (by kernel_rfl) (by kernel_rfl) (by kernel_rfl) (fun _ _ _ h => h) (Or.inl ⟨by rfl, ?_⟩) (by first | exact Or.inr (by assumption) | exact Or.inl (by kernel_rfl)) ?_
            rotate_left
            · ((intro w8 _; go_simp); try with_reducible rfl)
            try simp only [Act.put]
            try simp only [List.setIfInBounds_toArray]
            try simp only [List.set_cons_succ]
            try simp only [List.set_cons_zero]
            refine takeP (i := 16) (d := some 42) (v := ?_) rfl rfl (by kernel_rfl) (by kernel_rfl) (by kernel_rfl) (by kernel_rfl) (by kernel_rfl) (fun _ _ _ h => h) (Or.inl ⟨by rfl, ?_⟩) (by first | exact Or.inr (by assumption) | exact Or.inl (by kernel_rfl)) ?_
            rotate_left
            · ((intro w8 _; go_simp); try with_reducible rfl)
            try simp only [Act.put]
            try simp only [List.setIfInBounds_toArray]
            try simp only [List.set_cons_succ]
            try simp only [List.set_cons_zero]
            refine takeP (i := 17) (d := some 43) (v := undef) rfl rfl (by kernel_rfl) (by kernel_rfl) (by kernel_rfl) (by kernel_rfl) (by kernel_rfl) (fun _ _ _ h => h) (Or.inr ⟨by rfl, rfl⟩) (by first | exact Or.inr (by assumption) | exact Or.inl (by kernel_rfl)) ?_
            try simp only [Act.put]
            try simp only [List.setIfInBounds_toArray]
            try simp only [List.set_cons_succ]
            try simp only [List.set_cons_zero]
            refine takeP (i := 18) (d := some 44) (v := undef) rfl rfl (by kernel_rfl) (by kernel_rfl) (by kernel_rfl) (by kernel_rfl) (by kernel_rfl) (fun _ _ _ h => h) (Or.inr ⟨by rfl, rfl⟩) (by first | exact Or.inr (by assumption) | exact Or.inl (by kernel_rfl)) ?_
            try simp only [Act.put]
            try simp only [List.setIfInBounds_toArray]
            try simp only [List.set_cons_succ]
            try simp only [List.set_cons_zero]
            refine takeP (i := 19) (d := some 45) (v := undef) rfl rfl (by kernel_rfl) (by kernel_rfl) (by kernel_rfl) (by kernel_rfl) (by kernel_rfl) (fun _ _ _ h => h) (Or.inr ⟨by rfl, rfl⟩) (by first | exact Or.inr (by assumption) | exact Or.inl (by kernel_rfl)) ?_
            try simp only [Act.put]
            try simp only [List.setIfInBounds_toArray]
            try simp only [List.set_cons_succ]
            try simp only [List.set_cons_zero]
            refine takeP (i := 20) (d := some 46) (v := undef) rfl rfl (by kernel_rfl) (by kernel_rfl) (by kernel_rfl) (by kernel_rfl) (by kernel_rfl) (fun _ _ _ h => h) (Or.inr ⟨by rfl, rfl⟩) (by first | exact Or.inr (by assumption) | exact Or.inl (by kernel_rfl)) ?_
            try simp only [Act.put]
            try simp only [List.setIfInBounds_toArray]
            try simp only [List.set_cons_succ]
            try simp only [List.set_cons_zero]
            refine takeP (i := 21) (d := some 47) (v := undef) rfl rfl (by kernel_rfl) (by kernel_rfl) (by kernel_rfl) (by kernel_rfl) (by kernel_rfl) (fun _ _ _ h => h) (Or.inr ⟨by rfl, rfl⟩) (by first | exact Or.inr (by assumption) | exact Or.inl (by kernel_rfl)) ?_
            try simp only [Act.put]
            try simp only [List.setIfInBounds_toArray]
            try simp only [List.set_cons_succ]
            try simp only [List.set_cons_zero]
            refine takeP (i := 22) (d := some 48) (v := undef) rfl rfl (by kernel_rfl) (by kernel_rfl) (by kernel_rfl) (by kernel_rfl) (by kernel_rfl) (fun _ _ _ h => h) (Or.inr ⟨by rfl, rfl⟩) (by first | exact Or.inr (by assumption) | exact Or.inl (by kernel_rfl)) ?_
            try simp only [Act.put]
            try simp only [List.setIfInBounds_toArray]
            try simp only [List.set_cons_succ]
            try simp only [List.set_cons_zero]
            refine takeP (i := 23) (d := some 49) (v := undef) rfl rfl (by kernel_rfl) (by kernel_rfl) (by kernel_rfl) (by kernel_rfl) (by kernel_rfl) (fun _ _ _ h => h) (Or.inr ⟨by rfl, rfl⟩) (by first | exact Or.inr (by assumption) | exact Or.inl (by kernel_rfl)) ?_
            try simp only [Act.put]
            try simp only [List.setIfInBounds_toArray]
            try simp only [List.set_cons_succ]
            try simp only [List.set_cons_zero]
            refine takeP (i := 24) (d := some 50) (v := undef) rfl rfl (by kernel_rfl) (by kernel_rfl) (by kernel_rfl) (by kernel_rfl) (by kernel_rfl) (fun _ _ _ h => h) (Or.inr ⟨by rfl, rfl⟩) (by first | exact Or.inr (by assumption) | exact Or.inl (by kernel_rfl)) ?_
            try simp only [Act.put]
            try simp only [List.setIfInBounds_toArray]
            try simp only [List.set_cons_succ]
            try simp only [List.set_cons_zero]
            refine takeP (i := 25) (d := some 51) (v := undef) rfl rfl (by kernel_rfl) (by kernel_rfl) (by kernel_rfl) (by kernel_rfl) (by kernel_rfl) (fun _ _ _ h => h) (Or.inr ⟨by rfl, rfl⟩) (by first | exact Or.inr (by assumption) | exact Or.inl (by kernel_rfl)) ?_
            try simp only [Act.put]
            try simp only [List.setIfInBounds_toArray]
            try simp only [List.set_cons_succ]
            try simp only [List.set_cons_zero]
            refine takeP (i := 26) (d := some 52) (v := undef) rfl rfl (by kernel_rfl) (by kernel_rfl) (by kernel_rfl) (by kernel_rfl) (by kernel_rfl) (fun _ _ _ h => h) (Or.inr ⟨by rfl, rfl⟩) (by first | exact Or.inr (by assumption) | exact Or.inl (by kernel_rfl)) ?_
            try simp only [Act.put]
            try simp only [List.setIfInBounds_toArray]
            try simp only [List.set_cons_succ]
            try simp only [List.set_cons_zero]
            refine takeP (i := 27) (d := some 53) (v := undef) rfl rfl (by kernel_rfl) (by kernel_rfl) (by kernel_rfl) (by kernel_rfl) (by kernel_rfl) (fun _ _ _ h => h) (Or.inr ⟨by rfl, rfl⟩) (by first | exact Or.inr (by assumption) | exact Or.inl (by kernel_rfl)) ?_
            try simp only [Act.put]
            try simp only [List.setIfInBounds_toArray]
            try simp only [List.set_cons_succ]
            try simp only [List.set_cons_zero]
            refine takeP (i := 28) (d := some 54) (v := undef) rfl rfl (by kernel_rfl) (by kernel_rfl) (by kernel_rfl) (by kernel_rfl) (by kernel_rfl) (fun _ _ _ h => h) (Or.inr ⟨by rfl, rfl⟩) (by first | exact Or.inr (by assumption) | exact Or.inl (by kernel_rfl)) ?_
            try simp only [Act.put]
            try simp only [List.setIfInBounds_toArray]
            try simp only [List.set_cons_succ]
            try simp only [List.set_cons_zero]
            refine takeP (i := 29) (d := some 55) (v := undef) rfl rfl (by kernel_rfl) (by kernel_rfl) (by kernel_rfl) (by kernel_rfl) (by kernel_rfl) (fun _ _ _ h => h) (Or.inr ⟨by rfl, rfl⟩) (by first | exact Or.inr (by assumption) | exact Or.inl (by kernel_rfl)) ?_
            try simp only [Act.put]
            try simp only [List.setIfInBounds_toArray]
            try simp only [List.set_cons_succ]
            try simp only [List.set_cons_zero]
            refine takeP (i := 30) (d := some 56) (v := ?_) rfl rfl (by kernel_rfl) (by kernel_rfl) (by kernel_rfl) (by kernel_rfl) (by kernel_rfl) (fun _ _ _ h => h) (Or.inl ⟨by rfl, ?_⟩) (by first | exact Or.inr (by assumption) | exact Or.inl (by kernel_rfl)) ?_
            rotate_left
            · ((intro w8 _; go_simp); try with_reducible rfl)
            try simp only [Act.put]
            try simp only [List.setIfInBounds_toArray]
            try simp only [List.set_cons_succ]
            try simp only [List.set_cons_zero]
            refine lst_done (by kernel_rfl) ?_ _
            clear k0 k1 k2 x5
            go_wp2
            go_ret
            exact ⟨ret_bool HY.out.symm, F0.out.trans (FW.out.trans (fuw_dr W 1))⟩
          | true =>
            cases t2 with
            | false =>
              have HY := Lib.hid (HFl.out (by rw [HAd.out, HJ.out]; rfl))
              obtain ⟨S, hS⟩ : ∃ S : World → Prop, S = (fun w8 => OB w8 B3 o A ∧ Bk w8 C #[.int .i64 y0, .int .i64 y1, .int .i64 y2] 42) := ⟨_, rfl⟩
              have HS4 := Lib.hid hS
              clear hS
              refine lst_start [] S (by kernel_rfl) ?_
              have hS0 : S W.drew := by rw [HS4.out]; exact ⟨BOW.out.on (fuw_dr W 1), BC.out.on (fuw_dr W 1)⟩
              refine takeP (i := 0) (d := some 26) (v := ?_) rfl rfl (by kernel_rfl) (by kernel_rfl) (by kernel_rfl) (by kernel_rfl) (by kernel_rfl) (fun _ _ _ h => h) (Or.inl ⟨by rfl, ?_⟩) (by first | exact Or.inr (by assumption) | exact Or.inl (by kernel_rfl)) ?_
              rotate_left
              · ((intro w8 _; go_simp); try with_reducible rfl)
              try simp only [Act.put]
              try simp only [List.setIfInBounds_toArray]
              try simp only [List.set_cons_succ]
              try simp only [List.set_cons_zero]
              refine takeL (i := 1) (d := some 27) (v := ?_) rfl rfl (by kernel_rfl) (by kernel_rfl) (by kernel_rfl) (by kernel_rfl) (by kernel_rfl) (fun _ _ _ h => h) (Or.inl ⟨by rfl, ?_⟩) (by assumption) ?_
              rotate_left
              · ((intro w8 hSw; rw [HS4.out] at hSw; obtain ⟨h0, hC⟩ := hSw; have h5 := h0.c5; rw [E5.out] at h5; have q0 := hC.c 0; have q1 := hC.c 1; have q2 := hC.c 2; simp only [List.getElem?_toArray, List.getElem?_cons_zero, List.getElem?_cons_succ] at q0 q1 q2; go_simp); try with_reducible rfl)
              try simp only [Act.put]
              try simp only [List.setIfInBounds_toArray]
              try simp only [List.set_cons_succ]
              try simp only [List.set_cons_zero]
              refine oneL (i := 2) rfl (by kernel_rfl) (fun K8 hK8 => ?_)
              go_simp
              go_at_call 42; refine (HI0.out _).mono ?_; rintro e9 w9 ⟨rfl, rfl⟩
              refine hK8 _ _ hS0 ?_
              try simp only [Act.put]
              try simp only [List.setIfInBounds_toArray]
              try simp only [List.set_cons_succ]
              try simp only [List.set_cons_zero]
              refine takeP (i := 3) (d := some 29) (v := ?_) rfl rfl (by kernel_rfl) (by kernel_rfl) (by kernel_rfl) (by kernel_rfl) (by kernel_rfl) (fun _ _ _ h => h) (Or.inl ⟨by rfl, ?_⟩) (by first | exact Or.inr (by assumption) | exact Or.inl (by kernel_rfl)) ?_
              rotate_left
              · ((intro w8 _; go_simp); try with_reducible rfl)
              try simp only [Act.put]
              try simp only [List.setIfInBounds_toArray]
              try simp only [List.set_cons_succ]
              try simp only [List.set_cons_zero]
              refine takeP (i := 4) (d := some 30) (v := ?_) rfl rfl (by kernel_rfl) (by kernel_rfl) (by kernel_rfl) (by kernel_rfl) (by kernel_rfl) (fun _ _ _ h => h) (Or.inl ⟨by rfl, ?_⟩) (by first | exact Or.inr (by assumption) | exact Or.inl (by kernel_rfl)) ?_
              rotate_left
              · ((intro w8 _; go_simp); try with_reducible rfl)
              try simp only [Act.put]
              try simp only [List.setIfInBounds_toArray]
              try simp only [List.set_cons_succ]
              try simp only [List.set_cons_zero]
              refine takeP (i := 5) (d := some 31) (v := ?_) rfl rfl (by kernel_rfl) (by kernel_rfl) (by kernel_rfl) (by kernel_rfl) (by kernel_rfl) (fun _ _ _ h => h) (Or.inl ⟨by rfl, ?_⟩) (by first | exact Or.inr (by assumption) | exact Or.inl (by kernel_rfl)) ?_
              rotate_left
              · ((intro w8 _; go_simp); try with_reducible rfl)
              try simp only [Act.put]
              try simp only [List.setIfInBounds_toArray]
              try simp only [List.set_cons_succ]
              try simp only [List.set_cons_zero]
              refine takeL (i := 6) (d := some 32) (v := ?_) rfl rfl (by kernel_rfl) (by kernel_rfl) (by kernel_rfl) (by kernel_rfl) (by kernel_rfl) (fun _ _ _ h => h) (Or.inl ⟨by rfl, ?_⟩) (by assumption) ?_
              rotate_left
              · ((intro w8 hSw; rw [HS4.out] at hSw; obtain ⟨h0, hC⟩ := hSw; have h5 := h0.c5; rw [E5.out] at h5; have q0 := hC.c 0; have q1 := hC.c 1; have q2 := hC.c 2; simp only [List.getElem?_toArray, List.getElem?_cons_zero, List.getElem?_cons_succ] at q0 q1 q2; go_simp); try with_reducible rfl)
              try simp only [Act.put]
              try simp only [List.setIfInBounds_toArray]
              try simp only [List.set_cons_succ]
              try simp only [List.set_cons_zero]
              refine oneL (i := 7) rfl (by kernel_rfl) (fun K8 hK8 => ?_)
              go_simp
              go_at_call 42; refine (HI1.out _).mono ?_; rintro e9 w9 ⟨rfl, rfl⟩
              refine hK8 _ _ hS0 ?_
              try simp only [Act.put]
              try simp only [List.setIfInBounds_toArray]
              try simp only [List.set_cons_succ]
              try simp only [List.set_cons_zero]
              refine takeP (i := 8) (d := some 34) (v := ?_) rfl rfl (by kernel_rfl) (by kernel_rfl) (by kernel_rfl) (by kernel_rfl) (by kernel_rfl) (fun _ _ _ h => h) (Or.inl ⟨by rfl, ?_⟩) (by first | exact Or.inr (by assumption) | exact Or.inl (by kernel_rfl)) ?_
              rotate_left
              · ((intro w8 _; go_simp); try with_reducible rfl)
              try simp only [Act.put]
              try simp only [List.setIfInBounds_toArray]
              try simp only [List.set_cons_succ]
              try simp only [List.set_cons_zero]
              refine takeP (i := 9) (d := some 35) (v := ?_) rfl rfl (by kernel_rfl) (by kernel_rfl) (by kernel_rfl) (by kernel_rfl) (by kernel_rfl) (fun _ _ _ h => h) (Or.inl ⟨by rfl, ?_⟩) (by first | exact Or.inr (by assumption) | exact Or.inl (by kernel_rfl)) ?_
              rotate_left
              · ((intro w8 _; go_simp); try with_reducible rfl)
              try simp only [Act.put]
              try simp only [List.setIfInBounds_toArray]
              try simp only [List.set_cons_succ]
              try simp only [List.set_cons_zero]
              refine takeP (i := 10) (d := some 36) (v := ?_) rfl rfl (by kernel_rfl) (by kernel_rfl) (by kernel_rfl) (by kernel_rfl) (by kernel_rfl) (fun _ _ _ h => h) (Or.inl ⟨by rfl, ?_⟩) (by first | exact Or.inr (by assumption) | exact Or.inl (by kernel_rfl)) ?_
              rotate_left
              · ((intro w8 _; go_simp); try with_reducible rfl)
              try simp only [Act.put]
              try simp only [List.setIfInBounds_toArray]
              try simp only [List.set_cons_succ]
              try simp only [List.set_cons_zero]
              refine takeP (i := 11) (d := some 37) (v := ?_) rfl rfl (by kernel_rfl) (by kernel_rfl) (by kernel_rfl) (by kernel_rfl) (by kernel_rfl) (fun _ _ _ h => h) (Or.inl ⟨by rfl, ?_⟩) (by first | exact Or.inr (by assumption) | exact Or.inl (by kernel_rfl)) ?_
              rotate_left
              · ((intro w8 _; go_simp); try with_reducible rfl)
              try simp only [Act.put]
              try simp only [List.setIfInBounds_toArray]
              try simp only [List.set_cons_succ]
              try simp only [List.set_cons_zero]
              refine takeL (i := 12) (d := some 38) (v := ?_) rfl rfl (by kernel_rfl) (by kernel_rfl) (by kernel_rfl) (by kernel_rfl) (by kernel_rfl) (fun _ _ _ h => h) (Or.inl ⟨by rfl, ?_⟩) (by assumption) ?_
              rotate_left
              · ((intro w8 hSw; rw [HS4.out] at hSw; obtain ⟨h0, hC⟩ := hSw; have h5 := h0.c5; rw [E5.out] at h5; have q0 := hC.c 0; have q1 := hC.c 1; have q2 := hC.c 2; simp only [List.getElem?_toArray, List.getElem?_cons_zero, List.getElem?_cons_succ] at q0 q1 q2; go_simp); try with_reducible rfl)
              try simp only [Act.put]
              try simp only [List.setIfInBounds_toArray]
              try simp only [List.set_cons_succ]
              try simp only [List.set_cons_zero]
              refine oneL (i := 13) rfl (by kernel_rfl) (fun K8 hK8 => ?_)
              go_simp
              go_at_call 42; refine (HI2.out _).mono ?_; rintro e9 w9 ⟨rfl, rfl⟩
              refine hK8 _ _ hS0 ?_
              try simp only [Act.put]
              try simp only [List.setIfInBounds_toArray]
              try simp only [List.set_cons_succ]
              try simp only [List.set_cons_zero]
              refine takeP (i := 14) (d := some 40) (v := ?_) rfl rfl (by kernel_rfl) (by kernel_rfl) (by kernel_rfl) (by kernel_rfl) (by kernel_rfl) (fun _ _ _ h => h) (Or.inl ⟨by rfl, ?_⟩) (by first | exact Or.inr (by assumption) | exact Or.inl (by kernel_rfl)) ?_
              rotate_left
              · ((intro w8 _; go_simp); try with_reducible rfl)
              try simp only [Act.put]
              try simp only [List.setIfInBounds_toArray]
              try simp only [List.set_cons_succ]
              try simp only [List.set_cons_zero]
              refine takeP (i := 15) (d := some 41) (v := ?_) rfl rfl (by kernel_rfl) (by kernel_rfl) (by kernel_rfl) (by kernel_rfl) (by kernel_rfl) (fun _ _ _ h => h) (Or.inl ⟨by rfl, ?_⟩) (by first | exact Or.inr (by assumption) | exact Or.inl (by kernel_rfl)) ?_
              rotate_left
              · ((intro w8 _; go_simp); try with_reducible rfl)
              try simp only [Act.put]
              try simp only [List.setIfInBounds_toArray]
              try simp only [List.set_cons_succ]
              try simp only [List.set_cons_zero]
              refine takeP (i := 16) (d := some 42) (v := ?_) rfl rfl (by kernel_rfl) (by kernel_rfl) (by kernel_rfl) (by kernel_rfl) (by kernel_rfl) (fun _ _ _ h => h) (Or.inl ⟨by rfl, ?_⟩) (by first | exact Or.inr (by assumption) | exact Or.inl (by kernel_rfl)) ?_
              rotate_left
              · ((intro w8 _; go_simp); try with_reducible rfl)
              try simp only [Act.put]
              try simp only [List.setIfInBounds_toArray]
              try simp only [List.set_cons_succ]
              try simp only [List.set_cons_zero]
              refine takeP (i := 17) (d := some 43) (v := undef) rfl rfl (by kernel_rfl) (by kernel_rfl) (by kernel_rfl) (by kernel_rfl) (by kernel_rfl) (fun _ _ _ h => h) (Or.inr ⟨by rfl, rfl⟩) (by first | exact Or.inr (by assumption) | exact Or.inl (by kernel_rfl)) ?_
              try simp only [Act.put]
              try simp only [List.setIfInBounds_toArray]
              try simp only [List.set_cons_succ]
              try simp only [List.set_cons_zero]
              refine takeP (i := 18) (d := some 44) (v := undef) rfl rfl (by kernel_rfl) (by kernel_rfl) (by kernel_rfl) (by kernel_rfl) (by kernel_rfl) (fun _ _ _ h => h) (Or.inr ⟨by rfl, rfl⟩) (by first | exact Or.inr (by assumption) | exact Or.inl (by kernel_rfl)) ?_
              try simp only [Act.put]
              try simp only [List.setIfInBounds_toArray]
              try simp only [List.set_cons_succ]
              try simp only [List.set_cons_zero]
              refine takeP (i := 19) (d := some 45) (v := undef) rfl rfl (by kernel_rfl) (by kernel_rfl) (by kernel_rfl) (by kernel_rfl) (by kernel_rfl) (fun _ _ _ h => h) (Or.inr ⟨by rfl, rfl⟩) (by first | exact Or.inr (by assumption) | exact Or.inl (by kernel_rfl)) ?_
              try simp only [Act.put]
              try simp only [List.setIfInBounds_toArray]
              try simp only [List.set_cons_succ]
              try simp only [List.set_cons_zero]
              refine takeP (i := 20) (d := some 46) (v := undef) rfl rfl (by kernel_rfl) (by kernel_rfl) (by kernel_rfl) (by kernel_rfl) (by kernel_rfl) (fun _ _ _ h => h) (Or.inr ⟨by rfl, rfl⟩) (by first | exact Or.inr (by assumption) | exact Or.inl (by kernel_rfl)) ?_
              try simp only [Act.put]
              try simp only [List.setIfInBounds_toArray]
              try simp only [List.set_cons_succ]
              try simp only [List.set_cons_zero]
              refine takeP (i := 21) (d := some 47) (v := undef) rfl rfl (by kernel_rfl) (by kernel_rfl) (by kernel_rfl) (by kernel_rfl) (by kernel_rfl) (fun _ _ _ h => h) (Or.inr ⟨by rfl, rfl⟩) (by first | exact Or.inr (by assumption) | exact Or.inl (by kernel_rfl)) ?_
              try simp only [Act.put]
              try simp only [List.setIfInBounds_toArray]
              try simp only [List.set_cons_succ]
              try simp only [List.set_cons_zero]
              refine takeP (i := 22) (d := some 48) (v := undef) rfl rfl (by kernel_rfl) (by kernel_rfl) (by kernel_rfl) (by kernel_rfl) (by kernel_rfl) (fun _ _ _ h => h) (Or.inr ⟨by rfl, rfl⟩) (by first | exact Or.inr (by assumption) | exact Or.inl (by kernel_rfl)) ?_
              try simp only [Act.put]
              try simp only [List.setIfInBounds_toArray]
              try simp only [List.set_cons_succ]
              try simp only [List.set_cons_zero]
              refine takeP (i := 23) (d := some 49) (v := undef) rfl rfl (by kernel_rfl) (by kernel_rfl) (by kernel_rfl) (by kernel_rfl) (by kernel_rfl) (fun _ _ _ h => h) (Or.inr ⟨by rfl, rfl⟩) (by first | exact Or.inr (by assumption) | exact Or.inl (by kernel_rfl)) ?_
              try simp only [Act.put]
              try simp only [List.setIfInBounds_toArray]
              try simp only [List.set_cons_succ]
              try simp only [List.set_cons_zero]
              refine takeP (i := 24) (d := some 50) (v := undef) rfl rfl (by kernel_rfl) (by kernel_rfl) (by kernel_rfl) (by kernel_rfl) (by kernel_rfl) (fun _ _ _ h => h) (Or.inr ⟨by rfl, rfl⟩) (by first | exact Or.inr (by assumption) | exact Or.inl (by kernel_rfl)) ?_
              try simp only [Act.put]
              try simp only [List.setIfInBounds_toArray]
              try simp only [List.set_cons_succ]
              try simp only [List.set_cons_zero]
              refine takeP (i := 25) (d := some 51) (v := undef) rfl rfl (by kernel_rfl) (by kernel_rfl) (by kernel_rfl) (by kernel_rfl) (by kernel_rfl) (fun _ _ _ h => h) (Or.inr ⟨by rfl, rfl⟩) (by first | exact Or.inr (by assumption) | exact Or.inl (by kernel_rfl)) ?_
              try simp only [Act.put]
              try simp only [List.setIfInBounds_toArray]
              try simp only [List.set_cons_succ]
              try simp only [List.set_cons_zero]
              refine takeP (i := 26) (d := some 52) (v := undef) rfl rfl (by kernel_rfl) (by kernel_rfl) (by kernel_rfl) (by kernel_rfl) (by kernel_rfl) (fun _ _ _ h => h) (Or.inr ⟨by rfl, rfl⟩) (by first | exact Or.inr (by assumption) | exact Or.inl (by kernel_rfl)) ?_
              try simp only [Act.put]
              try simp only [List.setIfInBounds_toArray]
              try simp only [List.set_cons_succ]
              try simp only [List.set_cons_zero]
              refine takeP (i := 27) (d := some 53) (v := undef) rfl rfl (by kernel_rfl) (by kernel_rfl) (by kernel_rfl) (by kernel_rfl) (by kernel_rfl) (fun _ _ _ h => h) (Or.inr ⟨by rfl, rfl⟩) (by first | exact Or.inr (by assumption) | exact Or.inl (by kernel_rfl)) ?_
              try simp only [Act.put]
              try simp only [List.setIfInBounds_toArray]
              try simp only [List.set_cons_succ]
              try simp only [List.set_cons_zero]
              refine takeP (i := 28) (d := some 54) (v := undef) rfl rfl (by kernel_rfl) (by kernel_rfl) (by kernel_rfl) (by kernel_rfl) (by kernel_rfl) (fun _ _ _ h => h) (Or.inr ⟨by rfl, rfl⟩) (by first | exact Or.inr (by assumption) | exact Or.inl (by kernel_rfl)) ?_
              try simp only [Act.put]
              try simp only [List.setIfInBounds_toArray]
              try simp only [List.set_cons_succ]
              try simp only [List.set_cons_zero]
              refine takeP (i := 29) (d := some 55) (v := undef) rfl rfl (by kernel_rfl) (by kernel_rfl) (by kernel_rfl) (by kernel_rfl) (by kernel_rfl) (fun _ _ _ h => h) (Or.inr ⟨by rfl, rfl⟩) (by first | exact Or.inr (by assumption) | exact Or.inl (by kernel_rfl)) ?_
              try simp only [Act.put]
              try simp only [List.setIfInBounds_toArray]
              try simp only [List.set_cons_succ]
              try simp only [List.set_cons_zero]
              refine takeP (i := 30) (d := some 56) (v := ?_) rfl rfl (by kernel_rfl) (by kernel_rfl) (by kernel_rfl) (by kernel_rfl) (by kernel_rfl) (fun _ _ _ h => h) (Or.inl ⟨by rfl, ?_⟩) (by first | exact Or.inr (by assumption) | exact Or.inl (by kernel_rfl)) ?_
              rotate_left
              · ((intro w8 _; go_simp); try with_reducible rfl)
              try simp only [Act.put]
              try simp only [List.setIfInBounds_toArray]
              try simp only [List.set_cons_succ]
              try simp only [List.set_cons_zero]
              refine lst_done (by kernel_rfl) ?_ _
              clear k0 k1 k2 x5
              go_wp2
              go_ret
              exact ⟨ret_bool HY.out.symm, F0.out.trans (FW.out.trans (fuw_dr W 1))⟩
            | true =>
              by_cases h0 : i = 0
              · have g2 : decide ((0 : Int) < (i : Int)) = false := decide_eq_false (by omega)
                have g3 : decide (0 < i) = false := decide_eq_false (by omega)
                have HY := Lib.hid (HTr.out (by rw [HAd.out, HJ.out, decide_eq_true h0]; rfl))
                clear h0
                obtain ⟨S, hS⟩ : ∃ S : World → Prop, S = (fun w8 => OB w8 B3 o A ∧ Bk w8 C #[.int .i64 y0, .int .i64 y1, .int .i64 y2] 42) := ⟨_, rfl⟩
                have HS4 := Lib.hid hS
                clear hS
                refine lst_start [] S (by kernel_rfl) ?_
                have hS0 : S W.drew := by rw [HS4.out]; exact ⟨BOW.out.on (fuw_dr W 1), BC.out.on (fuw_dr W 1)⟩
                refine takeP (i := 0) (d := some 26) (v := ?_) rfl rfl (by kernel_rfl) (by kernel_rfl) (by kernel_rfl) (by kernel_rfl) (by kernel_rfl) (fun _ _ _ h => h) (Or.inl ⟨by rfl, ?_⟩) (by first | exact Or.inr (by assumption) | exact Or.inl (by kernel_rfl)) ?_
                rotate_left
                · ((intro w8 _; go_simp); try with_reducible rfl)
                try simp only [Act.put]
                try simp only [List.setIfInBounds_toArray]
                try simp only [List.set_cons_succ]
                try simp only [List.set_cons_zero]
                refine takeL (i := 1) (d := some 27) (v := ?_) rfl rfl (by kernel_rfl) (by kernel_rfl) (by kernel_rfl) (by kernel_rfl) (by kernel_rfl) (fun _ _ _ h => h) (Or.inl ⟨by rfl, ?_⟩) (by assumption) ?_
                rotate_left
                · ((intro w8 hSw; rw [HS4.out] at hSw; obtain ⟨h0, hC⟩ := hSw; have h5 := h0.c5; rw [E5.out] at h5; have q0 := hC.c 0; have q1 := hC.c 1; have q2 := hC.c 2; simp only [List.getElem?_toArray, List.getElem?_cons_zero, List.getElem?_cons_succ] at q0 q1 q2; go_simp); try with_reducible rfl)
                try simp only [Act.put]
                try simp only [List.setIfInBounds_toArray]
                try simp only [List.set_cons_succ]
                try simp only [List.set_cons_zero]
                refine oneL (i := 2) rfl (by kernel_rfl) (fun K8 hK8 => ?_)
                go_simp
                go_at_call 42; refine (HI0.out _).mono ?_; rintro e9 w9 ⟨rfl, rfl⟩
                refine hK8 _ _ hS0 ?_
                try simp only [Act.put]
                try simp only [List.setIfInBounds_toArray]
                try simp only [List.set_cons_succ]
                try simp only [List.set_cons_zero]
                refine takeP (i := 3) (d := some 29) (v := ?_) rfl rfl (by kernel_rfl) (by kernel_rfl) (by kernel_rfl) (by kernel_rfl) (by kernel_rfl) (fun _ _ _ h => h) (Or.inl ⟨by rfl, ?_⟩) (by first | exact Or.inr (by assumption) | exact Or.inl (by kernel_rfl)) ?_
                rotate_left
                · ((intro w8 _; go_simp); try with_reducible rfl)
                try simp only [Act.put]
                try simp only [List.setIfInBounds_toArray]
                try simp only [List.set_cons_succ]
                try simp only [List.set_cons_zero]
                refine takeP (i := 4) (d := some 30) (v := ?_) rfl rfl (by kernel_rfl) (by kernel_rfl) (by kernel_rfl) (by kernel_rfl) (by kernel_rfl) (fun _ _ _ h => h) (Or.inl ⟨by rfl, ?_⟩) (by first | exact Or.inr (by assumption) | exact Or.inl (by kernel_rfl)) ?_
                rotate_left
                · ((intro w8 _; go_simp); try with_reducible rfl)
                try simp only [Act.put]
                try simp only [List.setIfInBounds_toArray]
                try simp only [List.set_cons_succ]
                try simp only [List.set_cons_zero]
                refine takeP (i := 5) (d := some 31) (v := ?_) rfl rfl (by kernel_rfl) (by kernel_rfl) (by kernel_rfl) (by kernel_rfl) (by kernel_rfl) (fun _ _ _ h => h) (Or.inl ⟨by rfl, ?_⟩) (by first | exact Or.inr (by assumption) | exact Or.inl (by kernel_rfl)) ?_
                rotate_left
                · ((intro w8 _; go_simp); try with_reducible rfl)
                try simp only [Act.put]
                try simp only [List.setIfInBounds_toArray]
                try simp only [List.set_cons_succ]
                try simp only [List.set_cons_zero]
                refine takeL (i := 6) (d := some 32) (v := ?_) rfl rfl (by kernel_rfl) (by kernel_rfl) (by kernel_rfl) (by kernel_rfl) (by kernel_rfl) (fun _ _ _ h => h) (Or.inl ⟨by rfl, ?_⟩) (by assumption) ?_
                rotate_left
                · ((intro w8 hSw; rw [HS4.out] at hSw; obtain ⟨h0, hC⟩ := hSw; have h5 := h0.c5; rw [E5.out] at h5; have q0 := hC.c 0; have q1 := hC.c 1; have q2 := hC.c 2; simp only [List.getElem?_toArray, List.getElem?_cons_zero, List.getElem?_cons_succ] at q0 q1 q2; go_simp); try with_reducible rfl)
                try simp only [Act.put]
                try simp only [List.setIfInBounds_toArray]
                try simp only [List.set_cons_succ]
                try simp only [List.set_cons_zero]
                refine oneL (i := 7) rfl (by kernel_rfl) (fun K8 hK8 => ?_)
                go_simp
                go_at_call 42; refine (HI1.out _).mono ?_; rintro e9 w9 ⟨rfl, rfl⟩
                refine hK8 _ _ hS0 ?_
                try simp only [Act.put]
                try simp only [List.setIfInBounds_toArray]
                try simp only [List.set_cons_succ]
                try simp only [List.set_cons_zero]
                refine takeP (i := 8) (d := some 34) (v := ?_) rfl rfl (by kernel_rfl) (by kernel_rfl) (by kernel_rfl) (by kernel_rfl) (by kernel_rfl) (fun _ _ _ h => h) (Or.inl ⟨by rfl, ?_⟩) (by first | exact Or.inr (by assumption) | exact Or.inl (by kernel_rfl)) ?_
                rotate_left
                · ((intro w8 _; go_simp); try with_reducible rfl)
                try simp only [Act.put]
                try simp only [List.setIfInBounds_toArray]
                try simp only [List.set_cons_succ]
                try simp only [List.set_cons_zero]
                refine takeP (i := 9) (d := some 35) (v := ?_) rfl rfl (by kernel_rfl) (by kernel_rfl) (by kernel_rfl) (by kernel_rfl) (by kernel_rfl) (fun _ _ _ h => h) (Or.inl ⟨by rfl, ?_⟩) (by first | exact Or.inr (by assumption) | exact Or.inl (by kernel_rfl)) ?_
                rotate_left
                · ((intro w8 _; go_simp); try with_reducible rfl)
                try simp only [Act.put]
                try simp only [List.setIfInBounds_toArray]
                try simp only [List.set_cons_succ]
                try simp only [List.set_cons_zero]
                refine takeP (i := 10) (d := some 36) (v := ?_) rfl rfl (by kernel_rfl) (by kernel_rfl) (by kernel_rfl) (by kernel_rfl) (by kernel_rfl) (fun _ _ _ h => h) (Or.inl ⟨by rfl, ?_⟩) (by first | exact Or.inr (by assumption) | exact Or.inl (by kernel_rfl)) ?_
                rotate_left
                · ((intro w8 _; go_simp); try with_reducible rfl)
                try simp only [Act.put]
                try simp only [List.setIfInBounds_toArray]
                try simp only [List.set_cons_succ]
                try simp only [List.set_cons_zero]
                refine takeP (i := 11) (d := some 37) (v := ?_) rfl rfl (by kernel_rfl) (by kernel_rfl) (by kernel_rfl) (by kernel_rfl) (by kernel_rfl) (fun _ _ _ h => h) (Or.inl ⟨by rfl, ?_⟩) (by first | exact Or.inr (by assumption) | exact Or.inl (by kernel_rfl)) ?_
                rotate_left
                · ((intro w8 _; go_simp); try with_reducible rfl)
                try simp only [Act.put]
                try simp only [List.setIfInBounds_toArray]
                try simp only [List.set_cons_succ]
                try simp only [List.set_cons_zero]
                refine takeL (i := 12) (d := some 38) (v := ?_) rfl rfl (by kernel_rfl) (by kernel_rfl) (by kernel_rfl) (by kernel_rfl) (by kernel_rfl) (fun _ _ _ h => h) (Or.inl ⟨by rfl, ?_⟩) (by assumption) ?_
                rotate_left
                · ((intro w8 hSw; rw [HS4.out] at hSw; obtain ⟨h0, hC⟩ := hSw; have h5 := h0.c5; rw [E5.out] at h5; have q0 := hC.c 0; have q1 := hC.c 1; have q2 := hC.c 2; simp only [List.getElem?_toArray, List.getElem?_cons_zero, List.getElem?_cons_succ] at q0 q1 q2; go_simp); try with_reducible rfl)
                try simp only [Act.put]
                try simp only [List.setIfInBounds_toArray]
                try simp only [List.set_cons_succ]
                try simp only [List.set_cons_zero]
                refine oneL (i := 13) rfl (by kernel_rfl) (fun K8 hK8 => ?_)
                go_simp
                go_at_call 42; refine (HI2.out _).mono ?_; rintro e9 w9 ⟨rfl, rfl⟩
                refine hK8 _ _ hS0 ?_
                try simp only [Act.put]
                try simp only [List.setIfInBounds_toArray]
                try simp only [List.set_cons_succ]
                try simp only [List.set_cons_zero]
                refine takeP (i := 14) (d := some 40) (v := ?_) rfl rfl (by kernel_rfl) (by kernel_rfl) (by kernel_rfl) (by kernel_rfl) (by kernel_rfl) (fun _ _ _ h => h) (Or.inl ⟨by rfl, ?_⟩) (by first | exact Or.inr (by assumption) | exact Or.inl (by kernel_rfl)) ?_
                rotate_left
                · ((intro w8 _; go_simp); try with_reducible rfl)
                try simp only [Act.put]
                try simp only [List.setIfInBounds_toArray]
                try simp only [List.set_cons_succ]
                try simp only [List.set_cons_zero]
                refine takeP (i := 15) (d := some 41) (v := ?_) rfl rfl (by kernel_rfl) (by kernel_rfl) (by kernel_rfl) (by kernel_rfl) (by kernel_rfl) (fun _ _ _ h => h) (Or.inl ⟨by rfl, ?_⟩) (by first | exact Or.inr (by assumption) | exact Or.inl (by kernel_rfl)) ?_
                rotate_left
                · ((intro w8 _; go_simp); try with_reducible rfl)
                try simp only [Act.put]
                try simp only [List.setIfInBounds_toArray]
                try simp only [List.set_cons_succ]
                try simp only [List.set_cons_zero]
                refine takeP (i := 16) (d := some 42) (v := ?_) rfl rfl (by kernel_rfl) (by kernel_rfl) (by kernel_rfl) (by kernel_rfl) (by kernel_rfl) (fun _ _ _ h => h) (Or.inl ⟨by rfl, ?_⟩) (by first | exact Or.inr (by assumption) | exact Or.inl (by kernel_rfl)) ?_
                rotate_left
                · ((intro w8 _; go_simp); try with_reducible rfl)
                try simp only [Act.put]
                try simp only [List.setIfInBounds_toArray]
                try simp only [List.set_cons_succ]
                try simp only [List.set_cons_zero]
                refine takeP (i := 17) (d := some 43) (v := ?_) rfl rfl (by kernel_rfl) (by kernel_rfl) (by kernel_rfl) (by kernel_rfl) (by kernel_rfl) (fun _ _ _ h => h) (Or.inl ⟨by rfl, ?_⟩) (by first | exact Or.inr (by assumption) | exact Or.inl (by kernel_rfl)) ?_
                rotate_left
                · ((intro w8 _; go_simp); try with_reducible rfl)
                try simp only [Act.put]
                try simp only [List.setIfInBounds_toArray]
                try simp only [List.set_cons_succ]
                try simp only [List.set_cons_zero]
                refine takeP (i := 18) (d := some 44) (v := ?_) rfl rfl (by kernel_rfl) (by kernel_rfl) (by kernel_rfl) (by kernel_rfl) (by kernel_rfl) (fun _ _ _ h => h) (Or.inl ⟨by rfl, ?_⟩) (by first | exact Or.inr (by assumption) | exact Or.inl (by kernel_rfl)) ?_
                rotate_left
                · ((intro w8 _; go_simp); try with_reducible rfl)
                try simp only [Act.put]
                try simp only [List.setIfInBounds_toArray]
                try simp only [List.set_cons_succ]
                try simp only [List.set_cons_zero]
                refine takeP (i := 19) (d := some 45) (v := ?_) rfl rfl (by kernel_rfl) (by kernel_rfl) (by kernel_rfl) (by kernel_rfl) (by kernel_rfl) (fun _ _ _ h => h) (Or.inl ⟨by rfl, ?_⟩) (by first | exact Or.inr (by assumption) | exact Or.inl (by kernel_rfl)) ?_
                rotate_left
                · ((intro w8 _; go_simp); try with_reducible rfl)
                try simp only [Act.put]
                try simp only [List.setIfInBounds_toArray]
                try simp only [List.set_cons_succ]
                try simp only [List.set_cons_zero]
                refine takeP (i := 20) (d := some 46) (v := undef) rfl rfl (by kernel_rfl) (by kernel_rfl) (by kernel_rfl) (by kernel_rfl) (by kernel_rfl) (fun _ _ _ h => h) (Or.inr ⟨by rfl, rfl⟩) (by first | exact Or.inr (by assumption) | exact Or.inl (by kernel_rfl)) ?_
                try simp only [Act.put]
                try simp only [List.setIfInBounds_toArray]
                try simp only [List.set_cons_succ]
                try simp only [List.set_cons_zero]
                refine takeP (i := 21) (d := some 47) (v := undef) rfl rfl (by kernel_rfl) (by kernel_rfl) (by kernel_rfl) (by kernel_rfl) (by kernel_rfl) (fun _ _ _ h => h) (Or.inr ⟨by rfl, rfl⟩) (by first | exact Or.inr (by assumption) | exact Or.inl (by kernel_rfl)) ?_
                try simp only [Act.put]
                try simp only [List.setIfInBounds_toArray]
                try simp only [List.set_cons_succ]
                try simp only [List.set_cons_zero]
                refine takeP (i := 22) (d := some 48) (v := undef) rfl rfl (by kernel_rfl) (by kernel_rfl) (by kernel_rfl) (by kernel_rfl) (by kernel_rfl) (fun _ _ _ h => h) (Or.inr ⟨by rfl, rfl⟩) (by first | exact Or.inr (by assumption) | exact Or.inl (by kernel_rfl)) ?_
                try simp only [Act.put]
                try simp only [List.setIfInBounds_toArray]
                try simp only [List.set_cons_succ]
                try simp only [List.set_cons_zero]
                refine takeP (i := 23) (d := some 49) (v := undef) rfl rfl (by kernel_rfl) (by kernel_rfl) (by kernel_rfl) (by kernel_rfl) (by kernel_rfl) (fun _ _ _ h => h) (Or.inr ⟨by rfl, rfl⟩) (by first | exact Or.inr (by assumption) | exact Or.inl (by kernel_rfl)) ?_
                try simp only [Act.put]
                try simp only [List.setIfInBounds_toArray]
                try simp only [List.set_cons_succ]
                try simp only [List.set_cons_zero]
                refine takeP (i := 24) (d := some 50) (v := undef) rfl rfl (by kernel_rfl) (by kernel_rfl) (by kernel_rfl) (by kernel_rfl) (by kernel_rfl) (fun _ _ _ h => h) (Or.inr ⟨by rfl, rfl⟩) (by first | exact Or.inr (by assumption) | exact Or.inl (by kernel_rfl)) ?_
                try simp only [Act.put]
                try simp only [List.setIfInBounds_toArray]
                try simp only [List.set_cons_succ]
                try simp only [List.set_cons_zero]
                refine takeP (i := 25) (d := some 51) (v := undef) rfl rfl (by kernel_rfl) (by kernel_rfl) (by kernel_rfl) (by kernel_rfl) (by kernel_rfl) (fun _ _ _ h => h) (Or.inr ⟨by rfl, rfl⟩) (by first | exact Or.inr (by assumption) | exact Or.inl (by kernel_rfl)) ?_
                try simp only [Act.put]
                try simp only [List.setIfInBounds_toArray]
                try simp only [List.set_cons_succ]
                try simp only [List.set_cons_zero]
                refine takeP (i := 26) (d := some 52) (v := undef) rfl rfl (by kernel_rfl) (by kernel_rfl) (by kernel_rfl) (by kernel_rfl) (by kernel_rfl) (fun _ _ _ h => h) (Or.inr ⟨by rfl, rfl⟩) (by first | exact Or.inr (by assumption) | exact Or.inl (by kernel_rfl)) ?_
                try simp only [Act.put]
                try simp only [List.setIfInBounds_toArray]
                try simp only [List.set_cons_succ]
                try simp only [List.set_cons_zero]
                refine takeP (i := 27) (d := some 53) (v := undef) rfl rfl (by kernel_rfl) (by kernel_rfl) (by kernel_rfl) (by kernel_rfl) (by kernel_rfl) (fun _ _ _ h => h) (Or.inr ⟨by rfl, rfl⟩) (by first | exact Or.inr (by assumption) | exact Or.inl (by kernel_rfl)) ?_
                try simp only [Act.put]
                try simp only [List.setIfInBounds_toArray]
                try simp only [List.set_cons_succ]
                try simp only [List.set_cons_zero]
                refine takeP (i := 28) (d := some 54) (v := undef) rfl rfl (by kernel_rfl) (by kernel_rfl) (by kernel_rfl) (by kernel_rfl) (by kernel_rfl) (fun _ _ _ h => h) (Or.inr ⟨by rfl, rfl⟩) (by first | exact Or.inr (by assumption) | exact Or.inl (by kernel_rfl)) ?_
                try simp only [Act.put]
                try simp only [List.setIfInBounds_toArray]
                try simp only [List.set_cons_succ]
                try simp only [List.set_cons_zero]
                refine takeP (i := 29) (d := some 55) (v := ?_) rfl rfl (by kernel_rfl) (by kernel_rfl) (by kernel_rfl) (by kernel_rfl) (by kernel_rfl) (fun _ _ _ h => h) (Or.inl ⟨by rfl, ?_⟩) (by first | exact Or.inr (by assumption) | exact Or.inl (by kernel_rfl)) ?_
                rotate_left
                · ((intro w8 _; go_simp); try with_reducible rfl)
                try simp only [Act.put]
                try simp only [List.setIfInBounds_toArray]
                try simp only [List.set_cons_succ]
                try simp only [List.set_cons_zero]
                refine takeP (i := 30) (d := some 56) (v := ?_) rfl rfl (by kernel_rfl) (by kernel_rfl) (by kernel_rfl) (by kernel_rfl) (by kernel_rfl) (fun _ _ _ h => h) (Or.inl ⟨by rfl, ?_⟩) (by first | exact Or.inr (by assumption) | exact Or.inl (by kernel_rfl)) ?_
                rotate_left
                · ((intro w8 _; go_simp); try with_reducible rfl)
                try simp only [Act.put]
                try simp only [List.setIfInBounds_toArray]
                try simp only [List.set_cons_succ]
                try simp only [List.set_cons_zero]
                refine lst_done (by kernel_rfl) ?_ _
                clear k0 k1 k2 x5 g2 g3
                go_wp2
                go_roundw
                case rel => exact ⟨i + 1, by go_num, by omega, HY, Lib.hid (FW.out.trans (fuw_dr W 1))⟩
                case measure => simp [RowKit.intOf]; omega
              · have g2 : decide ((0 : Int) < (i : Int)) = true := decide_eq_true (by omega)
                have g3 : decide (0 < i) = true := decide_eq_true (by omega)
                obtain ⟨m, hm⟩ : ∃ m, i = m + 1 := ⟨i - 1, by omega⟩
                have hml : m < o.ads.length := by omega
                obtain ⟨b', f', e', hd⟩ := HPv.out m hml W FW.out
                cases e'
                have HC := Lib.hid (HLs.out m)
                have HAd2 := Lib.hid (show adOk o.ads i = adjL (o.ads.getD m z3) (y0, y1, y2) by rw [HAd.out, HJ.out, decide_eq_false h0, show i - 1 = m by omega]; simp)
                rw [gdJ hml] at HC HAd2
                generalize o.ads[m] = pv at *
                obtain ⟨p0, p1, p2⟩ := pv
                obtain ⟨-, -, -, d0, d1, d2⟩ := hd
                simp only at d0 d1 d2 HC
                unfold adv at HC
                have k3 : IntKind.i64.wrap ((i : Int) - 1) = (m : Int) := by rw [show (i : Int) - 1 = m by omega]; exact IntWalk.i64_in _ (by omega)
                have k4 : (m : Int) < (o.ads.length : Int) := by omega
                obtain ⟨q, hq⟩ : ∃ q, adjL (p0, p1, p2) (y0, y1, y2) = q := ⟨_, rfl⟩
                rw [hq] at HC HAd2
                clear h0 hm hq
                obtain ⟨S, hS⟩ : ∃ S : World → Prop, S = (fun w8 => OB w8 B3 o A ∧ Bk w8 C #[.int .i64 y0, .int .i64 y1, .int .i64 y2] 42 ∧ w8.cell? ⟨b, f + m * 3, none⟩ = some (.int .i64 p0) ∧ w8.cell? ⟨b, f + m * 3 + 1, none⟩ = some (.int .i64 p1) ∧ w8.cell? ⟨b, f + m * 3 + 2, none⟩ = some (.int .i64 p2)) := ⟨_, rfl⟩
                have HS4 := Lib.hid hS
                clear hS
                refine lst_start [27] S (by kernel_rfl) ?_
                have hS0 : S W.drew := by rw [HS4.out]; exact ⟨BOW.out.on (fuw_dr W 1), BC.out.on (fuw_dr W 1), cellOnw (fuw_dr W 1) d0, cellOnw (fuw_dr W 1) d1, cellOnw (fuw_dr W 1) d2⟩
                refine takeP (i := 0) (d := some 26) (v := ?_) rfl rfl (by kernel_rfl) (by kernel_rfl) (by kernel_rfl) (by kernel_rfl) (by kernel_rfl) (fun _ _ _ h => h) (Or.inl ⟨by rfl, ?_⟩) (by first | exact Or.inr (by assumption) | exact Or.inl (by kernel_rfl)) ?_
                rotate_left
                · ((intro w8 _; go_simp); try with_reducible rfl)
                try simp only [Act.put]
                try simp only [List.setIfInBounds_toArray]
                try simp only [List.set_cons_succ]
                try simp only [List.set_cons_zero]
                refine takeL (i := 1) (d := some 27) (v := ?_) rfl rfl (by kernel_rfl) (by kernel_rfl) (by kernel_rfl) (by kernel_rfl) (by kernel_rfl) (fun _ _ _ h => h) (Or.inl ⟨by rfl, ?_⟩) (by assumption) ?_
                rotate_left
                · ((intro w8 hSw; rw [HS4.out] at hSw; obtain ⟨h0, hC, g0, g1, g2⟩ := hSw; have h5 := h0.c5; rw [E5.out] at h5; have q0 := hC.c 0; have q1 := hC.c 1; have q2 := hC.c 2; simp only [List.getElem?_toArray, List.getElem?_cons_zero, List.getElem?_cons_succ] at q0 q1 q2; go_simp); try with_reducible rfl)
                try simp only [Act.put]
                try simp only [List.setIfInBounds_toArray]
                try simp only [List.set_cons_succ]
                try simp only [List.set_cons_zero]
                refine oneL (i := 2) rfl (by kernel_rfl) (fun K8 hK8 => ?_)
                go_simp
                go_at_call 42; refine (HI0.out _).mono ?_; rintro e9 w9 ⟨rfl, rfl⟩
                refine hK8 _ _ hS0 ?_
                try simp only [Act.put]
                try simp only [List.setIfInBounds_toArray]
                try simp only [List.set_cons_succ]
                try simp only [List.set_cons_zero]
                refine takeP (i := 3) (d := some 29) (v := ?_) rfl rfl (by kernel_rfl) (by kernel_rfl) (by kernel_rfl) (by kernel_rfl) (by kernel_rfl) (fun _ _ _ h => h) (Or.inl ⟨by rfl, ?_⟩) (by first | exact Or.inr (by assumption) | exact Or.inl (by kernel_rfl)) ?_
                rotate_left
                · ((intro w8 _; go_simp); try with_reducible rfl)
                try simp only [Act.put]
                try simp only [List.setIfInBounds_toArray]
                try simp only [List.set_cons_succ]
                try simp only [List.set_cons_zero]
                refine takeP (i := 4) (d := some 30) (v := ?_) rfl rfl (by kernel_rfl) (by kernel_rfl) (by kernel_rfl) (by kernel_rfl) (by kernel_rfl) (fun _ _ _ h => h) (Or.inl ⟨by rfl, ?_⟩) (by first | exact Or.inr (by assumption) | exact Or.inl (by kernel_rfl)) ?_
                rotate_left
                · ((intro w8 _; go_simp); try with_reducible rfl)
                try simp only [Act.put]
                try simp only [List.setIfInBounds_toArray]
                try simp only [List.set_cons_succ]
                try simp only [List.set_cons_zero]
                refine takeP (i := 5) (d := some 31) (v := ?_) rfl rfl (by kernel_rfl) (by kernel_rfl) (by kernel_rfl) (by kernel_rfl) (by kernel_rfl) (fun _ _ _ h => h) (Or.inl ⟨by rfl, ?_⟩) (by first | exact Or.inr (by assumption) | exact Or.inl (by kernel_rfl)) ?_
                rotate_left
                · ((intro w8 _; go_simp); try with_reducible rfl)
                try simp only [Act.put]
                try simp only [List.setIfInBounds_toArray]
                try simp only [List.set_cons_succ]
                try simp only [List.set_cons_zero]
                refine takeL (i := 6) (d := some 32) (v := ?_) rfl rfl (by kernel_rfl) (by kernel_rfl) (by kernel_rfl) (by kernel_rfl) (by kernel_rfl) (fun _ _ _ h => h) (Or.inl ⟨by rfl, ?_⟩) (by assumption) ?_
                rotate_left
                · ((intro w8 hSw; rw [HS4.out] at hSw; obtain ⟨h0, hC, g0, g1, g2⟩ := hSw; have h5 := h0.c5; rw [E5.out] at h5; have q0 := hC.c 0; have q1 := hC.c 1; have q2 := hC.c 2; simp only [List.getElem?_toArray, List.getElem?_cons_zero, List.getElem?_cons_succ] at q0 q1 q2; go_simp); try with_reducible rfl)
                try simp only [Act.put]
                try simp only [List.setIfInBounds_toArray]
                try simp only [List.set_cons_succ]
                try simp only [List.set_cons_zero]
                refine oneL (i := 7) rfl (by kernel_rfl) (fun K8 hK8 => ?_)
                go_simp
                go_at_call 42; refine (HI1.out _).mono ?_; rintro e9 w9 ⟨rfl, rfl⟩
                refine hK8 _ _ hS0 ?_
                try simp only [Act.put]
                try simp only [List.setIfInBounds_toArray]
                try simp only [List.set_cons_succ]
                try simp only [List.set_cons_zero]
                refine takeP (i := 8) (d := some 34) (v := ?_) rfl rfl (by kernel_rfl) (by kernel_rfl) (by kernel_rfl) (by kernel_rfl) (by kernel_rfl) (fun _ _ _ h => h) (Or.inl ⟨by rfl, ?_⟩) (by first | exact Or.inr (by assumption) | exact Or.inl (by kernel_rfl)) ?_
                rotate_left
                · ((intro w8 _; go_simp); try with_reducible rfl)
                try simp only [Act.put]
                try simp only [List.setIfInBounds_toArray]
                try simp only [List.set_cons_succ]
                try simp only [List.set_cons_zero]
                refine takeP (i := 9) (d := some 35) (v := ?_) rfl rfl (by kernel_rfl) (by kernel_rfl) (by kernel_rfl) (by kernel_rfl) (by kernel_rfl) (fun _ _ _ h => h) (Or.inl ⟨by rfl, ?_⟩) (by first | exact Or.inr (by assumption) | exact Or.inl (by kernel_rfl)) ?_
                rotate_left
                · ((intro w8 _; go_simp); try with_reducible rfl)
                try simp only [Act.put]
                try simp only [List.setIfInBounds_toArray]
                try simp only [List.set_cons_succ]
                try simp only [List.set_cons_zero]
                refine takeP (i := 10) (d := some 36) (v := ?_) rfl rfl (by kernel_rfl) (by kernel_rfl) (by kernel_rfl) (by kernel_rfl) (by kernel_rfl) (fun _ _ _ h => h) (Or.inl ⟨by rfl, ?_⟩) (by first | exact Or.inr (by assumption) | exact Or.inl (by kernel_rfl)) ?_
                rotate_left
                · ((intro w8 _; go_simp); try with_reducible rfl)
                try simp only [Act.put]
                try simp only [List.setIfInBounds_toArray]
                try simp only [List.set_cons_succ]
                try simp only [List.set_cons_zero]
                refine takeP (i := 11) (d := some 37) (v := ?_) rfl rfl (by kernel_rfl) (by kernel_rfl) (by kernel_rfl) (by kernel_rfl) (by kernel_rfl) (fun _ _ _ h => h) (Or.inl ⟨by rfl, ?_⟩) (by first | exact Or.inr (by assumption) | exact Or.inl (by kernel_rfl)) ?_
                rotate_left
                · ((intro w8 _; go_simp); try with_reducible rfl)
                try simp only [Act.put]
                try simp only [List.setIfInBounds_toArray]
                try simp only [List.set_cons_succ]
                try simp only [List.set_cons_zero]
                refine takeL (i := 12) (d := some 38) (v := ?_) rfl rfl (by kernel_rfl) (by kernel_rfl) (by kernel_rfl) (by kernel_rfl) (by kernel_rfl) (fun _ _ _ h => h) (Or.inl ⟨by rfl, ?_⟩) (by assumption) ?_
                rotate_left
                · ((intro w8 hSw; rw [HS4.out] at hSw; obtain ⟨h0, hC, g0, g1, g2⟩ := hSw; have h5 := h0.c5; rw [E5.out] at h5; have q0 := hC.c 0; have q1 := hC.c 1; have q2 := hC.c 2; simp only [List.getElem?_toArray, List.getElem?_cons_zero, List.getElem?_cons_succ] at q0 q1 q2; go_simp); try with_reducible rfl)
                try simp only [Act.put]
                try simp only [List.setIfInBounds_toArray]
                try simp only [List.set_cons_succ]
                try simp only [List.set_cons_zero]
                refine oneL (i := 13) rfl (by kernel_rfl) (fun K8 hK8 => ?_)
                go_simp
                go_at_call 42; refine (HI2.out _).mono ?_; rintro e9 w9 ⟨rfl, rfl⟩
                refine hK8 _ _ hS0 ?_
                try simp only [Act.put]
                try simp only [List.setIfInBounds_toArray]
                try simp only [List.set_cons_succ]
                try simp only [List.set_cons_zero]
                refine takeP (i := 14) (d := some 40) (v := ?_) rfl rfl (by kernel_rfl) (by kernel_rfl) (by kernel_rfl) (by kernel_rfl) (by kernel_rfl) (fun _ _ _ h => h) (Or.inl ⟨by rfl, ?_⟩) (by first | exact Or.inr (by assumption) | exact Or.inl (by kernel_rfl)) ?_
                rotate_left
                · ((intro w8 _; go_simp); try with_reducible rfl)
                try simp only [Act.put]
                try simp only [List.setIfInBounds_toArray]
                try simp only [List.set_cons_succ]
                try simp only [List.set_cons_zero]
                refine takeP (i := 15) (d := some 41) (v := ?_) rfl rfl (by kernel_rfl) (by kernel_rfl) (by kernel_rfl) (by kernel_rfl) (by kernel_rfl) (fun _ _ _ h => h) (Or.inl ⟨by rfl, ?_⟩) (by first | exact Or.inr (by assumption) | exact Or.inl (by kernel_rfl)) ?_
                rotate_left
                · ((intro w8 _; go_simp); try with_reducible rfl)
                try simp only [Act.put]
                try simp only [List.setIfInBounds_toArray]
                try simp only [List.set_cons_succ]
                try simp only [List.set_cons_zero]
                refine takeP (i := 16) (d := some 42) (v := ?_) rfl rfl (by kernel_rfl) (by kernel_rfl) (by kernel_rfl) (by kernel_rfl) (by kernel_rfl) (fun _ _ _ h => h) (Or.inl ⟨by rfl, ?_⟩) (by first | exact Or.inr (by assumption) | exact Or.inl (by kernel_rfl)) ?_
                rotate_left
                · ((intro w8 _; go_simp); try with_reducible rfl)
                try simp only [Act.put]
                try simp only [List.setIfInBounds_toArray]
                try simp only [List.set_cons_succ]
                try simp only [List.set_cons_zero]
                refine takeP (i := 17) (d := some 43) (v := ?_) rfl rfl (by kernel_rfl) (by kernel_rfl) (by kernel_rfl) (by kernel_rfl) (by kernel_rfl) (fun _ _ _ h => h) (Or.inl ⟨by rfl, ?_⟩) (by first | exact Or.inr (by assumption) | exact Or.inl (by kernel_rfl)) ?_
                rotate_left
                · ((intro w8 _; go_simp); try with_reducible rfl)
                try simp only [Act.put]
                try simp only [List.setIfInBounds_toArray]
                try simp only [List.set_cons_succ]
                try simp only [List.set_cons_zero]
                refine takeP (i := 18) (d := some 44) (v := ?_) rfl rfl (by kernel_rfl) (by kernel_rfl) (by kernel_rfl) (by kernel_rfl) (by kernel_rfl) (fun _ _ _ h => h) (Or.inl ⟨by rfl, ?_⟩) (by first | exact Or.inr (by assumption) | exact Or.inl (by kernel_rfl)) ?_
                rotate_left
                · ((intro w8 _; go_simp); try with_reducible rfl)
                try simp only [Act.put]
                try simp only [List.setIfInBounds_toArray]
                try simp only [List.set_cons_succ]
                try simp only [List.set_cons_zero]
                refine takeP (i := 19) (d := some 45) (v := ?_) rfl rfl (by kernel_rfl) (by kernel_rfl) (by kernel_rfl) (by kernel_rfl) (by kernel_rfl) (fun _ _ _ h => h) (Or.inl ⟨by rfl, ?_⟩) (by first | exact Or.inr (by assumption) | exact Or.inl (by kernel_rfl)) ?_
                rotate_left
                · ((intro w8 _; go_simp); try with_reducible rfl)
                try simp only [Act.put]
                try simp only [List.setIfInBounds_toArray]
                try simp only [List.set_cons_succ]
                try simp only [List.set_cons_zero]
                refine takeP (i := 20) (d := some 46) (v := ?_) rfl rfl (by kernel_rfl) (by kernel_rfl) (by kernel_rfl) (by kernel_rfl) (by kernel_rfl) (fun _ _ _ h => h) (Or.inl ⟨by rfl, ?_⟩) (by first | exact Or.inr (by assumption) | exact Or.inl (by kernel_rfl)) ?_
                rotate_left
                · ((intro w8 _; go_simp); try with_reducible rfl)
                try simp only [Act.put]
                try simp only [List.setIfInBounds_toArray]
                try simp only [List.set_cons_succ]
                try simp only [List.set_cons_zero]
                refine takeL (i := 21) (d := some 47) (v := ?_) rfl rfl (by kernel_rfl) (by kernel_rfl) (by kernel_rfl) (by kernel_rfl) (by kernel_rfl) (fun _ _ _ h => h) (Or.inl ⟨by rfl, ?_⟩) (by assumption) ?_
                rotate_left
                · ((intro w8 hSw; rw [HS4.out] at hSw; obtain ⟨h0, hC, g0, g1, g2⟩ := hSw; have h5 := h0.c5; rw [E5.out] at h5; have q0 := hC.c 0; have q1 := hC.c 1; have q2 := hC.c 2; simp only [List.getElem?_toArray, List.getElem?_cons_zero, List.getElem?_cons_succ] at q0 q1 q2; go_simp); try with_reducible rfl)
                try simp only [Act.put]
                try simp only [List.setIfInBounds_toArray]
                try simp only [List.set_cons_succ]
                try simp only [List.set_cons_zero]
                refine takeP (i := 22) (d := some 48) (v := ?_) rfl rfl (by kernel_rfl) (by kernel_rfl) (by kernel_rfl) (by kernel_rfl) (by kernel_rfl) (fun _ _ _ h => h) (Or.inl ⟨by rfl, ?_⟩) (by first | exact Or.inr (by assumption) | exact Or.inl (by kernel_rfl)) ?_
                rotate_left
                · ((intro w8 _; go_simp); try with_reducible rfl)
                try simp only [Act.put]
                try simp only [List.setIfInBounds_toArray]
                try simp only [List.set_cons_succ]
                try simp only [List.set_cons_zero]
                refine takeP (i := 23) (d := some 49) (v := ?_) rfl rfl (by kernel_rfl) (by kernel_rfl) (by kernel_rfl) (by kernel_rfl) (by kernel_rfl) (fun _ _ _ h => h) (Or.inl ⟨by rfl, ?_⟩) (by first | exact Or.inr (by assumption) | exact Or.inl (by kernel_rfl)) ?_
                rotate_left
                · ((intro w8 _; go_simp); try with_reducible rfl)
                try simp only [Act.put]
                try simp only [List.setIfInBounds_toArray]
                try simp only [List.set_cons_succ]
                try simp only [List.set_cons_zero]
                refine takeP (i := 24) (d := some 50) (v := ?_) rfl rfl (by kernel_rfl) (by kernel_rfl) (by kernel_rfl) (by kernel_rfl) (by kernel_rfl) (fun _ _ _ h => h) (Or.inl ⟨by rfl, ?_⟩) (by first | exact Or.inr (by assumption) | exact Or.inl (by kernel_rfl)) ?_
                rotate_left
                · ((intro w8 _; go_simp); try with_reducible rfl)
                try simp only [Act.put]
                try simp only [List.setIfInBounds_toArray]
                try simp only [List.set_cons_succ]
                try simp only [List.set_cons_zero]
                refine takeL (i := 25) (d := some 51) (v := ?_) rfl rfl (by kernel_rfl) (by kernel_rfl) (by kernel_rfl) (by kernel_rfl) (by kernel_rfl) (fun _ _ _ h => h) (Or.inl ⟨by rfl, ?_⟩) (by assumption) ?_
                rotate_left
                · ((intro w8 hSw; rw [HS4.out] at hSw; obtain ⟨h0, hC, g0, g1, g2⟩ := hSw; have h5 := h0.c5; rw [E5.out] at h5; have q0 := hC.c 0; have q1 := hC.c 1; have q2 := hC.c 2; simp only [List.getElem?_toArray, List.getElem?_cons_zero, List.getElem?_cons_succ] at q0 q1 q2; go_simp); try with_reducible rfl)
                try simp only [Act.put]
                try simp only [List.setIfInBounds_toArray]
                try simp only [List.set_cons_succ]
                try simp only [List.set_cons_zero]
                refine takeL (i := 26) (d := some 52) (v := ?_) rfl rfl (by kernel_rfl) (by kernel_rfl) (by kernel_rfl) (by kernel_rfl) (by kernel_rfl) (fun _ _ _ h => h) (Or.inl ⟨by rfl, ?_⟩) (by assumption) ?_
                rotate_left
                · ((intro w8 hSw; rw [HS4.out] at hSw; obtain ⟨h0, hC, g0, g1, g2⟩ := hSw; have h5 := h0.c5; rw [E5.out] at h5; have q0 := hC.c 0; have q1 := hC.c 1; have q2 := hC.c 2; simp only [List.getElem?_toArray, List.getElem?_cons_zero, List.getElem?_cons_succ] at q0 q1 q2; go_simp); try with_reducible rfl)
                try simp only [Act.put]
                try simp only [List.setIfInBounds_toArray]
                try simp only [List.set_cons_succ]
                try simp only [List.set_cons_zero]
                refine outL (i := 27) rfl (by kernel_rfl) (by kernel_rfl) (fun K8 hK8 => ?_)
                go_simp
                go_at_call 43; refine (HC.out _).mono ?_; rintro e9 w9 ⟨rfl, f9⟩
                have F9 := Lib.hid ((fuw_dr W 1).trans f9)
                refine hK8 _ _ ?_
                try simp only [Act.put]
                try simp only [List.setIfInBounds_toArray]
                try simp only [List.set_cons_succ]
                try simp only [List.set_cons_zero]
                refine takeP (i := 28) (d := some 54) (v := ?_) rfl rfl (by kernel_rfl) (by kernel_rfl) (by kernel_rfl) (by kernel_rfl) (by kernel_rfl) (fun _ _ _ h => h) (Or.inl ⟨by rfl, ?_⟩) (by first | exact Or.inr (by assumption) | exact Or.inl (by kernel_rfl)) ?_
                rotate_left
                · ((intro w8 _; go_simp); try with_reducible rfl)
                try simp only [Act.put]
                try simp only [List.setIfInBounds_toArray]
                try simp only [List.set_cons_succ]
                try simp only [List.set_cons_zero]
                refine takeP (i := 29) (d := some 55) (v := ?_) rfl rfl (by kernel_rfl) (by kernel_rfl) (by kernel_rfl) (by kernel_rfl) (by kernel_rfl) (fun _ _ _ h => h) (Or.inl ⟨by rfl, ?_⟩) (by first | exact Or.inr (by assumption) | exact Or.inl (by kernel_rfl)) ?_
                rotate_left
                · ((intro w8 _; go_simp); try with_reducible rfl)
                try simp only [Act.put]
                try simp only [List.setIfInBounds_toArray]
                try simp only [List.set_cons_succ]
                try simp only [List.set_cons_zero]
                refine takeP (i := 30) (d := some 56) (v := ?_) rfl rfl (by kernel_rfl) (by kernel_rfl) (by kernel_rfl) (by kernel_rfl) (by kernel_rfl) (fun _ _ _ h => h) (Or.inl ⟨by rfl, ?_⟩) (by first | exact Or.inr (by assumption) | exact Or.inl (by kernel_rfl)) ?_
                rotate_left
                · ((intro w8 _; go_simp); try with_reducible rfl)
                try simp only [Act.put]
                try simp only [List.setIfInBounds_toArray]
                try simp only [List.set_cons_succ]
                try simp only [List.set_cons_zero]
                refine lst_done (by kernel_rfl) ?_ _
                have FE := Lib.hid (FW.out.trans F9.out)
                clear k0 k1 k2 k3 k4 d0 d1 d2 x5 g2 g3
                cases q with
                | false =>
                  have HY := Lib.hid (HFl.out HAd2.out)
                  go_wp2
                  go_ret
                  exact ⟨ret_bool HY.out.symm, F0.out.trans FE.out⟩
                | true =>
                  have HY := Lib.hid (HTr.out HAd2.out)
                  go_wp2
                  go_roundw
                  case rel => exact ⟨i + 1, by go_num, by omega, HY, FE⟩
                  case measure => simp [RowKit.intOf]; omega
      · have hge : ¬ (i : Int) < (o.ads.length : Int) := by omega
        have HZ2 := Lib.hid (show R = ((List.range o.dls.length).all (dlOk (fun n => (edg (entL o.c)).contains n) o.dls) && dstI (edg (entR o))) by rw [HZ.out, all_rng1 fun j hj => HA.out j (by omega), Bool.true_and])
        have HEn1 := Lib.hid (HEn.out wr hf.out)
        rw [show entC o.c = entL o.c from if_pos HQ.out] at HEn1
        have HIe := Lib.hid (HI64.out HQ.out)
        have F2 := Lib.hid hf.out
        have x1 := (B0.out.on F2.out).c1; have x2 := (B0.out.on F2.out).c2; have x3 := (B0.out.on F2.out).c3; have x4 := (B0.out.on F2.out).c4; have x5 := (B0.out.on F2.out).c5; have x6 := (B0.out.on F2.out).c6
        unfold RetJ at HEn1
        generalize entL o.c = E at *
        clear HZ HA hf
        go_wp2_with fail
        go_at_call 25; refine HEn1.out.mono ?_; rintro e2 w2 ⟨v, rfl, ho, f2⟩
        obtain ⟨ao, cap, hv, -, hS⟩ := slJ_own ho HIe.out
        subst hv
        have HS := Lib.hid hS
        have F3 := Lib.hid (F2.out.trans f2)
        clear ho f2 hS x1 x2 x3 x4 x5 x6 HEn1
        go_wp2
        go_loopw [6] (fun iv wr => ∃ i : Nat, iv = .int .i64 i ∧ i ≤ o.dls.length ∧ Hid (∀ j, j < i → dlOk (fun n => (edg E).contains n) o.dls j = true) ∧ Hid (Fuw w2 wr)) (fun iv _ => o.dls.length - (RowKit.intOf iv).toNat)
        case atStart => exact ⟨0, rfl, Nat.zero_le _, Lib.hid (fun j h => absurd h (Nat.not_lt_zero j)), Lib.hid (Fuw.refl _)⟩
        case round =>
          clear hlt hge
          obtain ⟨i, rfl, hi, HA, hf⟩ := hrel
          have FX := Lib.hid (F3.out.trans hf.out)
          have x6 := (B0.out.on FX.out).c6
          by_cases hlt : i < o.dls.length
          · have HFl := Lib.hid (fun h : dlOk (fun n => (edg E).contains n) o.dls i = false => show R = false by rw [HZ2.out, all_rng hlt h]; rfl)
            have HTr := Lib.hid (fun h : dlOk (fun n => (edg E).contains n) o.dls i = true => show ∀ j, j < i + 1 → dlOk (fun n => (edg E).contains n) o.dls j = true from fun j hj => by
              rcases Nat.lt_or_eq_of_le (Nat.le_of_lt_succ hj) with q | q
              · exact HA.out j q
              · rw [q]; exact h)
            have HAd := Lib.hid (show dlOk (fun n => (edg E).contains n) o.dls i = ((decide (i = 0) || decide (o.dls.getD (i - 1) 0 < o.dls[i])) && (edg E).contains o.dls[i]) by unfold dlOk; rw [gd hlt])
            obtain ⟨b, f, e6, -, c0⟩ := (slI_on FX.out HO.out.d).get hlt
            have HPv := Lib.hid (fun (j : Nat) (h : j < o.dls.length) => (slI_on FX.out HO.out.d).get h)
            rw [e6] at x6 HPv
            rw [Nat.mul_one] at c0
            generalize o.dls[i] = n at *
            have HQe := Lib.hid (fun m => redge_q E ao cap n (wr.drewN m) (slJ_on (hf.out.trans (fuw_dr wr m)) HS.out))
            obtain ⟨qe, hqe⟩ : ∃ qe, (edg E).contains n = qe := ⟨_, rfl⟩
            rw [hqe] at HQe HAd
            have z1 : (i : Int) < (o.dls.length : Int) := by omega
            clear e6 hqe
            by_cases h0 : i = 0
            · have g2 : decide ((0 : Int) < (i : Int)) = false := decide_eq_false (by omega)
              have g3 : decide (0 < i) = false := decide_eq_false (by omega)
              have HAd2 := Lib.hid (show dlOk (fun n => (edg E).contains n) o.dls i = qe by rw [HAd.out, decide_eq_true h0]; simp)
              clear h0
              cases qe with
              | false =>
                have HY := Lib.hid (HFl.out HAd2.out)
                go_upto_region 13 with fail
                go_quiet ((go_at_call 44; exact Calls.quiet_of (HQe.out _)))
                clear c0 x6 g2 g3
                go_wp2
                go_ret
                exact ⟨ret_bool HY.out.symm, F0.out.trans (FX.out.trans (fuw_dr _ _))⟩
              | true =>
                have HY := Lib.hid (HTr.out HAd2.out)
                go_upto_region 13 with fail
                go_quiet ((go_at_call 44; exact Calls.quiet_of (HQe.out _)))
                clear c0 x6 g2 g3
                go_wp2
                go_roundw
                case rel => exact ⟨i + 1, by go_num, by omega, HY, Lib.hid (hf.out.trans (fuw_dr _ _))⟩
                case measure => simp [RowKit.intOf]; omega
            · have g2 : decide ((0 : Int) < (i : Int)) = true := decide_eq_true (by omega)
              have g3 : decide (0 < i) = true := decide_eq_true (by omega)
              obtain ⟨m, hm⟩ : ∃ m, i = m + 1 := ⟨i - 1, by omega⟩
              have hml : m < o.dls.length := by omega
              obtain ⟨b', f', e', -, d0⟩ := HPv.out m hml
              cases e'
              rw [Nat.mul_one] at d0
              have HAd1 := Lib.hid (show dlOk (fun n => (edg E).contains n) o.dls i = (decide (o.dls[m] < n) && qe) by rw [HAd.out, decide_eq_false h0, show i - 1 = m by omega, gd hml]; simp)
              generalize o.dls[m] = pv at *
              have k3 : IntKind.i64.wrap ((i : Int) - 1) = (m : Int) := by rw [show (i : Int) - 1 = m by omega]; exact IntWalk.i64_in _ (by omega)
              have k4 : (m : Int) < (o.dls.length : Int) := by omega
              clear h0 hm
              by_cases h1 : pv < n
              · have k5 : decide (n ≤ pv) = false := decide_eq_false (by omega)
                have HAd2 := Lib.hid (show dlOk (fun n => (edg E).contains n) o.dls i = qe by rw [HAd1.out, decide_eq_true h1, Bool.true_and])
                clear h1
                cases qe with
                | false =>
                  have HY := Lib.hid (HFl.out HAd2.out)
                  go_upto_region 13 with fail
                  go_quiet ((go_at_call 44; exact Calls.quiet_of (HQe.out _)))
                  clear c0 x6 g2 g3
                  go_wp2
                  go_ret
                  exact ⟨ret_bool HY.out.symm, F0.out.trans (FX.out.trans (fuw_dr _ _))⟩
                | true =>
                  have HY := Lib.hid (HTr.out HAd2.out)
                  go_upto_region 13 with fail
                  go_quiet ((go_at_call 44; exact Calls.quiet_of (HQe.out _)))
                  clear c0 x6 g2 g3
                  go_wp2
                  go_roundw
                  case rel => exact ⟨i + 1, by go_num, by omega, HY, Lib.hid (hf.out.trans (fuw_dr _ _))⟩
                  case measure => simp [RowKit.intOf]; omega
              · have k5 : decide (n ≤ pv) = true := decide_eq_true (by omega)
                have HAd2 := Lib.hid (show dlOk (fun n => (edg E).contains n) o.dls i = false by rw [HAd1.out, decide_eq_false h1, Bool.false_and])
                clear h1
                have HY := Lib.hid (HFl.out HAd2.out)
                go_upto_region 13 with fail
                go_quiet ((go_at_call 44; exact Calls.quiet_of (HQe.out _)))
                clear c0 x6 g2 g3
                go_wp2
                go_ret
                exact ⟨ret_bool HY.out.symm, F0.out.trans (FX.out.trans (fuw_dr _ _))⟩
          · have hge : ¬ (i : Int) < (o.dls.length : Int) := by omega
            have HZ3 := Lib.hid (show R = dstI (edg (entR o)) by rw [HZ2.out, all_rng1 fun j hj => HA.out j (by omega), Bool.true_and])
            clear HZ2 HA
            have HRe1 := Lib.hid (HRe.out wr FX.out HQ.out)
            have HIe2 := Lib.hid (HI64R.out HQ.out)
            have hL := HLR.out HQ.out
            have x1 := (B0.out.on FX.out).c1; have x2 := (B0.out.on FX.out).c2; have x3 := (B0.out.on FX.out).c3; have x4 := (B0.out.on FX.out).c4; have x5 := (B0.out.on FX.out).c5; have x6 := (B0.out.on FX.out).c6
            unfold RetJ at HRe1
            generalize entR o = L at *
            go_wp2_with fail
            go_at_call 30; refine HRe1.out.mono ?_; rintro e3 w3 ⟨v, rfl, ho, f3⟩
            obtain ⟨ao2, cap2, hv, -, hS⟩ := slJ_own ho HIe2.out
            subst hv
            have HS := Lib.hid hS
            have F2 := Lib.hid (FX.out.trans f3)
            have F3 := Lib.hid (Fuw.refl w3)
            clear ho f3 hS x1 x2 x3 x4 x5 x6 HRe1 hf
            go_wp2
            go_loopw [8] (fun iv wr => ∃ i : Nat, iv = .int .i64 i ∧ i ≤ L.length ∧ Hid (dstJ L i) ∧ Hid (Fuw w3 wr)) (fun iv _ => L.length - (RowKit.intOf iv).toNat)
            case atStart => exact ⟨0, rfl, Nat.zero_le _, Lib.hid (fun i j _ _ h => absurd h (Nat.not_lt_zero j)), F3⟩
            case round =>
              clear hlt hge
              obtain ⟨i, rfl, hi, HDj, hf⟩ := hrel
              by_cases hlt : i < L.length
              · have z1 : (i : Int) < (L.length : Int) := by omega
                have FI := Lib.hid hf.out
                clear hf
                go_wp2
                go_loopw [9] (fun jv wr => ∃ j : Nat, jv = .int .i64 j ∧ j ≤ i ∧ Hid (∀ m (hm : m < i), m < j → (L[m]'(Nat.lt_trans hm hlt)).2.2 ≠ L[i].2.2) ∧ Hid (Fuw w3 wr)) (fun jv _ => i - (RowKit.intOf jv).toNat)
                case atStart => exact ⟨0, rfl, Nat.zero_le _, Lib.hid (fun m _ h => absurd h (Nat.not_lt_zero m)), FI⟩
                case round =>
                  obtain ⟨j, rfl, hj, HM, hf⟩ := hrel
                  by_cases hji : j < i
                  · have hjl : j < L.length := by omega
                    obtain ⟨b, o, rfl, ⟨-, -, -, -, -, x2⟩, -, -, -, -, -, y2⟩ := (slJ_on hf.out HS.out).get2 hjl hlt
                    have HEq := Lib.hid (fun h : L[j].2.2 = L[i].2.2 => dst_no hji hlt h)
                    have HNe := Lib.hid (fun h : L[j].2.2 ≠ L[i].2.2 => show ∀ m (hm : m < i), m < j + 1 → (L[m]'(Nat.lt_trans hm hlt)).2.2 ≠ L[i].2.2 from fun m hm hmj => by
                      rcases Nat.lt_or_eq_of_le (Nat.le_of_lt_succ hmj) with q | q
                      · exact HM.out m hm q
                      · subst q; exact h)
                    obtain ⟨u, hu⟩ : ∃ u, L[j].2.2 = u := ⟨_, rfl⟩
                    obtain ⟨v, hv⟩ : ∃ v, L[i].2.2 = v := ⟨_, rfl⟩
                    rw [hu, hv] at HEq HNe
                    have HV := Lib.hid hv
                    rw [hu] at x2
                    rw [hv] at y2
                    have z2 : (j : Int) < (i : Int) := by omega
                    have z3 : (j : Int) < (L.length : Int) := by omega
                    clear hu hv
                    by_cases huv : u = v
                    · have p : (u == v) = true := by rw [beq_iff_eq]; exact huv
                      have HY := Lib.hid (show R = false by rw [HZ3.out]; exact HEq.out huv)
                      clear huv
                      go_upto_region 22 with fail
                      go_quiet (fail)
                      clear x2 y2 p
                      go_wp2
                      go_ret
                      exact ⟨ret_bool HY.out.symm, F0.out.trans (F2.out.trans (hf.out.trans (fuw_dr _ _)))⟩
                    · have p : (u == v) = false := by rw [beq_eq_false_iff_ne]; exact huv
                      have HY := Lib.hid (show ∀ m (hm : m < i), m < j + 1 → (L[m]'(Nat.lt_trans hm hlt)).2.2 ≠ L[i].2.2 by have := HNe.out huv; rw [← HV.out] at this; exact this)
                      clear huv
                      go_upto_region 22 with fail
                      go_quiet (fail)
                      clear x2 y2 p
                      go_wp2
                      go_roundw
                      case rel => exact ⟨j + 1, by go_num, by omega, HY, Lib.hid (hf.out.trans (fuw_dr _ _))⟩
                      case measure => simp [RowKit.intOf]; omega
                  · have hge : ¬ (j : Int) < (i : Int) := by omega
                    have HY := Lib.hid (dstJ_step hlt HDj.out fun m hm => HM.out m hm (by omega))
                    go_wp2
                    go_roundw
                    case rel => exact ⟨i + 1, by go_num, by omega, HY, hf⟩
                    case measure => simp [RowKit.intOf]; omega
              · have hge : ¬ (i : Int) < (L.length : Int) := by omega
                have HY := Lib.hid (show R = true by rw [HZ3.out]; exact dst_yes (by have := HDj.out; rwa [show i = L.length by omega] at this))
                go_wp2
                go_ret
                exact ⟨ret_bool HY.out.symm, F0.out.trans (F2.out.trans hf.out)⟩
set_option maxHeartbeats 3200000 in
set_option maxRecDepth 100000 in
theorem rentr13_any (o : Ov) (A : OA) (w : World) (hO : OIn w o A) (hs : SmO o) (hz : o.c.ts.length + o.ads.length ≤ 50000) : Calls Tryz.prog 16 #[ovv o A] w (RetJ w (entS o)) := by
  obtain ⟨w0, hw0⟩ : ∃ w0, w.alloc (.cells (ovC o A) 27) = w0 := ⟨_, rfl⟩
  have B0 := Lib.hid (show OB w0 w.heap.size o A from ⟨by rw [← hw0]; exact Bk.new _ _ _⟩)
  have F0 := Lib.hid (show Fuw w w0 by rw [← hw0]; exact fuwA _ _)
  have HO := Lib.hid (hO.on F0.out)
  have H1 := Lib.hid (rvalid13_any o A w0 HO.out hs hz)
  have H6 := Lib.hid (fun w' (hf : Fuw w0 w') (h : valO o = true) => rents_any o A w' (HO.out.on hf) hs (valC_iff.2 (valO_iff.1 h).c) hz)
  have HK := Lib.hid (fun h : valO o = true => entR_ok h)
  obtain ⟨R, hR⟩ : ∃ R, R = entS o := ⟨_, rfl⟩
  have HR := Lib.hid (show R = if valO o = true then srtJ (entO o) else [] from hR)
  have HRR := Lib.hid hR
  rw [← hR]
  have x1 := B0.out.c1; have x2 := B0.out.c2; have x3 := B0.out.c3; have x4 := B0.out.c4; have x5 := B0.out.c5; have x6 := B0.out.c6
  unfold ovv RetJ at H6
  unfold ovv at H1 ⊢
  unfold ovC at hw0 H1 H6 ⊢
  clear hO hs hR
  obtain ⟨q, hq⟩ : ∃ q, valO o = q := ⟨_, rfl⟩
  rw [hq] at HR H1
  have HQ := Lib.hid hq
  clear hq
  go_enter Tryz.func16, Tryz.ntmps16
  go_upto_region 1 with fail
  clear hw0
  go_wp2_with fail
  go_at_call 13; refine H1.out.mono ?_; rintro e1 w1 ⟨rfl, f1⟩
  have F1 := Lib.hid f1
  replace x1 := (B0.out.on F1.out).c1; replace x2 := (B0.out.on F1.out).c2; replace x3 := (B0.out.on F1.out).c3; replace x4 := (B0.out.on F1.out).c4; replace x5 := (B0.out.on F1.out).c5; replace x6 := (B0.out.on F1.out).c6
  clear f1
  cases q with
  | false =>
    have HZ := Lib.hid (show R = [] by rw [HR.out]; simp)
    go_wp2
    go_ret
    exact ⟨_, rfl, by rw [HZ.out]; exact World.ownsRow_nil _ _ _ _, F0.out.trans F1.out⟩
  | true =>
    have HZ := Lib.hid (show R = entR o by rw [HRR.out, HK.out HQ.out])
    generalize entR o = L at *
    go_wp2_with fail
    go_at_call 30; refine (H6.out _ F1.out HQ.out).mono ?_; rintro e6 w6 ⟨v, rfl, ho, f6⟩
    have HO7 := Lib.hid ho
    have F7 := Lib.hid (F1.out.trans f6)
    clear ho f6 x1 x2 x3 x4 x5 x6
    go_wp2
    go_ret
    exact ⟨_, rfl, by rw [HZ.out]; exact own_le HO7.out (Nat.le_trans F0.out.size F1.out.size), F0.out.trans F7.out⟩
end Go.Proofs.YtpjikijfendmhaaGreat
