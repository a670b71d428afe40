
/-
  OverlayRows: the law's walk. Nothing that was there turns.
-/
import Derived.Test.YtpjikijfendmhaaOvY
namespace Go.Proofs.Ytpjikijfendmhaa
open Go.RowKit

/-- The rows of the nodes that come up among the first k entries, one behind the other. -/
def accS (s : List Aj) (k : Nat) : List Aj := (hdsN s k).flatMap fun j => rowF (s.getD j z3).1 s
theorem accS_t {s : List Aj} {i : Nat} (h : i < s.length) (hh : hdB s i = true) : accS s (i + 1) = accS s i ++ rowF s[i].1 s := by
  unfold accS
  rw [hds_step, if_pos hh, List.flatMap_append]
  simp only [List.flatMap_cons, List.flatMap_nil, List.append_nil, gdJ h]
theorem accS_f {s : List Aj} {i : Nat} (hh : hdB s i = false) : accS s (i + 1) = accS s i := by
  unfold accS
  rw [hds_step, if_neg (by rw [hh]; decide), List.append_nil]
theorem accS_len (s : List Aj) : ∀ i, (accS s i).length ≤ i * s.length
  | 0 => Nat.zero_le _
  | i + 1 => by
    have ih := accS_len s i
    unfold accS at *
    rw [hds_step, List.flatMap_append, List.length_append, Nat.succ_mul]
    refine Nat.add_le_add ih ?_
    by_cases hh : hdB s i = true
    · rw [if_pos hh]
      simp only [List.flatMap_cons, List.flatMap_nil, List.append_nil]
      exact rowF_len _ _
    · rw [if_neg hh]
      exact Nat.zero_le _
theorem rowF_pos {s : List Aj} {i : Nat} (h : i < s.length) : 0 < (rowF s[i].1 s).length :=
  List.length_pos_of_mem (List.mem_filter.2 ⟨List.getElem_mem h, by simp⟩)
theorem accS_all {s : List Aj} (h : s.Pairwise fun a b => adjL b a = false) : accS s s.length = s := rows_all h
theorem entO_160 {o : Ov} (h : Sz 60 o) : (keepD o.dls (entC o.c) ++ o.ads).length ≤ 161 := by
  rw [List.length_append]
  have h1 := keepD_len o.dls (entC o.c)
  have h2 := entc_len (c := o.c)
  have h3 := h.t
  have h4 := h.a
  omega
theorem entS_160 {o : Ov} (h : Sz 60 o) : (entS o).length ≤ 161 := by
  by_cases hv : valO o = true
  · rw [entS_ok (valO_iff.1 hv), srtJ_len, ← entO_ok hv]
    exact entO_160 h
  · unfold entS
    rw [if_neg hv]; exact Nat.zero_le _
theorem lay_tiny {s : List Aj} (h : s.length ≤ 161) : Tiny ⟨layV s, [], []⟩ := by
  have q := layN_len s s.length
  have e : (layV s).fs = (layN s s.length).fs ++ (if s.length = 0 then [] else [(s.length : Int)]) := rfl
  have k : (if s.length = 0 then ([] : List Int) else [(s.length : Int)]).length ≤ 1 := by split <;> simp
  refine ⟨?_, ?_, ?_, ?_, Nat.zero_le _, Nat.zero_le _⟩
  · show (layN s s.length).ns.length ≤ _; omega
  · show (layV s).fs.length ≤ _
    rw [e, List.length_append]; omega
  · show (layN s s.length).ts.length ≤ _; omega
  · show (layN s s.length).es.length ≤ _; omega
structure CO (o : Ov) (c : Cm) (N : Ov) : Prop where
  k : cmpV o = (c, 0)
  n : newV c = (N, 0)
  e : entS N = entS o
  t : Tiny N
  q : Tiny ⟨c, [], []⟩
theorem co_of {o : Ov} (h : valO o = true) (hs : Sz 60 o) : ∃ c N, CO o c N := by
  have k := valO_iff.1 h
  obtain ⟨v, -, e⟩ := new_cmp k
  have hl : (srtJ (entO o)).length ≤ 161 := by rw [srtJ_len, ← entO_ok h]; exact entO_160 hs
  exact ⟨layV (srtJ (entO o)), ⟨layV (srtJ (entO o)), [], []⟩, by unfold cmpV; rw [if_pos h, ofV_ok k], by unfold newV; rw [if_pos v], e, lay_tiny hl, lay_tiny hl⟩
set_option maxHeartbeats 25600000 in
set_option maxRecDepth 100000 in
theorem rows_walk (o : Ov) (A : OA) (w : World) (hO : OIn w o A) :
    Calls Try.prog 3 #[ovv o A] w (FwB w true) := by
  obtain ⟨w1, hw1⟩ : ∃ w1, w.alloc (.cells (ovC o A) 27) = w1 := ⟨_, rfl⟩
  have F1 := Lib.hid (show Fuw w w1 by rw [← hw1]; exact fuwA _ _)
  have BO := Lib.hid (show OB w1 w.heap.size o A from ⟨by rw [← hw1]; exact Bk.new _ _ _⟩)
  have HO := Lib.hid (hO.on F1.out)
  clear hO
  obtain ⟨i0, hi0, hz0, hz1, hz2⟩ := info_parts infoJ
  unfold ovv
  unfold ovC at hw1 ⊢
  go_enter Try.func3, Try.ntmps3
  go_upto_region 1 with fail
  clear hw1
  generalize w.heap.size = B3 at *
  have x1 := BO.out.c1; have x2 := BO.out.c2; have x3 := BO.out.c3; have x4 := BO.out.c4; have x5 := BO.out.c5; have x6 := BO.out.c6
  have HK := Lib.hid (few_any o A w1)
  unfold ovv ovC RetFew at HK
  go_wp2_with fail
  go_at_call 6; refine HK.out.mono ?_; rintro e2 w2 ⟨q, rfl, hq, f2⟩
  have F2 := Lib.hid (F1.out.trans f2)
  have BO2 := Lib.hid (BO.out.on f2)
  have HO2 := Lib.hid (HO.out.on f2)
  have HQ := Lib.hid hq
  clear hq f2 HK x1 x2 x3 x4 x5 x6 BO HO
  cases q with
  | false =>
    go_wp2_with fail
    go_at_call 7; refine (alive_any _).mono ?_; rintro e9 w9 ⟨rfl, f9⟩
    have FZ := Lib.hid (F2.out.trans f9)
    clear f9
    go_wp2
    go_ret
    exact ⟨ret_bool (by simp), FZ.out⟩
  | true =>
    have HF := Lib.hid (HQ.out rfl).sz
    have HK := Lib.hid (ents_x A w2 HO2.out (HF.out.tiny (by decide)))
    unfold ovv ovC RetL at HK
    obtain ⟨s, hs⟩ : ∃ s, entS o = s := ⟨_, rfl⟩
    have HSl0 := Lib.hid (entS_160 HF.out)
    have HSe := Lib.hid hs
    have HSl := Lib.hid (show s.length ≤ 1000 by have := HSl0.out; rw [hs] at this; omega)
    rw [hs] at HK
    clear hs
    have x1 := BO2.out.c1; have x2 := BO2.out.c2; have x3 := BO2.out.c3; have x4 := BO2.out.c4; have x5 := BO2.out.c5; have x6 := BO2.out.c6
    go_wp2_with fail
    go_at_call 8; refine HK.out.mono ?_; rintro e3 w3 ⟨b7, k7, rfl, hs3, f3⟩
    have F3 := Lib.hid (F2.out.trans f3)
    have BO3 := Lib.hid (BO2.out.on f3)
    have HO3 := Lib.hid (HO2.out.on f3)
    have L3 := Lib.hid hs3
    clear f3 hs3 HK x1 x2 x3 x4 x5 x6 BO2 HO2
    obtain ⟨p, hp⟩ : ∃ p, valO o = p := ⟨_, rfl⟩
    have HPv := Lib.hid hp
    have HK := Lib.hid (valo_x A w3 HO3.out (HF.out.tiny (by decide)) hp)
    unfold ovv ovC at HK
    clear hp
    have x1 := BO3.out.c1; have x2 := BO3.out.c2; have x3 := BO3.out.c3; have x4 := BO3.out.c4; have x5 := BO3.out.c5; have x6 := BO3.out.c6
    go_wp2_with fail
    go_at_call 9; refine HK.out.mono ?_; rintro e4 w4 ⟨rfl, f4⟩
    have F4 := Lib.hid (F3.out.trans f4)
    have BO4 := Lib.hid (BO3.out.on f4)
    have HO4 := Lib.hid (HO3.out.on f4)
    have L4 := Lib.hid (slJ_on f4 L3.out)
    clear f4 HK x1 x2 x3 x4 x5 x6 BO3 HO3 L3
    cases p with
    | false =>
      have hs0 : s = [] := by rw [← HSe.out]; unfold entS; rw [if_neg (by rw [HPv.out]; decide)]
      have HRw := Lib.hid (rowo_any o A 1 w4 HO4.out (HF.out.tiny (by decide)) (Nat.le_trans HSl0.out (by decide)))
      rw [show rowS o 1 = [] by unfold rowS; rw [HSe.out, hs0]; rfl] at HRw
      unfold ovv ovC RetJ at HRw
      subst hs0
      have x1 := BO4.out.c1; have x2 := BO4.out.c2; have x3 := BO4.out.c3; have x4 := BO4.out.c4; have x5 := BO4.out.c5; have x6 := BO4.out.c6
      simp only [List.length_nil]
      go_wp2_with fail
      go_at_call 10; refine HRw.out.mono ?_; rintro e5 w5 ⟨v, rfl, ho, f5⟩
      obtain ⟨ra, rk, hv, -, -⟩ := slJ_own ho (fun x hx => absurd hx (by simp))
      subst hv
      have F5 := Lib.hid (F4.out.trans f5)
      clear ho f5 x1 x2 x3 x4 x5 x6 HRw
      simp only [List.length_nil]
      go_wp2_with fail
      go_at_call 7; refine (alive_any _).mono ?_; rintro e9 w9 ⟨rfl, f9⟩
      have FZ := Lib.hid (F5.out.trans f9)
      clear f9
      go_wp2
      go_ret
      exact ⟨ret_bool (by simp), FZ.out⟩
    | true =>
      obtain ⟨c, N, HCO⟩ := co_of HPv.out HF.out
      have HC := Lib.hid HCO
      have HSrt := Lib.hid (show s.Pairwise fun a b => adjL b a = false by rw [← HSe.out]; exact (entS_inc (valO_iff.1 HPv.out)).imp fun h => adjL_asym h)
      have HI64 := Lib.hid (show ∀ x ∈ s, I64 x.1 ∧ I64 x.2.1 ∧ I64 x.2.2 by rw [← HSe.out]; exact entS_i64)
      clear HCO
      go_wp2
      go_loopw [4, 5] (fun lv iv wr => ∃ i : Nat, iv = .int .i64 i ∧ i ≤ s.length ∧ Hid (OwnJ w4 wr lv (accS s i)) ∧ Hid (Fuw w4 wr)) (fun _ iv _ => s.length - (RowKit.intOf iv).toNat)
      case atStart => exact ⟨0, rfl, Nat.zero_le _, Lib.hid (World.ownsRow_nil _ _ _ _), Lib.hid (Fuw.refl _)⟩
      case round =>
        obtain ⟨i, rfl, hi, HO, hf⟩ := hrel
        have hsl := HSl.out
        by_cases hlt : i < s.length
        · have z1 : (i : Int) < (s.length : Int) := by omega
          have BOr := Lib.hid (BO4.out.on hf.out)
          by_cases h0 : i = 0
          · have HD := Lib.hid (show hdB s i = true by unfold hdB; rw [decide_eq_true h0]; rfl)
            obtain ⟨b, f, hb7, -, -, -, c0, -, -⟩ := (slJ_on hf.out L4.out).get hlt
            subst hb7
            have hi0q : ((i : Int) == 0) = true := by rw [h0]; rfl
            clear h0
            go_upto_region 10 with fail
            go_quiet (fail)
            clear hi0q c0
            obtain ⟨V, hV⟩ : ∃ V, wr.drewN nq = V := ⟨_, rfl⟩
            have FV := Lib.hid (show Fuw wr V by rw [← hV]; exact fuw_dr wr nq)
            have FXV := Lib.hid (hf.out.trans FV.out)
            have HOV := Lib.hid (own_on HO.out FV.out)
            have BOr := Lib.hid (BO4.out.on FXV.out)
            rw [hV]
            clear hV
            obtain ⟨b', f', e', -, -, -, c0, -, -⟩ := (slJ_on FXV.out L4.out).get hlt
            cases e'
            have HT := Lib.hid (show accS s (i + 1) = accS s i ++ rowF s[i].1 s by rw [accS_t hlt HD.out])
            have HP := Lib.hid (rowF_pos hlt)
            have HRw := Lib.hid (fun w' (h : Fuw V w') => rowo_any o A s[i].1 w' ((HO4.out.on FXV.out).on h) (HF.out.tiny (by decide)) (Nat.le_trans HSl0.out (by decide)))
            rw [show rowS o s[i].1 = rowF s[i].1 s by unfold rowS rowF; rw [HSe.out]] at HRw
            have HLn := accS_len s i
            have HLr := rowF_len s[i].1 s
            have hmul : i * s.length ≤ 1000 * 1000 := Nat.mul_le_mul (by omega) hsl
            generalize rowF s[i].1 s = L2 at *
            generalize accS s i = L at *
            generalize s[i].1 = x0 at *
            have ml : L.length + L2.length ≤ 2000000 := by omega
            unfold ovv ovC RetJ at HRw
            clear HLn HLr hmul
            go_upto_region 11 with fail
            obtain ⟨S, hS⟩ : ∃ S : World → Prop, S = (fun w8 => OB w8 B3 o A ∧ w8.cell? ⟨b, f + i * 3, none⟩ = some (.int .i64 x0)) := ⟨_, rfl⟩
            have HS4 := Lib.hid hS
            clear hS
            refine lst_start [7, 8] S (by kernel_rfl) ?_
            have hS0 : S V.drew := by rw [HS4.out]; exact ⟨BOr.out.on (fuw_dr V 1), cellOnw (fuw_dr V 1) c0⟩
            refine takeP (i := 0) (d := some 53) (v := ?_) rfl rfl (by kernel_rfl) (by kernel_rfl) (by kernel_rfl) (by kernel_rfl) (by kernel_rfl) (fun _ _ _ h => h) (Or.inl ⟨by rfl, ?_⟩) (by first | exact Or.inr (by assumption) | exact Or.inl (by kernel_rfl)) ?_
            rotate_left
            · ((intro w8 _; go_simp); try with_reducible rfl)
            try simp only [Act.put]
            try simp only [List.setIfInBounds_toArray]
            try simp only [List.set_cons_succ]
            try simp only [List.set_cons_zero]
            refine takeL (i := 1) (d := some 54) (v := ?_) rfl rfl (by kernel_rfl) (by kernel_rfl) (by kernel_rfl) (by kernel_rfl) (by kernel_rfl) (fun _ _ _ h => h) (Or.inl ⟨by rfl, ?_⟩) (by assumption) ?_
            rotate_left
            · ((intro w8 hSw; rw [HS4.out] at hSw; obtain ⟨h0, h7⟩ := hSw; have h1 := h0.c1; have h2 := h0.c2; have h3 := h0.c3; have h4 := h0.c4; have h5 := h0.c5; have h6 := h0.c6; go_simp); try with_reducible rfl)
            try simp only [Act.put]
            try simp only [List.setIfInBounds_toArray]
            try simp only [List.set_cons_succ]
            try simp only [List.set_cons_zero]
            refine takeP (i := 2) (d := some 55) (v := ?_) rfl rfl (by kernel_rfl) (by kernel_rfl) (by kernel_rfl) (by kernel_rfl) (by kernel_rfl) (fun _ _ _ h => h) (Or.inl ⟨by rfl, ?_⟩) (by first | exact Or.inr (by assumption) | exact Or.inl (by kernel_rfl)) ?_
            rotate_left
            · ((intro w8 _; go_simp); try with_reducible rfl)
            try simp only [Act.put]
            try simp only [List.setIfInBounds_toArray]
            try simp only [List.set_cons_succ]
            try simp only [List.set_cons_zero]
            refine takeP (i := 3) (d := some 56) (v := ?_) rfl rfl (by kernel_rfl) (by kernel_rfl) (by kernel_rfl) (by kernel_rfl) (by kernel_rfl) (fun _ _ _ h => h) (Or.inl ⟨by rfl, ?_⟩) (by first | exact Or.inr (by assumption) | exact Or.inl (by kernel_rfl)) ?_
            rotate_left
            · ((intro w8 _; go_simp); try with_reducible rfl)
            try simp only [Act.put]
            try simp only [List.setIfInBounds_toArray]
            try simp only [List.set_cons_succ]
            try simp only [List.set_cons_zero]
            refine takeP (i := 4) (d := some 57) (v := ?_) rfl rfl (by kernel_rfl) (by kernel_rfl) (by kernel_rfl) (by kernel_rfl) (by kernel_rfl) (fun _ _ _ h => h) (Or.inl ⟨by rfl, ?_⟩) (by first | exact Or.inr (by assumption) | exact Or.inl (by kernel_rfl)) ?_
            rotate_left
            · ((intro w8 _; go_simp); try with_reducible rfl)
            try simp only [Act.put]
            try simp only [List.setIfInBounds_toArray]
            try simp only [List.set_cons_succ]
            try simp only [List.set_cons_zero]
            refine takeP (i := 5) (d := some 58) (v := ?_) rfl rfl (by kernel_rfl) (by kernel_rfl) (by kernel_rfl) (by kernel_rfl) (by kernel_rfl) (fun _ _ _ h => h) (Or.inl ⟨by rfl, ?_⟩) (by first | exact Or.inr (by assumption) | exact Or.inl (by kernel_rfl)) ?_
            rotate_left
            · ((intro w8 _; go_simp); try with_reducible rfl)
            try simp only [Act.put]
            try simp only [List.setIfInBounds_toArray]
            try simp only [List.set_cons_succ]
            try simp only [List.set_cons_zero]
            refine takeL (i := 6) (d := some 59) (v := ?_) rfl rfl (by kernel_rfl) (by kernel_rfl) (by kernel_rfl) (by kernel_rfl) (by kernel_rfl) (fun _ _ _ h => h) (Or.inl ⟨by rfl, ?_⟩) (by assumption) ?_
            rotate_left
            · ((intro w8 hSw; rw [HS4.out] at hSw; obtain ⟨h0, h7⟩ := hSw; have h1 := h0.c1; have h2 := h0.c2; have h3 := h0.c3; have h4 := h0.c4; have h5 := h0.c5; have h6 := h0.c6; go_simp); try with_reducible rfl)
            try simp only [Act.put]
            try simp only [List.setIfInBounds_toArray]
            try simp only [List.set_cons_succ]
            try simp only [List.set_cons_zero]
            refine outL (i := 7) rfl (by kernel_rfl) (by kernel_rfl) (fun K8 hK8 => ?_)
            go_simp
            go_at_call 10; refine (HRw.out _ (fuw_dr V 1)).mono ?_; rintro e9 w9 ⟨v9, rfl, ho9, f9⟩
            obtain ⟨g9, k9, hv9, hn9⟩ := own_pos ho9 HP.out
            subst hv9
            have F9 := Lib.hid ((fuw_dr V 1).trans f9)
            have HN9 := Lib.hid hn9
            have HO9 := Lib.hid (own_on HOV.out F9.out)
            clear ho9 f9 hn9
            refine hK8 _ _ ?_
            try simp only [Act.put]
            try simp only [List.setIfInBounds_toArray]
            try simp only [List.set_cons_succ]
            try simp only [List.set_cons_zero]
            refine outL (i := 8) rfl (by kernel_rfl) (by kernel_rfl) (fun K8 hK8 => ?_)
            refine step_append_lies _ rfl (.tmp 53) (.tmp 60) 25 rfl w4.heap.size 33 i0 (.agg #[.int .i64 0, .int .i64 0, .int .i64 0]) 3 24 Try.underlying25 hi0 hz0 hz1 hz2 rfl (by decide) _ L.length (aC L) rfl HO9.out ⟨g9, 0, none⟩ L2.length k9 (aC L2) rfl (aC_len _) HN9.out (one_adjs _) HP.out (by unfold maxLen; omega) (by omega) (Nat.le_trans FXV.out.size F9.out.size) _ rfl ?_
            intro g' cap' w5 hown5 hgrow hat _
            refine hK8 _ _ ?_
            try simp only [Act.put]
            try simp only [List.setIfInBounds_toArray]
            try simp only [List.set_cons_succ]
            try simp only [List.set_cons_zero]
            refine takeP (i := 9) (d := some 4) (v := ?_) rfl rfl (by kernel_rfl) (by kernel_rfl) (by kernel_rfl) (by kernel_rfl) (by kernel_rfl) (fun _ _ _ h => h) (Or.inl ⟨by rfl, ?_⟩) (by first | exact Or.inr (by assumption) | exact Or.inl (by kernel_rfl)) ?_
            rotate_left
            · ((intro w8 _; go_simp); try with_reducible rfl)
            try simp only [Act.put]
            try simp only [List.setIfInBounds_toArray]
            try simp only [List.set_cons_succ]
            try simp only [List.set_cons_zero]
            refine lst_done (by kernel_rfl) ?_ _
            have HG := Lib.hid (fuw_grown (FXV.out.trans F9.out) HO9.out hgrow)
            have HO2 := Lib.hid (show OwnJ w4 w5 (.slice (some ⟨g', 0, none⟩) (L.length + L2.length) cap') (accS s (i + 1)) from by
              unfold OwnJ
              rw [HT.out, aC_app, List.length_append]; exact hown5)
            clear hown5 hgrow hat c0
            go_wp2
            go_roundw
            case rel => exact ⟨i + 1, by go_num, by omega, HO2, HG⟩
            case measure => simp [RowKit.intOf]; omega
          · obtain ⟨m, hm⟩ : ∃ m, i = m + 1 := ⟨i - 1, by omega⟩
            have hml : m < s.length := by omega
            obtain ⟨b, f, hb7, ⟨-, -, -, p0, -, -⟩, -, -, -, c0, -, -⟩ := (slJ_on hf.out L4.out).get2 hml hlt
            subst hb7
            have HH := Lib.hid (show hdB s i = !decide (s[i].1 = s[m].1) by
              unfold hdB
              rw [decide_eq_false h0, gdJ hlt, show i - 1 = m by omega, gdJ hml]; rfl)
            obtain ⟨xi, hxi⟩ : ∃ xi, s[i].1 = xi := ⟨_, rfl⟩
            obtain ⟨xm, hxm⟩ : ∃ xm, s[m].1 = xm := ⟨_, rfl⟩
            rw [hxi, hxm] at HH
            rw [hxi] at c0
            rw [hxm] at p0
            have hi0q : ((i : Int) == 0) = false := by rw [beq_eq_false_iff_ne]; omega
            have k1 : IntKind.i64.wrap ((i : Int) - 1) = (m : Int) := by rw [show (i : Int) - 1 = m by omega]; exact IntWalk.i64_in _ (by have := HSl.out; omega)
            have k2 : (m : Int) < (s.length : Int) := by omega
            clear h0 hm hxi hxm
            by_cases hx : xi = xm
            · have hq : (xi != xm) = false := by rw [bne_eq_false_iff_eq]; exact hx
              have HD := Lib.hid (show hdB s i = false by rw [HH.out, decide_eq_true hx]; rfl)
              clear hx HH
              go_upto_region 10 with fail
              go_quiet (fail)
              clear hi0q c0 p0 k1 k2 hq
              obtain ⟨V, hV⟩ : ∃ V, wr.drewN nq = V := ⟨_, rfl⟩
              have FV := Lib.hid (show Fuw wr V by rw [← hV]; exact fuw_dr wr nq)
              have FXV := Lib.hid (hf.out.trans FV.out)
              have HOV := Lib.hid (own_on HO.out FV.out)
              have BOr := Lib.hid (BO4.out.on FXV.out)
              rw [hV]
              clear hV
              have HO2 := Lib.hid (show OwnJ w4 V _ (accS s (i + 1)) from by rw [accS_f HD.out]; exact HOV.out)
              go_wp2
              go_roundw
              case rel => exact ⟨i + 1, by go_num, by omega, HO2, FXV⟩
              case measure => simp [RowKit.intOf]; omega
            · have hq : (xi != xm) = true := by rw [bne_iff_ne]; exact hx
              have HD := Lib.hid (show hdB s i = true by rw [HH.out, decide_eq_false hx]; rfl)
              clear hx HH
              go_upto_region 10 with fail
              go_quiet (fail)
              clear hi0q c0 p0 k1 k2 hq
              obtain ⟨V, hV⟩ : ∃ V, wr.drewN nq = V := ⟨_, rfl⟩
              have FV := Lib.hid (show Fuw wr V by rw [← hV]; exact fuw_dr wr nq)
              have FXV := Lib.hid (hf.out.trans FV.out)
              have HOV := Lib.hid (own_on HO.out FV.out)
              have BOr := Lib.hid (BO4.out.on FXV.out)
              rw [hV]
              clear hV
              obtain ⟨b', f', e', -, -, -, c0, -, -⟩ := (slJ_on FXV.out L4.out).get hlt
              cases e'
              have HT := Lib.hid (show accS s (i + 1) = accS s i ++ rowF s[i].1 s by rw [accS_t hlt HD.out])
              have HP := Lib.hid (rowF_pos hlt)
              have HRw := Lib.hid (fun w' (h : Fuw V w') => rowo_any o A s[i].1 w' ((HO4.out.on FXV.out).on h) (HF.out.tiny (by decide)) (Nat.le_trans HSl0.out (by decide)))
              rw [show rowS o s[i].1 = rowF s[i].1 s by unfold rowS rowF; rw [HSe.out]] at HRw
              have HLn := accS_len s i
              have HLr := rowF_len s[i].1 s
              have hmul : i * s.length ≤ 1000 * 1000 := Nat.mul_le_mul (by omega) hsl
              generalize rowF s[i].1 s = L2 at *
              generalize accS s i = L at *
              generalize s[i].1 = x0 at *
              have ml : L.length + L2.length ≤ 2000000 := by omega
              unfold ovv ovC RetJ at HRw
              clear HLn HLr hmul
              go_upto_region 11 with fail
              obtain ⟨S, hS⟩ : ∃ S : World → Prop, S = (fun w8 => OB w8 B3 o A ∧ w8.cell? ⟨b, f + i * 3, none⟩ = some (.int .i64 x0)) := ⟨_, rfl⟩
              have HS4 := Lib.hid hS
              clear hS
              refine lst_start [7, 8] S (by kernel_rfl) ?_
              have hS0 : S V.drew := by rw [HS4.out]; exact ⟨BOr.out.on (fuw_dr V 1), cellOnw (fuw_dr V 1) c0⟩
              refine takeP (i := 0) (d := some 53) (v := ?_) rfl rfl (by kernel_rfl) (by kernel_rfl) (by kernel_rfl) (by kernel_rfl) (by kernel_rfl) (fun _ _ _ h => h) (Or.inl ⟨by rfl, ?_⟩) (by first | exact Or.inr (by assumption) | exact Or.inl (by kernel_rfl)) ?_
              rotate_left
              · ((intro w8 _; go_simp); try with_reducible rfl)
              try simp only [Act.put]
              try simp only [List.setIfInBounds_toArray]
              try simp only [List.set_cons_succ]
              try simp only [List.set_cons_zero]
              refine takeL (i := 1) (d := some 54) (v := ?_) rfl rfl (by kernel_rfl) (by kernel_rfl) (by kernel_rfl) (by kernel_rfl) (by kernel_rfl) (fun _ _ _ h => h) (Or.inl ⟨by rfl, ?_⟩) (by assumption) ?_
              rotate_left
              · ((intro w8 hSw; rw [HS4.out] at hSw; obtain ⟨h0, h7⟩ := hSw; have h1 := h0.c1; have h2 := h0.c2; have h3 := h0.c3; have h4 := h0.c4; have h5 := h0.c5; have h6 := h0.c6; go_simp); try with_reducible rfl)
              try simp only [Act.put]
              try simp only [List.setIfInBounds_toArray]
              try simp only [List.set_cons_succ]
              try simp only [List.set_cons_zero]
              refine takeP (i := 2) (d := some 55) (v := ?_) rfl rfl (by kernel_rfl) (by kernel_rfl) (by kernel_rfl) (by kernel_rfl) (by kernel_rfl) (fun _ _ _ h => h) (Or.inl ⟨by rfl, ?_⟩) (by first | exact Or.inr (by assumption) | exact Or.inl (by kernel_rfl)) ?_
              rotate_left
              · ((intro w8 _; go_simp); try with_reducible rfl)
              try simp only [Act.put]
              try simp only [List.setIfInBounds_toArray]
              try simp only [List.set_cons_succ]
              try simp only [List.set_cons_zero]
              refine takeP (i := 3) (d := some 56) (v := ?_) rfl rfl (by kernel_rfl) (by kernel_rfl) (by kernel_rfl) (by kernel_rfl) (by kernel_rfl) (fun _ _ _ h => h) (Or.inl ⟨by rfl, ?_⟩) (by first | exact Or.inr (by assumption) | exact Or.inl (by kernel_rfl)) ?_
              rotate_left
              · ((intro w8 _; go_simp); try with_reducible rfl)
              try simp only [Act.put]
              try simp only [List.setIfInBounds_toArray]
              try simp only [List.set_cons_succ]
              try simp only [List.set_cons_zero]
              refine takeP (i := 4) (d := some 57) (v := ?_) rfl rfl (by kernel_rfl) (by kernel_rfl) (by kernel_rfl) (by kernel_rfl) (by kernel_rfl) (fun _ _ _ h => h) (Or.inl ⟨by rfl, ?_⟩) (by first | exact Or.inr (by assumption) | exact Or.inl (by kernel_rfl)) ?_
              rotate_left
              · ((intro w8 _; go_simp); try with_reducible rfl)
              try simp only [Act.put]
              try simp only [List.setIfInBounds_toArray]
              try simp only [List.set_cons_succ]
              try simp only [List.set_cons_zero]
              refine takeP (i := 5) (d := some 58) (v := ?_) rfl rfl (by kernel_rfl) (by kernel_rfl) (by kernel_rfl) (by kernel_rfl) (by kernel_rfl) (fun _ _ _ h => h) (Or.inl ⟨by rfl, ?_⟩) (by first | exact Or.inr (by assumption) | exact Or.inl (by kernel_rfl)) ?_
              rotate_left
              · ((intro w8 _; go_simp); try with_reducible rfl)
              try simp only [Act.put]
              try simp only [List.setIfInBounds_toArray]
              try simp only [List.set_cons_succ]
              try simp only [List.set_cons_zero]
              refine takeL (i := 6) (d := some 59) (v := ?_) rfl rfl (by kernel_rfl) (by kernel_rfl) (by kernel_rfl) (by kernel_rfl) (by kernel_rfl) (fun _ _ _ h => h) (Or.inl ⟨by rfl, ?_⟩) (by assumption) ?_
              rotate_left
              · ((intro w8 hSw; rw [HS4.out] at hSw; obtain ⟨h0, h7⟩ := hSw; have h1 := h0.c1; have h2 := h0.c2; have h3 := h0.c3; have h4 := h0.c4; have h5 := h0.c5; have h6 := h0.c6; go_simp); try with_reducible rfl)
              try simp only [Act.put]
              try simp only [List.setIfInBounds_toArray]
              try simp only [List.set_cons_succ]
              try simp only [List.set_cons_zero]
              refine outL (i := 7) rfl (by kernel_rfl) (by kernel_rfl) (fun K8 hK8 => ?_)
              go_simp
              go_at_call 10; refine (HRw.out _ (fuw_dr V 1)).mono ?_; rintro e9 w9 ⟨v9, rfl, ho9, f9⟩
              obtain ⟨g9, k9, hv9, hn9⟩ := own_pos ho9 HP.out
              subst hv9
              have F9 := Lib.hid ((fuw_dr V 1).trans f9)
              have HN9 := Lib.hid hn9
              have HO9 := Lib.hid (own_on HOV.out F9.out)
              clear ho9 f9 hn9
              refine hK8 _ _ ?_
              try simp only [Act.put]
              try simp only [List.setIfInBounds_toArray]
              try simp only [List.set_cons_succ]
              try simp only [List.set_cons_zero]
              refine outL (i := 8) rfl (by kernel_rfl) (by kernel_rfl) (fun K8 hK8 => ?_)
              refine step_append_lies _ rfl (.tmp 53) (.tmp 60) 25 rfl w4.heap.size 33 i0 (.agg #[.int .i64 0, .int .i64 0, .int .i64 0]) 3 24 Try.underlying25 hi0 hz0 hz1 hz2 rfl (by decide) _ L.length (aC L) rfl HO9.out ⟨g9, 0, none⟩ L2.length k9 (aC L2) rfl (aC_len _) HN9.out (one_adjs _) HP.out (by unfold maxLen; omega) (by omega) (Nat.le_trans FXV.out.size F9.out.size) _ rfl ?_
              intro g' cap' w5 hown5 hgrow hat _
              refine hK8 _ _ ?_
              try simp only [Act.put]
              try simp only [List.setIfInBounds_toArray]
              try simp only [List.set_cons_succ]
              try simp only [List.set_cons_zero]
              refine takeP (i := 9) (d := some 4) (v := ?_) rfl rfl (by kernel_rfl) (by kernel_rfl) (by kernel_rfl) (by kernel_rfl) (by kernel_rfl) (fun _ _ _ h => h) (Or.inl ⟨by rfl, ?_⟩) (by first | exact Or.inr (by assumption) | exact Or.inl (by kernel_rfl)) ?_
              rotate_left
              · ((intro w8 _; go_simp); try with_reducible rfl)
              try simp only [Act.put]
              try simp only [List.setIfInBounds_toArray]
              try simp only [List.set_cons_succ]
              try simp only [List.set_cons_zero]
              refine lst_done (by kernel_rfl) ?_ _
              have HG := Lib.hid (fuw_grown (FXV.out.trans F9.out) HO9.out hgrow)
              have HO2 := Lib.hid (show OwnJ w4 w5 (.slice (some ⟨g', 0, none⟩) (L.length + L2.length) cap') (accS s (i + 1)) from by
                unfold OwnJ
                rw [HT.out, aC_app, List.length_append]; exact hown5)
              clear hown5 hgrow hat c0
              go_wp2
              go_roundw
              case rel => exact ⟨i + 1, by go_num, by omega, HO2, HG⟩
              case measure => simp [RowKit.intOf]; omega
        · have hge : ¬ (i : Int) < (s.length : Int) := by omega
          have FXr := Lib.hid (F4.out.trans hf.out)
          have BOr := Lib.hid (BO4.out.on hf.out)
          have HOr := Lib.hid (HO4.out.on hf.out)
          have Lr := Lib.hid (slJ_on hf.out L4.out)
          have HAl := Lib.hid (show OwnJ w4 wr _ s from by
            have := HO.out
            rwa [show i = s.length by omega, accS_all HSrt.out] at this)
          obtain ⟨aa, ak, hav, -, hAs⟩ := slJ_own HAl.out HI64.out
          subst hav
          have LA := Lib.hid hAs
          have HK := Lib.hid (cmpo_any o A wr HOr.out (HF.out.tiny (by decide)) (Nat.le_trans (entO_160 HF.out) (by decide)))
          rw [HC.out.k] at HK
          unfold ovv ovC RetCo at HK
          clear hAs hf HO HAl
          have x1 := BOr.out.c1; have x2 := BOr.out.c2; have x3 := BOr.out.c3; have x4 := BOr.out.c4; have x5 := BOr.out.c5; have x6 := BOr.out.c6
          go_wp2_with fail
          go_at_call 11; refine HK.out.mono ?_; rintro e5 w5 ⟨X, rfl, hcin, f5⟩
          have F5 := Lib.hid (FXr.out.trans f5)
          have L5 := Lib.hid (slJ_on f5 Lr.out)
          have LA5 := Lib.hid (slJ_on f5 LA.out)
          have HX5 := Lib.hid hcin
          clear hcin f5 HK x1 x2 x3 x4 x5 x6
          unfold colv colC
          go_upto_region 13 with fail
          obtain ⟨w6, hw6⟩ : ∃ w6, w5.alloc (.cells (colC c X) 24) = w6 := ⟨_, rfl⟩
          have G6 := Lib.hid (show Fuw w5 w6 by rw [← hw6]; exact fuwA _ _)
          have BX := Lib.hid (show Bk w6 w5.heap.size (colC c X) 24 by rw [← hw6]; exact Bk.new _ _ _)
          unfold colC at hw6
          rw [hw6]
          clear hw6
          have F6 := Lib.hid (F5.out.trans G6.out)
          have L6 := Lib.hid (slJ_on G6.out L5.out)
          have LA6 := Lib.hid (slJ_on G6.out LA5.out)
          have HX6 := Lib.hid (HX5.out.on G6.out)
          have k1 : w6.cell? ⟨w5.heap.size, 0, none⟩ = some (.slice X.a1 c.ns.length X.k1) := BX.out.c 0
          have k2 : w6.cell? ⟨w5.heap.size, 1, none⟩ = some (.slice X.a2 c.fs.length X.k2) := BX.out.c 1
          have k3 : w6.cell? ⟨w5.heap.size, 2, none⟩ = some (.slice X.a3 c.ts.length X.k3) := BX.out.c 2
          have k4 : w6.cell? ⟨w5.heap.size, 3, none⟩ = some (.slice X.a4 c.es.length X.k4) := BX.out.c 3
          have HK := Lib.hid (newo_any c X w6 HX6.out HC.out.q)
          rw [HC.out.n] at HK
          unfold colv colC RetO at HK
          go_wp2_with fail
          go_at_call 12; refine HK.out.mono ?_; rintro e7 w7 ⟨Y, rfl, hoin, f7⟩
          have F7 := Lib.hid (F6.out.trans f7)
          have L7 := Lib.hid (slJ_on f7 L6.out)
          have LA7 := Lib.hid (slJ_on f7 LA6.out)
          have HY7 := Lib.hid hoin
          clear hoin f7 HK k1 k2 k3 k4
          unfold ovv ovC
          go_upto_region 14 with fail
          obtain ⟨w8, hw8⟩ : ∃ w8, w7.alloc (.cells (ovC N Y) 27) = w8 := ⟨_, rfl⟩
          have G8 := Lib.hid (show Fuw w7 w8 by rw [← hw8]; exact fuwA _ _)
          have BY := Lib.hid (show OB w8 w7.heap.size N Y from ⟨by rw [← hw8]; exact Bk.new _ _ _⟩)
          unfold ovC at hw8
          rw [hw8]
          clear hw8
          have F8 := Lib.hid (F7.out.trans G8.out)
          have L8 := Lib.hid (slJ_on G8.out L7.out)
          have LA8 := Lib.hid (slJ_on G8.out LA7.out)
          have HY8 := Lib.hid (HY7.out.on G8.out)
          have HK := Lib.hid (adjs_any s s aa b7 ak k7 w8 LA8.out L8.out)
          rw [decide_eq_true (show s = s from rfl)] at HK
          go_wp2_with fail
          go_at_call 13; refine HK.out.mono ?_; rintro e9 w9 ⟨rfl, f9⟩
          have F9 := Lib.hid (F8.out.trans f9)
          have L9 := Lib.hid (slJ_on f9 L8.out)
          have HY9 := Lib.hid (HY8.out.on f9)
          have BY9 := Lib.hid (BY.out.on f9)
          clear f9 HK
          have HK := Lib.hid (ents_x Y w9 HY9.out HC.out.t)
          rw [HC.out.e, HSe.out] at HK
          unfold ovv ovC RetL at HK
          have y1 := BY9.out.c1; have y2 := BY9.out.c2; have y3 := BY9.out.c3; have y4 := BY9.out.c4; have y5 := BY9.out.c5; have y6 := BY9.out.c6
          go_wp2_with fail
          go_at_call 8; refine HK.out.mono ?_; rintro e10 w10 ⟨b11, k11, rfl, hs11, f10⟩
          have F10 := Lib.hid (F9.out.trans f10)
          have L10 := Lib.hid (slJ_on f10 L9.out)
          have LE10 := Lib.hid hs11
          clear f10 hs11 HK y1 y2 y3 y4 y5 y6
          have HK := Lib.hid (adjs_any s s b11 b7 k11 k7 w10 LE10.out L10.out)
          rw [decide_eq_true (show s = s from rfl)] at HK
          go_wp2_with fail
          go_at_call 13; refine HK.out.mono ?_; rintro e11 w11 ⟨rfl, f11⟩
          have F11 := Lib.hid (F10.out.trans f11)
          clear f11 HK
          go_wp2_with fail
          go_at_call 7; refine (alive_any _).mono ?_; rintro e9 w9 ⟨rfl, f9⟩
          have FZ := Lib.hid (F11.out.trans f9)
          clear f9
          go_wp2
          go_ret
          exact ⟨ret_bool (by simp), FZ.out⟩
end Go.Proofs.Ytpjikijfendmhaa
