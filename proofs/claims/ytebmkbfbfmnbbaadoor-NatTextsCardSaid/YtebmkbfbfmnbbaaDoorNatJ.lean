/-
  Package nat: Parse gives the list of the number that a string of digits without a leading zero spells, and true; for any other string, and for one of more than 576 bytes, an empty list and false. For every string; nothing that was there turns.
-/
import Derived.Test.YtebmkbfbfmnbbaaDoorNatI
namespace Go.Proofs.YtebmkbfbfmnbbaaDoor
open Go.RowKit

theorem dv_ge {c : UInt8} {r : List UInt8} (h : AllD (c :: r)) (hc : c ≠ 48) : 10 ^ r.length ≤ dv (c :: r) := by
  have e := dv_app [c] r
  rw [List.singleton_append] at e
  have e1 : dv [c] = c.toNat - 48 := by simp [dv]
  have k := h c (List.mem_cons_self ..)
  have g : c.toNat ≠ 48 := fun g => hc (UInt8.toNat_inj.1 (by rw [g]; rfl))
  rw [e, e1]
  have m : 1 * 10 ^ r.length ≤ (c.toNat - 48) * 10 ^ r.length := Nat.mul_le_mul_right _ (by omega)
  omega
theorem par_fin {l : List UInt8} {e : Int} {o : List Int} (h : ParAt l e o) (he : e ≤ 0) (h9 : -9 < e) (hA : AllD l) (hh : l.head? ≠ some 48) : o = lim (dv l) := by
  have hv := par_end h he
  rw [← hv]
  refine (lim_big h.digs ?_).symm
  cases l with
  | nil =>
    left
    have k := h.at_
    exact List.length_eq_zero_iff.1 (by simp at k; omega)
  | cons c r =>
    right
    have k := h.at_
    rw [List.length_cons] at k
    rw [hv, pow9]
    refine Nat.le_trans (Nat.pow_le_pow_right (by decide) (show 9 * (o.length - 1) ≤ r.length by omega)) (dv_ge hA ?_)
    intro e2
    rw [e2] at hh
    exact hh rfl
theorem seg_all {l : List UInt8} {A E : Nat} (hAE : A ≤ E) (hE : E ≤ l.length) (h1 : AllD ((l.take E).drop A)) (h2 : AllD (l.drop E)) : AllD (l.drop A) := by
  have e : l.drop A = (l.take E).drop A ++ l.drop E := by
    conv => lhs; rw [← List.take_append_drop E l]
    rw [List.drop_append_of_le_length (by rw [List.length_take]; omega)]
  rw [e]
  intro c hc
  rcases List.mem_append.1 hc with g | g
  · exact h1 c g
  · exact h2 c g
theorem ext_seg (s : ByteArray) (A E : Nat) : (s.extract A E).data.toList = (s.data.toList.take E).drop A := by
  rw [Lib.extract_data, List.drop_take]
theorem seg_not {l : List UInt8} {A E : Nat} (h : ¬ AllD ((l.take E).drop A)) : ¬ Fits l := fun g => h fun c hc => g.2.2.2 c (List.mem_of_mem_take (List.mem_of_mem_drop hc))

theorem own_below {w w' : World} {base e size : Nat} {v : Value} {n : Nat} {xs : List Value} (h : w.ownsRow base e size v n xs) (hf : Fur w w') : w'.ownsRow base e size v n xs := by
  refine ⟨h.1, ?_⟩
  rcases h.2 with h0 | ⟨g, cap, cur, hv, hg, hh, rest⟩
  · exact .inl h0
  · refine .inr ⟨g, cap, cur, hv, hg, ?_, rest⟩
    have hlt : g < w.heap.size := by
      rcases Nat.lt_or_ge g w.heap.size with k | k
      · exact k
      · rw [Array.getElem?_eq_none k] at hh; cases hh
    rw [Below.block hf g hlt]; exact hh

set_option maxHeartbeats 3200000 in
theorem nat_parse (s : ByteArray) (hs : s.size ≤ maxLen) (w : World) :
    Calls Tryd.prog 27 #[.string s] w (RetSB w (parL s.data.toList) (parB s.data.toList)) := by
  obtain ⟨i0, hi, hz0, hz1, hz2⟩ := info_parts infoI
  unfold maxLen at hs
  have hlen : s.data.toList.length = s.size := Array.length_toList
  by_cases h1 : s.data.toList = [48]
  · have e := par_t (l := s.data.toList) (by rw [h1]; exact ⟨by simp, by decide, by decide, by intro c hc; simp at hc; rw [hc]; decide⟩)
    have hq : (s.toList == [48]) = true := by rw [ByteArray.toList_eq, h1]; rfl
    rw [e.1, e.2]; clear e
    rw [h1]
    have e0 : lim (dv [48]) = [] := lim_0
    rw [e0]
    clear h1 e0 hlen
    go_enter Tryd.func27, Tryd.ntmps27
    go_wp2
    go_ret2
    exact ⟨none, 0, rfl, IsS.empty _, Fur.refl _⟩
  have hq : (s.toList == [48]) = false := by rw [ByteArray.toList_eq, beq_eq_false_iff_ne]; exact h1
  by_cases h0 : s.size = 0
  · have h2 : s.data.toList = [] := List.length_eq_zero_iff.1 (by omega)
    have e := par_f (l := s.data.toList) (fun g => g.1 h2)
    have hE : s.toList.isEmpty = true := by rw [ByteArray.toList_eq, h2]; rfl
    rw [e.1, e.2]; clear e hlen h1 h2 h0
    go_enter Tryd.func27, Tryd.ntmps27
    go_wp2
    go_ret2
    exact ⟨none, 0, rfl, IsS.empty _, Fur.refl _⟩
  have hp : 0 < s.size := by omega
  have hE : s.toList.isEmpty = false := by
    rw [ByteArray.toList_eq, List.isEmpty_eq_false_iff]
    intro g
    rw [g] at hlen
    simp at hlen
    omega
  clear h0
  have hh := head_of s hp
  by_cases h2 : ((s[0]'hp).toNat : Int) = 48
  · have e48 : s[0]'hp = 48 := UInt8.toNat_inj.1 (by show _ = 48; omega)
    have e := par_f (l := s.data.toList) (fun g => by
      rcases Nat.lt_or_ge 1 s.data.toList.length with k | k
      · exact g.2.2.1 ⟨k, by rw [hh, e48]⟩
      · obtain ⟨c, hc⟩ := List.length_eq_one_iff.1 (show s.data.toList.length = 1 by omega)
        rw [hc] at hh h1
        rw [e48] at hh
        exact h1 (by rw [Option.some.inj hh]))
    have h48 : (((s[0]'hp).toNat : Int) == 48) = true := by rw [beq_iff_eq]; exact h2
    rw [e.1, e.2]; clear e hlen h1 h2 e48 hh
    go_enter Tryd.func27, Tryd.ntmps27
    go_wp2
    go_ret2
    exact ⟨none, 0, rfl, IsS.empty _, Fur.refl _⟩
  have h48 : (((s[0]'hp).toNat : Int) == 48) = false := by rw [beq_eq_false_iff_ne]; exact h2
  have HH := Lib.hid (show s.data.toList.head? ≠ some 48 by
    rw [hh]
    intro g
    rw [Option.some.inj g] at h2
    exact h2 rfl)
  clear h2 hh h1
  by_cases h3 : 576 < s.size
  · have e := par_f (l := s.data.toList) (fun g => by have := g.2.1; omega)
    rw [e.1, e.2]; clear e hlen
    go_enter Tryd.func27, Tryd.ntmps27
    go_wp2
    go_ret2
    exact ⟨none, 0, rfl, IsS.empty _, Fur.refl _⟩
  have h3' : s.size ≤ 576 := by omega
  have HLN := Lib.hid hlen
  clear h3 hlen
  go_enter Tryd.func27, Tryd.ntmps27
  go_wp2
  go_loopw [4, 5] (fun v ee wr => ∃ (e : Int) (o : List Int), ee = .int .i64 e ∧ -9 < e ∧ e ≤ s.size ∧ o.length ≤ 65 ∧ wr.ownsRow w.heap.size 3 1 v o.length (cs o) ∧ Fur w wr ∧ Hid (ParAt s.data.toList e o ∧ AllD (s.data.toList.drop e.toNat))) (fun _ ee _ => (RowKit.intOf ee + 9).toNat)
  case atStart => exact ⟨s.size, [], rfl, by omega, by omega, by decide, World.ownsRow_nil _ _ _ _, Fur.refl _, by
    refine ⟨?_, ?_⟩
    · have k := par_start s.data.toList
      rwa [HLN.out] at k
    · rw [List.drop_of_length_le (by rw [HLN.out]; omega)]
      intro c hc
      cases hc⟩
  case round =>
    clear hq hE h48
    obtain ⟨e, o, rfl, e0, e1, hol, hown, hf, HP⟩ := hrel
    by_cases hpos : 0 < e
    · obtain ⟨E, rfl⟩ : ∃ E : Nat, e = (E : Int) := ⟨e.toNat, by omega⟩
      have hEs : E ≤ s.size := by omega
      have hol2 : o.length ≤ 64 := by have k := HP.out.1.at_; rw [HLN.out] at k; omega
      have HOL := Lib.hid (fun n : Int => show (o ++ [n]).length ≤ 65 by rw [List.length_append]; exact Nat.succ_le_succ hol2)
      have hsz := hf.size
      by_cases h9 : (0 : Int) < (E : Int) - 9
      · have hsl := run_slice_string (P := Tryd.prog) wr 9 s .i64 .i64 ((E : Int) - 9) (E : Int) Tryd.underlying9 (by omega) (by omega) (by omega)
        obtain ⟨X, hX⟩ : ∃ X, s.extract ((E : Int) - 9).toNat ((E : Int)).toNat = X := ⟨_, rfl⟩
        rw [hX] at hsl
        have HX := Lib.hid (show X.data.toList = (s.data.toList.take E).drop ((E : Int) - 9).toNat by rw [← hX, ext_seg]; rfl)
        clear hX
        have hXs : X.size ≤ 9 := by
          have k := congrArg List.length HX.out
          rw [List.length_drop, List.length_take, HLN.out] at k
          have g : X.data.toList.length = X.size := Array.length_toList
          omega
        have HC := Lib.hid (limb_parse X hXs wr)
        by_cases hA : AllD X.data.toList
        · rw [(pl_t hA).1, (pl_t hA).2] at HC
          have HN := Lib.hid (dv_nine hA (by have g : X.data.toList.length = X.size := Array.length_toList
                                             omega))
          have HS := Lib.hid (show AllD (s.data.toList.drop ((E : Int) - 9).toNat) from seg_all (E := E) (by omega) (by rw [HLN.out]; exact hEs) (by rw [← HX.out]; exact hA) HP.out.2)
          have HT := Lib.hid (par_step HP.out.1 hpos (n := dv X.data.toList) (by rw [HX.out]; rfl) HN.out)
          obtain ⟨n, hn⟩ : ∃ n, n = dv X.data.toList := ⟨_, rfl⟩
          rw [← hn] at HC HT
          clear hA hn HN
          go_wp2_with fail
          go_at_call 42; refine HC.out.mono ?_; rintro e w2 ⟨rfl, f2⟩
          have hown1 := own_below hown f2
          have hf1 := hf.trans f2
          have hsz1 := hf1.size
          clear hown hsz
          go_wp2_with (at_builtin; refine wpList_append_own _ rfl (.tmp 40) (.tmp 42) 23 rfl w.heap.size 3 i0 (.int .i64 0) 1 8 Tryd.underlying23 hi hz0 hz1 hz2 rfl (by decide) _ _ _ rfl (hown1.alloc _) ⟨w2.heap.size, 0, none⟩ 1 1 [.int .i64 n] rfl rfl (at_one _ _) (by intro u hu; simp at hu; subst hu; rfl) (by unfold maxLen; omega) (by omega) (by simp; omega) ?_; intro v' w5 hown' hgrow _)
          have hown2 := own_snoc rfl hown'
          have hf2 := fur_own hf1 hown1 hgrow
          clear hown' hgrow hown1
          go_wp2
          go_roundw
          case rel => exact ⟨_, _, rfl, by omega, by omega, HOL.out _, hown2, hf2, HT.out, HS.out⟩
          case measure => simp [RowKit.intOf]; omega
        · rw [(pl_f hA).1, (pl_f hA).2] at HC
          have HE := Lib.hid (par_f (seg_not (by rw [← HX.out]; exact hA)))
          clear hA
          go_wp2_with fail
          go_at_call 42; refine HC.out.mono ?_; rintro e w2 ⟨rfl, f2⟩
          go_wp2
          go_ret2
          exact retb_of HE.out.1 HE.out.2 ⟨none, 0, rfl, IsS.empty _, hf.trans f2⟩
      · have h9' : (E : Int) - 9 ≤ 0 := by omega
        have HX := Lib.hid (show (s.extract 0 E).data.toList = (s.data.toList.take E).drop ((E : Int) - 9).toNat by rw [ext_seg, show ((E : Int) - 9).toNat = 0 by omega])
        clear h9
        have hXs : (s.extract 0 E).size ≤ 9 := by
          have k := congrArg List.length HX.out
          rw [List.length_drop, List.length_take, HLN.out] at k
          have g : (s.extract 0 E).data.toList.length = (s.extract 0 E).size := Array.length_toList
          omega
        have HC := Lib.hid (limb_parse (s.extract 0 E) hXs wr)
        by_cases hA : AllD (s.extract 0 E).data.toList
        · rw [(pl_t hA).1, (pl_t hA).2] at HC
          have HN := Lib.hid (dv_nine hA (by have g : (s.extract 0 E).data.toList.length = (s.extract 0 E).size := Array.length_toList
                                             omega))
          have HS := Lib.hid (show AllD (s.data.toList.drop ((E : Int) - 9).toNat) from seg_all (E := E) (by omega) (by rw [HLN.out]; exact hEs) (by rw [← HX.out]; exact hA) HP.out.2)
          have HT := Lib.hid (par_step HP.out.1 hpos (n := dv (s.extract 0 E).data.toList) (by rw [HX.out]; rfl) HN.out)
          obtain ⟨n, hn⟩ : ∃ n, n = dv (s.extract 0 E).data.toList := ⟨_, rfl⟩
          rw [← hn] at HC HT
          clear hA hn HN
          go_wp2_with fail
          go_at_call 42; refine HC.out.mono ?_; rintro e w2 ⟨rfl, f2⟩
          have hown1 := own_below hown f2
          have hf1 := hf.trans f2
          have hsz1 := hf1.size
          clear hown hsz
          go_wp2_with (at_builtin; refine wpList_append_own _ rfl (.tmp 40) (.tmp 42) 23 rfl w.heap.size 3 i0 (.int .i64 0) 1 8 Tryd.underlying23 hi hz0 hz1 hz2 rfl (by decide) _ _ _ rfl (hown1.alloc _) ⟨w2.heap.size, 0, none⟩ 1 1 [.int .i64 n] rfl rfl (at_one _ _) (by intro u hu; simp at hu; subst hu; rfl) (by unfold maxLen; omega) (by omega) (by simp; omega) ?_; intro v' w5 hown' hgrow _)
          have hown2 := own_snoc rfl hown'
          have hf2 := fur_own hf1 hown1 hgrow
          clear hown' hgrow hown1
          go_wp2
          go_roundw
          case rel => exact ⟨_, _, rfl, by omega, by omega, HOL.out _, hown2, hf2, HT.out, HS.out⟩
          case measure => simp [RowKit.intOf]; omega
        · rw [(pl_f hA).1, (pl_f hA).2] at HC
          have HE := Lib.hid (par_f (seg_not (by rw [← HX.out]; exact hA)))
          clear hA
          go_wp2_with fail
          go_at_call 42; refine HC.out.mono ?_; rintro e w2 ⟨rfl, f2⟩
          go_wp2
          go_ret2
          exact retb_of HE.out.1 HE.out.2 ⟨none, 0, rfl, IsS.empty _, hf.trans f2⟩
    · have hneg : e ≤ 0 := by omega
      have HA := Lib.hid (show AllD s.data.toList by
        have k := HP.out.2
        rwa [show e.toNat = 0 by omega, List.drop_zero] at k)
      have HV := Lib.hid (par_fin HP.out.1 hneg e0 HA.out HH.out)
      have HF := Lib.hid (par_t (l := s.data.toList) ⟨by intro g; have k := HLN.out; rw [g] at k; simp at k; omega, by rw [HLN.out]; exact h3', fun g => HH.out g.2, HA.out⟩)
      obtain ⟨ao3, c3, rfl, -, hI⟩ := IsS.of_own hown
      clear hown
      go_wp2
      go_ret2
      exact retb_of (HF.out.1.trans HV.out.symm) HF.out.2 ⟨_, _, rfl, hI, hf⟩
end Go.Proofs.YtebmkbfbfmnbbaaDoor
