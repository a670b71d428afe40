/-
  The reference's Parse gives the list of the number that a string of digits without a leading zero spells, and true; for any other string, and for one of more than 576 bytes, an empty list and false. For every string; nothing that was there turns.
-/
import Derived.Test.YtebmkbfbfmnbbaaDoorNatParM
namespace Go.Proofs.YtebmkbfbfmnbbaaDoor
open Go.RowKit

theorem head_of (s : ByteArray) (hp : 0 < s.size) : s.data.toList.head? = some (s[0]'hp) := by
  rw [List.head?_eq_getElem?, List.getElem?_eq_getElem (by simpa using hp)]
  rfl
theorem byte_at (s : ByteArray) (k : Nat) (h : k < s.size) : s.data.toList[k]'(by simpa using h) = s[k] := rfl
theorem allD_snoc {s : ByteArray} {k : Nat} (h : k < s.size) (hd : AllD (s.data.toList.take k)) (h0 : 48 ≤ (s[k].toNat : Int)) (h1 : (s[k].toNat : Int) ≤ 57) : AllD (s.data.toList.take (k + 1)) := by
  rw [List.take_succ_eq_append_getElem (by simpa using h)]
  intro c hc
  rcases List.mem_append.1 hc with g | g
  · exact hd c g
  · have e : c = s[k] := by rw [← byte_at s k h]; simpa using g
    rw [e]; omega
theorem not_fits_byte {s : ByteArray} {k : Nat} (h : k < s.size) (hb : (s[k].toNat : Int) < 48 ∨ 57 < (s[k].toNat : Int)) : ¬ Fits s.data.toList := by
  intro g
  have m : s[k] ∈ s.data.toList := by rw [← byte_at s k h]; exact List.getElem_mem _
  have := g.2.2.2 _ m
  omega
theorem seg_snoc {s : ByteArray} {a i e : Nat} (hai : a ≤ i) (hie : i < e) (he : e ≤ s.size) : dv ((s.data.toList.take (i + 1)).drop a) = 10 * dv ((s.data.toList.take i).drop a) + (s[i].toNat - 48) := by
  have hi : i < s.size := by omega
  rw [List.take_succ_eq_append_getElem (by simpa using hi), List.drop_append_of_le_length (by rw [List.length_take]; have : s.data.toList.length = s.size := Array.length_toList; omega), dv_snoc, byte_at s i hi]
  omega

theorem seg_lt {l : List UInt8} (h : AllD l) {a i : Nat} (hai : i ≤ a + 9) : dv ((l.take i).drop a) < 1000000000 := by
  have k := dv_lt (l := (l.take i).drop a) (fun c hc => h c (List.mem_of_mem_take (List.mem_of_mem_drop hc)))
  have g : ((l.take i).drop a).length ≤ 9 := by rw [List.length_drop, List.length_take]; omega
  exact Nat.lt_of_lt_of_le k (Nat.le_trans (Nat.pow_le_pow_right (by decide) g) (by decide))

set_option maxHeartbeats 3200000 in
theorem parse_any (s : ByteArray) (hs : s.size ≤ maxLen) (w : World) :
    Calls Tryd.prog 28 #[.string s] w (RetSB w (parL s.data.toList) (parB s.data.toList)) := by
  obtain ⟨i0, hi, hz0, hz1, hz2⟩ := info_parts infoI
  unfold maxLen at hs
  have hlen : s.data.toList.length = s.size := Array.length_toList
  by_cases h0 : s.size = 0
  · have e := par_f (l := s.data.toList) (fun g => g.1 (List.length_eq_zero_iff.1 (by omega)))
    rw [e.1, e.2]; clear e hlen
    have hz : ((s.size : Int) == 0) = true := by rw [beq_iff_eq]; omega
    clear h0
    go_enter Tryd.func28, Tryd.ntmps28
    go_wp2
    go_ret2
    exact ⟨none, 0, rfl, IsS.empty _, Fur.refl _⟩
  have hz : ((s.size : Int) == 0) = false := by rw [beq_eq_false_iff_ne]; omega
  have hp : 0 < s.size := by omega
  clear h0
  by_cases h1 : 576 < s.size
  · have e := par_f (l := s.data.toList) (fun g => by have := g.2.1; omega)
    rw [e.1, e.2]; clear e hlen
    go_enter Tryd.func28, Tryd.ntmps28
    go_wp2
    go_ret2
    exact ⟨none, 0, rfl, IsS.empty _, Fur.refl _⟩
  have h1' : s.size ≤ 576 := by omega
  clear h1
  by_cases h2 : 1 < s.size ∧ ((s[0]'hp).toNat : Int) = 48
  · obtain ⟨h3, h4⟩ := h2
    have e := par_f (l := s.data.toList) (fun g => g.2.2.1 ⟨by omega, by rw [head_of s hp]; congr 1; exact UInt8.toNat_inj.1 (by show _ = 48; omega)⟩)
    rw [e.1, e.2]; clear e hlen
    go_enter Tryd.func28, Tryd.ntmps28
    go_wp2
    go_ret2
    exact ⟨none, 0, rfl, IsS.empty _, Fur.refl _⟩
  have H2 := Lib.hid (show ¬ (1 < s.data.toList.length ∧ s.data.toList.head? = some 48) from fun g => h2 ⟨by omega, by
    have k := g.2
    rw [head_of s hp] at k
    rw [Option.some.inj k]; rfl⟩)
  have h3 : s.size ≤ 1 ∨ (1 < s.size ∧ (((s[0]'hp).toNat : Int) == 48) = false) := by
    rcases Nat.lt_or_ge 1 s.size with g | g
    · exact .inr ⟨g, by rw [beq_eq_false_iff_ne]; exact fun e => h2 ⟨g, e⟩⟩
    · exact .inl g
  have HLN := Lib.hid hlen
  clear h2 hlen
  rcases h3 with h3 | ⟨h3, h4⟩
  · go_enter Tryd.func28, Tryd.ntmps28
    go_wp2
    go_loop [4] (fun ii => ∃ k : Nat, ii = .int .i64 k ∧ k ≤ s.size ∧ Hid (AllD (s.data.toList.take k))) (fun ii => s.size - (RowKit.intOf ii).toNat)
    case atStart => exact ⟨0, rfl, Nat.zero_le _, (by intro c hc; simp at hc)⟩
    case round =>
      obtain ⟨k, rfl, hk, HD⟩ := hrel
      by_cases hlt : k < s.size
      · have hno := not_fits_byte hlt
        have hyes := allD_snoc hlt HD.out
        rcases (show (s[k].toNat : Int) < 48 ∨ 57 < (s[k].toNat : Int) ∨ (48 ≤ (s[k].toNat : Int) ∧ (s[k].toNat : Int) ≤ 57) by omega) with g | g | ⟨g1, g2⟩
        · have HE := Lib.hid (par_f (hno (.inl g)))
          clear hno hyes
          go_wp2
          go_ret2
          exact retb_of HE.out.1 HE.out.2 ⟨none, 0, rfl, IsS.empty _, Fur.refl _⟩
        · have HE := Lib.hid (par_f (hno (.inr g)))
          have g' : 48 ≤ (s[k].toNat : Int) := by omega
          clear hno hyes
          go_wp2
          go_ret2
          exact retb_of HE.out.1 HE.out.2 ⟨none, 0, rfl, IsS.empty _, Fur.refl _⟩
        · have HA := Lib.hid (hyes g1 g2)
          clear hno hyes
          go_wp2
          go_round
          case rel => exact ⟨k + 1, by go_num, by omega, HA.out⟩
          case measure => simp [RowKit.intOf]; omega
      · have e : k = s.size := by omega
        subst e
        have HA := Lib.hid (show AllD s.data.toList by
          have g := HD.out
          rwa [List.take_of_length_le (by rw [HLN.out]; exact Nat.le_refl _)] at g)
        have HF := Lib.hid (par_t (l := s.data.toList) ⟨by intro e; have := HLN.out; rw [e] at this; simp at this; omega, by rw [HLN.out]; exact h1', H2.out, HA.out⟩)
        clear hlt hk
        go_wp2
        go_loopw [5, 6] (fun v ee wr => ∃ (e : Int) (o : List Int), ee = .int .i64 e ∧ -9 < e ∧ e ≤ s.size ∧ o.length ≤ 65 ∧ wr.ownsRow w.heap.size 3 1 v o.length (cs o) ∧ Fur w wr ∧ Hid (ParAt s.data.toList e o)) (fun _ ee _ => (RowKit.intOf ee).toNat)
        case atStart => exact ⟨_, [], rfl, by omega, Int.le_refl _, by decide, World.ownsRow_nil _ _ _ _, Fur.refl _, (by have k := par_start s.data.toList; rw [HLN.out] at k; exact k)⟩
        case round =>
          obtain ⟨e, o, rfl, he0, he1, hol, hown, hf, HP⟩ := hrel
          by_cases hpos : 0 < e
          · obtain ⟨E, rfl⟩ : ∃ E : Nat, e = (E : Int) := ⟨e.toNat, by omega⟩
            have hE : E ≤ s.size := by omega
            obtain ⟨A, hA⟩ : ∃ A : Nat, A = ((E : Int) - 9).toNat := ⟨_, rfl⟩
            have hA2 : A ≤ E := by omega
            have hA3 : E ≤ A + 9 := by omega
            have HAA := Lib.hid hA
            clear hA
            rcases (show E < 9 ∨ 9 ≤ E by omega) with h9 | h9
            · skip
              go_wp2
              go_loopw [7, 8] (fun nn ii wr2 => ∃ (i n : Nat), ii = .int .i64 i ∧ A ≤ i ∧ i ≤ E ∧ nn = .int .i64 n ∧ n < 1000000000 ∧ Hid (n = dv ((s.data.toList.take i).drop A)) ∧ wr2 = wr) (fun _ ii _ => E - (RowKit.intOf ii).toNat)
              case atStart => exact ⟨A, 0, (by have k := HAA.out; exact congrArg (Value.int .i64) (by omega)), Nat.le_refl _, hA2, rfl, by decide, (by show 0 = dv _; rw [List.drop_of_length_le (by rw [List.length_take]; omega)]; rfl), (by first | rfl | trivial)⟩
              case round =>
                obtain ⟨i, n, rfl, hAi, hiE, rfl, hn, HN, rfl⟩ := hrel
                by_cases hlt : i < E
                · have his : i < s.size := by omega
                  have hb := HA.out (s[i]'his) (by rw [← byte_at s i his]; exact List.getElem_mem _)
                  have b0 : 48 ≤ ((s[i]'his).toNat : Int) := by omega
                  have b1 : ((s[i]'his).toNat : Int) ≤ 57 := by omega
                  have hsn := seg_snoc hAi hlt hE
                  have hsl := seg_lt HA.out (a := A) (i := i + 1) (by omega)
                  rw [hsn, ← HN.out] at hsl
                  rw [← HN.out] at hsn
                  have HS := Lib.hid hsn.symm
                  have hil : (i : Int) < E := by omega
                  have hie : (i : Int) < s.size := by omega
                  have HSL := Lib.hid hsl
                  have HB := Lib.hid b0
                  clear hsn hb hsl
                  go_wp2
                  go_roundw
                  case rel => exact ⟨i + 1, 10 * n + ((s[i]'his).toNat - 48), by go_num, by omega, by omega, (by have k := HB.out; exact congrArg (Value.int .i64) (by omega)), HSL.out, HS.out, (by first | rfl | trivial)⟩
                  case measure => simp [RowKit.intOf]; omega
                · have e2 : i = E := by omega
                  subst e2
                  have HST := Lib.hid (par_step HP.out hpos (n := n) (by rw [HN.out, HAA.out]; rfl) hn)
                  have hol2 : o.length + 1 ≤ 65 := by have k := HP.out.at_; rw [HLN.out] at k; omega
                  have he2 : -9 < (i : Int) - 9 := by omega
                  have he3 : (i : Int) - 9 ≤ s.size := by omega
                  have hsz := hf.size
                  clear hlt hiE
                  go_wp2_with (at_builtin; refine wpList_append_own _ rfl (.tmp 65) (.tmp 67) 23 rfl w.heap.size 3 i0 (.int .i64 0) 1 8 Tryd.underlying23 hi hz0 hz1 hz2 rfl (by decide) _ _ _ rfl (hown.alloc _) ⟨wr.heap.size, 0, none⟩ 1 1 [.int .i64 n] rfl rfl (at_one _ _) (by intro u hu; simp at hu; subst hu; rfl) (by unfold maxLen; omega) (by omega) (by simp; omega) ?_; intro v' w5 hown' hgrow _)
                  have hown2 := own_snoc rfl hown'
                  have hf2 := fur_own hf hown hgrow
                  have HOL := Lib.hid (show (o ++ [(n : Int)]).length ≤ 65 by rw [List.length_append]; exact hol2)
                  clear hown' hgrow
                  go_wp2
                  go_roundw
                  case rel => exact ⟨_, _, rfl, he2, he3, HOL.out, hown2, hf2, HST.out⟩
                  case measure => simp [RowKit.intOf]; omega
            · exfalso; omega
          · have hneg : e ≤ 0 := by omega
            have HV := Lib.hid (par_end HP.out hneg)
            have hdo := HP.out.digs
            obtain ⟨ao3, c3, rfl, -, hI⟩ := IsS.of_own hown
            have HB := Lib.hid (trim_any ao3 o c3 _ hI hdo (by omega))
            clear hdo
            go_wp2_with fail
            go_at_call 41; refine HB.out.mono ?_; rintro e w6 ⟨ao6, c6, rfl, h6, f6⟩
            go_wp2
            go_ret2
            exact retb_of (HF.out.1.trans (congrArg lim HV.out.symm)) HF.out.2 ⟨_, _, rfl, h6, hf.trans f6⟩
  · go_enter Tryd.func28, Tryd.ntmps28
    go_wp2
    go_loop [4] (fun ii => ∃ k : Nat, ii = .int .i64 k ∧ k ≤ s.size ∧ Hid (AllD (s.data.toList.take k))) (fun ii => s.size - (RowKit.intOf ii).toNat)
    case atStart => exact ⟨0, rfl, Nat.zero_le _, (by intro c hc; simp at hc)⟩
    case round =>
      obtain ⟨k, rfl, hk, HD⟩ := hrel
      by_cases hlt : k < s.size
      · have hno := not_fits_byte hlt
        have hyes := allD_snoc hlt HD.out
        rcases (show (s[k].toNat : Int) < 48 ∨ 57 < (s[k].toNat : Int) ∨ (48 ≤ (s[k].toNat : Int) ∧ (s[k].toNat : Int) ≤ 57) by omega) with g | g | ⟨g1, g2⟩
        · have HE := Lib.hid (par_f (hno (.inl g)))
          clear hno hyes
          go_wp2
          go_ret2
          exact retb_of HE.out.1 HE.out.2 ⟨none, 0, rfl, IsS.empty _, Fur.refl _⟩
        · have HE := Lib.hid (par_f (hno (.inr g)))
          have g' : 48 ≤ (s[k].toNat : Int) := by omega
          clear hno hyes
          go_wp2
          go_ret2
          exact retb_of HE.out.1 HE.out.2 ⟨none, 0, rfl, IsS.empty _, Fur.refl _⟩
        · have HA := Lib.hid (hyes g1 g2)
          clear hno hyes
          go_wp2
          go_round
          case rel => exact ⟨k + 1, by go_num, by omega, HA.out⟩
          case measure => simp [RowKit.intOf]; omega
      · have e : k = s.size := by omega
        subst e
        have HA := Lib.hid (show AllD s.data.toList by
          have g := HD.out
          rwa [List.take_of_length_le (by rw [HLN.out]; exact Nat.le_refl _)] at g)
        have HF := Lib.hid (par_t (l := s.data.toList) ⟨by intro e; have := HLN.out; rw [e] at this; simp at this; omega, by rw [HLN.out]; exact h1', H2.out, HA.out⟩)
        clear hlt hk
        go_wp2
        go_loopw [5, 6] (fun v ee wr => ∃ (e : Int) (o : List Int), ee = .int .i64 e ∧ -9 < e ∧ e ≤ s.size ∧ o.length ≤ 65 ∧ wr.ownsRow w.heap.size 3 1 v o.length (cs o) ∧ Fur w wr ∧ Hid (ParAt s.data.toList e o)) (fun _ ee _ => (RowKit.intOf ee).toNat)
        case atStart => exact ⟨_, [], rfl, by omega, Int.le_refl _, by decide, World.ownsRow_nil _ _ _ _, Fur.refl _, (by have k := par_start s.data.toList; rw [HLN.out] at k; exact k)⟩
        case round =>
          obtain ⟨e, o, rfl, he0, he1, hol, hown, hf, HP⟩ := hrel
          by_cases hpos : 0 < e
          · obtain ⟨E, rfl⟩ : ∃ E : Nat, e = (E : Int) := ⟨e.toNat, by omega⟩
            have hE : E ≤ s.size := by omega
            obtain ⟨A, hA⟩ : ∃ A : Nat, A = ((E : Int) - 9).toNat := ⟨_, rfl⟩
            have hA2 : A ≤ E := by omega
            have hA3 : E ≤ A + 9 := by omega
            have HAA := Lib.hid hA
            clear hA
            rcases (show E < 9 ∨ (9 ≤ E ∧ E ≤ 9) ∨ 9 < E by omega) with h9 | ⟨h9, h10⟩ | h9
            · skip
              go_wp2
              go_loopw [7, 8] (fun nn ii wr2 => ∃ (i n : Nat), ii = .int .i64 i ∧ A ≤ i ∧ i ≤ E ∧ nn = .int .i64 n ∧ n < 1000000000 ∧ Hid (n = dv ((s.data.toList.take i).drop A)) ∧ wr2 = wr) (fun _ ii _ => E - (RowKit.intOf ii).toNat)
              case atStart => exact ⟨A, 0, (by have k := HAA.out; exact congrArg (Value.int .i64) (by omega)), Nat.le_refl _, hA2, rfl, by decide, (by show 0 = dv _; rw [List.drop_of_length_le (by rw [List.length_take]; omega)]; rfl), (by first | rfl | trivial)⟩
              case round =>
                obtain ⟨i, n, rfl, hAi, hiE, rfl, hn, HN, rfl⟩ := hrel
                by_cases hlt : i < E
                · have his : i < s.size := by omega
                  have hb := HA.out (s[i]'his) (by rw [← byte_at s i his]; exact List.getElem_mem _)
                  have b0 : 48 ≤ ((s[i]'his).toNat : Int) := by omega
                  have b1 : ((s[i]'his).toNat : Int) ≤ 57 := by omega
                  have hsn := seg_snoc hAi hlt hE
                  have hsl := seg_lt HA.out (a := A) (i := i + 1) (by omega)
                  rw [hsn, ← HN.out] at hsl
                  rw [← HN.out] at hsn
                  have HS := Lib.hid hsn.symm
                  have hil : (i : Int) < E := by omega
                  have hie : (i : Int) < s.size := by omega
                  have HSL := Lib.hid hsl
                  have HB := Lib.hid b0
                  clear hsn hb hsl
                  go_wp2
                  go_roundw
                  case rel => exact ⟨i + 1, 10 * n + ((s[i]'his).toNat - 48), by go_num, by omega, by omega, (by have k := HB.out; exact congrArg (Value.int .i64) (by omega)), HSL.out, HS.out, (by first | rfl | trivial)⟩
                  case measure => simp [RowKit.intOf]; omega
                · have e2 : i = E := by omega
                  subst e2
                  have HST := Lib.hid (par_step HP.out hpos (n := n) (by rw [HN.out, HAA.out]; rfl) hn)
                  have hol2 : o.length + 1 ≤ 65 := by have k := HP.out.at_; rw [HLN.out] at k; omega
                  have he2 : -9 < (i : Int) - 9 := by omega
                  have he3 : (i : Int) - 9 ≤ s.size := by omega
                  have hsz := hf.size
                  clear hlt hiE
                  go_wp2_with (at_builtin; refine wpList_append_own _ rfl (.tmp 65) (.tmp 67) 23 rfl w.heap.size 3 i0 (.int .i64 0) 1 8 Tryd.underlying23 hi hz0 hz1 hz2 rfl (by decide) _ _ _ rfl (hown.alloc _) ⟨wr.heap.size, 0, none⟩ 1 1 [.int .i64 n] rfl rfl (at_one _ _) (by intro u hu; simp at hu; subst hu; rfl) (by unfold maxLen; omega) (by omega) (by simp; omega) ?_; intro v' w5 hown' hgrow _)
                  have hown2 := own_snoc rfl hown'
                  have hf2 := fur_own hf hown hgrow
                  have HOL := Lib.hid (show (o ++ [(n : Int)]).length ≤ 65 by rw [List.length_append]; exact hol2)
                  clear hown' hgrow
                  go_wp2
                  go_roundw
                  case rel => exact ⟨_, _, rfl, he2, he3, HOL.out, hown2, hf2, HST.out⟩
                  case measure => simp [RowKit.intOf]; omega
            · skip
              go_wp2
              go_loopw [7, 8] (fun nn ii wr2 => ∃ (i n : Nat), ii = .int .i64 i ∧ A ≤ i ∧ i ≤ E ∧ nn = .int .i64 n ∧ n < 1000000000 ∧ Hid (n = dv ((s.data.toList.take i).drop A)) ∧ wr2 = wr) (fun _ ii _ => E - (RowKit.intOf ii).toNat)
              case atStart => exact ⟨A, 0, (by have k := HAA.out; exact congrArg (Value.int .i64) (by omega)), Nat.le_refl _, hA2, rfl, by decide, (by show 0 = dv _; rw [List.drop_of_length_le (by rw [List.length_take]; omega)]; rfl), (by first | rfl | trivial)⟩
              case round =>
                obtain ⟨i, n, rfl, hAi, hiE, rfl, hn, HN, rfl⟩ := hrel
                by_cases hlt : i < E
                · have his : i < s.size := by omega
                  have hb := HA.out (s[i]'his) (by rw [← byte_at s i his]; exact List.getElem_mem _)
                  have b0 : 48 ≤ ((s[i]'his).toNat : Int) := by omega
                  have b1 : ((s[i]'his).toNat : Int) ≤ 57 := by omega
                  have hsn := seg_snoc hAi hlt hE
                  have hsl := seg_lt HA.out (a := A) (i := i + 1) (by omega)
                  rw [hsn, ← HN.out] at hsl
                  rw [← HN.out] at hsn
                  have HS := Lib.hid hsn.symm
                  have hil : (i : Int) < E := by omega
                  have hie : (i : Int) < s.size := by omega
                  have HSL := Lib.hid hsl
                  have HB := Lib.hid b0
                  clear hsn hb hsl
                  go_wp2
                  go_roundw
                  case rel => exact ⟨i + 1, 10 * n + ((s[i]'his).toNat - 48), by go_num, by omega, by omega, (by have k := HB.out; exact congrArg (Value.int .i64) (by omega)), HSL.out, HS.out, (by first | rfl | trivial)⟩
                  case measure => simp [RowKit.intOf]; omega
                · have e2 : i = E := by omega
                  subst e2
                  have HST := Lib.hid (par_step HP.out hpos (n := n) (by rw [HN.out, HAA.out]; rfl) hn)
                  have hol2 : o.length + 1 ≤ 65 := by have k := HP.out.at_; rw [HLN.out] at k; omega
                  have he2 : -9 < (i : Int) - 9 := by omega
                  have he3 : (i : Int) - 9 ≤ s.size := by omega
                  have hsz := hf.size
                  clear hlt hiE
                  go_wp2_with (at_builtin; refine wpList_append_own _ rfl (.tmp 65) (.tmp 67) 23 rfl w.heap.size 3 i0 (.int .i64 0) 1 8 Tryd.underlying23 hi hz0 hz1 hz2 rfl (by decide) _ _ _ rfl (hown.alloc _) ⟨wr.heap.size, 0, none⟩ 1 1 [.int .i64 n] rfl rfl (at_one _ _) (by intro u hu; simp at hu; subst hu; rfl) (by unfold maxLen; omega) (by omega) (by simp; omega) ?_; intro v' w5 hown' hgrow _)
                  have hown2 := own_snoc rfl hown'
                  have hf2 := fur_own hf hown hgrow
                  have HOL := Lib.hid (show (o ++ [(n : Int)]).length ≤ 65 by rw [List.length_append]; exact hol2)
                  clear hown' hgrow
                  go_wp2
                  go_roundw
                  case rel => exact ⟨_, _, rfl, he2, he3, HOL.out, hown2, hf2, HST.out⟩
                  case measure => simp [RowKit.intOf]; omega
            · skip
              go_wp2
              go_loopw [7, 8] (fun nn ii wr2 => ∃ (i n : Nat), ii = .int .i64 i ∧ A ≤ i ∧ i ≤ E ∧ nn = .int .i64 n ∧ n < 1000000000 ∧ Hid (n = dv ((s.data.toList.take i).drop A)) ∧ wr2 = wr) (fun _ ii _ => E - (RowKit.intOf ii).toNat)
              case atStart => exact ⟨A, 0, (by have k := HAA.out; exact congrArg (Value.int .i64) (by omega)), Nat.le_refl _, hA2, rfl, by decide, (by show 0 = dv _; rw [List.drop_of_length_le (by rw [List.length_take]; omega)]; rfl), (by first | rfl | trivial)⟩
              case round =>
                obtain ⟨i, n, rfl, hAi, hiE, rfl, hn, HN, rfl⟩ := hrel
                by_cases hlt : i < E
                · have his : i < s.size := by omega
                  have hb := HA.out (s[i]'his) (by rw [← byte_at s i his]; exact List.getElem_mem _)
                  have b0 : 48 ≤ ((s[i]'his).toNat : Int) := by omega
                  have b1 : ((s[i]'his).toNat : Int) ≤ 57 := by omega
                  have hsn := seg_snoc hAi hlt hE
                  have hsl := seg_lt HA.out (a := A) (i := i + 1) (by omega)
                  rw [hsn, ← HN.out] at hsl
                  rw [← HN.out] at hsn
                  have HS := Lib.hid hsn.symm
                  have hil : (i : Int) < E := by omega
                  have hie : (i : Int) < s.size := by omega
                  have HSL := Lib.hid hsl
                  have HB := Lib.hid b0
                  clear hsn hb hsl
                  go_wp2
                  go_roundw
                  case rel => exact ⟨i + 1, 10 * n + ((s[i]'his).toNat - 48), by go_num, by omega, by omega, (by have k := HB.out; exact congrArg (Value.int .i64) (by omega)), HSL.out, HS.out, (by first | rfl | trivial)⟩
                  case measure => simp [RowKit.intOf]; omega
                · have e2 : i = E := by omega
                  subst e2
                  have HST := Lib.hid (par_step HP.out hpos (n := n) (by rw [HN.out, HAA.out]; rfl) hn)
                  have hol2 : o.length + 1 ≤ 65 := by have k := HP.out.at_; rw [HLN.out] at k; omega
                  have he2 : -9 < (i : Int) - 9 := by omega
                  have he3 : (i : Int) - 9 ≤ s.size := by omega
                  have hsz := hf.size
                  clear hlt hiE
                  go_wp2_with (at_builtin; refine wpList_append_own _ rfl (.tmp 65) (.tmp 67) 23 rfl w.heap.size 3 i0 (.int .i64 0) 1 8 Tryd.underlying23 hi hz0 hz1 hz2 rfl (by decide) _ _ _ rfl (hown.alloc _) ⟨wr.heap.size, 0, none⟩ 1 1 [.int .i64 n] rfl rfl (at_one _ _) (by intro u hu; simp at hu; subst hu; rfl) (by unfold maxLen; omega) (by omega) (by simp; omega) ?_; intro v' w5 hown' hgrow _)
                  have hown2 := own_snoc rfl hown'
                  have hf2 := fur_own hf hown hgrow
                  have HOL := Lib.hid (show (o ++ [(n : Int)]).length ≤ 65 by rw [List.length_append]; exact hol2)
                  clear hown' hgrow
                  go_wp2
                  go_roundw
                  case rel => exact ⟨_, _, rfl, he2, he3, HOL.out, hown2, hf2, HST.out⟩
                  case measure => simp [RowKit.intOf]; omega
          · have hneg : e ≤ 0 := by omega
            have HV := Lib.hid (par_end HP.out hneg)
            have hdo := HP.out.digs
            obtain ⟨ao3, c3, rfl, -, hI⟩ := IsS.of_own hown
            have HB := Lib.hid (trim_any ao3 o c3 _ hI hdo (by omega))
            clear hdo
            go_wp2_with fail
            go_at_call 41; refine HB.out.mono ?_; rintro e w6 ⟨ao6, c6, rfl, h6, f6⟩
            go_wp2
            go_ret2
            exact retb_of (HF.out.1.trans (congrArg lim HV.out.symm)) HF.out.2 ⟨_, _, rfl, h6, hf.trans f6⟩
end Go.Proofs.YtebmkbfbfmnbbaaDoor
