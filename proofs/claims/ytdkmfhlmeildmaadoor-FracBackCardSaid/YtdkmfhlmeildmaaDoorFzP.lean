/-
  Plain mathematics of Parse of package frac: cutting the text of a fraction at its slash gives the numerals of its numerator and denominator, and a string that is cut into such numerals is that text. No program, no world.
-/
import Derived.Test.YtdkmfhlmeildmaaDoorFzH
import Derived.Test.YtdkmfhlmeildmaaDoorFracTxt
namespace Go.Proofs.YtdkmfhlmeildmaaDoor
open Go.Lib (decDigits)

theorem dig_mem : ∀ (u : Nat) (c : UInt8), c ∈ decDigits u → c ≠ 47 := by
  intro u
  induction u using Nat.strongRecOn with
  | _ u ih =>
    intro c hc
    by_cases h1 : u < 10
    · rw [Lib.decDigits_one h1] at hc
      rw [List.mem_singleton] at hc
      intro e
      have k := dig_nat h1
      rw [← hc, e] at k
      revert k
      show ¬ (47 = 48 + u)
      omega
    · have e : decDigits u = decDigits (u / 10) ++ [UInt8.ofNat (48 + u % 10)] := by rw [decDigits, dif_neg h1]
      rw [e, List.mem_append, List.mem_singleton] at hc
      rcases hc with hc | hc
      · exact ih (u / 10) (by omega) c hc
      · intro e
        have k := dig_nat (Nat.mod_lt u (show 0 < 10 by decide))
        rw [← hc, e] at k
        revert k
        show ¬ (47 = 48 + u % 10)
        omega
theorem itoa_mem (n : Int) : (47 : UInt8) ∉ Lib.itoa n := by
  intro h
  unfold Lib.itoa at h
  split at h
  · rcases List.mem_cons.1 h with e | e
    · exact absurd e (by decide)
    · exact dig_mem _ _ e rfl
  · exact dig_mem _ _ h rfl
theorem ix_none : ∀ {l : List UInt8}, (47 : UInt8) ∉ l → Lib.indexByte l 47 = -1
  | [], _ => rfl
  | b :: l, h => by
    have hb : (b == 47) = false := by
      rw [beq_eq_false_iff_ne]
      intro e
      exact h (by rw [e]; exact List.mem_cons_self ..)
    have ih := ix_none (l := l) (fun k => h (List.mem_cons_of_mem _ k))
    unfold Lib.indexByte
    rw [hb, ih]
    rfl
theorem ix_at : ∀ {l r : List UInt8}, (47 : UInt8) ∉ l → Lib.indexByte (l ++ 47 :: r) 47 = (l.length : Int)
  | [], r, _ => by
    show Lib.indexByte (47 :: r) 47 = 0
    unfold Lib.indexByte
    rw [if_pos (by decide)]
  | b :: l, r, h => by
    have hb : (b == 47) = false := by
      rw [beq_eq_false_iff_ne]
      intro e
      exact h (by rw [e]; exact List.mem_cons_self ..)
    have ih := ix_at (l := l) (r := r) (fun k => h (List.mem_cons_of_mem _ k))
    show Lib.indexByte (b :: (l ++ 47 :: r)) 47 = _
    unfold Lib.indexByte
    rw [hb, ih]
    have hn : ((l.length : Int) == -1) = false := by rw [beq_eq_false_iff_ne]; omega
    rw [hn, List.length_cons]
    simp
theorem mk_bytes {s : ByteArray} {l : List UInt8} (h : s.data.toList = l) : s = ⟨l.toArray⟩ := by
  apply ByteArray.ext
  rw [← h]
theorem len_size (s : ByteArray) : s.data.toList.length = s.size := Array.length_toList
theorem ct_none {s : ByteArray} (h : (47 : UInt8) ∉ s.data.toList) : ctA s = s ∧ ctF s = false := by
  have e := ix_none h
  unfold ctA ctF
  rw [e]
  exact ⟨if_neg (by decide), by decide⟩
theorem ct_at {s : ByteArray} {l r : List UInt8} (hs : s.data.toList = l ++ 47 :: r) (hl : (47 : UInt8) ∉ l) : (ctA s).data.toList = l ∧ (ctB s).data.toList = r ∧ ctF s = true := by
  have e := ix_at (r := r) hl
  rw [← hs] at e
  have z : s.size = l.length + (r.length + 1) := by rw [← len_size, hs]; simp
  unfold ctA ctB ctF
  rw [e, if_pos (Int.natCast_nonneg _), if_pos (Int.natCast_nonneg _), Int.toNat_natCast]
  refine ⟨?_, ?_, decide_eq_true (Int.natCast_nonneg _)⟩
  · rw [Lib.extract_eq, hs]; simp
  · rw [Lib.extract_eq, hs, z]; simp; exact List.take_of_length_le (by omega)
theorem ct_back {s : ByteArray} (h : ctF s = true) : s.data.toList = (ctA s).data.toList ++ 47 :: (ctB s).data.toList := by
  unfold ctF at h
  rw [decide_eq_true_iff] at h
  obtain ⟨i, hi⟩ : ∃ i : Nat, Lib.indexByte s.data.toList 47 = (i : Int) := ⟨(Lib.indexByte s.data.toList 47).toNat, by omega⟩
  have hl := idx_lt hi
  have hg := (Lib.indexByte_some hi).1
  unfold ctA ctB
  rw [hi, if_pos (Int.natCast_nonneg _), if_pos (Int.natCast_nonneg _), Int.toNat_natCast, Lib.extract_eq, Lib.extract_eq]
  have t : List.take (s.size - (i + 1)) (List.drop (i + 1) s.data.toList) = List.drop (i + 1) s.data.toList :=
    List.take_of_length_le (by rw [List.length_drop, len_size]; exact Nat.le_refl _)
  rw [t]
  show s.data.toList = List.take (i - 0) (List.drop 0 s.data.toList) ++ 47 :: List.drop (i + 1) s.data.toList
  rw [Nat.sub_zero, List.drop_zero]
  obtain ⟨hi2, hv⟩ := List.getElem?_eq_some_iff.1 hg
  rw [← hv, ← List.drop_eq_getElem_cons hi2, List.take_append_drop]
theorem ct_false {s : ByteArray} (h : ctF s = false) : ctA s = s := by
  unfold ctF at h
  rw [decide_eq_false_iff_not] at h
  unfold ctA
  rw [if_neg h]
theorem par_txt {s : ByteArray} (h : parB s = true) : inB (parV s) = true ∧ txt (parV s) = s := by
  obtain ⟨a, b⟩ := parB_t h
  refine ⟨a, ?_⟩
  rw [beq_iff_eq, ByteArray.toList_eq, ByteArray.toList_eq] at b
  exact ByteArray.ext (Array.toList_inj.1 b)
/-- What cutting tells of the text of a fraction. -/
theorem has_cut {s : ByteArray} {n d : Int} (h : HasF s n d) : parB (ctA s) = true ∧ parV (ctA s) = n ∧ (d = 1 → ctF s = false) ∧ (d ≠ 1 → ctF s = true ∧ parB (ctB s) = true ∧ parV (ctB s) = d) := by
  obtain ⟨o, rfl⟩ := h
  have h1 := o.n1; have h2 := o.n2; have h3 := o.d1; have h4 := o.d2
  have pn : parB (txt n) = true ∧ parV (txt n) = n := by
    have k := inB_mk h1 h2
    exact ⟨by rw [parB_txt n (by omega) (by omega), k], by rw [parV_txt n (by omega) (by omega), if_pos k]⟩
  have pd : parB (txt d) = true ∧ parV (txt d) = d := by
    have k := inB_mk (n := d) (by omega) h4
    exact ⟨by rw [parB_txt d (by omega) (by omega), k], by rw [parV_txt d (by omega) (by omega), if_pos k]⟩
  by_cases hd : d = 1
  · subst hd
    have e : fracTxt n 1 = txt n := by unfold fracTxt; rw [if_pos rfl]
    rw [e]
    obtain ⟨a, b⟩ := ct_none (s := txt n) (by rw [txt_list]; exact itoa_mem n)
    rw [a]
    exact ⟨pn.1, pn.2, fun _ => b, fun k => absurd rfl k⟩
  · obtain ⟨a, b, c⟩ := ct_at (s := fracTxt n d) (fracTxt_two hd) (itoa_mem n)
    have ea : ctA (fracTxt n d) = txt n := by rw [mk_bytes a]; rfl
    have eb : ctB (fracTxt n d) = txt d := by rw [mk_bytes b]; rfl
    rw [ea, eb]
    exact ⟨pn.1, pn.2, fun k => absurd k hd, fun _ => ⟨c, pd.1, pd.2⟩⟩
theorem ok_one {n : Int} (h : inB n = true) : OkF n 1 := by
  obtain ⟨a, b⟩ := inB_t h
  exact ⟨by decide, by decide, a, b, Nat.gcd_one_right _⟩
/-- The answers, case by case. -/
theorem pr_1 {s : ByteArray} (h : parB (ctA s) = false) : prN s = 0 ∧ prD s = 0 ∧ prB s = false :=
  pr_no (fun n d k => by have := (has_cut k).1; rw [h] at this; cases this)
theorem pr_2 {s : ByteArray} (h : parB (ctA s) = true) (f : ctF s = false) : prN s = parV (ctA s) ∧ prD s = 1 ∧ prB s = true := by
  obtain ⟨a, b⟩ := par_txt h
  refine pr_of ⟨ok_one a, ?_⟩
  have e : fracTxt (parV (ctA s)) 1 = txt (parV (ctA s)) := by unfold fracTxt; rw [if_pos rfl]
  rw [e, b, ct_false f]
theorem pr_3 {s : ByteArray} (f : ctF s = true) (h : parB (ctB s) = false) : prN s = 0 ∧ prD s = 0 ∧ prB s = false :=
  pr_no (fun n d k => by
    obtain ⟨-, -, t1, t2⟩ := has_cut k
    by_cases hd : d = 1
    · have := t1 hd; rw [f] at this; cases this
    · have := (t2 hd).2.1; rw [h] at this; cases this)
theorem pr_4 {s : ByteArray} (f : ctF s = true) (h : okF (parV (ctA s)) (parV (ctB s)) = false ∨ parV (ctB s) = 1) : prN s = 0 ∧ prD s = 0 ∧ prB s = false :=
  pr_no (fun n d k => by
    obtain ⟨-, t0, t1, t2⟩ := has_cut k
    by_cases hd : d = 1
    · have := t1 hd; rw [f] at this; cases this
    · have t3 := (t2 hd).2.2
      rcases h with h | h
      · rw [t0, t3] at h
        have := k.ok.b
        rw [h] at this; cases this
      · exact hd (t3.symm.trans h))
theorem pr_5 {s : ByteArray} (h : parB (ctA s) = true) (f : ctF s = true) (g : parB (ctB s) = true) (o : okF (parV (ctA s)) (parV (ctB s)) = true) (d1 : parV (ctB s) ≠ 1) : prN s = parV (ctA s) ∧ prD s = parV (ctB s) ∧ prB s = true := by
  refine pr_of ⟨okF_t o, ?_⟩
  have k := ct_back f
  have e := fracTxt_two (n := parV (ctA s)) d1
  have ea := (par_txt h).2
  have eb := (par_txt g).2
  rw [← txt_list, ← txt_list, ea, eb, ← k] at e
  exact ByteArray.ext (Array.toList_inj.1 e)
end Go.Proofs.YtdkmfhlmeildmaaDoor
