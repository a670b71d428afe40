/-
  Plain mathematics of encoded values: what is read as a value, a number or a frame is the only encoding of it. No program's function is walked here.
-/
import Derived.Test.YtolkdmhjomampaaDoorMpA
namespace Go.Proofs.YtolkdmhjomampaaDoor
open Go.Lib

/-- The bytes from an offset up to another. -/
def cutL (l : List UInt8) (a E : Int) : List UInt8 := (l.drop a.toNat).take (E - a).toNat
theorem cut_nil (l : List UInt8) (a : Int) : cutL l a a = [] := by unfold cutL; simp
theorem cut_cat (l : List UInt8) {a b c : Int} (h0 : 0 ≤ a) (h1 : a ≤ b) (h2 : b ≤ c) : cutL l a b ++ cutL l b c = cutL l a c := by
  unfold cutL
  obtain ⟨m, rfl⟩ := Int.eq_ofNat_of_zero_le h0
  obtain ⟨j, hj⟩ := Int.eq_ofNat_of_zero_le (show 0 ≤ b - m by omega)
  obtain ⟨k, hk⟩ := Int.eq_ofNat_of_zero_le (show 0 ≤ c - b by omega)
  have e1 : b.toNat = m + j := by omega
  have e2 : (c - (m : Int)).toNat = j + k := by omega
  rw [hj, hk, e1, e2, Int.toNat_natCast, Int.toNat_natCast, Int.toNat_natCast, ← List.drop_drop, List.take_add]
theorem cut_one (l : List UInt8) {a : Int} (h0 : 0 ≤ a) (h1 : a < l.length) : cutL l a (a + 1) = [l.getD a.toNat 0] := by
  unfold cutL
  obtain ⟨m, rfl⟩ := Int.eq_ofNat_of_zero_le h0
  have hm : m < l.length := by omega
  have e : ((m : Int) + 1 - m).toNat = 1 := by omega
  rw [e, Int.toNat_natCast, List.drop_eq_getElem_cons hm, byte_at hm]
  rfl
theorem uint_only {l : List UInt8} {a n E : Int} (h : uintV l a = (n, E, 0)) : cutL l a E = uvarint n.toNat ∧ 0 ≤ n ∧ n ≤ 9223372036854775807 ∧ 0 ≤ a ∧ a < E ∧ E ≤ l.length := by
  unfold uintV at h
  by_cases hb : a < 0 ∨ (l.length : Int) < a
  · rw [if_pos hb] at h; simp at h
  rw [if_neg hb] at h
  have ho := rdv_only (most := 9223372036854775807) (l := l.drop a.toNat)
  generalize rdv 9223372036854775807 (l.drop a.toNat) = r at h ho
  obtain ⟨u, k, e⟩ := r
  simp only [Prod.mk.injEq] at h
  obtain ⟨rfl, rfl, he⟩ := h
  have he' : e = 0 := by omega
  subst he'
  obtain ⟨o1, o2, o3, o4⟩ := ho rfl
  simp only at o1 o2 o3 o4
  rw [List.length_drop] at o4
  rw [if_pos rfl]
  refine ⟨?_, by omega, by omega, by omega, by omega, by omega⟩
  unfold cutL
  rw [Int.toNat_natCast, o1]
  congr 1
  omega
theorem int_only {l : List UInt8} {a n E : Int} (h : intV l a = (n, E, 0)) : cutL l a E = uvarint (zigzag n) ∧ I64 n ∧ 0 ≤ a ∧ a < E ∧ E ≤ l.length := by
  unfold intV at h
  by_cases hb : a < 0 ∨ (l.length : Int) < a
  · rw [if_pos hb] at h; simp at h
  rw [if_neg hb] at h
  have ho := rdv_only (most := 18446744073709551615) (l := l.drop a.toNat)
  generalize rdv 18446744073709551615 (l.drop a.toNat) = r at h ho
  obtain ⟨u, k, e⟩ := r
  simp only [Prod.mk.injEq] at h
  obtain ⟨rfl, rfl, he⟩ := h
  have he' : e = 0 := by omega
  subst he'
  obtain ⟨o1, o2, o3, o4⟩ := ho rfl
  simp only at o1 o2 o3 o4
  rw [List.length_drop] at o4
  rw [if_pos rfl]
  refine ⟨?_, unzz_in (by omega), by omega, by omega, by omega⟩
  unfold cutL
  rw [zz_unzz, o1]
  congr 1
  omega
theorem str_only {l s : List UInt8} {a E most : Int} (h : strV l a most = (s, E, 0)) : cutL l a E = uvarint s.length ++ s ∧ 0 ≤ a ∧ a ≤ E ∧ E ≤ l.length := by
  unfold strV at h
  obtain ⟨n, m, c, hu⟩ : ∃ n m c, uintV l a = (n, m, c) := ⟨_, _, _, rfl⟩
  rw [hu] at h
  simp only at h
  by_cases hc : c = 0
  · subst hc
    obtain ⟨o1, o2, o3, o4, o5, o6⟩ := uint_only hu
    rw [if_neg (fun h => h rfl)] at h
    by_cases h1 : most < n
    · rw [if_pos h1] at h; simp at h
    rw [if_neg h1] at h
    by_cases h2 : (l.length : Int) - m < n
    · rw [if_pos h2] at h; simp at h
    rw [if_neg h2] at h
    simp only [Prod.mk.injEq, and_true] at h
    obtain ⟨rfl, rfl⟩ := h
    have hl : ((l.drop m.toNat).take n.toNat).length = n.toNat := by rw [List.length_take, List.length_drop]; omega
    refine ⟨?_, o4, by omega, by omega⟩
    rw [hl, ← o1, ← cut_cat l o4 (by omega) (show m ≤ m + n by omega)]
    congr 1
    unfold cutL
    congr 1
    omega
  · rw [if_pos hc] at h
    simp only [Prod.mk.injEq] at h
    exact absurd h.2.2 hc
theorem flat_only {l : List UInt8} {k : Nat} (hk : k < 7) {a E : Int} {x : Vl} (h0 : 0 ≤ a) (h1 : a ≤ l.length) (h : flatV k l a = .ok x E) : (k : Int).toNat.toUInt8 :: cutL l a E = putX x ∧ a ≤ E ∧ E ≤ l.length := by
  unfold flatV at h
  by_cases e0 : k = 0
  · subst e0
    rw [if_pos rfl] at h
    obtain ⟨rfl, rfl⟩ := Rs.ok.inj h
    unfold vk
    rw [putX_mk, cut_nil]
    exact ⟨rfl, Int.le_refl _, h1⟩
  rw [if_neg e0] at h
  by_cases e3 : k = 3
  · subst e3
    rw [if_pos rfl] at h
    obtain ⟨n, m, c, hu⟩ : ∃ n m c, intV l a = (n, m, c) := ⟨_, _, _, rfl⟩
    rw [hu] at h
    simp only at h
    by_cases hc : c = 0
    · subst hc
      rw [if_neg (fun h => h rfl)] at h
      obtain ⟨d, q, c2, hd⟩ : ∃ d q c2, intV l m = (d, q, c2) := ⟨_, _, _, rfl⟩
      rw [hd] at h
      simp only at h
      by_cases hc2 : c2 = 0
      · subst hc2
        rw [if_neg (fun h => h rfl)] at h
        obtain ⟨rfl, rfl⟩ := Rs.ok.inj h
        obtain ⟨o1, _, o3, o4, o5⟩ := int_only hu
        obtain ⟨p1, _, p3, p4, p5⟩ := int_only hd
        refine ⟨?_, by omega, by omega⟩
        rw [putX_mk, ← cut_cat l h0 (show a ≤ m by omega) (show m ≤ q by omega), o1, p1]
        unfold tailX
        simp
      · rw [if_pos hc2] at h; cases h
    · rw [if_pos hc] at h; cases h
  rw [if_neg e3] at h
  by_cases e4 : k = 4
  · subst e4
    rw [if_pos rfl] at h
    obtain ⟨s, m, c, hu⟩ : ∃ s m c, strV l a 100 = (s, m, c) := ⟨_, _, _, rfl⟩
    rw [hu] at h
    simp only at h
    by_cases hc : c = 0
    · subst hc
      rw [if_neg (fun h => h rfl)] at h
      obtain ⟨rfl, rfl⟩ := Rs.ok.inj h
      obtain ⟨o1, o2, o3, o4⟩ := str_only hu
      refine ⟨?_, o3, o4⟩
      rw [putX_mk, o1]
      unfold tailX
      simp
    · rw [if_pos hc] at h; cases h
  rw [if_neg e4] at h
  obtain ⟨n, m, c, hu⟩ : ∃ n m c, intV l a = (n, m, c) := ⟨_, _, _, rfl⟩
  rw [hu] at h
  simp only at h
  by_cases hc : c = 0
  · subst hc
    rw [if_neg (fun h => h rfl)] at h
    obtain ⟨rfl, rfl⟩ := Rs.ok.inj h
    obtain ⟨o1, _, o3, o4, o5⟩ := int_only hu
    refine ⟨?_, by omega, by omega⟩
    have hkk : (k : Int) = 1 ∨ (k : Int) = 2 ∨ (k : Int) = 5 ∨ (k : Int) = 6 := by omega
    rw [putX_mk, o1]
    unfold tailX
    rw [if_pos hkk]
  · rw [if_pos hc] at h; cases h
/-- What a reader gives is the only encoding. -/
def OnlyB (l : List UInt8) (rv : Int → Rs) : Prop := ∀ (b E : Int) (x : Vl), 0 ≤ b → b ≤ l.length → rv b = .ok x E → cutL l b E = putX x ∧ b ≤ E ∧ E ≤ l.length
theorem els_only {l : List UInt8} {rv : Int → Rs} (hr : OnlyB l rv) (kind : Nat) : ∀ (n i : Nat) (b E : Int) (xs : List Vl), 0 ≤ b → b ≤ l.length → elsV l kind rv n i b = .ok xs E → xs.length = n ∧ cutL l b E = putXs xs ∧ b ≤ E ∧ E ≤ l.length
  | 0, i, b, E, xs, h0, h1, h => by
    unfold elsV at h
    obtain ⟨rfl, rfl⟩ := Rl.ok.inj h
    exact ⟨rfl, by rw [cut_nil, putXs_nil], Int.le_refl _, h1⟩
  | n + 1, i, b, E, xs, h0, h1, h => by
    unfold elsV at h
    by_cases e : kind = 7 ∧ b < l.length ∧ (l.getD b.toNat 0).toNat ≠ pkV i
    · rw [if_pos e] at h; cases h
    rw [if_neg e] at h
    cases hb : rv b with
    | er c => rw [hb] at h; cases h
    | ok x E1 =>
      rw [hb] at h
      simp only at h
      obtain ⟨q1, q2, q3⟩ := hr b E1 x h0 h1 hb
      cases hs : elsV l kind rv n (i + 1) E1 with
      | er c => rw [hs] at h; cases h
      | ok ys E2 =>
        rw [hs] at h
        simp only at h
        obtain ⟨rfl, rfl⟩ := Rl.ok.inj h
        obtain ⟨p1, p2, p3, p4⟩ := els_only hr kind n (i + 1) E1 E2 ys (by omega) q3 hs
        refine ⟨by rw [List.length_cons, p1], ?_, by omega, p4⟩
        rw [putXs_cons, ← q1, ← p2, cut_cat l h0 q2 p3]
theorem seq_only {l : List UInt8} {rv : Int → Rs} (hr : OnlyB l rv) {k : Nat} (hk : k = 7 ∨ k = 8) {o : Rl} {b E : Int} {x : Vl} (ho : o = listV l rv b ∨ o = pathV l rv b) (h : ofL k o = .ok x E) : (k : Int).toNat.toUInt8 :: cutL l b E = putX x ∧ b ≤ E ∧ E ≤ l.length := by
  cases o with
  | er c => cases h
  | ok xs E1 =>
    obtain ⟨rfl, rfl⟩ := Rs.ok.inj h
    obtain ⟨n, E0, c, hu⟩ : ∃ u e c, uintV l b = (u, e, c) := ⟨_, _, _, rfl⟩
    have main : ∀ (kind : Nat), c = 0 → elsV l kind rv n.toNat 0 E0 = .ok xs E1 → (k : Int).toNat.toUInt8 :: cutL l b E1 = putX (.mk k 0 0 [] xs) ∧ b ≤ E1 ∧ E1 ≤ l.length := fun kind hc he => by
      subst hc
      obtain ⟨o1, o2, o3, o4, o5, o6⟩ := uint_only hu
      obtain ⟨p1, p2, p3, p4⟩ := els_only hr kind _ _ _ _ _ (by omega) o6 he
      refine ⟨?_, by omega, p4⟩
      have hkk : ¬ ((k : Int) = 1 ∨ (k : Int) = 2 ∨ (k : Int) = 5 ∨ (k : Int) = 6) := by omega
      rw [putX_mk, ← cut_cat l o4 (show b ≤ E0 by omega) p3, o1, p2, ← p1]
      unfold tailX
      rw [if_neg hkk, if_neg (by omega), if_neg (by omega), if_pos (by omega)]
    rcases ho with ho | ho
    · unfold listV at ho
      rw [hu] at ho
      simp only at ho
      by_cases hc : c = 0
      · rw [if_neg (fun t => t hc)] at ho
        by_cases hn : n ≤ 64
        · rw [if_neg (fun t => t hn)] at ho; exact main 8 hc ho.symm
        · rw [if_pos hn] at ho; cases ho
      · rw [if_pos hc] at ho; cases ho
    · unfold pathV at ho
      rw [hu] at ho
      simp only at ho
      by_cases hc : c = 0
      · rw [if_neg (fun t => t hc)] at ho
        by_cases hn : n.toNat ≤ 25 ∧ n.toNat % 2 = 1
        · rw [if_neg (fun t => t hn)] at ho; exact main 7 hc ho.symm
        · rw [if_pos hn] at ho; cases ho
      · rw [if_pos hc] at ho; cases ho
theorem byte_back {l : List UInt8} {b : Int} {k : Nat} (h : (l.getD b.toNat 0).toNat = k) : (k : Int).toNat.toUInt8 = l.getD b.toNat 0 := by
  rw [Int.toNat_natCast, ← h]
  exact UInt8.ofNat_toNat
theorem flat_at {l : List UInt8} {b E : Int} {x : Vl} (h0 : 0 ≤ b) (hb : ¬ (l.length : Int) ≤ b) (e7 : (l.getD b.toNat 0).toNat < 7) (h : fin (flatV (l.getD b.toNat 0).toNat l (b + 1)) = .ok x E) : cutL l b E = putX x ∧ b ≤ E ∧ E ≤ l.length := by
  obtain ⟨q1, q2, q3⟩ := flat_only e7 (by omega) (by omega) (fin_ok h)
  refine ⟨?_, by omega, q3⟩
  rw [byte_back rfl] at q1
  rw [← q1, ← cut_cat l h0 (show b ≤ b + 1 by omega) q2, cut_one l h0 (by omega)]
  rfl
theorem end_only (l : List UInt8) : OnlyB l (endV l) := fun b E x h0 h1 h => by
  unfold endV at h
  by_cases e : (l.length : Int) ≤ b
  · rw [if_pos e] at h; cases h
  rw [if_neg e] at h
  by_cases e7 : (l.getD b.toNat 0).toNat < 7
  · rw [if_pos e7] at h
    exact flat_at h0 e e7 h
  · rw [if_neg e7] at h; cases h
theorem seq_at {l : List UInt8} {rv : Int → Rs} (hr : OnlyB l rv) {k : Nat} (hk : k = 7 ∨ k = 8) {b E : Int} {x : Vl} (h0 : 0 ≤ b) (hb : ¬ (l.length : Int) ≤ b) (ek : (l.getD b.toNat 0).toNat = k) {o : Rl} (ho : o = listV l rv (b + 1) ∨ o = pathV l rv (b + 1)) (h : fin (ofL k o) = .ok x E) : cutL l b E = putX x ∧ b ≤ E ∧ E ≤ l.length := by
  obtain ⟨q1, q2, q3⟩ := seq_only hr hk ho (fin_ok h)
  refine ⟨?_, by omega, q3⟩
  rw [byte_back ek] at q1
  rw [← q1, ← cut_cat l h0 (show b ≤ b + 1 by omega) q2, cut_one l h0 (by omega)]
  rfl
theorem head_only {l : List UInt8} {seq : Int → Rs} (hs : ∀ (b E : Int) (x : Vl), 0 ≤ b → ¬ (l.length : Int) ≤ b → (l.getD b.toNat 0).toNat = 8 → seq (b + 1) = .ok x E → cutL l b E = putX x ∧ b ≤ E ∧ E ≤ l.length) : OnlyB l (fun b => headV l b seq) := fun b E x h0 h1 h => by
  simp only at h
  unfold headV at h
  by_cases e : (l.length : Int) ≤ b
  · rw [if_pos e] at h; cases h
  rw [if_neg e] at h
  by_cases e7 : (l.getD b.toNat 0).toNat < 7
  · rw [if_pos e7] at h
    exact flat_at h0 e e7 h
  rw [if_neg e7] at h
  by_cases e8 : (l.getD b.toNat 0).toNat = 7
  · rw [if_pos e8] at h
    exact seq_at (k := 7) (end_only l) (.inl rfl) h0 e e8 (.inr rfl) h
  rw [if_neg e8] at h
  by_cases e9 : (l.getD b.toNat 0).toNat = 8
  · rw [if_pos e9] at h
    exact hs b E x h0 e e9 h
  · rw [if_neg e9] at h; cases h
theorem val_only (l : List UInt8) : ∀ n, OnlyB l (valV l n)
  | 0 => fun b E x h0 h1 h => head_only (seq := fun _ => .er 2) (fun _ _ _ _ _ _ t => by cases t) b E x h0 h1 h
  | n + 1 => fun b E x h0 h1 h => head_only (seq := fun b' => fin (ofL 8 (listV l (valV l n) b'))) (fun b' E' x' g0 g1 g2 t => seq_at (k := 8) (val_only l n) (.inr rfl) g0 g1 g2 (.inl rfl) t) b E x h0 h1 h
theorem fin_x {o : Rs} {x : Vl} {E : Int} (h : fin o = .ok x E) : okX x = true := by
  cases o with
  | ok y F =>
    unfold fin at h
    simp only at h
    by_cases e : okX y = true
    · rw [if_pos e] at h
      obtain ⟨rfl, -⟩ := Rs.ok.inj h
      exact e
    · rw [if_neg e] at h; cases h
  | er c => cases h
theorem head_x {l : List UInt8} {b E : Int} {x : Vl} {seq : Int → Rs} (hs : ∀ b', seq b' = .ok x E → okX x = true) (h : headV l b seq = .ok x E) : okX x = true := by
  unfold headV at h
  repeat' split at h
  all_goals first
    | (cases h; done)
    | exact fin_x h
    | exact hs _ h
theorem value_only {l : List UInt8} {a E : Int} {x : Vl} (h : valueV l a = .ok x E) : okX x = true ∧ cutL l a E = putX x ∧ 0 ≤ a ∧ a ≤ E ∧ E ≤ l.length := by
  unfold valueV at h
  by_cases hb : a < 0 ∨ (l.length : Int) < a
  · rw [if_pos hb] at h; cases h
  rw [if_neg hb] at h
  obtain ⟨q1, q2, q3⟩ := val_only l 8 a E x (by omega) (by omega) h
  refine ⟨?_, q1, by omega, q2, q3⟩
  exact head_x (seq := fun b' => fin (ofL 8 (listV l (valV l 7) b'))) (fun b' t => fin_x t) h
/-- What Unframe accepts is a frame. -/
theorem frame_only {l S : List UInt8} {a E : Int} (h : unframeV l a = (S, E, 0)) : cutL l a E = frameV S ∧ 0 ≤ a ∧ a ≤ E ∧ E ≤ l.length := by
  obtain ⟨U, n, c, hu⟩ : ∃ u n c, uintV l a = (u, n, c) := ⟨_, _, _, rfl⟩
  by_cases hc : c = 0
  · subst hc
    obtain ⟨o1, o2, o3, o4, o5, o6⟩ := uint_only hu
    obtain ⟨q1, q2⟩ := unf_ok hu rfl h
    by_cases h1 : (l.length : Int) - n - 4 < U
    · have := (q1 h1).2.2; omega
    obtain ⟨q3, q4⟩ := q2 h1
    by_cases h2 : le4 (crc ((l.drop n.toNat).take U.toNat)) = (l.drop (n + U).toNat).take 4
    · obtain ⟨e1, e2, -⟩ := q4 h2
      have hS : S.length = U.toNat := by rw [e1, List.length_take, List.length_drop]; omega
      refine ⟨?_, o4, by omega, by omega⟩
      rw [e2, ← cut_cat l o4 (show a ≤ n + U by omega) (show n + U ≤ n + U + 4 by omega), ← cut_cat l o4 (show a ≤ n by omega) (show n ≤ n + U by omega), o1]
      unfold frameV
      rw [hS]
      have e3 : cutL l n (n + U) = S := by
        rw [e1]
        unfold cutL
        congr 1
        omega
      have e4 : cutL l (n + U) (n + U + 4) = le4 (crc S) := by
        rw [e1, h2]
        unfold cutL
        congr 1
        omega
      rw [e3, e4]
    · have := (q3 h2).2.2; omega
  · exfalso
    unfold unframeV at h
    rw [hu] at h
    simp only at h
    rw [if_pos hc] at h
    simp only [Prod.mk.injEq] at h
    exact hc h.2.2
end Go.Proofs.YtolkdmhjomampaaDoor
