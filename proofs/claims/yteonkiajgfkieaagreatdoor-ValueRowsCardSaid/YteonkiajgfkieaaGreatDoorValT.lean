/-
  Plain mathematics of values: the text of a value; two valid values with the same text are the same. No program, no world.
-/
import Derived.Test.YteonkiajgfkieaaGreatDoorValM
import Derived.Test.YteonkiajgfkieaaGreatDoorNumM
namespace Go.Proofs.YteonkiajgfkieaaGreatDoor
open Go.Lib (decDigits)

/-- A string's bytes with each quote doubled. -/
def dbl : List UInt8 → List UInt8
  | [] => []
  | c :: r => if c = 39 then 39 :: 39 :: dbl r else c :: dbl r
mutual
/-- The text of a value. -/
def texX : Vl → List UInt8
  | .mk k n d s l =>
    if okX (.mk k n d s l) = false then [63]
    else if k = 1 then (if n = 1 then [116, 114, 117, 101] else [102, 97, 108, 115, 101])
    else if k = 2 then Lib.itoa n
    else if k = 3 then Lib.itoa n ++ 47 :: Lib.itoa d
    else if k = 4 then 39 :: (dbl s ++ [39])
    else if k = 5 then 35 :: Lib.itoa n
    else if k = 6 then 64 :: Lib.itoa n
    else if k = 8 then 91 :: (texL [44, 32] l ++ [93])
    else if k = 7 then 60 :: (texL [32] l ++ [62])
    else [110, 117, 108, 108]
/-- The texts of values with a separator between. -/
def texL (by_ : List UInt8) : List Vl → List UInt8
  | [] => []
  | x :: r => texX x ++ texR by_ r
def texR (by_ : List UInt8) : List Vl → List UInt8
  | [] => []
  | x :: r => by_ ++ (texX x ++ texR by_ r)
end
/-- What may stand behind a value's text. -/
def Del (r : List UInt8) : Prop := ∀ c t, r = c :: t → c = 44 ∨ c = 32 ∨ c = 93 ∨ c = 62
theorem del_nil : Del [] := fun _ _ h => by cases h
theorem del_c {c : UInt8} {t : List UInt8} (h : c = 44 ∨ c = 32 ∨ c = 93 ∨ c = 62) : Del (c :: t) := fun c' t' e => by
  cases e; exact h
theorem numF_del {n : Nat} {r : List UInt8} (h : Del r) : numF n r = (n, r) := by
  cases r with
  | nil => rfl
  | cons c t =>
    show (if _ then _ else _) = _
    rw [if_neg]
    rintro ⟨h1, h2, -⟩
    rcases h c t rfl with e | e | e | e <;> (rw [e] at h1 h2; revert h1 h2; decide)
/-- A numeral ends where no digit follows. -/
theorem dec_same {u u' : Nat} {r r' : List UInt8} (hu : u ≤ 10000000000000009) (hu' : u' ≤ 10000000000000009) (h1 : ∀ n, numF n r = (n, r)) (h2 : ∀ n, numF n r' = (n, r')) (h : decDigits u ++ r = decDigits u' ++ r') : u = u' ∧ r = r' := by
  have a := numF_digits u r hu
  have b := numF_digits u' r' hu'
  rw [h1] at a
  rw [h2] at b
  rw [h, b] at a
  exact ⟨(Prod.mk.inj a).1.symm, (Prod.mk.inj a).2.symm⟩
theorem itoa_same {n n' : Int} {r r' : List UInt8} (a0 : -1000000000000000 ≤ n) (a1 : n ≤ 1000000000000000) (b0 : -1000000000000000 ≤ n') (b1 : n' ≤ 1000000000000000) (h1 : ∀ n, numF n r = (n, r)) (h2 : ∀ n, numF n r' = (n, r')) (h : Lib.itoa n ++ r = Lib.itoa n' ++ r') : n = n' ∧ r = r' := by
  have neg : ∀ z : Int, z < 0 → Lib.itoa z = 45 :: decDigits z.natAbs := fun z hz => by unfold Lib.itoa; rw [if_pos hz]
  have pos : ∀ z : Int, ¬ z < 0 → Lib.itoa z = decDigits z.natAbs := fun z hz => by unfold Lib.itoa; rw [if_neg hz, show z.toNat = z.natAbs by omega]
  have hd : ∀ (u u' : Nat) (t t' : List UInt8), (45 : UInt8) :: (decDigits u ++ t) = decDigits u' ++ t' → False := by
    intro u u' t t' e
    obtain ⟨c, q, e1, e2, e3⟩ := digs_head u'
    rw [e1, List.cons_append] at e
    have := (List.cons.inj e).1
    rw [← this] at e2
    revert e2
    decide
  by_cases g : n < 0 <;> by_cases g' : n' < 0
  · rw [neg n g, neg n' g', List.cons_append, List.cons_append] at h
    obtain ⟨e, f⟩ := dec_same (by omega) (by omega) h1 h2 (List.cons.inj h).2
    exact ⟨by omega, f⟩
  · rw [neg n g, pos n' g', List.cons_append] at h
    exact (hd _ _ _ _ h).elim
  · rw [pos n g, neg n' g', List.cons_append] at h
    exact (hd _ _ _ _ h.symm).elim
  · rw [pos n g, pos n' g'] at h
    obtain ⟨e, f⟩ := dec_same (by omega) (by omega) h1 h2 h
    exact ⟨by omega, f⟩
theorem dbl_same : ∀ {s t : List UInt8} {r r' : List UInt8}, (∀ q, r ≠ 39 :: q) → (∀ q, r' ≠ 39 :: q) → dbl s ++ 39 :: r = dbl t ++ 39 :: r' → s = t ∧ r = r'
  | [], [], r, r', _, _, h => ⟨rfl, (List.cons.inj h).2⟩
  | [], c :: t, r, r', h1, h2, h => by
    exfalso
    unfold dbl at h
    by_cases hc : c = 39
    · rw [if_pos hc] at h
      exact h1 _ (List.cons.inj h).2
    · rw [if_neg hc] at h
      exact hc (List.cons.inj h).1.symm
  | c :: s, [], r, r', h1, h2, h => by
    exfalso
    unfold dbl at h
    by_cases hc : c = 39
    · rw [if_pos hc] at h
      exact h2 _ (List.cons.inj h).2.symm
    · rw [if_neg hc] at h
      exact hc (List.cons.inj h).1
  | c :: s, c' :: t, r, r', h1, h2, h => by
    unfold dbl at h
    by_cases hc : c = 39 <;> by_cases hc' : c' = 39
    · rw [if_pos hc, if_pos hc'] at h
      obtain ⟨e, f⟩ := dbl_same h1 h2 (List.cons.inj (List.cons.inj h).2).2
      exact ⟨by rw [hc, hc', e], f⟩
    · rw [if_pos hc, if_neg hc'] at h
      exact absurd (List.cons.inj h).1.symm hc'
    · rw [if_neg hc, if_pos hc'] at h
      exact absurd (List.cons.inj h).1 hc
    · rw [if_neg hc, if_neg hc'] at h
      obtain ⟨e, f⟩ := dbl_same h1 h2 (List.cons.inj h).2
      exact ⟨by rw [(List.cons.inj h).1, e], f⟩
mutual
/-- More nesting does no harm. -/
theorem ok_mono : ∀ (v : Vl) (m m' : Nat), m ≤ m' → okV m v = true → okV m' v = true
  | .mk k n d s l, m, m', h, g => by
    have ih := oks_mono l (m - 1) (m' - 1) (by omega)
    unfold okV at g ⊢
    by_cases h7 : k = 7
    · rw [if_pos h7] at g ⊢; exact g
    rw [if_neg h7] at g ⊢
    by_cases h8 : k = 8
    · rw [if_pos h8] at g ⊢
      simp only [Bool.and_eq_true, decide_eq_true_eq] at g ⊢
      exact ⟨⟨⟨g.1.1.1, by omega⟩, g.1.2⟩, ih g.2⟩
    rw [if_neg h8] at g ⊢
    exact g
theorem oks_mono : ∀ (l : List Vl) (m m' : Nat), m ≤ m' → okVs m l = true → okVs m' l = true
  | [], _, _, _, _ => by unfold okVs; rfl
  | v :: r, m, m', h, g => by
    unfold okVs at g ⊢
    rw [Bool.and_eq_true] at g ⊢
    exact ⟨ok_mono v m m' h g.1, oks_mono r m m' h g.2⟩
end
/-- Each of these is a valid value. -/
def AllOk (l : List Vl) : Prop := ∀ v, v ∈ l → okX v = true
theorem all_s : ∀ {l : List Vl} {m : Nat}, m ≤ 8 → okVs m l = true → AllOk l
  | [], _, _, _ => fun v h => by cases h
  | x :: r, m, hm, g => by
    unfold okVs at g
    rw [Bool.and_eq_true] at g
    intro v hv
    rcases List.mem_cons.1 hv with e | e
    · rw [e]; exact ok_mono x m 8 hm g.1
    · exact all_s hm g.2 v e
theorem all_p : ∀ {l : List Vl} {b : Bool}, okVp b l = true → AllOk l
  | [], _, _ => fun v h => by cases h
  | x :: r, b, g => by
    unfold okVp at g
    rw [Bool.and_eq_true, Bool.and_eq_true] at g
    intro v hv
    rcases List.mem_cons.1 hv with e | e
    · rw [e]; exact ok_mono x 0 8 (by decide) g.1.2
    · exact all_p g.2 v e

/-- What a valid value holds, kind by kind. -/
theorem kinds {k n d : Int} {s : List UInt8} {l : List Vl} (h : okX (.mk k n d s l) = true) :
    (k = 0 ∧ n = 0 ∧ d = 0 ∧ s = [] ∧ l = []) ∨ (k = 1 ∧ (n = 0 ∨ n = 1) ∧ d = 0 ∧ s = [] ∧ l = []) ∨
    (k = 2 ∧ (-1000000000000000 ≤ n ∧ n ≤ 1000000000000000) ∧ d = 0 ∧ s = [] ∧ l = []) ∨ (k = 3 ∧ okF n d = true ∧ 2 ≤ d ∧ s = [] ∧ l = []) ∨
    (k = 4 ∧ n = 0 ∧ d = 0 ∧ l = []) ∨ (k = 5 ∧ (1 ≤ n ∧ n ≤ 1000000) ∧ d = 0 ∧ s = [] ∧ l = []) ∨ (k = 6 ∧ (1 ≤ n ∧ n ≤ 1000000) ∧ d = 0 ∧ s = [] ∧ l = []) ∨
    (k = 7 ∧ n = 0 ∧ d = 0 ∧ s = [] ∧ AllOk l) ∨ (k = 8 ∧ n = 0 ∧ d = 0 ∧ s = [] ∧ AllOk l) := by
  unfold okX okV at h
  by_cases h7 : k = 7
  · rw [if_pos h7] at h
    rw [Bool.and_eq_true] at h
    have a := all_p h.2
    have h := h.1
    simp [bareV] at h
    obtain ⟨⟨⟨⟨e1, e2⟩, e3⟩, -⟩, -⟩ := h
    exact .inr (.inr (.inr (.inr (.inr (.inr (.inr (.inl ⟨h7, e1, e2, e3, a⟩)))))))
  rw [if_neg h7] at h
  by_cases h8 : k = 8
  · rw [if_pos h8] at h
    rw [Bool.and_eq_true] at h
    have a := all_s (by decide) h.2
    have h := h.1
    simp [bareV] at h
    obtain ⟨⟨⟨e1, e2⟩, e3⟩, -⟩ := h
    exact .inr (.inr (.inr (.inr (.inr (.inr (.inr (.inr ⟨h8, e1, e2, e3, a⟩)))))))
  rw [if_neg h8] at h
  unfold okFlat at h
  by_cases h0 : k = 0
  · rw [if_pos h0] at h
    simp [bareV] at h
    obtain ⟨⟨⟨e0, e1⟩, e2⟩, e3⟩ := h
    exact .inl ⟨h0, e0, e1, e2, e3⟩
  rw [if_neg h0] at h
  by_cases h1 : k = 1
  · rw [if_pos h1] at h
    simp [bareV] at h
    obtain ⟨⟨⟨e1, e2⟩, e3⟩, e4⟩ := h
    exact .inr (.inl ⟨h1, e4, e1, e2, e3⟩)
  rw [if_neg h1] at h
  by_cases h2 : k = 2
  · rw [if_pos h2] at h
    simp [bareV] at h
    obtain ⟨⟨⟨e1, e2⟩, e3⟩, e4⟩ := h
    exact .inr (.inr (.inl ⟨h2, e4, e1, e2, e3⟩))
  rw [if_neg h2] at h
  by_cases h3 : k = 3
  · rw [if_pos h3] at h
    simp [bareV] at h
    obtain ⟨⟨⟨e2, e3⟩, e4⟩, e5⟩ := h
    exact .inr (.inr (.inr (.inl ⟨h3, e5, e4, e2, e3⟩)))
  rw [if_neg h3] at h
  by_cases h4 : k = 4
  · rw [if_pos h4] at h
    simp [bareV] at h
    obtain ⟨⟨⟨e1, e2⟩, e3⟩, -⟩ := h
    exact .inr (.inr (.inr (.inr (.inl ⟨h4, e1, e2, e3⟩))))
  rw [if_neg h4] at h
  by_cases h5 : k = 5 ∨ k = 6
  · rw [if_pos h5] at h
    simp [bareV] at h
    obtain ⟨⟨⟨⟨e1, e2⟩, e3⟩, e4⟩, e5⟩ := h
    rcases h5 with h5 | h5
    · exact .inr (.inr (.inr (.inr (.inr (.inl ⟨h5, ⟨e4, e5⟩, e1, e2, e3⟩)))))
    · exact .inr (.inr (.inr (.inr (.inr (.inr (.inl ⟨h5, ⟨e4, e5⟩, e1, e2, e3⟩))))))
  · rw [if_neg h5] at h
    cases h
/-- A text's first byte tells the class. -/
def headC (c : UInt8) : Int :=
  if c = 110 then 0 else if c = 116 ∨ c = 102 then 1 else if c = 45 ∨ (48 ≤ c.toNat ∧ c.toNat ≤ 57) then 2 else if c = 39 then 3 else if c = 35 then 4 else if c = 64 then 5 else if c = 91 then 6 else if c = 60 then 7 else -1
theorem headC_d {c : UInt8} (h : 48 ≤ c.toNat ∧ c.toNat ≤ 57) : headC c = 2 := by
  unfold headC
  have n1 : c ≠ 110 := fun e => by rw [e] at h; revert h; decide
  have n2 : ¬ (c = 116 ∨ c = 102) := by
    rintro (e | e) <;> (rw [e] at h; revert h; decide)
  rw [if_neg n1, if_neg n2, if_pos (.inr h)]
theorem itoa_head (n : Int) : ∃ c t, Lib.itoa n = c :: t ∧ headC c = 2 := by
  unfold Lib.itoa
  split
  · exact ⟨45, _, rfl, by decide⟩
  · obtain ⟨c, r, e, h1, h2⟩ := digs_head n.toNat
    exact ⟨c, r, e, headC_d ⟨h1, h2⟩⟩
theorem tex_head {v : Vl} (h : okX v = true) : ∃ c t, texX v = c :: t ∧ headC c = classV v.kd := by
  obtain ⟨k, n, d, s, l⟩ := v
  show ∃ c t, texX (.mk k n d s l) = c :: t ∧ headC c = classV k
  have hf : ¬ okX (.mk k n d s l) = false := by rw [h]; decide
  unfold texX
  rw [if_neg hf]
  rcases kinds h with ⟨rfl, -⟩ | ⟨rfl, -⟩ | ⟨rfl, -⟩ | ⟨rfl, -⟩ | ⟨rfl, -⟩ | ⟨rfl, -⟩ | ⟨rfl, -⟩ | ⟨rfl, -⟩ | ⟨rfl, -⟩
  · exact ⟨_, _, rfl, by decide⟩
  · rw [if_pos rfl]
    split
    · exact ⟨_, _, rfl, by decide⟩
    · exact ⟨_, _, rfl, by decide⟩
  · obtain ⟨c, t, e, hc⟩ := itoa_head n
    exact ⟨c, t, by rw [if_neg (by decide), if_pos rfl, e], hc⟩
  · obtain ⟨c, t, e, hc⟩ := itoa_head n
    exact ⟨c, t ++ 47 :: Lib.itoa d, by rw [if_neg (by decide), if_neg (by decide), if_pos rfl, e]; rfl, hc⟩
  · exact ⟨_, _, rfl, by decide⟩
  · exact ⟨_, _, rfl, by decide⟩
  · exact ⟨_, _, rfl, by decide⟩
  · exact ⟨_, _, rfl, by decide⟩
  · exact ⟨_, _, rfl, by decide⟩
theorem tex_of {k n d : Int} {s : List UInt8} {l : List Vl} (h : okX (.mk k n d s l) = true) : texX (.mk k n d s l) =
    if k = 1 then (if n = 1 then [116, 114, 117, 101] else [102, 97, 108, 115, 101])
    else if k = 2 then Lib.itoa n
    else if k = 3 then Lib.itoa n ++ 47 :: Lib.itoa d
    else if k = 4 then 39 :: (dbl s ++ [39])
    else if k = 5 then 35 :: Lib.itoa n
    else if k = 6 then 64 :: Lib.itoa n
    else if k = 8 then 91 :: (texL [44, 32] l ++ [93])
    else if k = 7 then 60 :: (texL [32] l ++ [62])
    else [110, 117, 108, 108] := by
  rw [texX, if_neg (by rw [h]; decide)]
/-- A separator and a closing byte. -/
def Sep (by_ : List UInt8) (e : UInt8) : Prop := (by_ = [44, 32] ∧ e = 93) ∨ (by_ = [32] ∧ e = 62)
theorem sep_del {by_ : List UInt8} {e : UInt8} (h : Sep by_ e) (l : List Vl) (r : List UInt8) : Del (texR by_ l ++ e :: r) := by
  cases l with
  | nil =>
    unfold texR
    rcases h with ⟨-, he⟩ | ⟨-, he⟩ <;> exact del_c (by rw [he]; decide)
  | cons x t =>
    unfold texR
    rcases h with ⟨hb, -⟩ | ⟨hb, -⟩ <;> (rw [hb]; exact del_c (by decide))
theorem sep_head {by_ : List UInt8} {e : UInt8} (h : Sep by_ e) {q q' : List UInt8} (k : by_ ++ q = e :: q') : False := by
  rcases h with ⟨hb, he⟩ | ⟨hb, he⟩ <;> (rw [hb, he] at k; exact absurd (List.cons.inj k).1 (by decide))
theorem sep_no {by_ : List UInt8} {e : UInt8} (h : Sep by_ e) : headC e = -1 := by
  rcases h with ⟨-, he⟩ | ⟨-, he⟩ <;> (rw [he]; decide)
theorem class_nn (k : Int) : 0 ≤ classV k := by
  unfold classV
  repeat' split
  all_goals decide
mutual
/-- The same text, the same value. -/
theorem tex_same : ∀ (a b : Vl) {r r' : List UInt8}, okX a = true → okX b = true → Del r → Del r' → texX a ++ r = texX b ++ r' → a = b ∧ r = r'
  | .mk k n d s l, .mk k' n' d' s' l', r, r', ha, hb, hr, hr', h => by
    have ihL := fun (by_ : List UInt8) (e : UInt8) (q q' : List UInt8) => @texL_same l l' by_ e q q'
    have hc : classV k = classV k' := by
      obtain ⟨c, t, e1, e2⟩ := tex_head ha
      obtain ⟨c', t', e3, e4⟩ := tex_head hb
      rw [e1, e3] at h
      have := (List.cons.inj h).1
      have e5 : headC c = classV k := e2
      have e6 : headC c' = classV k' := e4
      rw [← e5, ← e6, this]
    rw [tex_of ha, tex_of hb] at h
    have n47 : ∀ q : List UInt8, ¬ Del (47 :: q) := fun q t => by
      have := t 47 q rfl
      revert this; decide
    have n39 : ∀ {q : List UInt8}, Del q → ∀ p, q ≠ 39 :: p := fun {q} t p e => by
      have := t 39 p e
      revert this; decide
    have s47 : ∀ (q : List UInt8) (m : Nat), numF m (47 :: q) = (m, 47 :: q) := fun q m => numF_slash m q
    rcases kinds ha with ⟨k0, a1, a2, a3, a4⟩ | ⟨k0, a1, a2, a3, a4⟩ | ⟨k0, a1, a2, a3, a4⟩ | ⟨k0, a1, a2, a3, a4⟩ | ⟨k0, a1, a2, a4⟩ | ⟨k0, a1, a2, a3, a4⟩ | ⟨k0, a1, a2, a3, a4⟩ | ⟨k0, a1, a2, a3, a4⟩ | ⟨k0, a1, a2, a3, a4⟩ <;>
    rcases kinds hb with ⟨q0, b1, b2, b3, b4⟩ | ⟨q0, b1, b2, b3, b4⟩ | ⟨q0, b1, b2, b3, b4⟩ | ⟨q0, b1, b2, b3, b4⟩ | ⟨q0, b1, b2, b4⟩ | ⟨q0, b1, b2, b3, b4⟩ | ⟨q0, b1, b2, b3, b4⟩ | ⟨q0, b1, b2, b3, b4⟩ | ⟨q0, b1, b2, b3, b4⟩ <;>
    (rw [k0, q0] at hc) <;> first
    | (exact absurd hc (by decide))
    | skip
    · -- null
      rw [k0, q0] at h
      simp at h
      exact ⟨by rw [k0, q0, a1, b1, a2, b2, a3, b3, a4, b4], h⟩
    · -- boolean
      rw [k0, q0] at h
      rcases a1 with a1 | a1 <;> rcases b1 with b1 | b1 <;> rw [a1, b1] at h <;> simp at h
      · exact ⟨by rw [k0, q0, a1, b1, a2, b2, a3, b3, a4, b4], h⟩
      · exact ⟨by rw [k0, q0, a1, b1, a2, b2, a3, b3, a4, b4], h⟩
    · -- int, int
      rw [k0, q0] at h
      simp at h
      obtain ⟨e, f⟩ := itoa_same a1.1 a1.2 b1.1 b1.2 (fun m => numF_del hr) (fun m => numF_del hr') h
      exact ⟨by rw [k0, q0, e, a2, b2, a3, b3, a4, b4], f⟩
    · -- int, fraction
      rw [k0, q0] at h
      simp at h
      have o := okF_t b1
      obtain ⟨e, f⟩ := itoa_same a1.1 a1.2 o.n1 o.n2 (fun m => numF_del hr) (fun m => s47 _ m) h
      rw [f] at hr
      exact (n47 _ hr).elim
    · -- fraction, int
      rw [k0, q0] at h
      simp at h
      have o := okF_t a1
      obtain ⟨e, f⟩ := itoa_same o.n1 o.n2 b1.1 b1.2 (fun m => s47 _ m) (fun m => numF_del hr') h
      rw [← f] at hr'
      exact (n47 _ hr').elim
    · -- fraction, fraction
      rw [k0, q0] at h
      simp at h
      have o := okF_t a1
      have p := okF_t b1
      have o1 := o.d1; have o2 := o.d2; have p1 := p.d1; have p2 := p.d2
      obtain ⟨e, f⟩ := itoa_same o.n1 o.n2 p.n1 p.n2 (fun m => s47 _ m) (fun m => s47 _ m) h
      obtain ⟨e2, f2⟩ := itoa_same (by omega) (by omega) (by omega) (by omega) (fun m => numF_del hr) (fun m => numF_del hr') (List.cons.inj f).2
      exact ⟨by rw [k0, q0, e, e2, a3, b3, a4, b4], f2⟩
    · -- string
      rw [k0, q0] at h
      simp at h
      obtain ⟨e, f⟩ := dbl_same (n39 hr) (n39 hr') h
      exact ⟨by rw [k0, q0, e, a1, b1, a2, b2, a4, b4], f⟩
    · -- node
      rw [k0, q0] at h
      simp at h
      obtain ⟨e, f⟩ := itoa_same (by omega) (by omega) (by omega) (by omega) (fun m => numF_del hr) (fun m => numF_del hr') h
      exact ⟨by rw [k0, q0, e, a2, b2, a3, b3, a4, b4], f⟩
    · -- edge
      rw [k0, q0] at h
      simp at h
      obtain ⟨e, f⟩ := itoa_same (by omega) (by omega) (by omega) (by omega) (fun m => numF_del hr) (fun m => numF_del hr') h
      exact ⟨by rw [k0, q0, e, a2, b2, a3, b3, a4, b4], f⟩
    · -- path
      rw [k0, q0] at h
      simp at h
      obtain ⟨e, f⟩ := ihL [32] 62 r r' (.inr ⟨rfl, rfl⟩) a4 b4 h
      exact ⟨by rw [k0, q0, e, a1, b1, a2, b2, a3, b3], f⟩
    · -- list
      rw [k0, q0] at h
      simp at h
      obtain ⟨e, f⟩ := ihL [44, 32] 93 r r' (.inl ⟨rfl, rfl⟩) a4 b4 h
      exact ⟨by rw [k0, q0, e, a1, b1, a2, b2, a3, b3], f⟩
theorem texL_same : ∀ {l l' : List Vl} {by_ : List UInt8} {e : UInt8} {r r' : List UInt8}, Sep by_ e → AllOk l → AllOk l' → texL by_ l ++ e :: r = texL by_ l' ++ e :: r' → l = l' ∧ r = r'
  | [], [], _, _, _, _, _, _, _, h => by
    unfold texL at h
    exact ⟨rfl, (List.cons.inj h).2⟩
  | [], x :: t, by_, e, r, r', hS, _, hb, h => by
    exfalso
    obtain ⟨c, u, e1, e2⟩ := tex_head (hb x (List.mem_cons_self ..))
    unfold texL at h
    rw [e1] at h
    have h1 : e = c := (List.cons.inj h).1
    have h2 := sep_no hS
    have h3 := class_nn x.kd
    rw [h1, e2] at h2
    omega
  | x :: t, [], by_, e, r, r', hS, ha, _, h => by
    exfalso
    obtain ⟨c, u, e1, e2⟩ := tex_head (ha x (List.mem_cons_self ..))
    unfold texL at h
    rw [e1] at h
    have h1 : c = e := (List.cons.inj h).1
    have h2 := sep_no hS
    have h3 := class_nn x.kd
    rw [← h1, e2] at h2
    omega
  | x :: t, x' :: t', by_, e, r, r', hS, ha, hb, h => by
    unfold texL at h
    rw [List.append_assoc, List.append_assoc] at h
    obtain ⟨g1, g2⟩ := tex_same x x' (ha x (List.mem_cons_self ..)) (hb x' (List.mem_cons_self ..)) (sep_del hS t r) (sep_del hS t' r') h
    obtain ⟨g3, g4⟩ := texR_same hS (fun v hv => ha v (List.mem_cons_of_mem _ hv)) (fun v hv => hb v (List.mem_cons_of_mem _ hv)) g2
    exact ⟨by rw [g1, g3], g4⟩
theorem texR_same : ∀ {l l' : List Vl} {by_ : List UInt8} {e : UInt8} {r r' : List UInt8}, Sep by_ e → AllOk l → AllOk l' → texR by_ l ++ e :: r = texR by_ l' ++ e :: r' → l = l' ∧ r = r'
  | [], [], _, _, _, _, _, _, _, h => by
    unfold texR at h
    exact ⟨rfl, (List.cons.inj h).2⟩
  | [], x :: t, by_, e, r, r', hS, _, hb, h => by
    exfalso
    unfold texR at h
    rw [List.append_assoc] at h
    exact sep_head hS h.symm
  | x :: t, [], by_, e, r, r', hS, ha, _, h => by
    exfalso
    unfold texR at h
    rw [List.append_assoc] at h
    exact sep_head hS h
  | x :: t, x' :: t', by_, e, r, r', hS, ha, hb, h => by
    unfold texR at h
    rw [List.append_assoc, List.append_assoc, List.append_assoc, List.append_assoc] at h
    have h := List.append_cancel_left h
    obtain ⟨g1, g2⟩ := tex_same x x' (ha x (List.mem_cons_self ..)) (hb x' (List.mem_cons_self ..)) (sep_del hS t r) (sep_del hS t' r') h
    obtain ⟨g3, g4⟩ := texR_same hS (fun v hv => ha v (List.mem_cons_of_mem _ hv)) (fun v hv => hb v (List.mem_cons_of_mem _ hv)) g2
    exact ⟨by rw [g1, g3], g4⟩
end
theorem tex_inj {a b : Vl} (ha : okX a = true) (hb : okX b = true) (h : texX a = texX b) : a = b :=
  (tex_same a b (r := []) (r' := []) ha hb del_nil del_nil (by rw [h])).1
end Go.Proofs.YteonkiajgfkieaaGreatDoor
