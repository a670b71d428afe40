/-
  M14; LvG: texts of one kind in one file; each part says what it holds.
-/
import Derived.Test.YtfbijdoomkgodaaGreatDoorTK00
import Derived.Lib.ItoaLen
import Derived.Test.YtfbijdoomkgodaaGreatDoorTK06

/-! NumM; ValT: texts of one kind in one file; each part says what it holds. -/

/-! Plain mathematics of decimal numerals: the first digits of a text, read as a number, are the number whose numeral stands there. No program, no world. -/
namespace Go.Proofs.YtfbijdoomkgodaaGreatDoor
open Go.Lib (decDigits)

/-- Reading digits: the number so far, the bytes that are left. -/
def numF : Nat → List UInt8 → Nat × List UInt8
  | n, [] => (n, [])
  | n, c :: r => if 48 ≤ c.toNat ∧ c.toNat ≤ 57 ∧ n ≤ 1000000000000000 then numF (n * 10 + (c.toNat - 48)) r else (n, c :: r)
theorem dig_nat {u : Nat} (h : u < 10) : (UInt8.ofNat (48 + u)).toNat = 48 + u := by
  rw [UInt8.toNat_ofNat']; omega
theorem numF_dig {n u : Nat} (hu : u < 10) (hn : n ≤ 1000000000000000) (r : List UInt8) : numF n (UInt8.ofNat (48 + u) :: r) = numF (n * 10 + u) r := by
  show (if _ then _ else _) = _
  rw [dig_nat hu, if_pos (by omega), show 48 + u - 48 = u by omega]
theorem numF_digits (u : Nat) : ∀ r : List UInt8, u ≤ 10000000000000009 → numF 0 (decDigits u ++ r) = numF u r := by
  induction u using Nat.strongRecOn with
  | _ u ih =>
    intro r hu
    by_cases h1 : u < 10
    · rw [Lib.decDigits_one h1]
      show numF 0 (UInt8.ofNat (48 + u) :: r) = _
      rw [numF_dig h1 (by decide)]
      congr 1
      omega
    · have e : decDigits u = decDigits (u / 10) ++ [UInt8.ofNat (48 + u % 10)] := by rw [decDigits, dif_neg h1]
      rw [e, List.append_assoc]
      show numF 0 (decDigits (u / 10) ++ (UInt8.ofNat (48 + u % 10) :: r)) = _
      rw [ih (u / 10) (by omega) _ (by omega), numF_dig (Nat.mod_lt _ (by decide)) (by omega)]
      congr 1
      omega
theorem numF_slash (n : Nat) (r : List UInt8) : numF n (47 :: r) = (n, 47 :: r) := by
  show (if _ then _ else _) = _
  rw [if_neg (by intro h; exact absurd h.1 (by decide))]
theorem digs_head (u : Nat) : ∃ c r, decDigits u = c :: r ∧ 48 ≤ c.toNat ∧ c.toNat ≤ 57 := by
  induction u using Nat.strongRecOn with
  | _ u ih =>
    by_cases h1 : u < 10
    · refine ⟨_, _, Lib.decDigits_one h1, ?_, ?_⟩ <;> rw [dig_nat h1] <;> omega
    · obtain ⟨c, r, e, h2, h3⟩ := ih (u / 10) (by omega)
      exact ⟨c, r ++ [UInt8.ofNat (48 + u % 10)], by rw [decDigits, dif_neg h1, e]; rfl, h2, h3⟩
end Go.Proofs.YtfbijdoomkgodaaGreatDoor

/-! Plain mathematics of values: the text of a value; two valid values with the same text are the same. No program, no world. -/
namespace Go.Proofs.YtfbijdoomkgodaaGreatDoor
open Go.Lib (decDigits)

/-- A string's bytes with each quote doubled. -/
def dbl : List UInt8 → List UInt8
  | [] => []
  | c :: r => if c = 39 then 39 :: 39 :: dbl r else c :: dbl r
mutual
/-- The text of a value. -/
def texX : Vl → List UInt8
  | .mk k n d s l =>
    if okX (.mk k n d s l) = false then [63]
    else if k = 1 then (if n = 1 then [116, 114, 117, 101] else [102, 97, 108, 115, 101])
    else if k = 2 then Lib.itoa n
    else if k = 3 then Lib.itoa n ++ 47 :: Lib.itoa d
    else if k = 4 then 39 :: (dbl s ++ [39])
    else if k = 5 then 35 :: Lib.itoa n
    else if k = 6 then 64 :: Lib.itoa n
    else if k = 8 then 91 :: (texL [44, 32] l ++ [93])
    else if k = 7 then 60 :: (texL [32] l ++ [62])
    else [110, 117, 108, 108]
/-- The texts of values with a separator between. -/
def texL (by_ : List UInt8) : List Vl → List UInt8
  | [] => []
  | x :: r => texX x ++ texR by_ r
def texR (by_ : List UInt8) : List Vl → List UInt8
  | [] => []
  | x :: r => by_ ++ (texX x ++ texR by_ r)
end
/-- What may stand behind a value's text. -/
def Del (r : List UInt8) : Prop := ∀ c t, r = c :: t → c = 44 ∨ c = 32 ∨ c = 93 ∨ c = 62
theorem del_nil : Del [] := fun _ _ h => by cases h
theorem del_c {c : UInt8} {t : List UInt8} (h : c = 44 ∨ c = 32 ∨ c = 93 ∨ c = 62) : Del (c :: t) := fun c' t' e => by
  cases e; exact h
theorem numF_del {n : Nat} {r : List UInt8} (h : Del r) : numF n r = (n, r) := by
  cases r with
  | nil => rfl
  | cons c t =>
    show (if _ then _ else _) = _
    rw [if_neg]
    rintro ⟨h1, h2, -⟩
    rcases h c t rfl with e | e | e | e <;> (rw [e] at h1 h2; revert h1 h2; decide)
/-- A numeral ends where no digit follows. -/
theorem dec_same {u u' : Nat} {r r' : List UInt8} (hu : u ≤ 10000000000000009) (hu' : u' ≤ 10000000000000009) (h1 : ∀ n, numF n r = (n, r)) (h2 : ∀ n, numF n r' = (n, r')) (h : decDigits u ++ r = decDigits u' ++ r') : u = u' ∧ r = r' := by
  have a := numF_digits u r hu
  have b := numF_digits u' r' hu'
  rw [h1] at a
  rw [h2] at b
  rw [h, b] at a
  exact ⟨(Prod.mk.inj a).1.symm, (Prod.mk.inj a).2.symm⟩
theorem itoa_same {n n' : Int} {r r' : List UInt8} (a0 : -1000000000000000 ≤ n) (a1 : n ≤ 1000000000000000) (b0 : -1000000000000000 ≤ n') (b1 : n' ≤ 1000000000000000) (h1 : ∀ n, numF n r = (n, r)) (h2 : ∀ n, numF n r' = (n, r')) (h : Lib.itoa n ++ r = Lib.itoa n' ++ r') : n = n' ∧ r = r' := by
  have neg : ∀ z : Int, z < 0 → Lib.itoa z = 45 :: decDigits z.natAbs := fun z hz => by unfold Lib.itoa; rw [if_pos hz]
  have pos : ∀ z : Int, ¬ z < 0 → Lib.itoa z = decDigits z.natAbs := fun z hz => by unfold Lib.itoa; rw [if_neg hz, show z.toNat = z.natAbs by omega]
  have hd : ∀ (u u' : Nat) (t t' : List UInt8), (45 : UInt8) :: (decDigits u ++ t) = decDigits u' ++ t' → False := by
    intro u u' t t' e
    obtain ⟨c, q, e1, e2, e3⟩ := digs_head u'
    rw [e1, List.cons_append] at e
    have := (List.cons.inj e).1
    rw [← this] at e2
    revert e2
    decide
  by_cases g : n < 0 <;> by_cases g' : n' < 0
  · rw [neg n g, neg n' g', List.cons_append, List.cons_append] at h
    obtain ⟨e, f⟩ := dec_same (by omega) (by omega) h1 h2 (List.cons.inj h).2
    exact ⟨by omega, f⟩
  · rw [neg n g, pos n' g', List.cons_append] at h
    exact (hd _ _ _ _ h).elim
  · rw [pos n g, neg n' g', List.cons_append] at h
    exact (hd _ _ _ _ h.symm).elim
  · rw [pos n g, pos n' g'] at h
    obtain ⟨e, f⟩ := dec_same (by omega) (by omega) h1 h2 h
    exact ⟨by omega, f⟩
theorem dbl_same : ∀ {s t : List UInt8} {r r' : List UInt8}, (∀ q, r ≠ 39 :: q) → (∀ q, r' ≠ 39 :: q) → dbl s ++ 39 :: r = dbl t ++ 39 :: r' → s = t ∧ r = r'
  | [], [], r, r', _, _, h => ⟨rfl, (List.cons.inj h).2⟩
  | [], c :: t, r, r', h1, h2, h => by
    exfalso
    unfold dbl at h
    by_cases hc : c = 39
    · rw [if_pos hc] at h
      exact h1 _ (List.cons.inj h).2
    · rw [if_neg hc] at h
      exact hc (List.cons.inj h).1.symm
  | c :: s, [], r, r', h1, h2, h => by
    exfalso
    unfold dbl at h
    by_cases hc : c = 39
    · rw [if_pos hc] at h
      exact h2 _ (List.cons.inj h).2.symm
    · rw [if_neg hc] at h
      exact hc (List.cons.inj h).1
  | c :: s, c' :: t, r, r', h1, h2, h => by
    unfold dbl at h
    by_cases hc : c = 39 <;> by_cases hc' : c' = 39
    · rw [if_pos hc, if_pos hc'] at h
      obtain ⟨e, f⟩ := dbl_same h1 h2 (List.cons.inj (List.cons.inj h).2).2
      exact ⟨by rw [hc, hc', e], f⟩
    · rw [if_pos hc, if_neg hc'] at h
      exact absurd (List.cons.inj h).1.symm hc'
    · rw [if_neg hc, if_pos hc'] at h
      exact absurd (List.cons.inj h).1 hc
    · rw [if_neg hc, if_neg hc'] at h
      obtain ⟨e, f⟩ := dbl_same h1 h2 (List.cons.inj h).2
      exact ⟨by rw [(List.cons.inj h).1, e], f⟩
mutual
/-- More nesting does no harm. -/
theorem ok_mono : ∀ (v : Vl) (m m' : Nat), m ≤ m' → okV m v = true → okV m' v = true
  | .mk k n d s l, m, m', h, g => by
    have ih := oks_mono l (m - 1) (m' - 1) (by omega)
    unfold okV at g ⊢
    by_cases h7 : k = 7
    · rw [if_pos h7] at g ⊢; exact g
    rw [if_neg h7] at g ⊢
    by_cases h8 : k = 8
    · rw [if_pos h8] at g ⊢
      simp only [Bool.and_eq_true, decide_eq_true_eq] at g ⊢
      exact ⟨⟨⟨g.1.1.1, by omega⟩, g.1.2⟩, ih g.2⟩
    rw [if_neg h8] at g ⊢
    exact g
theorem oks_mono : ∀ (l : List Vl) (m m' : Nat), m ≤ m' → okVs m l = true → okVs m' l = true
  | [], _, _, _, _ => by unfold okVs; rfl
  | v :: r, m, m', h, g => by
    unfold okVs at g ⊢
    rw [Bool.and_eq_true] at g ⊢
    exact ⟨ok_mono v m m' h g.1, oks_mono r m m' h g.2⟩
end
/-- Each of these is a valid value. -/
def AllOk (l : List Vl) : Prop := ∀ v, v ∈ l → okX v = true
theorem all_s : ∀ {l : List Vl} {m : Nat}, m ≤ 8 → okVs m l = true → AllOk l
  | [], _, _, _ => fun v h => by cases h
  | x :: r, m, hm, g => by
    unfold okVs at g
    rw [Bool.and_eq_true] at g
    intro v hv
    rcases List.mem_cons.1 hv with e | e
    · rw [e]; exact ok_mono x m 8 hm g.1
    · exact all_s hm g.2 v e
theorem all_p : ∀ {l : List Vl} {b : Bool}, okVp b l = true → AllOk l
  | [], _, _ => fun v h => by cases h
  | x :: r, b, g => by
    unfold okVp at g
    rw [Bool.and_eq_true, Bool.and_eq_true] at g
    intro v hv
    rcases List.mem_cons.1 hv with e | e
    · rw [e]; exact ok_mono x 0 8 (by decide) g.1.2
    · exact all_p g.2 v e

/-- What a valid value holds, kind by kind. -/
theorem kinds {k n d : Int} {s : List UInt8} {l : List Vl} (h : okX (.mk k n d s l) = true) :
    (k = 0 ∧ n = 0 ∧ d = 0 ∧ s = [] ∧ l = []) ∨ (k = 1 ∧ (n = 0 ∨ n = 1) ∧ d = 0 ∧ s = [] ∧ l = []) ∨
    (k = 2 ∧ (-1000000000000000 ≤ n ∧ n ≤ 1000000000000000) ∧ d = 0 ∧ s = [] ∧ l = []) ∨ (k = 3 ∧ okF n d = true ∧ 2 ≤ d ∧ s = [] ∧ l = []) ∨
    (k = 4 ∧ n = 0 ∧ d = 0 ∧ l = []) ∨ (k = 5 ∧ (1 ≤ n ∧ n ≤ 1000000) ∧ d = 0 ∧ s = [] ∧ l = []) ∨ (k = 6 ∧ (1 ≤ n ∧ n ≤ 1000000) ∧ d = 0 ∧ s = [] ∧ l = []) ∨
    (k = 7 ∧ n = 0 ∧ d = 0 ∧ s = [] ∧ AllOk l) ∨ (k = 8 ∧ n = 0 ∧ d = 0 ∧ s = [] ∧ AllOk l) := by
  unfold okX okV at h
  by_cases h7 : k = 7
  · rw [if_pos h7] at h
    rw [Bool.and_eq_true] at h
    have a := all_p h.2
    have h := h.1
    simp [bareV] at h
    obtain ⟨⟨⟨⟨e1, e2⟩, e3⟩, -⟩, -⟩ := h
    exact .inr (.inr (.inr (.inr (.inr (.inr (.inr (.inl ⟨h7, e1, e2, e3, a⟩)))))))
  rw [if_neg h7] at h
  by_cases h8 : k = 8
  · rw [if_pos h8] at h
    rw [Bool.and_eq_true] at h
    have a := all_s (by decide) h.2
    have h := h.1
    simp [bareV] at h
    obtain ⟨⟨⟨e1, e2⟩, e3⟩, -⟩ := h
    exact .inr (.inr (.inr (.inr (.inr (.inr (.inr (.inr ⟨h8, e1, e2, e3, a⟩)))))))
  rw [if_neg h8] at h
  unfold okFlat at h
  by_cases h0 : k = 0
  · rw [if_pos h0] at h
    simp [bareV] at h
    obtain ⟨⟨⟨e0, e1⟩, e2⟩, e3⟩ := h
    exact .inl ⟨h0, e0, e1, e2, e3⟩
  rw [if_neg h0] at h
  by_cases h1 : k = 1
  · rw [if_pos h1] at h
    simp [bareV] at h
    obtain ⟨⟨⟨e1, e2⟩, e3⟩, e4⟩ := h
    exact .inr (.inl ⟨h1, e4, e1, e2, e3⟩)
  rw [if_neg h1] at h
  by_cases h2 : k = 2
  · rw [if_pos h2] at h
    simp [bareV] at h
    obtain ⟨⟨⟨e1, e2⟩, e3⟩, e4⟩ := h
    exact .inr (.inr (.inl ⟨h2, e4, e1, e2, e3⟩))
  rw [if_neg h2] at h
  by_cases h3 : k = 3
  · rw [if_pos h3] at h
    simp [bareV] at h
    obtain ⟨⟨⟨e2, e3⟩, e4⟩, e5⟩ := h
    exact .inr (.inr (.inr (.inl ⟨h3, e5, e4, e2, e3⟩)))
  rw [if_neg h3] at h
  by_cases h4 : k = 4
  · rw [if_pos h4] at h
    simp [bareV] at h
    obtain ⟨⟨⟨e1, e2⟩, e3⟩, -⟩ := h
    exact .inr (.inr (.inr (.inr (.inl ⟨h4, e1, e2, e3⟩))))
  rw [if_neg h4] at h
  by_cases h5 : k = 5 ∨ k = 6
  · rw [if_pos h5] at h
    simp [bareV] at h
    obtain ⟨⟨⟨⟨e1, e2⟩, e3⟩, e4⟩, e5⟩ := h
    rcases h5 with h5 | h5
    · exact .inr (.inr (.inr (.inr (.inr (.inl ⟨h5, ⟨e4, e5⟩, e1, e2, e3⟩)))))
    · exact .inr (.inr (.inr (.inr (.inr (.inr (.inl ⟨h5, ⟨e4, e5⟩, e1, e2, e3⟩))))))
  · rw [if_neg h5] at h
    cases h
/-- A text's first byte tells the class. -/
def headC (c : UInt8) : Int :=
  if c = 110 then 0 else if c = 116 ∨ c = 102 then 1 else if c = 45 ∨ (48 ≤ c.toNat ∧ c.toNat ≤ 57) then 2 else if c = 39 then 3 else if c = 35 then 4 else if c = 64 then 5 else if c = 91 then 6 else if c = 60 then 7 else -1
theorem headC_d {c : UInt8} (h : 48 ≤ c.toNat ∧ c.toNat ≤ 57) : headC c = 2 := by
  unfold headC
  have n1 : c ≠ 110 := fun e => by rw [e] at h; revert h; decide
  have n2 : ¬ (c = 116 ∨ c = 102) := by
    rintro (e | e) <;> (rw [e] at h; revert h; decide)
  rw [if_neg n1, if_neg n2, if_pos (.inr h)]
theorem itoa_head (n : Int) : ∃ c t, Lib.itoa n = c :: t ∧ headC c = 2 := by
  unfold Lib.itoa
  split
  · exact ⟨45, _, rfl, by decide⟩
  · obtain ⟨c, r, e, h1, h2⟩ := digs_head n.toNat
    exact ⟨c, r, e, headC_d ⟨h1, h2⟩⟩
theorem tex_head {v : Vl} (h : okX v = true) : ∃ c t, texX v = c :: t ∧ headC c = classV v.kd := by
  obtain ⟨k, n, d, s, l⟩ := v
  show ∃ c t, texX (.mk k n d s l) = c :: t ∧ headC c = classV k
  have hf : ¬ okX (.mk k n d s l) = false := by rw [h]; decide
  unfold texX
  rw [if_neg hf]
  rcases kinds h with ⟨rfl, -⟩ | ⟨rfl, -⟩ | ⟨rfl, -⟩ | ⟨rfl, -⟩ | ⟨rfl, -⟩ | ⟨rfl, -⟩ | ⟨rfl, -⟩ | ⟨rfl, -⟩ | ⟨rfl, -⟩
  · exact ⟨_, _, rfl, by decide⟩
  · rw [if_pos rfl]
    split
    · exact ⟨_, _, rfl, by decide⟩
    · exact ⟨_, _, rfl, by decide⟩
  · obtain ⟨c, t, e, hc⟩ := itoa_head n
    exact ⟨c, t, by rw [if_neg (by decide), if_pos rfl, e], hc⟩
  · obtain ⟨c, t, e, hc⟩ := itoa_head n
    exact ⟨c, t ++ 47 :: Lib.itoa d, by rw [if_neg (by decide), if_neg (by decide), if_pos rfl, e]; rfl, hc⟩
  · exact ⟨_, _, rfl, by decide⟩
  · exact ⟨_, _, rfl, by decide⟩
  · exact ⟨_, _, rfl, by decide⟩
  · exact ⟨_, _, rfl, by decide⟩
  · exact ⟨_, _, rfl, by decide⟩
theorem tex_of {k n d : Int} {s : List UInt8} {l : List Vl} (h : okX (.mk k n d s l) = true) : texX (.mk k n d s l) =
    if k = 1 then (if n = 1 then [116, 114, 117, 101] else [102, 97, 108, 115, 101])
    else if k = 2 then Lib.itoa n
    else if k = 3 then Lib.itoa n ++ 47 :: Lib.itoa d
    else if k = 4 then 39 :: (dbl s ++ [39])
    else if k = 5 then 35 :: Lib.itoa n
    else if k = 6 then 64 :: Lib.itoa n
    else if k = 8 then 91 :: (texL [44, 32] l ++ [93])
    else if k = 7 then 60 :: (texL [32] l ++ [62])
    else [110, 117, 108, 108] := by
  rw [texX, if_neg (by rw [h]; decide)]
/-- A separator and a closing byte. -/
def Sep (by_ : List UInt8) (e : UInt8) : Prop := (by_ = [44, 32] ∧ e = 93) ∨ (by_ = [32] ∧ e = 62)
theorem sep_del {by_ : List UInt8} {e : UInt8} (h : Sep by_ e) (l : List Vl) (r : List UInt8) : Del (texR by_ l ++ e :: r) := by
  cases l with
  | nil =>
    unfold texR
    rcases h with ⟨-, he⟩ | ⟨-, he⟩ <;> exact del_c (by rw [he]; decide)
  | cons x t =>
    unfold texR
    rcases h with ⟨hb, -⟩ | ⟨hb, -⟩ <;> (rw [hb]; exact del_c (by decide))
theorem sep_head {by_ : List UInt8} {e : UInt8} (h : Sep by_ e) {q q' : List UInt8} (k : by_ ++ q = e :: q') : False := by
  rcases h with ⟨hb, he⟩ | ⟨hb, he⟩ <;> (rw [hb, he] at k; exact absurd (List.cons.inj k).1 (by decide))
theorem sep_no {by_ : List UInt8} {e : UInt8} (h : Sep by_ e) : headC e = -1 := by
  rcases h with ⟨-, he⟩ | ⟨-, he⟩ <;> (rw [he]; decide)
theorem class_nn (k : Int) : 0 ≤ classV k := by
  unfold classV
  repeat' split
  all_goals decide
mutual
/-- The same text, the same value. -/
theorem tex_same : ∀ (a b : Vl) {r r' : List UInt8}, okX a = true → okX b = true → Del r → Del r' → texX a ++ r = texX b ++ r' → a = b ∧ r = r'
  | .mk k n d s l, .mk k' n' d' s' l', r, r', ha, hb, hr, hr', h => by
    have ihL := fun (by_ : List UInt8) (e : UInt8) (q q' : List UInt8) => @texL_same l l' by_ e q q'
    have hc : classV k = classV k' := by
      obtain ⟨c, t, e1, e2⟩ := tex_head ha
      obtain ⟨c', t', e3, e4⟩ := tex_head hb
      rw [e1, e3] at h
      have := (List.cons.inj h).1
      have e5 : headC c = classV k := e2
      have e6 : headC c' = classV k' := e4
      rw [← e5, ← e6, this]
    rw [tex_of ha, tex_of hb] at h
    have n47 : ∀ q : List UInt8, ¬ Del (47 :: q) := fun q t => by
      have := t 47 q rfl
      revert this; decide
    have n39 : ∀ {q : List UInt8}, Del q → ∀ p, q ≠ 39 :: p := fun {q} t p e => by
      have := t 39 p e
      revert this; decide
    have s47 : ∀ (q : List UInt8) (m : Nat), numF m (47 :: q) = (m, 47 :: q) := fun q m => numF_slash m q
    rcases kinds ha with ⟨k0, a1, a2, a3, a4⟩ | ⟨k0, a1, a2, a3, a4⟩ | ⟨k0, a1, a2, a3, a4⟩ | ⟨k0, a1, a2, a3, a4⟩ | ⟨k0, a1, a2, a4⟩ | ⟨k0, a1, a2, a3, a4⟩ | ⟨k0, a1, a2, a3, a4⟩ | ⟨k0, a1, a2, a3, a4⟩ | ⟨k0, a1, a2, a3, a4⟩ <;>
    rcases kinds hb with ⟨q0, b1, b2, b3, b4⟩ | ⟨q0, b1, b2, b3, b4⟩ | ⟨q0, b1, b2, b3, b4⟩ | ⟨q0, b1, b2, b3, b4⟩ | ⟨q0, b1, b2, b4⟩ | ⟨q0, b1, b2, b3, b4⟩ | ⟨q0, b1, b2, b3, b4⟩ | ⟨q0, b1, b2, b3, b4⟩ | ⟨q0, b1, b2, b3, b4⟩ <;>
    (rw [k0, q0] at hc) <;> first
    | (exact absurd hc (by decide))
    | skip
    · -- null
      rw [k0, q0] at h
      simp at h
      exact ⟨by rw [k0, q0, a1, b1, a2, b2, a3, b3, a4, b4], h⟩
    · -- boolean
      rw [k0, q0] at h
      rcases a1 with a1 | a1 <;> rcases b1 with b1 | b1 <;> rw [a1, b1] at h <;> simp at h
      · exact ⟨by rw [k0, q0, a1, b1, a2, b2, a3, b3, a4, b4], h⟩
      · exact ⟨by rw [k0, q0, a1, b1, a2, b2, a3, b3, a4, b4], h⟩
    · -- int, int
      rw [k0, q0] at h
      simp at h
      obtain ⟨e, f⟩ := itoa_same a1.1 a1.2 b1.1 b1.2 (fun m => numF_del hr) (fun m => numF_del hr') h
      exact ⟨by rw [k0, q0, e, a2, b2, a3, b3, a4, b4], f⟩
    · -- int, fraction
      rw [k0, q0] at h
      simp at h
      have o := okF_t b1
      obtain ⟨e, f⟩ := itoa_same a1.1 a1.2 o.n1 o.n2 (fun m => numF_del hr) (fun m => s47 _ m) h
      rw [f] at hr
      exact (n47 _ hr).elim
    · -- fraction, int
      rw [k0, q0] at h
      simp at h
      have o := okF_t a1
      obtain ⟨e, f⟩ := itoa_same o.n1 o.n2 b1.1 b1.2 (fun m => s47 _ m) (fun m => numF_del hr') h
      rw [← f] at hr'
      exact (n47 _ hr').elim
    · -- fraction, fraction
      rw [k0, q0] at h
      simp at h
      have o := okF_t a1
      have p := okF_t b1
      have o1 := o.d1; have o2 := o.d2; have p1 := p.d1; have p2 := p.d2
      obtain ⟨e, f⟩ := itoa_same o.n1 o.n2 p.n1 p.n2 (fun m => s47 _ m) (fun m => s47 _ m) h
      obtain ⟨e2, f2⟩ := itoa_same (by omega) (by omega) (by omega) (by omega) (fun m => numF_del hr) (fun m => numF_del hr') (List.cons.inj f).2
      exact ⟨by rw [k0, q0, e, e2, a3, b3, a4, b4], f2⟩
    · -- string
      rw [k0, q0] at h
      simp at h
      obtain ⟨e, f⟩ := dbl_same (n39 hr) (n39 hr') h
      exact ⟨by rw [k0, q0, e, a1, b1, a2, b2, a4, b4], f⟩
    · -- node
      rw [k0, q0] at h
      simp at h
      obtain ⟨e, f⟩ := itoa_same (by omega) (by omega) (by omega) (by omega) (fun m => numF_del hr) (fun m => numF_del hr') h
      exact ⟨by rw [k0, q0, e, a2, b2, a3, b3, a4, b4], f⟩
    · -- edge
      rw [k0, q0] at h
      simp at h
      obtain ⟨e, f⟩ := itoa_same (by omega) (by omega) (by omega) (by omega) (fun m => numF_del hr) (fun m => numF_del hr') h
      exact ⟨by rw [k0, q0, e, a2, b2, a3, b3, a4, b4], f⟩
    · -- path
      rw [k0, q0] at h
      simp at h
      obtain ⟨e, f⟩ := ihL [32] 62 r r' (.inr ⟨rfl, rfl⟩) a4 b4 h
      exact ⟨by rw [k0, q0, e, a1, b1, a2, b2, a3, b3], f⟩
    · -- list
      rw [k0, q0] at h
      simp at h
      obtain ⟨e, f⟩ := ihL [44, 32] 93 r r' (.inl ⟨rfl, rfl⟩) a4 b4 h
      exact ⟨by rw [k0, q0, e, a1, b1, a2, b2, a3, b3], f⟩
theorem texL_same : ∀ {l l' : List Vl} {by_ : List UInt8} {e : UInt8} {r r' : List UInt8}, Sep by_ e → AllOk l → AllOk l' → texL by_ l ++ e :: r = texL by_ l' ++ e :: r' → l = l' ∧ r = r'
  | [], [], _, _, _, _, _, _, _, h => by
    unfold texL at h
    exact ⟨rfl, (List.cons.inj h).2⟩
  | [], x :: t, by_, e, r, r', hS, _, hb, h => by
    exfalso
    obtain ⟨c, u, e1, e2⟩ := tex_head (hb x (List.mem_cons_self ..))
    unfold texL at h
    rw [e1] at h
    have h1 : e = c := (List.cons.inj h).1
    have h2 := sep_no hS
    have h3 := class_nn x.kd
    rw [h1, e2] at h2
    omega
  | x :: t, [], by_, e, r, r', hS, ha, _, h => by
    exfalso
    obtain ⟨c, u, e1, e2⟩ := tex_head (ha x (List.mem_cons_self ..))
    unfold texL at h
    rw [e1] at h
    have h1 : c = e := (List.cons.inj h).1
    have h2 := sep_no hS
    have h3 := class_nn x.kd
    rw [← h1, e2] at h2
    omega
  | x :: t, x' :: t', by_, e, r, r', hS, ha, hb, h => by
    unfold texL at h
    rw [List.append_assoc, List.append_assoc] at h
    obtain ⟨g1, g2⟩ := tex_same x x' (ha x (List.mem_cons_self ..)) (hb x' (List.mem_cons_self ..)) (sep_del hS t r) (sep_del hS t' r') h
    obtain ⟨g3, g4⟩ := texR_same hS (fun v hv => ha v (List.mem_cons_of_mem _ hv)) (fun v hv => hb v (List.mem_cons_of_mem _ hv)) g2
    exact ⟨by rw [g1, g3], g4⟩
theorem texR_same : ∀ {l l' : List Vl} {by_ : List UInt8} {e : UInt8} {r r' : List UInt8}, Sep by_ e → AllOk l → AllOk l' → texR by_ l ++ e :: r = texR by_ l' ++ e :: r' → l = l' ∧ r = r'
  | [], [], _, _, _, _, _, _, _, h => by
    unfold texR at h
    exact ⟨rfl, (List.cons.inj h).2⟩
  | [], x :: t, by_, e, r, r', hS, _, hb, h => by
    exfalso
    unfold texR at h
    rw [List.append_assoc] at h
    exact sep_head hS h.symm
  | x :: t, [], by_, e, r, r', hS, ha, _, h => by
    exfalso
    unfold texR at h
    rw [List.append_assoc] at h
    exact sep_head hS h
  | x :: t, x' :: t', by_, e, r, r', hS, ha, hb, h => by
    unfold texR at h
    rw [List.append_assoc, List.append_assoc, List.append_assoc, List.append_assoc] at h
    have h := List.append_cancel_left h
    obtain ⟨g1, g2⟩ := tex_same x x' (ha x (List.mem_cons_self ..)) (hb x' (List.mem_cons_self ..)) (sep_del hS t r) (sep_del hS t' r') h
    obtain ⟨g3, g4⟩ := texR_same hS (fun v hv => ha v (List.mem_cons_of_mem _ hv)) (fun v hv => hb v (List.mem_cons_of_mem _ hv)) g2
    exact ⟨by rw [g1, g3], g4⟩
end
theorem tex_inj {a b : Vl} (ha : okX a = true) (hb : okX b = true) (h : texX a = texX b) : a = b :=
  (tex_same a b (r := []) (r' := []) ha hb del_nil del_nil (by rw [h])).1
end Go.Proofs.YtfbijdoomkgodaaGreatDoor

/-! Package value: orderValid is the order of valid values, for every two valid values in memory. Nothing that was there turns. -/
namespace Go.Proofs.YtfbijdoomkgodaaGreatDoor
open Go.RowKit

/-- Ten cells and what was there, in a later world. -/
theorem keep10 {v v' : World} {p0 p1 p2 p3 p4 q0 q1 q2 q3 q4 : Addr} {x0 x1 x2 x3 x4 y0 y1 y2 y3 y4 : Value} (hf : Fur v v') (h0 : v.cell? p0 = some x0) (h1 : v.cell? p1 = some x1) (h2 : v.cell? p2 = some x2) (h3 : v.cell? p3 = some x3) (h4 : v.cell? p4 = some x4) (g0 : v.cell? q0 = some y0) (g1 : v.cell? q1 = some y1) (g2 : v.cell? q2 = some y2) (g3 : v.cell? q3 = some y3) (g4 : v.cell? q4 = some y4) :
    Fur v v' ∧ v'.cell? p0 = some x0 ∧ v'.cell? p1 = some x1 ∧ v'.cell? p2 = some x2 ∧ v'.cell? p3 = some x3 ∧ v'.cell? p4 = some x4 ∧ v'.cell? q0 = some y0 ∧ v'.cell? q1 = some y1 ∧ v'.cell? q2 = some y2 ∧ v'.cell? q3 = some y3 ∧ v'.cell? q4 = some y4 :=
  ⟨hf, cellOn hf h0, cellOn hf h1, cellOn hf h2, cellOn hf h3, cellOn hf h4, cellOn hf g0, cellOn hf g1, cellOn hf g2, cellOn hf g3, cellOn hf g4⟩
theorem kind_in {x : Vl} (h : okX x = true) : 0 ≤ x.kd ∧ x.kd ≤ 8 := by
  obtain ⟨k, n, d, s, l⟩ := x
  show 0 ≤ k ∧ k ≤ 8
  rcases kinds h with h | h | h | h | h | h | h | h | h <;> omega
theorem ordV_mk {k n d : Int} {s : List UInt8} {l : List Vl} {k' n' d' : Int} {s' : List UInt8} {l' : List Vl} (hx : okX (.mk k n d s l) = true) (hy : okX (.mk k' n' d' s' l') = true) : ordV (.mk k n d s l) (.mk k' n' d' s' l') =
    if classV k ≠ classV k' then intc (classV k) (classV k') else if classV k = 2 then cmpQ (fz n (frD k d)) (fz n' (frD k' d')) else if classV k = 3 then strc s s' else if classV k = 6 ∨ classV k = 7 then ordL l l' else intc n n' := by
  have nx : isNum (.mk k n d s l) = true ↔ classV k = 2 := num_class hx
  have ny : isNum (.mk k' n' d' s' l') = true ↔ classV k' = 2 := num_class hy
  unfold ordV
  show (if okX (.mk k n d s l) ≠ okX (.mk k' n' d' s' l') then (if okX (.mk k n d s l) = true then -1 else 1) else if okX (.mk k' n' d' s' l') = true ∧ classV k ≠ classV k' then intc (classV k) (classV k') else if okX (.mk k' n' d' s' l') = true ∧ isNum (.mk k n d s l) = true then cmpQ (fz (nmN (.mk k n d s l)) (nmD (.mk k n d s l))) (fz (nmN (.mk k' n' d' s' l')) (nmD (.mk k' n' d' s' l'))) else thn (intc k k') (thn (intc n n') (thn (intc d d') (thn (strc s s') (ordL l l'))))) = _
  rw [if_neg (show ¬ (okX (.mk k n d s l) ≠ okX (.mk k' n' d' s' l')) by rw [hx, hy]; simp)]
  by_cases hc : classV k = classV k'
  · rw [if_neg (show ¬ (okX (.mk k' n' d' s' l') = true ∧ classV k ≠ classV k') from fun t => t.2 hc), if_neg (show ¬ (classV k ≠ classV k') from fun t => t hc)]
    by_cases h2 : classV k = 2
    · have i1 := nx.2 h2
      have i2 := ny.2 (hc ▸ h2)
      rw [if_pos ⟨hy, i1⟩, if_pos h2]
      unfold nmN nmD frD
      rw [if_pos i1, if_pos i1, if_pos i2, if_pos i2]
      rfl
    · rw [if_neg (show ¬ (okX (.mk k' n' d' s' l') = true ∧ isNum (.mk k n d s l) = true) from fun t => h2 (nx.1 t.2)), if_neg h2]
      clear nx ny
      rcases kinds hx with ⟨k0, a1, a2, a3, a4⟩ | ⟨k0, a1, a2, a3, a4⟩ | ⟨k0, a1, a2, a3, a4⟩ | ⟨k0, a1, a2, a3, a4⟩ | ⟨k0, a1, a2, a4⟩ | ⟨k0, a1, a2, a3, a4⟩ | ⟨k0, a1, a2, a3, a4⟩ | ⟨k0, a1, a2, a3, a4⟩ | ⟨k0, a1, a2, a3, a4⟩ <;>
      rcases kinds hy with ⟨q0, b1, b2, b3, b4⟩ | ⟨q0, b1, b2, b3, b4⟩ | ⟨q0, b1, b2, b3, b4⟩ | ⟨q0, b1, b2, b3, b4⟩ | ⟨q0, b1, b2, b4⟩ | ⟨q0, b1, b2, b3, b4⟩ | ⟨q0, b1, b2, b3, b4⟩ | ⟨q0, b1, b2, b3, b4⟩ | ⟨q0, b1, b2, b3, b4⟩ <;>
      (rw [k0, q0] at hc) <;> first
      | (exact absurd hc (by decide))
      | (rw [k0] at h2; exact absurd rfl h2)
      | skip
      · subst k0 a1 a2 a3 a4 q0 b1 b2 b3 b4
        rfl
      · subst k0 a2 a3 a4 q0 b2 b3 b4
        simp only [intc_self, thn_0, strc, ordL, thn_r]
        rfl
      · subst k0 a1 a2 a4 q0 b1 b2 b4
        simp only [intc_self, thn_0, ordL, thn_r]
        rfl
      · subst k0 a2 a3 a4 q0 b2 b3 b4
        simp only [intc_self, thn_0, strc, ordL, thn_r]
        rfl
      · subst k0 a2 a3 a4 q0 b2 b3 b4
        simp only [intc_self, thn_0, strc, ordL, thn_r]
        rfl
      · subst k0 a1 a2 a3 q0 b1 b2 b3
        simp only [intc_self, thn_0, strc]
        rfl
      · subst k0 a1 a2 a3 q0 b1 b2 b3
        simp only [intc_self, thn_0, strc]
        rfl
  · rw [if_pos (show okX (.mk k' n' d' s' l') = true ∧ classV k ≠ classV k' from ⟨hy, hc⟩), if_pos hc]
theorem ordV_eq {x y : Vl} (hx : okX x = true) (hy : okX y = true) : ordV x y = if classV x.kd ≠ classV y.kd then intc (classV x.kd) (classV y.kd) else if classV x.kd = 2 then cmpQ (fz x.nn (frD x.kd x.dd)) (fz y.nn (frD y.kd y.dd)) else if classV x.kd = 3 then strc x.ss y.ss else if classV x.kd = 6 ∨ classV x.kd = 7 then ordL x.ll y.ll else intc x.nn y.nn := by
  obtain ⟨k, n, d, s, l⟩ := x
  obtain ⟨k', n', d', s', l'⟩ := y
  exact ordV_mk hx hy
theorem lcmpi_r (a b : Int) (w : World) : Calls Tryz.prog 132 #[.int .i64 a, .int .i64 b] w (RetI w (intc a b)) :=
  (lcmpi_any a b w).mono fun _ _ ⟨he, hw⟩ => ⟨he, hw ▸ Fur.refl _⟩
theorem intc_ne {a b : Int} (h : a ≠ b) : (intc a b != 0) = true := by
  rw [bne_iff_ne]
  intro e
  exact h (intc_z.1 e)
set_option maxHeartbeats 6400000 in
set_option maxRecDepth 100000 in
theorem lov_by (x y : Vl) (hL : ∀ u, u ∈ x.ll → ∀ v, v ∈ y.ll → CmpAt 101 u v) (hx : okX x = true) (hy : okX y = true) (ao bo : Option Addr) (ca cb : Nat) (w : World) (hs : SlV w ao x.ll ca) (hs' : SlV w bo y.ll cb) :
    Calls Tryz.prog 101 #[vlv x ao ca, vlv y bo cb] w (RetI w (ordV x y)) := by
  obtain ⟨p0, p1, f0⟩ := bx2' w x y ao bo ca cb
  have hne : ¬ (w.heap.size = w.heap.size + 1) := by omega
  have hne2 : ¬ (w.heap.size + 1 = w.heap.size) := by omega
  have HE := Lib.hid (ordV_eq hx hy)
  rw [← classG_ok (kind_in hx).1 (kind_in hx).2, ← classG_ok (kind_in hy).1 (kind_in hy).2] at HE
  have VC := Lib.hid (fun w' (hf : Fur w w') => lcf_valid x.ll y.ll hL ao bo ca cb w' (hs.on hf) (hs'.on hf))
  clear hs hs' hx hy hL
  generalize ordV x y = R at *
  obtain ⟨W, hW⟩ : ∃ W, ((w.alloc (.cells #[.int .i64 x.kd, .int .i64 x.nn, .int .i64 x.dd, .string (bs x.ss), .slice ao x.ll.length ca] 28)).alloc (.cells #[.int .i64 y.kd, .int .i64 y.nn, .int .i64 y.dd, .string (bs y.ss), .slice bo y.ll.length cb] 28)) = W := ⟨_, rfl⟩
  rw [hW] at p0 p1 f0
  unfold vlv
  go_enter Tryz.func101, Tryz.ntmps101
  go_upto_region 1 with fail
  clear hW
  have c0 := p0.c0; have c1 := p0.c1; have c2 := p0.c2; have c3 := p0.c3; have c4 := p0.c4
  have d0 := p1.c0; have d1 := p1.c1; have d2 := p1.c2; have d3 := p1.c3; have d4 := p1.c4
  have ff : Fur W W.drew := Fur.drew (Fur.refl W)
  go_region_held3 (fun w' => Fur W w' ∧ w'.cell? ⟨w.heap.size, 0, none⟩ = some (.int .i64 x.kd) ∧ w'.cell? ⟨w.heap.size, 1, none⟩ = some (.int .i64 x.nn) ∧ w'.cell? ⟨w.heap.size, 2, none⟩ = some (.int .i64 x.dd) ∧ w'.cell? ⟨w.heap.size, 3, none⟩ = some (.string (bs x.ss)) ∧ w'.cell? ⟨w.heap.size, 4, none⟩ = some (.slice ao x.ll.length ca) ∧ w'.cell? ⟨w.heap.size + 1, 0, none⟩ = some (.int .i64 y.kd) ∧ w'.cell? ⟨w.heap.size + 1, 1, none⟩ = some (.int .i64 y.nn) ∧ w'.cell? ⟨w.heap.size + 1, 2, none⟩ = some (.int .i64 y.dd) ∧ w'.cell? ⟨w.heap.size + 1, 3, none⟩ = some (.string (bs y.ss)) ∧ w'.cell? ⟨w.heap.size + 1, 4, none⟩ = some (.slice bo y.ll.length cb))
    (first
      | exact keep10 ff c0 c1 c2 c3 c4 d0 d1 d2 d3 d4)
    (first
      | (go_at_call 142; refine (lclass_any _ _ _ _).mono ?_; rintro e4 w4 ⟨rfl, f4⟩; replace ff := ff.trans f4)
      | (go_at_call 132; refine (lcmpi_r _ _ _).mono ?_; rintro e5 w5 ⟨rfl, f5⟩; replace ff := ff.trans f5))
  have CX := Lib.hid (fun w => lclass_any x ao ca w)
  unfold vlv at CX
  generalize classG x.kd = cx at *
  generalize classG y.kd = cy at *
  clear f4 f5
  clear c0 c1 c2 c3 c4 d0 d1 d2 d3 d4
  replace p0 := p0.on ff
  replace p1 := p1.on ff
  replace f0 := f0.trans ff
  clear ff
  have c0 := p0.c0; have c1 := p0.c1; have c2 := p0.c2; have c3 := p0.c3; have c4 := p0.c4
  have d0 := p1.c0; have d1 := p1.c1; have d2 := p1.c2; have d3 := p1.c3; have d4 := p1.c4
  by_cases hc : cx = cy
  rotate_left
  · have g := intc_ne hc
    have HR := Lib.hid (show R = intc cx cy by rw [HE.out, if_pos hc])
    clear hc HE VC CX
    go_wp2
    go_ret
    exact ⟨ret_int HR.out.symm, f0⟩
  subst hc
  have e0 : intc cx cx = 0 := intc_self cx
  replace HE := Lib.hid (HE.out.trans (if_neg (fun t => t rfl)))
  go_wp2_with fail
  go_at_call 142; refine (CX.out _).mono ?_; rintro e6 w6 ⟨rfl, f6⟩
  clear c0 c1 c2 c3 c4 d0 d1 d2 d3 d4
  replace p0 := p0.on f6
  replace p1 := p1.on f6
  replace f0 := f0.trans f6
  clear f6
  have c0 := p0.c0; have c1 := p0.c1; have c2 := p0.c2; have c3 := p0.c3; have c4 := p0.c4
  have d0 := p1.c0; have d1 := p1.c1; have d2 := p1.c2; have d3 := p1.c3; have d4 := p1.c4
  clear CX e0
  by_cases h2 : cx = 2
  · subst h2
    replace HE := Lib.hid (HE.out.trans (if_pos rfl))
    clear VC
    go_upto_region 6 with fail
    have ff : Fur w6 w6.drew := Fur.drew (Fur.refl w6)
    go_region_held3 (fun w' => Fur w6 w' ∧ w'.cell? ⟨w.heap.size, 0, none⟩ = some (.int .i64 x.kd) ∧ w'.cell? ⟨w.heap.size, 1, none⟩ = some (.int .i64 x.nn) ∧ w'.cell? ⟨w.heap.size, 2, none⟩ = some (.int .i64 x.dd) ∧ w'.cell? ⟨w.heap.size, 3, none⟩ = some (.string (bs x.ss)) ∧ w'.cell? ⟨w.heap.size, 4, none⟩ = some (.slice ao x.ll.length ca) ∧ w'.cell? ⟨w.heap.size + 1, 0, none⟩ = some (.int .i64 y.kd) ∧ w'.cell? ⟨w.heap.size + 1, 1, none⟩ = some (.int .i64 y.nn) ∧ w'.cell? ⟨w.heap.size + 1, 2, none⟩ = some (.int .i64 y.dd) ∧ w'.cell? ⟨w.heap.size + 1, 3, none⟩ = some (.string (bs y.ss)) ∧ w'.cell? ⟨w.heap.size + 1, 4, none⟩ = some (.slice bo y.ll.length cb))
      (first
        | exact keep10 ff c0 c1 c2 c3 c4 d0 d1 d2 d3 d4)
      (first
        | (go_at_call 136; refine (lfrac_any _ _ _ _).mono ?_; rintro e7 w7 ⟨rfl, f7⟩; replace ff := ff.trans f7)
        | (go_at_call 143; refine (nf_cmp _ _ _ _ _).mono ?_; rintro e8 w8 ⟨rfl, f8⟩; replace ff := ff.trans f8))
    go_wp2
    go_ret
    exact ⟨ret_int HE.out.symm, f0.trans ff⟩
  replace HE := Lib.hid (HE.out.trans (if_neg h2))
  have g2 : (cx == 2) = false := beq_eq_false_iff_ne.2 h2
  clear h2
  by_cases h3 : cx = 3
  · subst h3
    replace HE := Lib.hid (HE.out.trans (if_pos rfl))
    have CS := Lib.hid (fun w => lcmps_any (bs x.ss) (bs y.ss) w)
    rw [show (bs x.ss).data.toList = x.ss from rfl, show (bs y.ss).data.toList = y.ss from rfl] at CS
    clear VC
    go_wp2_with fail
    go_at_call 144; refine (CS.out _).mono ?_; rintro e7 w7 ⟨rfl, rfl⟩
    go_wp2
    go_ret
    exact ⟨ret_int HE.out.symm, f0⟩
  replace HE := Lib.hid (HE.out.trans (if_neg h3))
  have g3 : (cx == 3) = false := beq_eq_false_iff_ne.2 h3
  clear h3
  by_cases h6 : cx = 6
  · subst h6
    replace HE := Lib.hid (HE.out.trans (if_pos (.inl rfl)))
    go_wp2_with fail
    go_at_call 145; refine (VC.out _ f0).mono ?_; rintro e7 w7 ⟨rfl, f7⟩
    go_wp2
    go_ret
    exact ⟨ret_int HE.out.symm, f0.trans f7⟩
  have g6 : (cx == 6) = false := beq_eq_false_iff_ne.2 h6
  by_cases h7 : cx = 7
  · subst h7
    replace HE := Lib.hid (HE.out.trans (if_pos (.inr rfl)))
    clear h6
    go_wp2_with fail
    go_at_call 145; refine (VC.out _ f0).mono ?_; rintro e7 w7 ⟨rfl, f7⟩
    go_wp2
    go_ret
    exact ⟨ret_int HE.out.symm, f0.trans f7⟩
  have g7 : (cx == 7) = false := beq_eq_false_iff_ne.2 h7
  replace HE := Lib.hid (HE.out.trans (if_neg (by omega)))
  clear h6 h7 VC
  have CI := Lib.hid (fun w => lcmpi_r x.nn y.nn w)
  go_wp2_with fail
  go_at_call 132; refine (CI.out _).mono ?_; rintro e7 w7 ⟨rfl, f7⟩
  go_wp2
  go_ret
  exact ⟨ret_int HE.out.symm, f0.trans f7⟩
/-- What orderValid answers of two valid values. -/
def OVP (x : Vl) : Prop := ∀ y, okX x = true → okX y = true → CmpAt 101 x y
theorem ll_ok {k n d : Int} {s : List UInt8} {l : List Vl} (h : okX (.mk k n d s l) = true) : AllOk l := by
  rcases kinds h with ⟨-, -, -, -, e⟩ | ⟨-, -, -, -, e⟩ | ⟨-, -, -, -, e⟩ | ⟨-, -, -, -, e⟩ | ⟨-, -, -, e⟩ | ⟨-, -, -, -, e⟩ | ⟨-, -, -, -, e⟩ | ⟨-, -, -, -, e⟩ | ⟨-, -, -, -, e⟩
  all_goals first | exact e | (rw [e]; intro v hv; cases hv)
theorem ll_ok' {x : Vl} (h : okX x = true) : AllOk x.ll := by
  obtain ⟨k, n, d, s, l⟩ := x
  exact ll_ok h
mutual
theorem lov_all : ∀ x : Vl, OVP x
  | .mk k n d s l => fun y hx hy ao bo ca cb w _ _ hs hs' =>
    lov_by (.mk k n d s l) y (fun u hu v hv => lov_list l u hu v (ll_ok hx u hu) (ll_ok' hy v hv)) hx hy ao bo ca cb w hs hs'
theorem lov_list : ∀ l : List Vl, ∀ u, u ∈ l → OVP u
  | [], _, hu => by cases hu
  | x :: r, u, hu => (List.mem_cons.1 hu).elim (fun e => e ▸ lov_all x) (fun e => lov_list r u e)
end
end Go.Proofs.YtfbijdoomkgodaaGreatDoor
