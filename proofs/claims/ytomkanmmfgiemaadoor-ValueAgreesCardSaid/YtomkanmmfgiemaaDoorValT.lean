
/-
  Plain mathematics of values: the text of a value; two valid values with the same text are the same. No program, no world.
-/
import Derived.Test.YtomkanmmfgiemaaDoorValM
import Derived.Test.YtomkanmmfgiemaaDoorFracM
import Derived.Lib.ItoaLen
namespace Go.Proofs.YtomkanmmfgiemaaDoor
open Go.Lib (decDigits)

/-- A string's bytes with each quote doubled. -/
def dbl : List UInt8 → List UInt8
  | [] => []
  | c :: r => if c = 39 then 39 :: 39 :: dbl r else c :: dbl r
mutual
/-- The text of a value. -/
def texX : Vl → List UInt8
  | .mk k n d s l =>
    if okX (.mk k n d s l) = false then [63]
    else if k = 1 then (if n = 1 then [116, 114, 117, 101] else [102, 97, 108, 115, 101])
    else if k = 2 then Lib.itoa n
    else if k = 3 then Lib.itoa n ++ 47 :: Lib.itoa d
    else if k = 4 then 39 :: (dbl s ++ [39])
    else if k = 5 then 35 :: Lib.itoa n
    else if k = 6 then 64 :: Lib.itoa n
    else if k = 8 then 91 :: (texL [44, 32] l ++ [93])
    else if k = 7 then 60 :: (texL [32] l ++ [62])
    else [110, 117, 108, 108]
/-- The texts of values with a separator between. -/
def texL (by_ : List UInt8) : List Vl → List UInt8
  | [] => []
  | x :: r => texX x ++ texR by_ r
def texR (by_ : List UInt8) : List Vl → List UInt8
  | [] => []
  | x :: r => by_ ++ (texX x ++ texR by_ r)
end
mutual
/-- More nesting does no harm. -/
theorem ok_mono : ∀ (v : Vl) (m m' : Nat), m ≤ m' → okV m v = true → okV m' v = true
  | .mk k n d s l, m, m', h, g => by
    have ih := oks_mono l (m - 1) (m' - 1) (by omega)
    unfold okV at g ⊢
    by_cases h7 : k = 7
    · rw [if_pos h7] at g ⊢; exact g
    rw [if_neg h7] at g ⊢
    by_cases h8 : k = 8
    · rw [if_pos h8] at g ⊢
      simp only [Bool.and_eq_true, decide_eq_true_eq] at g ⊢
      exact ⟨⟨⟨g.1.1.1, by omega⟩, g.1.2⟩, ih g.2⟩
    rw [if_neg h8] at g ⊢
    exact g
theorem oks_mono : ∀ (l : List Vl) (m m' : Nat), m ≤ m' → okVs m l = true → okVs m' l = true
  | [], _, _, _, _ => by unfold okVs; rfl
  | v :: r, m, m', h, g => by
    unfold okVs at g ⊢
    rw [Bool.and_eq_true] at g ⊢
    exact ⟨ok_mono v m m' h g.1, oks_mono r m m' h g.2⟩
end
/-- Each of these is a valid value. -/
def AllOk (l : List Vl) : Prop := ∀ v, v ∈ l → okX v = true
theorem all_s : ∀ {l : List Vl} {m : Nat}, m ≤ 8 → okVs m l = true → AllOk l
  | [], _, _, _ => fun v h => by cases h
  | x :: r, m, hm, g => by
    unfold okVs at g
    rw [Bool.and_eq_true] at g
    intro v hv
    rcases List.mem_cons.1 hv with e | e
    · rw [e]; exact ok_mono x m 8 hm g.1
    · exact all_s hm g.2 v e
theorem all_p : ∀ {l : List Vl} {b : Bool}, okVp b l = true → AllOk l
  | [], _, _ => fun v h => by cases h
  | x :: r, b, g => by
    unfold okVp at g
    rw [Bool.and_eq_true, Bool.and_eq_true] at g
    intro v hv
    rcases List.mem_cons.1 hv with e | e
    · rw [e]; exact ok_mono x 0 8 (by decide) g.1.2
    · exact all_p g.2 v e

/-- What a valid value holds, kind by kind. -/
theorem kinds {k n d : Int} {s : List UInt8} {l : List Vl} (h : okX (.mk k n d s l) = true) :
    (k = 0 ∧ n = 0 ∧ d = 0 ∧ s = [] ∧ l = []) ∨ (k = 1 ∧ (n = 0 ∨ n = 1) ∧ d = 0 ∧ s = [] ∧ l = []) ∨
    (k = 2 ∧ (-1000000000000000 ≤ n ∧ n ≤ 1000000000000000) ∧ d = 0 ∧ s = [] ∧ l = []) ∨ (k = 3 ∧ okF n d = true ∧ 2 ≤ d ∧ s = [] ∧ l = []) ∨
    (k = 4 ∧ n = 0 ∧ d = 0 ∧ l = []) ∨ (k = 5 ∧ (1 ≤ n ∧ n ≤ 1000000) ∧ d = 0 ∧ s = [] ∧ l = []) ∨ (k = 6 ∧ (1 ≤ n ∧ n ≤ 1000000) ∧ d = 0 ∧ s = [] ∧ l = []) ∨
    (k = 7 ∧ n = 0 ∧ d = 0 ∧ s = [] ∧ AllOk l) ∨ (k = 8 ∧ n = 0 ∧ d = 0 ∧ s = [] ∧ AllOk l) := by
  unfold okX okV at h
  by_cases h7 : k = 7
  · rw [if_pos h7] at h
    rw [Bool.and_eq_true] at h
    have a := all_p h.2
    have h := h.1
    simp [bareV] at h
    obtain ⟨⟨⟨⟨e1, e2⟩, e3⟩, -⟩, -⟩ := h
    exact .inr (.inr (.inr (.inr (.inr (.inr (.inr (.inl ⟨h7, e1, e2, e3, a⟩)))))))
  rw [if_neg h7] at h
  by_cases h8 : k = 8
  · rw [if_pos h8] at h
    rw [Bool.and_eq_true] at h
    have a := all_s (by decide) h.2
    have h := h.1
    simp [bareV] at h
    obtain ⟨⟨⟨e1, e2⟩, e3⟩, -⟩ := h
    exact .inr (.inr (.inr (.inr (.inr (.inr (.inr (.inr ⟨h8, e1, e2, e3, a⟩)))))))
  rw [if_neg h8] at h
  unfold okFlat at h
  by_cases h0 : k = 0
  · rw [if_pos h0] at h
    simp [bareV] at h
    obtain ⟨⟨⟨e0, e1⟩, e2⟩, e3⟩ := h
    exact .inl ⟨h0, e0, e1, e2, e3⟩
  rw [if_neg h0] at h
  by_cases h1 : k = 1
  · rw [if_pos h1] at h
    simp [bareV] at h
    obtain ⟨⟨⟨e1, e2⟩, e3⟩, e4⟩ := h
    exact .inr (.inl ⟨h1, e4, e1, e2, e3⟩)
  rw [if_neg h1] at h
  by_cases h2 : k = 2
  · rw [if_pos h2] at h
    simp [bareV] at h
    obtain ⟨⟨⟨e1, e2⟩, e3⟩, e4⟩ := h
    exact .inr (.inr (.inl ⟨h2, e4, e1, e2, e3⟩))
  rw [if_neg h2] at h
  by_cases h3 : k = 3
  · rw [if_pos h3] at h
    simp [bareV] at h
    obtain ⟨⟨⟨e2, e3⟩, e4⟩, e5⟩ := h
    exact .inr (.inr (.inr (.inl ⟨h3, e5, e4, e2, e3⟩)))
  rw [if_neg h3] at h
  by_cases h4 : k = 4
  · rw [if_pos h4] at h
    simp [bareV] at h
    obtain ⟨⟨⟨e1, e2⟩, e3⟩, -⟩ := h
    exact .inr (.inr (.inr (.inr (.inl ⟨h4, e1, e2, e3⟩))))
  rw [if_neg h4] at h
  by_cases h5 : k = 5 ∨ k = 6
  · rw [if_pos h5] at h
    simp [bareV] at h
    obtain ⟨⟨⟨⟨e1, e2⟩, e3⟩, e4⟩, e5⟩ := h
    rcases h5 with h5 | h5
    · exact .inr (.inr (.inr (.inr (.inr (.inl ⟨h5, ⟨e4, e5⟩, e1, e2, e3⟩)))))
    · exact .inr (.inr (.inr (.inr (.inr (.inr (.inl ⟨h5, ⟨e4, e5⟩, e1, e2, e3⟩))))))
  · rw [if_neg h5] at h
    cases h
theorem tex_of {k n d : Int} {s : List UInt8} {l : List Vl} (h : okX (.mk k n d s l) = true) : texX (.mk k n d s l) =
    if k = 1 then (if n = 1 then [116, 114, 117, 101] else [102, 97, 108, 115, 101])
    else if k = 2 then Lib.itoa n
    else if k = 3 then Lib.itoa n ++ 47 :: Lib.itoa d
    else if k = 4 then 39 :: (dbl s ++ [39])
    else if k = 5 then 35 :: Lib.itoa n
    else if k = 6 then 64 :: Lib.itoa n
    else if k = 8 then 91 :: (texL [44, 32] l ++ [93])
    else if k = 7 then 60 :: (texL [32] l ++ [62])
    else [110, 117, 108, 108] := by
  rw [texX, if_neg (by rw [h]; decide)]
end Go.Proofs.YtomkanmmfgiemaaDoor
