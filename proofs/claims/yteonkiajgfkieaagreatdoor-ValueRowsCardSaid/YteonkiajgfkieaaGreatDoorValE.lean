/-
  Plain mathematics of values: equality in three values; how it goes with the order. No program, no world.
-/
import Derived.Test.YteonkiajgfkieaaGreatDoorValM
namespace Go.Proofs.YteonkiajgfkieaaGreatDoor

def yesV (b : Bool) : Int := if b = true then 2 else 0
mutual
/-- Equality in three values: 0 no, 1 unknown, 2 yes. -/
def eqV : Vl → Vl → Int
  | .mk k n d s l, b =>
    if k = 0 ∨ b.kd = 0 ∨ okX (.mk k n d s l) = false ∨ okX b = false then 1
    else if isNum (.mk k n d s l) = true ∧ isNum b = true then yesV (decide (cmpQ (fz (nmN (.mk k n d s l)) (nmD (.mk k n d s l))) (fz (nmN b) (nmD b)) = 0))
    else if k ≠ b.kd then 0
    else if k = 4 then yesV (decide (s = b.ss))
    else if k ≠ 8 ∧ k ≠ 7 then yesV (decide (n = b.nn))
    else if l.length ≠ b.ll.length then 0
    else eqL l b.ll
/-- The least of the pairs' equalities. -/
def eqL : List Vl → List Vl → Int
  | x :: r, y :: t => min (eqV x y) (eqL r t)
  | _, _ => 2
end
theorem yesV_2 {b : Bool} : yesV b = 2 ↔ b = true := by unfold yesV; cases b <;> decide
theorem yesV_r (b : Bool) : yesV b = 0 ∨ yesV b = 2 := by unfold yesV; cases b <;> decide
mutual
theorem eqV_r : ∀ (a b : Vl), 0 ≤ eqV a b ∧ eqV a b ≤ 2
  | .mk k n d s l, b => by
    have ih := eqL_r l b.ll
    unfold eqV
    split
    · decide
    · split
      · rcases yesV_r (decide (cmpQ (fz (nmN (.mk k n d s l)) (nmD (.mk k n d s l))) (fz (nmN b) (nmD b)) = 0)) with h | h <;> rw [h] <;> decide
      · split
        · decide
        · split
          · rcases yesV_r (decide (s = b.ss)) with h | h <;> rw [h] <;> decide
          · split
            · rcases yesV_r (decide (n = b.nn)) with h | h <;> rw [h] <;> decide
            · split
              · decide
              · exact ih
theorem eqL_r : ∀ (a b : List Vl), 0 ≤ eqL a b ∧ eqL a b ≤ 2
  | [], b => by unfold eqL; decide
  | _ :: _, [] => by unfold eqL; decide
  | x :: r, y :: t => by
    have h1 := eqV_r x y
    have h2 := eqL_r r t
    unfold eqL
    omega
end
/-- What a valid value that is no number and no list or path holds besides its number or string. -/
theorem flat_of {k n d : Int} {s : List UInt8} {l : List Vl} (h : okX (.mk k n d s l) = true) (hn : isNum (.mk k n d s l) = false) (h0 : k ≠ 0) :
    (k = 4 ∧ n = 0 ∧ d = 0 ∧ l = []) ∨ (k ≠ 4 ∧ k ≠ 8 ∧ k ≠ 7 ∧ d = 0 ∧ s = [] ∧ l = []) ∨ ((k = 8 ∨ k = 7) ∧ n = 0 ∧ d = 0 ∧ s = []) := by
  have hk : k ≠ 2 ∧ k ≠ 3 := by
    unfold isNum at hn
    rw [h, Bool.true_and, Bool.or_eq_false_iff, beq_eq_false_iff_ne, beq_eq_false_iff_ne] at hn
    exact hn
  unfold okX okV at h
  by_cases h7 : k = 7
  · rw [if_pos h7] at h
    simp [bareV] at h
    obtain ⟨⟨⟨⟨⟨e1, e2⟩, e3⟩, -⟩, -⟩, -⟩ := h
    exact .inr (.inr ⟨.inr h7, e1, e2, e3⟩)
  rw [if_neg h7] at h
  by_cases h8 : k = 8
  · rw [if_pos h8] at h
    simp [bareV] at h
    obtain ⟨⟨⟨⟨e1, e2⟩, e3⟩, -⟩, -⟩ := h
    exact .inr (.inr ⟨.inl h8, e1, e2, e3⟩)
  rw [if_neg h8] at h
  unfold okFlat at h
  rw [if_neg h0] at h
  by_cases h4 : k = 4
  · subst h4
    simp [bareV] at h
    obtain ⟨⟨⟨e1, e2⟩, e3⟩, -⟩ := h
    exact .inl ⟨rfl, e1, e2, e3⟩
  refine .inr (.inl ⟨h4, h8, h7, ?_⟩)
  split at h
  · simp [bareV] at h
    obtain ⟨⟨⟨e1, e2⟩, e3⟩, -⟩ := h
    exact ⟨e1, e2, e3⟩
  · rw [if_neg hk.1, if_neg hk.2] at h
    try rw [if_neg h4] at h
    split at h
    · simp [bareV] at h
      obtain ⟨⟨⟨⟨e1, e2⟩, e3⟩, -⟩, -⟩ := h
      exact ⟨e1, e2, e3⟩
    · cases h
theorem num_same {a b : Vl} (ha : isNum a = true) (hb : isNum b = true) (h : cmpQ (fz (nmN a) (nmD a)) (fz (nmN b) (nmD b)) = 0) : a = b := by
  obtain ⟨k, n, d, s, l⟩ := a
  obtain ⟨k', n', d', s', l'⟩ := b
  obtain ⟨r1, r2, r3, r4⟩ := num_rat ha
  obtain ⟨q1, q2, q3, q4⟩ := num_rat hb
  have e := (cmp_eq r3 q3).1 h
  rw [r1, r2, q1, q2]
  rcases r4 with ⟨a1, a2, a3, a4⟩ | ⟨a1, a2, a3, a4⟩ <;> rcases q4 with ⟨b1, b2, b3, b4⟩ | ⟨b1, b2, b3, b4⟩
  · rw [a1, b1, a2, b2, ← a3, ← b3, e.1]
  · have := e.2; omega
  · have := e.2; omega
  · rw [a1, b1, ← a3, ← b3, e.1, ← a4, ← b4, e.2]
mutual
/-- Equal: the same value. -/
theorem eq_same : ∀ {a b : Vl}, eqV a b = 2 → a = b
  | .mk k n d s l, b, h => by
    have eb := vl_eta b
    have ih := @eqL_same l b.ll
    generalize b.kd = k' at *
    generalize b.nn = n' at *
    generalize b.dd = d' at *
    generalize b.ss = s' at *
    generalize b.ll = l' at *
    subst eb
    unfold eqV at h
    split at h
    · exact absurd h (by decide)
    rename_i h1
    split at h
    · rename_i h2
      rw [yesV_2, decide_eq_true_iff] at h
      exact num_same h2.1 h2.2 h
    rename_i h2
    split at h
    · exact absurd h (by decide)
    rename_i h3
    have hk : k = k' := Decidable.not_not.1 h3
    have g1 : k ≠ 0 := fun t => h1 (.inl t)
    have ga : okX (.mk k n d s l) = true := by
      cases e : okX (.mk k n d s l)
      · exact absurd (.inr (.inr (.inl e))) h1
      · rfl
    have gb : okX (.mk k' n' d' s' l') = true := by
      cases e : okX (.mk k' n' d' s' l')
      · exact absurd (.inr (.inr (.inr e))) h1
      · rfl
    have na : isNum (.mk k n d s l) = false := by
      cases e : isNum (.mk k n d s l)
      · rfl
      · have t : classV k' = 2 := by rw [← hk]; exact (num_class ga).1 e
        exact absurd ⟨e, (num_class gb).2 t⟩ h2
    have nb : isNum (.mk k' n' d' s' l') = false := by
      cases e : isNum (.mk k' n' d' s' l')
      · rfl
      · have t : classV k = 2 := by rw [hk]; exact (num_class gb).1 e
        rw [(num_class ga).2 t] at na
        cases na
    have fa := flat_of ga na g1
    have fb := flat_of gb nb (by rw [← hk]; exact g1)
    split at h
    · rename_i h4
      rw [yesV_2, decide_eq_true_iff] at h
      have hs : s = s' := h
      rcases fa with ⟨-, a1, a2, a3⟩ | ⟨a0, -⟩ | ⟨a0, -⟩
      · rcases fb with ⟨-, b1, b2, b3⟩ | ⟨b0, -⟩ | ⟨b0, -⟩
        · rw [hk, a1, a2, a3, b1, b2, b3, hs]
        · exact absurd (hk.symm.trans h4) b0
        · omega
      · exact absurd h4 a0
      · omega
    rename_i h4
    split at h
    · rename_i h5
      rw [yesV_2, decide_eq_true_iff] at h
      have hn : n = n' := h
      rcases fa with ⟨a0, -⟩ | ⟨-, -, -, a1, a2, a3⟩ | ⟨a0, -⟩
      · exact absurd a0 h4
      · rcases fb with ⟨b0, -⟩ | ⟨-, -, -, b1, b2, b3⟩ | ⟨b0, -⟩
        · exact absurd (hk.trans b0) h4
        · rw [hk, hn, a1, a2, a3, b1, b2, b3]
        · omega
      · omega
    rename_i h5
    split at h
    · exact absurd h (by decide)
    rename_i h6
    have hl : l = l' := ih (Decidable.not_not.1 h6) h
    rcases fa with ⟨a0, -⟩ | ⟨-, a8, a7, -⟩ | ⟨-, a1, a2, a3⟩
    · exact absurd a0 h4
    · exact absurd ⟨a8, a7⟩ h5
    · rcases fb with ⟨b0, -⟩ | ⟨-, b8, b7, -⟩ | ⟨-, b1, b2, b3⟩
      · exact absurd (hk.trans b0) h4
      · exact absurd ⟨by rw [hk]; exact b8, by rw [hk]; exact b7⟩ h5
      · rw [hk, hl, a1, a2, a3, b1, b2, b3]
theorem eqL_same : ∀ {a b : List Vl}, a.length = b.length → eqL a b = 2 → a = b
  | [], [], _, _ => rfl
  | [], _ :: _, hl, _ => by cases hl
  | _ :: _, [], hl, _ => by cases hl
  | x :: r, y :: t, hl, h => by
    have h1 := eqV_r x y
    have h2 := eqL_r r t
    unfold eqL at h
    rw [eq_same (a := x) (b := y) (by omega), eqL_same (a := r) (b := t) (by simpa using hl) (by omega)]
end
mutual
/-- A value isn't unequal to itself. -/
theorem eq_self : ∀ (a : Vl), eqV a a ≠ 0
  | .mk k n d s l => by
    have ih := eqL_self l
    unfold eqV
    split
    · decide
    · split
      · rw [cmp_self]; decide
      · rw [if_neg (by exact fun t => t rfl)]
        split
        · rw [show decide (s = (Vl.mk k n d s l).ss) = true from decide_eq_true rfl]; decide
        · split
          · rw [show decide (n = (Vl.mk k n d s l).nn) = true from decide_eq_true rfl]; decide
          · rw [if_neg (by exact fun t => t rfl)]
            exact ih
theorem eqL_self : ∀ (a : List Vl), eqL a a ≠ 0
  | [] => by unfold eqL; decide
  | x :: r => by
    have h1 := eq_self x
    have h2 := eqL_self r
    have h3 := eqV_r x x
    have h4 := eqL_r r r
    unfold eqL
    omega
end
mutual
theorem eq_comm' : ∀ (a b : Vl), eqV b a = eqV a b
  | .mk k n d s l, .mk k' n' d' s' l' => by
    have ih := eqL_comm l l'
    have e1 : decide (cmpQ (fz (nmN (.mk k' n' d' s' l')) (nmD (.mk k' n' d' s' l'))) (fz (nmN (.mk k n d s l)) (nmD (.mk k n d s l))) = 0) = decide (cmpQ (fz (nmN (.mk k n d s l)) (nmD (.mk k n d s l))) (fz (nmN (.mk k' n' d' s' l')) (nmD (.mk k' n' d' s' l'))) = 0) := by
      rw [cmp_swap]
      apply decide_eq_decide.2
      omega
    have A1 : (k' = 0 ∨ (Vl.mk k n d s l).kd = 0 ∨ okX (.mk k' n' d' s' l') = false ∨ okX (.mk k n d s l) = false) ↔ (k = 0 ∨ (Vl.mk k' n' d' s' l').kd = 0 ∨ okX (.mk k n d s l) = false ∨ okX (.mk k' n' d' s' l') = false) := by
      show (k' = 0 ∨ k = 0 ∨ okX (.mk k' n' d' s' l') = false ∨ okX (.mk k n d s l) = false) ↔ (k = 0 ∨ k' = 0 ∨ okX (.mk k n d s l) = false ∨ okX (.mk k' n' d' s' l') = false)
      constructor
      · rintro (c | c | c | c) <;> simp [c]
      · rintro (c | c | c | c) <;> simp [c]
    have A2 : (isNum (.mk k' n' d' s' l') = true ∧ isNum (.mk k n d s l) = true) ↔ (isNum (.mk k n d s l) = true ∧ isNum (.mk k' n' d' s' l') = true) := And.comm
    have A3 : k' ≠ (Vl.mk k n d s l).kd ↔ k ≠ (Vl.mk k' n' d' s' l').kd := ⟨fun t u => t u.symm, fun t u => t u.symm⟩
    have A4 : decide (s' = (Vl.mk k n d s l).ss) = decide (s = (Vl.mk k' n' d' s' l').ss) := decide_eq_decide.2 ⟨fun t => t.symm, fun t => t.symm⟩
    have A5 : decide (n' = (Vl.mk k n d s l).nn) = decide (n = (Vl.mk k' n' d' s' l').nn) := decide_eq_decide.2 ⟨fun t => t.symm, fun t => t.symm⟩
    have A6 : l'.length ≠ (Vl.mk k n d s l).ll.length ↔ l.length ≠ (Vl.mk k' n' d' s' l').ll.length := ⟨fun t u => t u.symm, fun t u => t u.symm⟩
    unfold eqV
    by_cases c1 : k = 0 ∨ (Vl.mk k' n' d' s' l').kd = 0 ∨ okX (.mk k n d s l) = false ∨ okX (.mk k' n' d' s' l') = false
    · rw [if_pos c1, if_pos (A1.2 c1)]
    rw [if_neg c1, if_neg (fun t => c1 (A1.1 t))]
    by_cases c2 : isNum (.mk k n d s l) = true ∧ isNum (.mk k' n' d' s' l') = true
    · rw [if_pos c2, if_pos (A2.2 c2), e1]
    rw [if_neg c2, if_neg (fun t => c2 (A2.1 t))]
    by_cases c3 : k ≠ (Vl.mk k' n' d' s' l').kd
    · rw [if_pos c3, if_pos (A3.2 c3)]
    rw [if_neg c3, if_neg (fun t => c3 (A3.1 t))]
    have hk : k = k' := Decidable.not_not.1 c3
    rw [A4, A5]
    subst hk
    by_cases c4 : k = 4
    · rw [if_pos c4, if_pos c4]
    rw [if_neg c4, if_neg c4]
    by_cases c5 : k ≠ 8 ∧ k ≠ 7
    · rw [if_pos c5, if_pos c5]
    rw [if_neg c5, if_neg c5]
    by_cases c6 : l.length ≠ (Vl.mk k n' d' s' l').ll.length
    · rw [if_pos c6, if_pos (A6.2 c6)]
    rw [if_neg c6, if_neg (fun t => c6 (A6.1 t))]
    exact ih
theorem eqL_comm : ∀ (a b : List Vl), eqL b a = eqL a b
  | [], [] => rfl
  | [], _ :: _ => by unfold eqL; rfl
  | _ :: _, [] => by unfold eqL; rfl
  | x :: r, y :: t => by
    have h1 := eq_comm' x y
    have h2 := eqL_comm r t
    rw [show eqL (y :: t) (x :: r) = min (eqV y x) (eqL t r) by rw [eqL], show eqL (x :: r) (y :: t) = min (eqV x y) (eqL r t) by rw [eqL], h1, h2]
end
end Go.Proofs.YteonkiajgfkieaaGreatDoor
