/-
  Plain mathematics of the rules of a schema: adding and dropping undo each other. No program, no world.
-/
import Derived.Test.YtadnaakbhgacgaaDoorScI
namespace Go.Proofs.YtadnaakbhgacgaaDoor

theorem tw_mem {α : Type} {p : α → Bool} : ∀ {l : List α} {x : α}, x ∈ l.takeWhile p → p x = true
  | [], _, h => by cases h
  | a :: t, x, h => by
    rw [List.takeWhile_cons] at h
    split at h
    · rename_i hp
      rcases List.mem_cons.1 h with rfl | h
      · exact hp
      · exact tw_mem h
    · cases h
theorem ord_self (r : Rl) : ordR r r = 0 := (ordR_cmp.zero r r).2 rfl
theorem at_app {A B : List Rl} {r : Rl} (hA : ∀ x ∈ A, ordR x r < 0) (hB : ∀ x ∈ B, 0 ≤ ordR x r) : atR (A ++ B) r = A.length := by
  unfold atR
  rw [List.takeWhile_append_of_pos (fun x hx => decide_eq_true (hA x hx))]
  have e : B.takeWhile (fun x => decide (ordR x r < 0)) = [] := by
    cases B with
    | nil => rfl
    | cons b t =>
      rw [List.takeWhile_cons, if_neg]
      rw [decide_eq_true_eq]
      have := hB b (List.mem_cons_self ..)
      omega
  rw [e, List.append_nil]
theorem split_at (s : List Rl) (r : Rl) (hi : IncR s) : ∃ A B, s = A ++ B ∧ (∀ x ∈ A, ordR x r < 0) ∧ (∀ x ∈ B, 0 ≤ ordR x r) ∧ atR s r = A.length := by
  have hA : ∀ x ∈ s.takeWhile (fun x => decide (ordR x r < 0)), ordR x r < 0 := fun x hx => by
    have := tw_mem hx
    simpa using this
  have hB : ∀ x ∈ s.dropWhile (fun x => decide (ordR x r < 0)), 0 ≤ ordR x r := by
    intro x hx
    have hs : (s.dropWhile (fun x => decide (ordR x r < 0))).Pairwise (fun a b => ordR a b < 0) := List.Pairwise.sublist (List.dropWhile_sublist _) hi
    generalize hD : s.dropWhile (fun x => decide (ordR x r < 0)) = D at hx hs
    cases D with
    | nil => cases hx
    | cons d t =>
      have hd : ¬ ordR d r < 0 := by
        have := List.head_dropWhile_not (fun x => decide (ordR x r < 0)) (l := s) (by rw [hD]; simp)
        simp only [hD, List.head_cons] at this
        simpa using this
      rcases List.mem_cons.1 hx with rfl | hx
      · omega
      · have h1 := (List.pairwise_cons.1 hs).1 x hx
        rcases Int.lt_or_le (ordR x r) 0 with q | q
        · have := ord_lt_trans h1 q; omega
        · exact q
  have e : s = s.takeWhile (fun x => decide (ordR x r < 0)) ++ s.dropWhile (fun x => decide (ordR x r < 0)) := (List.takeWhile_append_dropWhile ..).symm
  exact ⟨_, _, e, hA, hB, rfl⟩
theorem add_app {A B : List Rl} {r : Rl} (hA : ∀ x ∈ A, ordR x r < 0) (hB : ∀ x ∈ B, 0 ≤ ordR x r) : addL (A ++ B) r = A ++ r :: B := by
  unfold addL
  rw [at_app hA hB, List.take_left, List.drop_left]
theorem drop_app {A B : List Rl} {r : Rl} (hA : ∀ x ∈ A, ordR x r < 0) (hB : ∀ x ∈ B, 0 ≤ ordR x r) : dropL (A ++ r :: B) r = A ++ B := by
  have hB' : ∀ x ∈ r :: B, 0 ≤ ordR x r := fun x hx => by
    rcases List.mem_cons.1 hx with rfl | hx
    · rw [ord_self]; exact Int.le_refl 0
    · exact hB x hx
  unfold dropL
  rw [at_app hA hB', List.take_left]
  congr 1
  rw [show A ++ r :: B = (A ++ [r]) ++ B by simp]
  rw [show A.length + 1 = (A ++ [r]).length by simp, List.drop_left]
theorem hasR_iff {s : List Rl} {r : Rl} : hasR s r = true ↔ r ∈ s := by
  unfold hasR
  rw [List.any_eq_true]
  constructor
  · rintro ⟨x, hx, he⟩
    have := (ordR_cmp.zero x r).1 (by simpa using he)
    rw [← this]; exact hx
  · intro h; exact ⟨r, h, by rw [ord_self]; rfl⟩
theorem addE_iff {s : List Rl} {r : Rl} : addE s r = 0 ↔ valS s = true ∧ chkR r = 0 ∧ r ∉ s ∧ s.length < 40 := by
  unfold addE
  by_cases hv : valS s = true
  · have hl := (valS_iff.1 hv).1
    rw [if_pos hv]
    by_cases hc : chkR r = 0
    · rw [if_pos hc]
      by_cases hh : hasR s r = true
      · rw [if_pos hh]
        constructor
        · intro h; cases h
        · rintro ⟨-, -, h, -⟩; exact absurd (hasR_iff.1 hh) h
      · rw [if_neg hh]
        by_cases h40 : s.length = 40
        · rw [if_pos h40]
          constructor
          · intro h; cases h
          · rintro ⟨-, -, -, h⟩; omega
        · rw [if_neg h40]
          exact ⟨fun _ => ⟨hv, hc, fun h => hh (hasR_iff.2 h), by omega⟩, fun _ => rfl⟩
    · rw [if_neg hc]
      exact ⟨fun h => absurd h hc, fun h => absurd h.2.1 hc⟩
  · rw [if_neg hv]
    constructor
    · intro h; cases h
    · intro h; exact absurd h.1 hv
theorem drpE_iff {s : List Rl} {r : Rl} : drpE s r = 0 ↔ valS s = true ∧ chkR r = 0 ∧ r ∈ s := by
  unfold drpE
  by_cases hv : valS s = true
  · rw [if_pos hv]
    by_cases hc : chkR r = 0
    · rw [if_pos hc]
      by_cases hh : hasR s r = true
      · rw [if_pos hh]; exact ⟨fun _ => ⟨hv, hc, hasR_iff.1 hh⟩, fun _ => rfl⟩
      · rw [if_neg hh]
        constructor
        · intro h; cases h
        · rintro ⟨-, -, h⟩; exact absurd (hasR_iff.2 h) hh
    · rw [if_neg hc]
      exact ⟨fun h => absurd h hc, fun h => absurd h.2.1 hc⟩
  · rw [if_neg hv]
    constructor
    · intro h; cases h
    · intro h; exact absurd h.1 hv
theorem inc_app {A B : List Rl} : IncR (A ++ B) ↔ IncR A ∧ IncR B ∧ ∀ a ∈ A, ∀ b ∈ B, ordR a b < 0 := by
  unfold IncR; exact List.pairwise_append
theorem inc_cons {r : Rl} {B : List Rl} : IncR (r :: B) ↔ (∀ b ∈ B, ordR r b < 0) ∧ IncR B := by
  unfold IncR; exact List.pairwise_cons
theorem add_undo {s : List Rl} {r : Rl} (h : addE s r = 0) : valS (addL s r) = true ∧ drpE (addL s r) r = 0 ∧ dropL (addL s r) r = s ∧ (addL s r).length = s.length + 1 := by
  obtain ⟨hv, hc, hn, hl⟩ := addE_iff.1 h
  obtain ⟨-, hk, hi⟩ := valS_iff.1 hv
  obtain ⟨A, B, rfl, hA, hB, -⟩ := split_at s r hi
  have e := add_app hA hB
  obtain ⟨iA, iB, iAB⟩ := inc_app.1 hi
  have hB' : ∀ x ∈ B, ordR r x < 0 := fun x hx => by
    have h1 := hB x hx
    have h2 := ordR_cmp.swap x r
    have h3 : ordR x r ≠ 0 := fun h0 => hn (by rw [← (ordR_cmp.zero x r).1 h0]; exact List.mem_append_right _ hx)
    omega
  have hv' : valS (A ++ r :: B) = true := by
    refine valS_iff.2 ⟨?_, ?_, ?_⟩
    · simp at hl ⊢; omega
    · intro x hx
      rcases List.mem_append.1 hx with hx | hx
      · exact hk x (List.mem_append_left _ hx)
      · rcases List.mem_cons.1 hx with rfl | hx
        · exact hc
        · exact hk x (List.mem_append_right _ hx)
    · refine inc_app.2 ⟨iA, inc_cons.2 ⟨hB', iB⟩, fun a ha b hb => ?_⟩
      rcases List.mem_cons.1 hb with rfl | hb
      · exact hA a ha
      · exact iAB a ha b hb
  rw [e]
  exact ⟨hv', drpE_iff.2 ⟨hv', hc, by simp⟩, drop_app hA hB, by simp; omega⟩
theorem drop_undo {s : List Rl} {r : Rl} (h : drpE s r = 0) : valS (dropL s r) = true ∧ addE (dropL s r) r = 0 ∧ addL (dropL s r) r = s ∧ (dropL s r).length + 1 = s.length := by
  obtain ⟨hv, hc, hm⟩ := drpE_iff.1 h
  obtain ⟨hl, hk, hi⟩ := valS_iff.1 hv
  obtain ⟨A, B, rfl, hA, hB, -⟩ := split_at s r hi
  obtain ⟨iA, iB, iAB⟩ := inc_app.1 hi
  have hr : r ∈ B := by
    rcases List.mem_append.1 hm with hm | hm
    · have := hA r hm; rw [ord_self] at this; exact absurd this (by decide)
    · exact hm
  obtain ⟨C, rfl⟩ : ∃ C, B = r :: C := by
    cases B with
    | nil => cases hr
    | cons b t =>
      rcases List.mem_cons.1 hr with rfl | hr
      · exact ⟨t, rfl⟩
      · have h1 := (inc_cons.1 iB).1 r hr
        have h2 := hB b (List.mem_cons_self ..)
        omega
  obtain ⟨iC, iC'⟩ := inc_cons.1 iB
  have hC : ∀ x ∈ C, 0 ≤ ordR x r := fun x hx => hB x (List.mem_cons_of_mem _ hx)
  have e := drop_app hA hC
  have hv' : valS (A ++ C) = true := by
    refine valS_iff.2 ⟨?_, ?_, ?_⟩
    · simp at hl ⊢; omega
    · intro x hx
      rcases List.mem_append.1 hx with hx | hx
      · exact hk x (List.mem_append_left _ hx)
      · exact hk x (List.mem_append_right _ (List.mem_cons_of_mem _ hx))
    · exact inc_app.2 ⟨iA, iC', fun a ha b hb => iAB a ha b (List.mem_cons_of_mem _ hb)⟩
  rw [e]
  refine ⟨hv', addE_iff.2 ⟨hv', hc, fun hx => ?_, ?_⟩, add_app hA hC, by simp; omega⟩
  · rcases List.mem_append.1 hx with hx | hx
    · have := hA r hx; rw [ord_self] at this; exact absurd this (by decide)
    · have := iC r hx; rw [ord_self] at this; exact absurd this (by decide)
  · simp at hl ⊢; omega
end Go.Proofs.YtadnaakbhgacgaaDoor
