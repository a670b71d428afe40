
/-
  The laws of a field for valid fractions, as far as the results exist: what the helpers' walks want. Plain mathematics.
-/
import Derived.Test.YtieicceceggglaaGreatDoorFracM
namespace Go.Proofs.YtieicceceggglaaGreatDoor

/-- What an operation's success says. -/
theorem op_ok {f : Rat → Rat → Rat} {an ad bn bd : Int} (h : rB (opO f an ad bn bd) = true) :
    okF an ad = true ∧ okF bn bd = true ∧ fit (f (fv an ad) (fv bn bd)) = true ∧ okF (rN (opO f an ad bn bd)) (rD (opO f an ad bn bd)) = true ∧ fv (rN (opO f an ad bn bd)) (rD (opO f an ad bn bd)) = f (fv an ad) (fv bn bd) := by
  cases ha : okF an ad
  · rw [op_fa ha] at h; cases h
  cases hb : okF bn bd
  · rw [op_fb hb] at h; cases h
  rw [op_t ha hb] at h ⊢
  have hf : fit (f (fv an ad) (fv bn bd)) = true := h
  obtain ⟨a, b, -⟩ := r_t hf
  rw [a, b]
  exact ⟨rfl, rfl, hf, (fit_ok hf).b, fit_v _⟩
theorem op_comm {f : Rat → Rat → Rat} (hf : ∀ x y, f x y = f y x) (an ad bn bd : Int) : opO f an ad bn bd = opO f bn bd an ad := by
  unfold opO
  rw [hf (fv an ad)]
  by_cases ha : okF an ad = true <;> by_cases hb : okF bn bd = true <;> simp [ha, hb]
theorem add_comm' (an ad bn bd : Int) : addO an ad bn bd = addO bn bd an ad := op_comm Rat.add_comm ..
theorem mul_comm' (an ad bn bd : Int) : mulO an ad bn bd = mulO bn bd an ad := op_comm Rat.mul_comm ..
theorem op_assoc {f : Rat → Rat → Rat} (hf : ∀ x y z, f (f x y) z = f x (f y z)) {an ad bn bd cn cd : Int} (h : rB (opO f an ad bn bd) = true) (k : rB (opO f bn bd cn cd) = true) :
    opO f (rN (opO f an ad bn bd)) (rD (opO f an ad bn bd)) cn cd = opO f an ad (rN (opO f bn bd cn cd)) (rD (opO f bn bd cn cd)) := by
  obtain ⟨a1, a2, a3, a4, a5⟩ := op_ok h
  obtain ⟨b1, b2, b3, b4, b5⟩ := op_ok k
  rw [op_t a4 b2, op_t a1 b4, a5, b5, hf]
theorem spread' {an ad bn bd cn cd : Int} (h : rB (addO bn bd cn cd) = true) (k : rB (mulO an ad bn bd) = true) (l : rB (mulO an ad cn cd) = true) :
    mulO an ad (rN (addO bn bd cn cd)) (rD (addO bn bd cn cd)) = addO (rN (mulO an ad bn bd)) (rD (mulO an ad bn bd)) (rN (mulO an ad cn cd)) (rD (mulO an ad cn cd)) := by
  obtain ⟨a1, a2, a3, a4, a5⟩ := op_ok h
  obtain ⟨b1, b2, b3, b4, b5⟩ := op_ok k
  obtain ⟨c1, c2, c3, c4, c5⟩ := op_ok l
  unfold mulO addO at *
  rw [op_t b1 a4, op_t b4 c4, a5, b5, c5]
  rw [Rat.mul_add]
theorem of_val {an ad : Int} (ha : okF an ad = true) {o : Option Rat} (e : o = some (fv an ad)) : rN o = an ∧ rD o = ad ∧ rB o = true := by
  have h := okF_t ha
  have hf := h.fit
  rw [e]
  obtain ⟨a, b, c⟩ := r_t hf
  obtain ⟨p, q⟩ := h.v
  rw [a, b, c, p, q]
  have := h.d1
  exact ⟨rfl, by omega, rfl⟩
theorem sub_back {an ad bn bd : Int} (h : rB (addO an ad bn bd) = true) : rN (subO (rN (addO an ad bn bd)) (rD (addO an ad bn bd)) bn bd) = an ∧ rD (subO (rN (addO an ad bn bd)) (rD (addO an ad bn bd)) bn bd) = ad ∧ rB (subO (rN (addO an ad bn bd)) (rD (addO an ad bn bd)) bn bd) = true := by
  obtain ⟨a1, a2, a3, a4, a5⟩ := op_ok h
  refine of_val a1 ?_
  unfold subO addO at *
  rw [op_t a4 a2, a5]
  congr 1
  show fv an ad + fv bn bd - fv bn bd = fv an ad
  rw [Rat.sub_eq_add_neg, Rat.add_assoc, Rat.add_neg_cancel, Rat.add_zero]
theorem div_back {an ad bn bd : Int} (h : rB (mulO an ad bn bd) = true) (hb : bn ≠ 0) : rN (divO (rN (mulO an ad bn bd)) (rD (mulO an ad bn bd)) bn bd) = an ∧ rD (divO (rN (mulO an ad bn bd)) (rD (mulO an ad bn bd)) bn bd) = ad ∧ rB (divO (rN (mulO an ad bn bd)) (rD (mulO an ad bn bd)) bn bd) = true := by
  obtain ⟨a1, a2, a3, a4, a5⟩ := op_ok h
  refine of_val a1 ?_
  have nz : fv bn bd ≠ 0 := by
    intro z
    have := (okF_t a2).v.1
    rw [z] at this
    exact hb this.symm
  unfold divO mulO at *
  rw [if_pos ⟨a4, a2, hb⟩, a5]
  congr 1
  show fv an ad * fv bn bd / fv bn bd = fv an ad
  rw [Rat.div_def, Rat.mul_assoc, Rat.mul_inv_cancel _ nz, Rat.mul_one]
end Go.Proofs.YtieicceceggglaaGreatDoor
