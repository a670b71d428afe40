/-
  The order of rational numbers as Cmp tells it. Plain mathematics.
-/
import Derived.Test.YteonkiajgfkieaaGreatDoorM00

namespace Go.Proofs.YteonkiajgfkieaaGreatDoor

theorem cmp_neg1 {x y : Rat} : cmpQ x y = -1 ↔ x < y := by
  unfold cmpQ
  split
  · simp [*]
  · split <;> simp [*]
theorem cmp_1 {x y : Rat} : cmpQ x y = 1 ↔ y < x := by
  unfold cmpQ
  split
  · rename_i h
    constructor
    · intro k; omega
    · intro k; exact absurd h (Rat.not_lt.2 (Rat.lt_iff_le_and_ne.1 k).1)
  · split <;> simp [*]
theorem cmp_0 {x y : Rat} : cmpQ x y = 0 ↔ x = y := by
  unfold cmpQ
  split
  · rename_i h
    constructor
    · intro k; omega
    · rintro rfl; exact absurd h Rat.lt_irrefl
  · split
    · rename_i h
      constructor
      · intro k; omega
      · rintro rfl; exact absurd h Rat.lt_irrefl
    · rename_i h k
      constructor
      · intro _; exact Rat.le_antisymm (Rat.not_lt.1 k) (Rat.not_lt.1 h)
      · intro _; rfl
theorem cmp_three (x y : Rat) : cmpQ x y = -1 ∨ cmpQ x y = 0 ∨ cmpQ x y = 1 := by
  unfold cmpQ
  split
  · exact .inl rfl
  · split
    · exact .inr (.inr rfl)
    · exact .inr (.inl rfl)
theorem cmp_le {x y : Rat} : cmpQ x y ≤ 0 ↔ x ≤ y := by
  rw [← Rat.not_lt, ← cmp_1]
  have := cmp_three x y
  omega
theorem cmp_self (x : Rat) : cmpQ x x = 0 := cmp_0.2 rfl
theorem cmp_swap (x y : Rat) : cmpQ x y = - cmpQ y x := by
  rcases cmp_three y x with h | h | h
  · rw [h, cmp_1.2 (cmp_neg1.1 h)]; rfl
  · rw [h, cmp_0.2 (cmp_0.1 h).symm]; rfl
  · rw [h, cmp_neg1.2 (cmp_1.1 h)]
theorem cmp_trans {x y z : Rat} (h : cmpQ x y ≤ 0) (k : cmpQ y z ≤ 0) : cmpQ x z ≤ 0 := cmp_le.2 (Rat.le_trans (cmp_le.1 h) (cmp_le.1 k))
theorem cmp_mono {x y x' y' : Rat} (h : x' < y' ↔ x < y) (k : y' < x' ↔ y < x) : cmpQ x' y' = cmpQ x y := by
  unfold cmpQ
  simp only [h, k]
theorem cmp_add (x y z : Rat) : cmpQ (x + z) (y + z) = cmpQ x y := cmp_mono Rat.add_lt_add_right Rat.add_lt_add_right
theorem cmp_mul {x y z : Rat} (hz : 0 < z) : cmpQ (x * z) (y * z) = cmpQ x y := cmp_mono (Rat.mul_lt_mul_right hz) (Rat.mul_lt_mul_right hz)
theorem fz_ok {n d : Int} (h : okF n d = true) : fz n d = fv n d := if_pos h
/-- The signs of a difference. -/
theorem num_pos' {q : Rat} : 0 < q.num ↔ 0 < q := by rw [Rat.lt_iff]; simp
theorem num_neg' {q : Rat} : q.num < 0 ↔ q < 0 := by rw [Rat.lt_iff]; simp
theorem sub_pos' (x y : Rat) : 0 < x - y ↔ y < x := (Rat.lt_iff_sub_pos y x).symm
theorem sub_neg' (x y : Rat) : x - y < 0 ↔ x < y := by
  have k := Rat.add_lt_add_right (a := x - y) (b := 0) (c := y)
  rw [Rat.sub_eq_add_neg, Rat.add_assoc, Rat.neg_add_cancel, Rat.add_zero, Rat.zero_add] at k
  rw [Rat.sub_eq_add_neg]
  exact k.symm
theorem cmp_eq {an ad bn bd : Int} (ha : okF an ad = true) (hb : okF bn bd = true) : cmpQ (fz an ad) (fz bn bd) = 0 ↔ an = bn ∧ ad = bd := by
  rw [fz_ok ha, fz_ok hb, cmp_0]
  constructor
  · exact ok_inj (okF_t ha) (okF_t hb)
  · rintro ⟨rfl, rfl⟩; rfl
theorem cmp_adds {an ad bn bd cn cd : Int} (h : rB (addO an ad cn cd) = true) (k : rB (addO bn bd cn cd) = true) :
    cmpQ (fz (rN (addO an ad cn cd)) (rD (addO an ad cn cd))) (fz (rN (addO bn bd cn cd)) (rD (addO bn bd cn cd))) = cmpQ (fz an ad) (fz bn bd) := by
  obtain ⟨a1, a2, a3, a4, a5⟩ := op_ok h
  obtain ⟨b1, b2, b3, b4, b5⟩ := op_ok k
  unfold addO at *
  rw [fz_ok a4, fz_ok b4, fz_ok a1, fz_ok b1, a5, b5]
  exact cmp_add ..
theorem cmp_muls {an ad bn bd cn cd : Int} (h : rB (mulO an ad cn cd) = true) (k : rB (mulO bn bd cn cd) = true) (hc : 0 < cn) :
    cmpQ (fz (rN (mulO an ad cn cd)) (rD (mulO an ad cn cd))) (fz (rN (mulO bn bd cn cd)) (rD (mulO bn bd cn cd))) = cmpQ (fz an ad) (fz bn bd) := by
  obtain ⟨a1, a2, a3, a4, a5⟩ := op_ok h
  obtain ⟨b1, b2, b3, b4, b5⟩ := op_ok k
  unfold mulO at *
  rw [fz_ok a4, fz_ok b4, fz_ok a1, fz_ok b1, a5, b5]
  refine cmp_mul (num_pos'.1 ?_)
  rw [(okF_t a2).v.1]
  exact hc
theorem cmp_subs {an ad bn bd : Int} (h : rB (subO an ad bn bd) = true) : (rN (subO an ad bn bd) < 0 ↔ cmpQ (fz an ad) (fz bn bd) < 0) ∧ (0 < rN (subO an ad bn bd) ↔ 0 < cmpQ (fz an ad) (fz bn bd)) := by
  obtain ⟨a1, a2, a3, a4, a5⟩ := op_ok h
  have v := (okF_t a4).v.1
  unfold subO at *
  rw [a5] at v
  rw [← v, fz_ok a1, fz_ok a2]
  have t := cmp_three (fv an ad) (fv bn bd)
  constructor
  · rw [num_neg']
    refine (sub_neg' _ _).trans ?_
    rw [← cmp_neg1]; omega
  · rw [num_pos']
    refine (sub_pos' _ _).trans ?_
    rw [← cmp_1]; omega
end Go.Proofs.YteonkiajgfkieaaGreatDoor
