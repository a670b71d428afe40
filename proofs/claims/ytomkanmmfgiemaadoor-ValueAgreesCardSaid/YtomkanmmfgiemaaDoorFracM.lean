
/-
  Plain mathematics of exact fractions: when a pair is a valid fraction, its value as a rational number, what an operation answers, and sums and products in lowest terms. No program, no world.
-/
import Derived.WalkKit
namespace Go.Proofs.YtomkanmmfgiemaaDoor

/-- A valid fraction. -/
structure OkF (n d : Int) : Prop where
  d1 : 1 ≤ d
  d2 : d ≤ 1000000000000000
  n1 : -1000000000000000 ≤ n
  n2 : n ≤ 1000000000000000
  co : Nat.gcd n.natAbs d.toNat = 1
def okF (n d : Int) : Bool := decide (1 ≤ d) && decide (d ≤ 1000000000000000) && decide (-1000000000000000 ≤ n) && decide (n ≤ 1000000000000000) && decide (Nat.gcd n.natAbs d.toNat = 1)
theorem okF_t {n d : Int} (h : okF n d = true) : OkF n d := by
  simp only [okF, Bool.and_eq_true, decide_eq_true_eq] at h
  obtain ⟨⟨⟨⟨a, b⟩, c⟩, e⟩, f⟩ := h
  exact ⟨a, b, c, e, f⟩
theorem OkF.b {n d : Int} (h : OkF n d) : okF n d = true := by
  simp only [okF, Bool.and_eq_true, decide_eq_true_eq]
  exact ⟨⟨⟨⟨h.d1, h.d2⟩, h.n1⟩, h.n2⟩, h.co⟩
/-- The value of a fraction. -/
def fv (n d : Int) : Rat := mkRat n d.toNat
theorem low {n : Int} {d : Nat} {q : Rat} (hd : d ≠ 0) (co : Nat.gcd n.natAbs d = 1) (e : mkRat n d = q) : q.num = n ∧ q.den = d := by
  rw [← e, ← Rat.mk_eq_mkRat n d hd co]
  exact ⟨rfl, rfl⟩
theorem OkF.v {n d : Int} (h : OkF n d) : (fv n d).num = n ∧ (fv n d).den = d.toNat :=
  low (by have := h.d1; omega) h.co rfl
theorem ok_inj {n d n' d' : Int} (h : OkF n d) (h' : OkF n' d') (e : fv n d = fv n' d') : n = n' ∧ d = d' := by
  obtain ⟨a, b⟩ := h.v
  obtain ⟨a', b'⟩ := h'.v
  rw [e] at a b
  have := h.d1; have := h'.d1
  exact ⟨by rw [← a, a'], by omega⟩

/-- The value for a comparison: an invalid fraction counts as 0. -/
def fz (n d : Int) : Rat := if okF n d = true then fv n d else 0
def cmpQ (x y : Rat) : Int := if x < y then -1 else if y < x then 1 else 0

/-! The sum in lowest terms. -/
/-! The product in lowest terms. -/
/-! The fraction of two ints. -/
end Go.Proofs.YtomkanmmfgiemaaDoor
