/-
  FracM; FracMat: texts of one kind in one file; each part says what it holds.
-/
import Derived.WalkKit

/-! Plain mathematics of exact fractions: when a pair is a valid fraction, its value as a rational number, what an operation answers, and sums and products in lowest terms. No program, no world. -/
namespace Go.Proofs.YteonkiajgfkieaaGreatDoor

/-- A valid fraction. -/
structure OkF (n d : Int) : Prop where
  d1 : 1 ≤ d
  d2 : d ≤ 1000000000000000
  n1 : -1000000000000000 ≤ n
  n2 : n ≤ 1000000000000000
  co : Nat.gcd n.natAbs d.toNat = 1
def okF (n d : Int) : Bool := decide (1 ≤ d) && decide (d ≤ 1000000000000000) && decide (-1000000000000000 ≤ n) && decide (n ≤ 1000000000000000) && decide (Nat.gcd n.natAbs d.toNat = 1)
theorem okF_t {n d : Int} (h : okF n d = true) : OkF n d := by
  simp only [okF, Bool.and_eq_true, decide_eq_true_eq] at h
  obtain ⟨⟨⟨⟨a, b⟩, c⟩, e⟩, f⟩ := h
  exact ⟨a, b, c, e, f⟩
theorem OkF.b {n d : Int} (h : OkF n d) : okF n d = true := by
  simp only [okF, Bool.and_eq_true, decide_eq_true_eq]
  exact ⟨⟨⟨⟨h.d1, h.d2⟩, h.n1⟩, h.n2⟩, h.co⟩
/-- The value of a fraction. -/
def fv (n d : Int) : Rat := mkRat n d.toNat
theorem low {n : Int} {d : Nat} {q : Rat} (hd : d ≠ 0) (co : Nat.gcd n.natAbs d = 1) (e : mkRat n d = q) : q.num = n ∧ q.den = d := by
  rw [← e, ← Rat.mk_eq_mkRat n d hd co]
  exact ⟨rfl, rfl⟩
theorem OkF.v {n d : Int} (h : OkF n d) : (fv n d).num = n ∧ (fv n d).den = d.toNat :=
  low (by have := h.d1; omega) h.co rfl
theorem OkF.nz {n d : Int} (h : OkF n d) : d.toNat ≠ 0 := by have := h.d1; omega
/-- It fits: there is a valid fraction of this value. -/
def fit (q : Rat) : Bool := decide (q.num.natAbs ≤ 1000000000000000) && decide (q.den ≤ 1000000000000000)
theorem fit_iff {q : Rat} : fit q = true ↔ q.num.natAbs ≤ 1000000000000000 ∧ q.den ≤ 1000000000000000 := by
  simp [fit]
theorem fit_ok {q : Rat} (h : fit q = true) : OkF q.num q.den := by
  obtain ⟨a, b⟩ := fit_iff.1 h
  have := q.den_nz
  refine ⟨by omega, by omega, by omega, by omega, ?_⟩
  have c := q.reduced
  rwa [Int.toNat_natCast]
theorem fit_v (q : Rat) : fv q.num q.den = q := by unfold fv; rw [Int.toNat_natCast, Rat.mkRat_self]
theorem OkF.fit {n d : Int} (h : OkF n d) : fit (fv n d) = true := by
  obtain ⟨a, b⟩ := h.v
  rw [fit_iff, a, b]
  have := h.d2; have := h.n1; have := h.n2
  omega
theorem ok_inj {n d n' d' : Int} (h : OkF n d) (h' : OkF n' d') (e : fv n d = fv n' d') : n = n' ∧ d = d' := by
  obtain ⟨a, b⟩ := h.v
  obtain ⟨a', b'⟩ := h'.v
  rw [e] at a b
  have := h.d1; have := h'.d1
  exact ⟨by rw [← a, a'], by omega⟩

/-- The answer of an operation: the fraction and whether there is one. -/
def rN : Option Rat → Int
  | some q => if fit q = true then q.num else 0
  | none => 0
def rD : Option Rat → Int
  | some q => if fit q = true then q.den else 0
  | none => 0
def rB : Option Rat → Bool
  | some q => fit q
  | none => false
theorem r_t {q : Rat} (h : fit q = true) : rN (some q) = q.num ∧ rD (some q) = q.den ∧ rB (some q) = true := by
  refine ⟨by show (if _ then _ else _) = _; rw [if_pos h], by show (if _ then _ else _) = _; rw [if_pos h], h⟩
theorem r_f {q : Rat} (h : fit q = false) : rN (some q) = 0 ∧ rD (some q) = 0 ∧ rB (some q) = false := by
  have h' : ¬ fit q = true := by rw [h]; decide
  refine ⟨by show (if _ then _ else _) = _; rw [if_neg h'], by show (if _ then _ else _) = _; rw [if_neg h'], h⟩
theorem r_n : rN none = 0 ∧ rD none = 0 ∧ rB none = false := ⟨rfl, rfl, rfl⟩

def opO (f : Rat → Rat → Rat) (an ad bn bd : Int) : Option Rat := if okF an ad = true ∧ okF bn bd = true then some (f (fv an ad) (fv bn bd)) else none
def addO (an ad bn bd : Int) : Option Rat := opO (· + ·) an ad bn bd
def subO (an ad bn bd : Int) : Option Rat := opO (· - ·) an ad bn bd
def mulO (an ad bn bd : Int) : Option Rat := opO (· * ·) an ad bn bd
def divO (an ad bn bd : Int) : Option Rat := if okF an ad = true ∧ okF bn bd = true ∧ bn ≠ 0 then some (fv an ad / fv bn bd) else none
def ofO (n d : Int) : Option Rat := if -1000000000000000 ≤ n ∧ n ≤ 1000000000000000 ∧ -1000000000000000 ≤ d ∧ d ≤ 1000000000000000 ∧ d ≠ 0 then some (mkRat (n * d.sign) d.natAbs) else none
theorem op_t {f : Rat → Rat → Rat} {an ad bn bd : Int} (ha : okF an ad = true) (hb : okF bn bd = true) : opO f an ad bn bd = some (f (fv an ad) (fv bn bd)) := if_pos ⟨ha, hb⟩
theorem op_fa {f : Rat → Rat → Rat} {an ad bn bd : Int} (ha : okF an ad = false) : opO f an ad bn bd = none := if_neg (by rw [ha]; intro h; cases h.1)
theorem op_fb {f : Rat → Rat → Rat} {an ad bn bd : Int} (hb : okF bn bd = false) : opO f an ad bn bd = none := if_neg (by rw [hb]; intro h; cases h.2)

/-- The value for a comparison: an invalid fraction counts as 0. -/
def fz (n d : Int) : Rat := if okF n d = true then fv n d else 0
def cmpQ (x y : Rat) : Int := if x < y then -1 else if y < x then 1 else 0

/-! The sum in lowest terms. -/
theorem add_low (a b : Rat) (g h : Nat) (t : Int) (hg : g = a.den.gcd b.den) (ht : t = a.num * ((b.den / g : Nat) : Int) + b.num * ((a.den / g : Nat) : Int)) (hh : h = t.natAbs.gcd g) :
    (a + b).num = t / (h : Int) ∧ (a + b).den = (a.den / g) * (b.den / h) := by
  have ga : g ∣ a.den := hg ▸ Nat.gcd_dvd_left ..
  have gb : g ∣ b.den := hg ▸ Nat.gcd_dvd_right ..
  have g0 : 0 < g := by rw [hg]; exact Nat.gcd_pos_of_pos_left _ a.den_pos
  have aux := Rat.add.aux a b hg rfl rfl
  simp only at aux
  rw [← ht, ← hh] at aux
  have hg' : h ∣ g := hh ▸ Nat.gcd_dvd_right ..
  have hb : h ∣ b.den := Nat.dvd_trans hg' gb
  have h0 : 0 < h := Nat.pos_of_dvd_of_pos hg' g0
  have hn : h ∣ t.natAbs := hh ▸ Nat.gcd_dvd_left ..
  obtain ⟨A, hA⟩ := ga
  obtain ⟨B, hB⟩ := gb
  obtain ⟨B2, hB2⟩ := hb
  have eA : a.den / g = A := by rw [hA, Nat.mul_div_cancel_left _ g0]
  have eB : b.den / g = B := by rw [hB, Nat.mul_div_cancel_left _ g0]
  have eB2 : b.den / h = B2 := by rw [hB2, Nat.mul_div_cancel_left _ h0]
  have hti : (h : Int) ∣ t := Int.ofNat_dvd_left.2 hn
  obtain ⟨u, hu⟩ := hti
  have hu' : t / (h : Int) = u := by rw [hu, Int.mul_ediv_cancel_left _ (by omega)]
  rw [eA] at aux ht ⊢
  rw [eB] at ht
  rw [eB2, hu']
  have hAp : 0 < A := by
    rcases Nat.eq_zero_or_pos A with z | z
    · rw [z, Nat.mul_zero] at hA; exact absurd hA a.den_nz
    · exact z
  have hB2p : 0 < B2 := by
    rcases Nat.eq_zero_or_pos B2 with z | z
    · rw [z, Nat.mul_zero] at hB2; exact absurd hB2 b.den_nz
    · exact z
  refine low (Nat.mul_ne_zero (by omega) (by omega)) ?_ ?_
  · -- lowest terms
    have e1 : t.natAbs = h * u.natAbs := by rw [hu, Int.natAbs_mul, Int.natAbs_natCast]
    have e2 : A * b.den = h * (A * B2) := by rw [hB2, Nat.mul_left_comm]
    rw [e1, e2, Nat.gcd_mul_left] at aux
    have e3 : h * 1 = h * Nat.gcd u.natAbs (A * B2) := by rw [Nat.mul_one]; exact aux
    exact (Nat.eq_of_mul_eq_mul_left h0 e3).symm
  · -- the value
    rw [Rat.add_def']
    have e1 : a.num * (b.den : Int) + b.num * (a.den : Int) = ((g * h : Nat) : Int) * u := by
      rw [hA, hB, Int.natCast_mul, Int.natCast_mul, Int.natCast_mul, Int.mul_assoc, ← hu, ht, Int.mul_add, Int.mul_left_comm, Int.mul_left_comm b.num]
    have e2 : a.den * b.den = (g * h) * (A * B2) := by
      rw [hA, hB2, Nat.mul_mul_mul_comm]
    rw [e1, e2, Rat.mkRat_mul_left (by have := Nat.mul_pos g0 h0; omega)]

/-! The product in lowest terms. -/
theorem mul_low (a b : Rat) (g h : Nat) (hg : g = a.num.natAbs.gcd b.den) (hh : h = b.num.natAbs.gcd a.den) :
    (a * b).num = (a.num / (g : Int)) * (b.num / (h : Int)) ∧ (a * b).den = (a.den / h) * (b.den / g) := by
  have g0 : 0 < g := by rw [hg]; exact Nat.gcd_pos_of_pos_right _ b.den_pos
  have h0 : 0 < h := by rw [hh]; exact Nat.gcd_pos_of_pos_right _ a.den_pos
  have ga : g ∣ a.num.natAbs := hg ▸ Nat.gcd_dvd_left ..
  have gb : g ∣ b.den := hg ▸ Nat.gcd_dvd_right ..
  have hb : h ∣ b.num.natAbs := hh ▸ Nat.gcd_dvd_left ..
  have ha : h ∣ a.den := hh ▸ Nat.gcd_dvd_right ..
  obtain ⟨u, hu⟩ := Int.ofNat_dvd_left.2 ga
  obtain ⟨v, hv⟩ := Int.ofNat_dvd_left.2 hb
  obtain ⟨A, hA⟩ := ha
  obtain ⟨B, hB⟩ := gb
  have eu : a.num / (g : Int) = u := by rw [hu, Int.mul_ediv_cancel_left _ (by omega)]
  have ev : b.num / (h : Int) = v := by rw [hv, Int.mul_ediv_cancel_left _ (by omega)]
  have eA : a.den / h = A := by rw [hA, Nat.mul_div_cancel_left _ h0]
  have eB : b.den / g = B := by rw [hB, Nat.mul_div_cancel_left _ g0]
  rw [eu, ev, eA, eB]
  have hAp : A ≠ 0 := fun z => by rw [z, Nat.mul_zero] at hA; exact absurd hA a.den_nz
  have hBp : B ≠ 0 := fun z => by rw [z, Nat.mul_zero] at hB; exact absurd hB b.den_nz
  have nu : a.num.natAbs = g * u.natAbs := by rw [hu, Int.natAbs_mul, Int.natAbs_natCast]
  have nv : b.num.natAbs = h * v.natAbs := by rw [hv, Int.natAbs_mul, Int.natAbs_natCast]
  have ca := a.reduced
  have cb := b.reduced
  rw [nu, hA] at ca
  rw [nv, hB] at cb
  refine low (Nat.mul_ne_zero hAp hBp) ?_ ?_
  · have uB : Nat.Coprime u.natAbs B := by
      have k := hg
      rw [nu, hB, Nat.gcd_mul_left] at k
      have e3 : g * 1 = g * Nat.gcd u.natAbs B := by rw [Nat.mul_one]; exact k
      exact (Nat.eq_of_mul_eq_mul_left g0 e3).symm
    have vA : Nat.Coprime v.natAbs A := by
      have k := hh
      rw [nv, hA, Nat.gcd_mul_left] at k
      have e3 : h * 1 = h * Nat.gcd v.natAbs A := by rw [Nat.mul_one]; exact k
      exact (Nat.eq_of_mul_eq_mul_left h0 e3).symm
    have uA : Nat.Coprime u.natAbs A := Nat.Coprime.coprime_dvd_left (Nat.dvd_mul_left _ _) (Nat.Coprime.coprime_dvd_right (Nat.dvd_mul_left _ _) ca)
    have vB : Nat.Coprime v.natAbs B := Nat.Coprime.coprime_dvd_left (Nat.dvd_mul_left _ _) (Nat.Coprime.coprime_dvd_right (Nat.dvd_mul_left _ _) cb)
    rw [Int.natAbs_mul]
    exact Nat.Coprime.mul_left (Nat.Coprime.mul_right uA uB) (Nat.Coprime.mul_right vA vB)
  · rw [Rat.mul_def']
    have e1 : a.num * b.num = ((g * h : Nat) : Int) * (u * v) := by
      rw [hu, hv, Int.natCast_mul, Int.mul_assoc, Int.mul_assoc, Int.mul_left_comm u]
    have e2 : a.den * b.den = (g * h) * (A * B) := by
      rw [hA, hB, Nat.mul_mul_mul_comm, Nat.mul_comm h g]
    rw [e1, e2, Rat.mkRat_mul_left (by have := Nat.mul_pos g0 h0; omega)]
/-! The fraction of two ints. -/
theorem of_low {n d : Int} (n1 : -1000000000000000 ≤ n) (n2 : n ≤ 1000000000000000) (d1 : -1000000000000000 ≤ d) (d2 : d ≤ 1000000000000000) (hd : d ≠ 0) {g : Nat} (hg : g = Nat.gcd n.natAbs d.natAbs) :
    ∃ (u : Int) (v : Nat), n * d.sign = (g : Int) * u ∧ d.natAbs = g * v ∧ rN (ofO n d) = u ∧ rD (ofO n d) = (v : Int) ∧ rB (ofO n d) = true ∧ u.natAbs ≤ 1000000000000000 ∧ 0 < v ∧ v ≤ 1000000000000000 ∧ 0 < g := by
  have g0 : 0 < g := by rw [hg]; exact Nat.gcd_pos_of_pos_right _ (by omega)
  have gn : g ∣ n.natAbs := hg ▸ Nat.gcd_dvd_left ..
  have gd : g ∣ d.natAbs := hg ▸ Nat.gcd_dvd_right ..
  have sa : (n * d.sign).natAbs = n.natAbs := by rw [Int.natAbs_mul, Int.natAbs_sign_of_ne_zero hd, Nat.mul_one]
  obtain ⟨v, hv⟩ := gd
  obtain ⟨u, hu⟩ := Int.ofNat_dvd_left.2 (sa ▸ gn)
  have nu : n.natAbs = g * u.natAbs := by rw [← sa, hu, Int.natAbs_mul, Int.natAbs_natCast]
  have v0 : 0 < v := by
    rcases Nat.eq_zero_or_pos v with z | z
    · rw [z, Nat.mul_zero] at hv; omega
    · exact z
  have co : Nat.gcd u.natAbs v = 1 := by
    have k := hg
    rw [nu, hv, Nat.gcd_mul_left] at k
    have e3 : g * 1 = g * Nat.gcd u.natAbs v := by rw [Nat.mul_one]; exact k
    exact (Nat.eq_of_mul_eq_mul_left g0 e3).symm
  have lu : u.natAbs ≤ n.natAbs := by rw [nu]; exact Nat.le_mul_of_pos_left _ g0
  have lv : v ≤ d.natAbs := by rw [hv]; exact Nat.le_mul_of_pos_left _ g0
  have e : ofO n d = some (mkRat (n * d.sign) d.natAbs) := if_pos ⟨n1, n2, d1, d2, hd⟩
  have eq : mkRat u v = mkRat (n * d.sign) d.natAbs := by rw [hu, hv, Rat.mkRat_mul_left (by omega)]
  obtain ⟨p, q⟩ := low (show v ≠ 0 by omega) co eq
  have f : fit (mkRat (n * d.sign) d.natAbs) = true := by rw [fit_iff, p, q]; omega
  rw [e, (r_t f).1, (r_t f).2.1, (r_t f).2.2, p, q]
  exact ⟨u, v, hu, hv, rfl, rfl, rfl, by omega, v0, by omega, g0⟩

end Go.Proofs.YteonkiajgfkieaaGreatDoor

/-! The laws of a field for valid fractions, as far as the results exist: what the helpers' walks want. Plain mathematics. -/
namespace Go.Proofs.YteonkiajgfkieaaGreatDoor

/-- What an operation's success says. -/
theorem op_ok {f : Rat → Rat → Rat} {an ad bn bd : Int} (h : rB (opO f an ad bn bd) = true) :
    okF an ad = true ∧ okF bn bd = true ∧ fit (f (fv an ad) (fv bn bd)) = true ∧ okF (rN (opO f an ad bn bd)) (rD (opO f an ad bn bd)) = true ∧ fv (rN (opO f an ad bn bd)) (rD (opO f an ad bn bd)) = f (fv an ad) (fv bn bd) := by
  cases ha : okF an ad
  · rw [op_fa ha] at h; cases h
  cases hb : okF bn bd
  · rw [op_fb hb] at h; cases h
  rw [op_t ha hb] at h ⊢
  have hf : fit (f (fv an ad) (fv bn bd)) = true := h
  obtain ⟨a, b, -⟩ := r_t hf
  rw [a, b]
  exact ⟨rfl, rfl, hf, (fit_ok hf).b, fit_v _⟩
theorem op_comm {f : Rat → Rat → Rat} (hf : ∀ x y, f x y = f y x) (an ad bn bd : Int) : opO f an ad bn bd = opO f bn bd an ad := by
  unfold opO
  rw [hf (fv an ad)]
  by_cases ha : okF an ad = true <;> by_cases hb : okF bn bd = true <;> simp [ha, hb]
theorem add_comm' (an ad bn bd : Int) : addO an ad bn bd = addO bn bd an ad := op_comm Rat.add_comm ..
theorem mul_comm' (an ad bn bd : Int) : mulO an ad bn bd = mulO bn bd an ad := op_comm Rat.mul_comm ..
theorem op_assoc {f : Rat → Rat → Rat} (hf : ∀ x y z, f (f x y) z = f x (f y z)) {an ad bn bd cn cd : Int} (h : rB (opO f an ad bn bd) = true) (k : rB (opO f bn bd cn cd) = true) :
    opO f (rN (opO f an ad bn bd)) (rD (opO f an ad bn bd)) cn cd = opO f an ad (rN (opO f bn bd cn cd)) (rD (opO f bn bd cn cd)) := by
  obtain ⟨a1, a2, a3, a4, a5⟩ := op_ok h
  obtain ⟨b1, b2, b3, b4, b5⟩ := op_ok k
  rw [op_t a4 b2, op_t a1 b4, a5, b5, hf]
theorem spread' {an ad bn bd cn cd : Int} (h : rB (addO bn bd cn cd) = true) (k : rB (mulO an ad bn bd) = true) (l : rB (mulO an ad cn cd) = true) :
    mulO an ad (rN (addO bn bd cn cd)) (rD (addO bn bd cn cd)) = addO (rN (mulO an ad bn bd)) (rD (mulO an ad bn bd)) (rN (mulO an ad cn cd)) (rD (mulO an ad cn cd)) := by
  obtain ⟨a1, a2, a3, a4, a5⟩ := op_ok h
  obtain ⟨b1, b2, b3, b4, b5⟩ := op_ok k
  obtain ⟨c1, c2, c3, c4, c5⟩ := op_ok l
  unfold mulO addO at *
  rw [op_t b1 a4, op_t b4 c4, a5, b5, c5]
  rw [Rat.mul_add]
theorem of_val {an ad : Int} (ha : okF an ad = true) {o : Option Rat} (e : o = some (fv an ad)) : rN o = an ∧ rD o = ad ∧ rB o = true := by
  have h := okF_t ha
  have hf := h.fit
  rw [e]
  obtain ⟨a, b, c⟩ := r_t hf
  obtain ⟨p, q⟩ := h.v
  rw [a, b, c, p, q]
  have := h.d1
  exact ⟨rfl, by omega, rfl⟩
theorem sub_back {an ad bn bd : Int} (h : rB (addO an ad bn bd) = true) : rN (subO (rN (addO an ad bn bd)) (rD (addO an ad bn bd)) bn bd) = an ∧ rD (subO (rN (addO an ad bn bd)) (rD (addO an ad bn bd)) bn bd) = ad ∧ rB (subO (rN (addO an ad bn bd)) (rD (addO an ad bn bd)) bn bd) = true := by
  obtain ⟨a1, a2, a3, a4, a5⟩ := op_ok h
  refine of_val a1 ?_
  unfold subO addO at *
  rw [op_t a4 a2, a5]
  congr 1
  show fv an ad + fv bn bd - fv bn bd = fv an ad
  rw [Rat.sub_eq_add_neg, Rat.add_assoc, Rat.add_neg_cancel, Rat.add_zero]
theorem div_back {an ad bn bd : Int} (h : rB (mulO an ad bn bd) = true) (hb : bn ≠ 0) : rN (divO (rN (mulO an ad bn bd)) (rD (mulO an ad bn bd)) bn bd) = an ∧ rD (divO (rN (mulO an ad bn bd)) (rD (mulO an ad bn bd)) bn bd) = ad ∧ rB (divO (rN (mulO an ad bn bd)) (rD (mulO an ad bn bd)) bn bd) = true := by
  obtain ⟨a1, a2, a3, a4, a5⟩ := op_ok h
  refine of_val a1 ?_
  have nz : fv bn bd ≠ 0 := by
    intro z
    have := (okF_t a2).v.1
    rw [z] at this
    exact hb this.symm
  unfold divO mulO at *
  rw [if_pos ⟨a4, a2, hb⟩, a5]
  congr 1
  show fv an ad * fv bn bd / fv bn bd = fv an ad
  rw [Rat.div_def, Rat.mul_assoc, Rat.mul_inv_cancel _ nz, Rat.mul_one]
end Go.Proofs.YteonkiajgfkieaaGreatDoor
