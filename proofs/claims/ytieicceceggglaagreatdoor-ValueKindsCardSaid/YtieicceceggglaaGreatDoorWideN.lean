/-
  Plain mathematics of wide numbers (fourteen digits in base 1000): what one round of an addition, a subtraction, a comparison, a division and a narrowing keeps. No program, no world.
-/
import Derived.Test.YtieicceceggglaaGreatDoorWideM
namespace Go.Proofs.YtieicceceggglaaGreatDoor

/-- After k rounds of an addition. -/
structure PlAt (x y : List Int) (k : Nat) (o : List Int) (c : Int) : Prop where
  len : o.length = 14
  digs : WD o
  c0 : 0 ≤ c
  c1 : c ≤ 1
  val : wv (o.take k) + 1000 ^ k * c.toNat = wv (x.take k) + wv (y.take k)
theorem pl_start (x y : List Int) : PlAt x y 0 (List.replicate 14 0) 0 := ⟨by simp, wd_zeros 14, by decide, by decide, rfl⟩
theorem pl_step {x y : List Int} {k : Nat} {o : List Int} {c p q : Int} (h : PlAt x y k o c) (hk : k < 14) (hp : x.getD k 0 = p) (hq : y.getD k 0 = q) (p0 : 0 ≤ p) (p1 : p < 1000) (q0 : 0 ≤ q) (q1 : q < 1000) :
    PlAt x y (k + 1) (o.set k ((c + p + q) % 1000)) ((c + p + q) / 1000) := by
  obtain ⟨h1, h2, h3, h4, h5⟩ := h
  refine ⟨by rw [List.length_set, h1], wd_set h2 _ (by omega) (by omega), by omega, by omega, ?_⟩
  rw [wset_take (by omega), wv_app, List.length_take, Nat.min_eq_left (by omega), wv_take, wv_take, hp, hq, Nat.pow_succ]
  have e : wv [(c + p + q) % 1000] = ((c + p + q) % 1000).toNat := by simp [wv]
  rw [e]
  have s : 1000 ^ k * ((c + p + q) % 1000).toNat + 1000 ^ k * 1000 * ((c + p + q) / 1000).toNat = 1000 ^ k * c.toNat + 1000 ^ k * p.toNat + 1000 ^ k * q.toNat := by
    rw [Nat.mul_assoc, ← Nat.mul_add, ← Nat.mul_add, ← Nat.mul_add]
    congr 1
    omega
  omega
theorem pl_end {x y o : List Int} {c : Int} {m n : Nat} (h : PlAt x y 14 o c) (hx : Wide x m) (hy : Wide y n) (hlt : m + n < 1000 ^ 14) : Wide o (m + n) := by
  obtain ⟨h1, h2, h3, h4, h5⟩ := h
  rw [List.take_of_length_le (by omega), List.take_of_length_le (by have := hx.len; omega), List.take_of_length_le (by have := hy.len; omega), hx.val, hy.val] at h5
  refine ⟨h1, h2, ?_⟩
  rcases (show c = 0 ∨ c = 1 by omega) with rfl | rfl
  · simpa using h5
  · exfalso
    have e : 1000 ^ 14 * (1 : Int).toNat = 1000 ^ 14 := by simp
    omega

/-- After k rounds of a subtraction; c is 0 or -1. -/
structure MiAt (x y : List Int) (k : Nat) (o : List Int) (c : Int) : Prop where
  len : o.length = 14
  digs : WD o
  c0 : -1 ≤ c
  c1 : c ≤ 0
  val : wv (o.take k) + wv (y.take k) = wv (x.take k) + 1000 ^ k * (-c).toNat
theorem mi_start (x y : List Int) : MiAt x y 0 (List.replicate 14 0) 0 := ⟨by simp, wd_zeros 14, by decide, by decide, rfl⟩
theorem mi_step {x y : List Int} {k : Nat} {o : List Int} {c p q d e : Int} (h : MiAt x y k o c) (hk : k < 14) (hp : x.getD k 0 = p) (hq : y.getD k 0 = q) (p0 : 0 ≤ p) (q0 : 0 ≤ q) (d0 : 0 ≤ d) (d1 : d < 1000) (e0 : -1 ≤ e) (e1 : e ≤ 0) (hd : d = c + p - q - 1000 * e) :
    MiAt x y (k + 1) (o.set k d) e := by
  obtain ⟨h1, h2, h3, h4, h5⟩ := h
  refine ⟨by rw [List.length_set, h1], wd_set h2 _ d0 d1, e0, e1, ?_⟩
  rw [wset_take (by omega), wv_app, List.length_take, Nat.min_eq_left (by omega), wv_take, wv_take, hp, hq, Nat.pow_succ]
  have e2 : wv [d] = d.toNat := by simp [wv]
  rw [e2]
  have s : 1000 ^ k * d.toNat + 1000 ^ k * q.toNat + 1000 ^ k * (-c).toNat = 1000 ^ k * p.toNat + 1000 ^ k * 1000 * (-e).toNat := by
    rw [Nat.mul_assoc, ← Nat.mul_add, ← Nat.mul_add, ← Nat.mul_add]
    congr 1
    omega
  omega
theorem mi_end {x y o : List Int} {c : Int} {m n : Nat} (h : MiAt x y 14 o c) (hx : Wide x m) (hy : Wide y n) (hle : n ≤ m) : Wide o (m - n) := by
  obtain ⟨h1, h2, h3, h4, h5⟩ := h
  have g := wv_lt h2
  rw [h1] at g
  rw [List.take_of_length_le (by omega), List.take_of_length_le (by have := hy.len; omega), List.take_of_length_le (by have := hx.len; omega), hx.val, hy.val] at h5
  refine ⟨h1, h2, ?_⟩
  rcases (show c = 0 ∨ c = -1 by omega) with rfl | rfl
  · have e : 1000 ^ 14 * (-(0 : Int)).toNat = 0 := by simp
    omega
  · have e : 1000 ^ 14 * (-(-1 : Int)).toNat = 1000 ^ 14 := by simp
    omega

/-- The comparison of two natural numbers. -/
def cmpN (m n : Nat) : Int := if m < n then -1 else if n < m then 1 else 0
theorem cmpN_lt {a b : Nat} (h : a < b) : cmpN a b = -1 := by unfold cmpN; rw [if_pos h]
theorem cmpN_gt {a b : Nat} (h : b < a) : cmpN a b = 1 := by unfold cmpN; rw [if_neg (by omega), if_pos h]
theorem cmpN_eq {a b : Nat} (h : a = b) : cmpN a b = 0 := by unfold cmpN; rw [if_neg (by omega), if_neg (by omega)]
theorem or_lt {x y : List Int} (k : Nat) (dx : WD x) (he : wv (x.drop (k + 1)) = wv (y.drop (k + 1))) {p q : Int} (hp : x.getD k 0 = p) (hq : y.getD k 0 = q) (p0 : 0 ≤ p) (h : p < q) : wv x < wv y := by
  rw [wv_cut x k, wv_cut y k, wv_drop x k, wv_drop y k, he, hp, hq]
  have a := wv_take_lt dx k
  have b : p.toNat + 1000 * wv (y.drop (k + 1)) + 1 ≤ q.toNat + 1000 * wv (y.drop (k + 1)) := by omega
  have c := Nat.mul_le_mul_left (1000 ^ k) b
  rw [Nat.mul_add, Nat.mul_one] at c
  omega

/-- In a division by d, the digits from k on done. -/
structure PtAt (x : List Int) (d k : Nat) (o : List Int) (r : Nat) : Prop where
  len : o.length = 14
  digs : WD o
  lt : r < d
  val : wv (x.drop k) = d * wv (o.drop k) + r
theorem pt_start (x : List Int) (d : Nat) (hx : x.length = 14) (hd : 0 < d) : PtAt x d 14 (List.replicate 14 0) 0 :=
  ⟨by simp, wd_zeros 14, hd, by rw [List.drop_of_length_le (by omega), List.drop_of_length_le (by simp)]; simp [wv]⟩
theorem pt_step {x : List Int} {d k : Nat} {o : List Int} {r p : Nat} (h : PtAt x d (k + 1) o r) (hk : k < 14) (hp : x.getD k 0 = (p : Int)) (p1 : p < 1000) :
    PtAt x d k (o.set k (((r * 1000 + p) / d : Nat) : Int)) ((r * 1000 + p) % d) := by
  obtain ⟨h1, h2, h3, h4⟩ := h
  have hz : (r * 1000 + p) / d < 1000 := by
    rw [Nat.div_lt_iff_lt_mul (by omega)]
    have : (r + 1) * 1000 ≤ d * 1000 := Nat.mul_le_mul_right _ h3
    rw [Nat.mul_comm 1000 d]
    omega
  have e := Nat.div_add_mod (r * 1000 + p) d
  have hm : (r * 1000 + p) % d < d := Nat.mod_lt _ (by omega)
  generalize (r * 1000 + p) / d = z at hz e
  generalize (r * 1000 + p) % d = s at e hm
  refine ⟨by rw [List.length_set, h1], wd_set h2 _ (by omega) (by omega), hm, ?_⟩
  rw [wset_drop (by omega), wv, wv_drop x k, hp, h4, Int.toNat_natCast, Int.toNat_natCast, Nat.mul_add, Nat.mul_add, Nat.mul_left_comm d 1000]
  omega
theorem pt_end {x : List Int} {d n : Nat} {o : List Int} {r : Nat} (h : PtAt x d 0 o r) (hx : Wide x n) : Wide o (n / d) ∧ r = n % d := by
  obtain ⟨h1, h2, h3, h4⟩ := h
  rw [List.drop_zero, List.drop_zero, hx.val] at h4
  have e : wv o = n / d := by
    rw [h4, Nat.mul_add_div (by omega), Nat.div_eq_of_lt h3, Nat.add_zero]
  exact ⟨⟨h1, h2, e⟩, by rw [h4, Nat.mul_add_mod, Nat.mod_eq_of_lt h3]⟩

/-- What narrow gives. -/
def nrV (n : Nat) : Int := if n ≤ 1000000000000000 then n else 0
def nrB (n : Nat) : Bool := decide (n ≤ 1000000000000000)
theorem nr_t {n : Nat} (h : n ≤ 1000000000000000) : nrV n = n ∧ nrB n = true := ⟨by unfold nrV; rw [if_pos h], decide_eq_true h⟩
theorem nr_f {n : Nat} (h : ¬ n ≤ 1000000000000000) : nrV n = 0 ∧ nrB n = false := ⟨by unfold nrV; rw [if_neg h], decide_eq_false h⟩
theorem nr_big {x : List Int} {n : Nat} (k : Nat) (hx : Wide x n) (h : 1000000000000 < wv (x.drop (k + 1))) : ¬ n ≤ 1000000000000000 := by
  have a := wv_drop x k
  have b := wv_drop_le x k
  rw [hx.val] at b
  omega
end Go.Proofs.YtieicceceggglaaGreatDoor
