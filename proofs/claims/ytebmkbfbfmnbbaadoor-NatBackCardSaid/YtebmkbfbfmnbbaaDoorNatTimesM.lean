/-
  Plain mathematics of the schoolbook multiplication of lists of limbs: what one round of the inner and of the outer loop keeps. No program, no world.
-/
import Derived.Test.YtebmkbfbfmnbbaaDoorNatDiff
namespace Go.Proofs.YtebmkbfbfmnbbaaDoor

theorem set_vl {l : List Int} {j : Nat} (h : j < l.length) (z : Int) : vl (l.set j z) + 1000000000 ^ j * (l.getD j 0).toNat = vl l + 1000000000 ^ j * z.toNat := by
  have h2 : j < (l.set j z).length := by rw [List.length_set]; exact h
  have a := vl_split j h
  have b := vl_split j h2
  have t1 : (l.set j z).take j = l.take j := by rw [List.take_set_of_le (Nat.le_refl _)]
  have t2 : (l.set j z).drop (j + 1) = l.drop (j + 1) := by rw [List.drop_set_of_lt (by omega)]
  have t3 : (l.set j z).getD j 0 = z := by rw [getD_at h2, List.getElem_set_self]
  rw [t1, t2, t3, Nat.mul_add] at b
  rw [Nat.mul_add] at a
  omega
theorem set_digs {l : List Int} (hd : Digs l) (j : Nat) {z : Int} (z0 : 0 ≤ z) (z1 : z < 1000000000) : Digs (l.set j z) := by
  intro y hy
  rcases List.mem_or_eq_of_mem_set hy with h | h
  · exact hd y h
  · rw [h]; exact ⟨z0, z1⟩
theorem set_other {l : List Int} {j k : Nat} (z : Int) (h : j ≠ k) : (l.set j z).getD k 0 = l.getD k 0 := by
  rw [List.getD_eq_getElem?_getD, List.getElem?_set_ne h, List.getD_eq_getElem?_getD]

/-- In the inner loop: i rounds of the outer one are done, k of the inner one; p is x's limb at i. -/
structure InAt (x y : List Int) (n i : Nat) (p : Int) (k : Nat) (o : List Int) (c : Int) : Prop where
  len : o.length = n
  digs : Digs o
  c0 : 0 ≤ c
  c1 : c < 1000000000
  zero : ∀ j, i + y.length ≤ j → o.getD j 0 = 0
  val : vl o + 1000000000 ^ (i + k) * c.toNat = vl (x.take i) * vl y + 1000000000 ^ i * (p.toNat * vl (y.take k))
/-- In the outer loop. -/
structure OutAt (x y : List Int) (n i : Nat) (o : List Int) : Prop where
  len : o.length = n
  digs : Digs o
  zero : ∀ j, i + y.length ≤ j → o.getD j 0 = 0
  val : vl o = vl (x.take i) * vl y

theorem out_start (x y : List Int) (n : Nat) : OutAt x y n 0 (List.replicate n 0) := by
  refine ⟨List.length_replicate, fun z hz => ?_, fun j _ => ?_, ?_⟩
  · rw [List.eq_of_mem_replicate hz]; decide
  · rw [List.getD_eq_getElem?_getD, List.getElem?_replicate]; split <;> rfl
  · have e : ∀ n, vl (List.replicate n 0) = 0 := by
      intro n
      induction n with
      | zero => rfl
      | succ m ih => rw [List.replicate_succ, vl, ih]; rfl
    rw [e]; simp [vl]
theorem in_start {x y : List Int} {n i : Nat} {o : List Int} (h : OutAt x y n i o) (p : Int) : InAt x y n i p 0 o 0 :=
  ⟨h.len, h.digs, by decide, by decide, h.zero, by rw [h.val]; simp [vl]⟩
theorem in_step {x y : List Int} {n i k : Nat} {o : List Int} {c p q r : Int} (h : InAt x y n i p k o c) (hk : k < y.length) (hn : i + k < n) (hq : y.getD k 0 = q) (hr : o.getD (i + k) 0 = r)
    (p0 : 0 ≤ p) (q0 : 0 ≤ q) (r0 : 0 ≤ r) (r1 : r < 1000000000) (hs : 0 ≤ p * q ∧ p * q ≤ 999999998000000001) :
    InAt x y n i p (k + 1) (o.set (i + k) ((r + p * q + c) % 1000000000)) ((r + p * q + c) / 1000000000) := by
  obtain ⟨h1, h2, h3, h4, h5, h6⟩ := h
  refine ⟨by rw [List.length_set, h1], set_digs h2 _ (by omega) (by omega), by omega, by omega, fun j hj => by rw [set_other _ (by omega)]; exact h5 j hj, ?_⟩
  have a := set_vl (l := o) (j := i + k) (by omega) ((r + p * q + c) % 1000000000)
  rw [hr] at a
  have b := take_vl y k
  rw [hq] at b
  rw [b, Nat.mul_add, Nat.mul_add]
  have e : p.toNat * (1000000000 ^ k * q.toNat) = 1000000000 ^ k * (p * q).toNat := by
    rw [Int.toNat_mul p0 q0, ← Nat.mul_assoc, Nat.mul_comm p.toNat, Nat.mul_assoc]
  have e2 : 1000000000 ^ i * (1000000000 ^ k * (p * q).toNat) = 1000000000 ^ (i + k) * (p * q).toNat := by rw [← Nat.mul_assoc, ← Nat.pow_add]
  rw [e, e2, show i + (k + 1) = i + k + 1 by omega, Nat.pow_succ]
  generalize 1000000000 ^ (i + k) = W at *
  have s : W * ((r + p * q + c) % 1000000000).toNat + W * 1000000000 * ((r + p * q + c) / 1000000000).toNat = W * r.toNat + W * (p * q).toNat + W * c.toNat := by
    rw [Nat.mul_assoc, ← Nat.mul_add, ← Nat.mul_add, ← Nat.mul_add]
    congr 1
    omega
  omega
theorem in_end {x y : List Int} {n i : Nat} {o : List Int} {c p : Int} (h : InAt x y n i p y.length o c) (hn : i + y.length < n) (hp : x.getD i 0 = p) : OutAt x y n (i + 1) (o.set (i + y.length) c) := by
  obtain ⟨h1, h2, h3, h4, h5, h6⟩ := h
  refine ⟨by rw [List.length_set, h1], set_digs h2 _ h3 h4, fun j hj => by rw [set_other _ (by omega)]; exact h5 j (by omega), ?_⟩
  have a := set_vl (l := o) (j := i + y.length) (by omega) c
  rw [h5 _ (Nat.le_refl _)] at a
  rw [take_vl, hp, Nat.add_mul, List.take_length] at *
  rw [Nat.mul_assoc]
  have z : 1000000000 ^ (i + y.length) * (0 : Int).toNat = 0 := by simp
  omega
theorem mul_bd {p q : Int} (p0 : 0 ≤ p) (p1 : p < 1000000000) (q0 : 0 ≤ q) (q1 : q < 1000000000) : 0 ≤ p * q ∧ p * q ≤ 999999998000000001 := by
  refine ⟨Int.mul_nonneg p0 q0, ?_⟩
  have a : p * q ≤ 999999999 * q := Int.mul_le_mul_of_nonneg_right (by omega) q0
  omega
end Go.Proofs.YtebmkbfbfmnbbaaDoor
