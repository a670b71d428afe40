/-
  The reference's Add gives the list of the sum of two numbers and true, or an empty list and false if it has more than 64 limbs. For every two slices of int; nothing that was there turns.
-/
import Derived.Test.YtebmkbfbfmnbbaaDoorNatSmall
namespace Go.Proofs.YtebmkbfbfmnbbaaDoor
open Go.RowKit

theorem bit_cases {c : Int} (h0 : 0 ≤ c) (h1 : c ≤ 1) : c = 0 ∨ c = 1 := by omega
/-- After k rounds of an addition. -/
structure AddAt (x y : List Int) (k : Nat) (o : List Int) (c : Int) : Prop where
  len : o.length = k
  digs : Digs o
  c0 : 0 ≤ c
  c1 : c ≤ 1
  val : vl o + 1000000000 ^ k * c.toNat = vl (x.take k) + vl (y.take k)
theorem add_step {x y : List Int} {k : Nat} {o : List Int} {c p q : Int} (h : AddAt x y k o c) (hp : x.getD k 0 = p) (hq : y.getD k 0 = q) (p0 : 0 ≤ p) (p1 : p < 1000000000) (q0 : 0 ≤ q) (q1 : q < 1000000000) :
    AddAt x y (k + 1) (o ++ [(p + q + c) % 1000000000]) ((p + q + c) / 1000000000) := by
  obtain ⟨h1, h2, h3, h4, h5⟩ := h
  refine ⟨by rw [List.length_append, h1]; rfl, digs_app h2 (digs_one (by omega) (by omega)), by omega, by omega, ?_⟩
  rw [take_vl, take_vl, hp, hq, vl_app, h1, Nat.pow_succ]
  have e : (vl [(p + q + c) % 1000000000]) = ((p + q + c) % 1000000000).toNat := by simp [vl]
  rw [e]
  have s : 1000000000 ^ k * ((p + q + c) % 1000000000).toNat + 1000000000 ^ k * 1000000000 * ((p + q + c) / 1000000000).toNat = 1000000000 ^ k * c.toNat + 1000000000 ^ k * p.toNat + 1000000000 ^ k * q.toNat := by
    rw [Nat.mul_assoc, ← Nat.mul_add, ← Nat.mul_add, ← Nat.mul_add]
    congr 1
    omega
  omega
theorem add_end {a b x y : List Int} (hx : Num a x) (hy : Num b y) {k : Nat} {o : List Int} {c : Int} (h : AddAt x y k o c) (kx : x.length ≤ k) (ky : y.length ≤ k) (hk : k ≤ x.length ∨ k ≤ y.length) :
    (c = 0 → o = lim (nv a + nv b)) ∧ (c = 1 → o ++ [1] = lim (nv a + nv b)) := by
  obtain ⟨h1, h2, h3, h4, h5⟩ := h
  rw [List.take_of_length_le kx, List.take_of_length_le ky, hx.val, hy.val] at h5
  refine ⟨fun e => ?_, fun e => ?_⟩
  · subst e
    have e0 : vl o = nv a + nv b := by simpa using h5
    rw [← e0]
    refine (lim_big h2 ?_).symm
    rcases Nat.eq_zero_or_pos k with k0 | k0
    · left; exact List.length_eq_zero_iff.1 (by omega)
    · right
      rw [h1, e0]
      rcases hk with hk | hk
      · have g := len_pos (n := vl x) (fun z => by have c := hx.can; rw [z, lim_0] at c; rw [← c] at hk; simp at hk; omega)
        rw [hx.can, hx.val, show x.length = k by omega] at g
        omega
      · have g := len_pos (n := vl y) (fun z => by have c := hy.can; rw [z, lim_0] at c; rw [← c] at hk; simp at hk; omega)
        rw [hy.can, hy.val, show y.length = k by omega] at g
        omega
  · subst e
    have e1 : vl (o ++ [1]) = nv a + nv b := by
      rw [vl_app, h1, ← h5]
      rfl
    rw [← e1]
    refine (lim_big (digs_app h2 (digs_one (by decide) (by decide))) (.inr ?_)).symm
    rw [vl_app, h1, List.length_append, h1]
    have e2 : k + ([1] : List Int).length - 1 = k := by simp
    have e3 : vl [1] = 1 := rfl
    rw [e2, e3]
    omega

theorem retb_of {w : World} {a b : List Int} {c d : Bool} {e : Ending} {w' : World} (h : a = b) (h2 : c = d) (k : RetSB w b d e w') : RetSB w a c e w' := by rw [h, h2]; exact k

end Go.Proofs.YtebmkbfbfmnbbaaDoor
