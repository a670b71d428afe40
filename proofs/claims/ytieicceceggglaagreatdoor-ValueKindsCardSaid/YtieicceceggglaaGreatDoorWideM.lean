
/-
  Plain mathematics of natural numbers as lists of digits in base 1000, the least one first: the value of a list, and what one round of a loop over the digits keeps. No program, no world.
-/
import Derived.WalkKit
namespace Go.Proofs.YtieicceceggglaaGreatDoor

/-- The value of a list of digits. -/
def wv : List Int → Nat
  | [] => 0
  | z :: r => z.toNat + 1000 * wv r
/-- Every element is a digit. -/
def WD (l : List Int) : Prop := ∀ z ∈ l, 0 ≤ z ∧ z < 1000
theorem wd_at {l : List Int} {k : Nat} (hk : k < l.length) : l.getD k 0 = l[k] := by rw [List.getD_eq_getElem?_getD, List.getElem?_eq_getElem hk]; rfl
theorem wv_app (a b : List Int) : wv (a ++ b) = wv a + 1000 ^ a.length * wv b := by
  induction a with
  | nil => simp [wv]
  | cons z r ih =>
    rw [List.cons_append, wv, wv, ih, List.length_cons, Nat.pow_succ, Nat.mul_add]
    rw [Nat.mul_comm (1000 ^ r.length) 1000, Nat.mul_assoc]
    omega
theorem wv_lt {l : List Int} (h : WD l) : wv l < 1000 ^ l.length := by
  induction l with
  | nil => simp [wv]
  | cons z r ih =>
    have h1 := h z (List.mem_cons_self ..)
    have h2 := ih fun y hy => h y (List.mem_cons_of_mem _ hy)
    rw [wv, List.length_cons, Nat.pow_succ]
    omega
theorem wd_take {l : List Int} (h : WD l) (k : Nat) : WD (l.take k) := fun z hz => h z (List.mem_of_mem_take hz)
theorem wd_drop {l : List Int} (h : WD l) (k : Nat) : WD (l.drop k) := fun z hz => h z (List.mem_of_mem_drop hz)
theorem wd_one {z : Int} (h0 : 0 ≤ z) (h1 : z < 1000) : WD [z] := fun y hy => by
  have e : y = z := by simpa using hy
  subst e; exact ⟨h0, h1⟩
theorem wd_app {a b : List Int} (ha : WD a) (hb : WD b) : WD (a ++ b) := fun z hz => by
  rcases List.mem_append.1 hz with h | h
  · exact ha z h
  · exact hb z h
theorem wd_getD {l : List Int} (h : WD l) (k : Nat) : 0 ≤ l.getD k 0 ∧ l.getD k 0 < 1000 := by
  by_cases hk : k < l.length
  · rw [wd_at hk]; exact h _ (List.getElem_mem hk)
  · rw [List.getD_eq_getElem?_getD, List.getElem?_eq_none (by omega)]
    exact ⟨by decide, by decide⟩
theorem wd_zeros (n : Nat) : WD (List.replicate n 0) := fun z hz => by rw [List.eq_of_mem_replicate hz]; decide
theorem wv_zeros (n : Nat) : wv (List.replicate n 0) = 0 := by
  induction n with
  | zero => rfl
  | succ m ih => rw [List.replicate_succ, wv, ih]; rfl
theorem wv_take (l : List Int) (k : Nat) : wv (l.take (k + 1)) = wv (l.take k) + 1000 ^ k * (l.getD k 0).toNat := by
  by_cases h : k < l.length
  · rw [List.take_succ_eq_append_getElem h, wv_app, ← wd_at h, List.length_take, Nat.min_eq_left (by omega)]
    simp [wv]
  · rw [List.take_of_length_le (by omega), List.take_of_length_le (by omega), List.getD_eq_getElem?_getD, List.getElem?_eq_none (by omega)]
    simp
theorem wv_drop (l : List Int) (k : Nat) : wv (l.drop k) = (l.getD k 0).toNat + 1000 * wv (l.drop (k + 1)) := by
  by_cases h : k < l.length
  · rw [List.drop_eq_getElem_cons h, wv, wd_at h]
  · rw [List.drop_of_length_le (by omega), List.drop_of_length_le (by omega), List.getD_eq_getElem?_getD, List.getElem?_eq_none (by omega)]
    rfl
theorem wv_cut (l : List Int) (k : Nat) : wv l = wv (l.take k) + 1000 ^ k * wv (l.drop k) := by
  by_cases h : k ≤ l.length
  · have t : (l.take k).length = k := by rw [List.length_take]; omega
    have e := wv_app (l.take k) (l.drop k)
    rw [List.take_append_drop, t] at e
    exact e
  · rw [List.take_of_length_le (by omega), List.drop_of_length_le (by omega)]
    simp [wv]
theorem wv_drop_le (l : List Int) (k : Nat) : wv (l.drop k) ≤ wv l := by
  rw [wv_cut l k]
  have : 1 * wv (l.drop k) ≤ 1000 ^ k * wv (l.drop k) := Nat.mul_le_mul_right _ (Nat.pow_pos (by decide))
  omega
theorem wv_take_lt {l : List Int} (h : WD l) (k : Nat) : wv (l.take k) < 1000 ^ k :=
  Nat.lt_of_lt_of_le (wv_lt (wd_take h k)) (Nat.pow_le_pow_right (by decide) (by rw [List.length_take]; omega))
theorem wv_set {l : List Int} {j : Nat} (h : j < l.length) (z : Int) : wv (l.set j z) + 1000 ^ j * (l.getD j 0).toNat = wv l + 1000 ^ j * z.toNat := by
  have h2 : j < (l.set j z).length := by rw [List.length_set]; exact h
  have a := wv_cut l j
  have b := wv_cut (l.set j z) j
  rw [wv_drop l j] at a
  rw [wv_drop (l.set j z) j] at b
  have t1 : (l.set j z).take j = l.take j := by rw [List.take_set_of_le (Nat.le_refl _)]
  have t2 : (l.set j z).drop (j + 1) = l.drop (j + 1) := by rw [List.drop_set_of_lt (by omega)]
  have t3 : (l.set j z).getD j 0 = z := by rw [wd_at h2, List.getElem_set_self]
  rw [t1, t2, t3, Nat.mul_add] at b
  rw [Nat.mul_add] at a
  omega
theorem wd_set {l : List Int} (hd : WD l) (j : Nat) {z : Int} (z0 : 0 ≤ z) (z1 : z < 1000) : WD (l.set j z) := by
  intro y hy
  rcases List.mem_or_eq_of_mem_set hy with h | h
  · exact hd y h
  · rw [h]; exact ⟨z0, z1⟩
theorem wset_take {o : List Int} {k : Nat} (h : k < o.length) (z : Int) : (o.set k z).take (k + 1) = o.take k ++ [z] := by
  have h2 : k < (o.set k z).length := by rw [List.length_set]; exact h
  rw [List.take_succ_eq_append_getElem h2, List.getElem_set_self, List.take_set_of_le (Nat.le_refl _)]
theorem wset_drop {o : List Int} {k : Nat} (h : k < o.length) (z : Int) : (o.set k z).drop k = z :: o.drop (k + 1) := by
  have h2 : k < (o.set k z).length := by rw [List.length_set]; exact h
  rw [List.drop_eq_getElem_cons h2, List.getElem_set_self, List.drop_set_of_lt (by omega)]

/-- A wide number: fourteen digits. -/
structure Wide (l : List Int) (n : Nat) : Prop where
  len : l.length = 14
  digs : WD l
  val : wv l = n
theorem Wide.lt {l : List Int} {n : Nat} (h : Wide l n) : n < 1000 ^ 14 := by
  have k := wv_lt h.digs
  rwa [h.len, h.val] at k
theorem wide_zeros : Wide (List.replicate 14 0) 0 := ⟨by simp, wd_zeros 14, wv_zeros 14⟩

/-! times -/
/-- In the inner loop of a multiplication: T is the value aimed at. -/
structure TmAt (T k : Nat) (o : List Int) (carry d c : Nat) : Prop where
  len : o.length = 14
  digs : WD o
  cy : carry < 1000
  dl : d < 1000
  val : wv o + 1000 ^ k * (carry + d * c) = T
theorem tm_step {T k : Nat} {o : List Int} {carry d c : Nat} (h : TmAt T k o carry d c) (hk : k < 14) {r : Nat} (hr : o.getD k 0 = (r : Int)) :
    TmAt T (k + 1) (o.set k (((carry + r + d * (c % 1000)) % 1000 : Nat) : Int)) ((carry + r + d * (c % 1000)) / 1000) d (c / 1000) := by
  obtain ⟨h1, h2, h3, h4, h5⟩ := h
  have hr2 := (wd_getD h2 k).2
  rw [hr] at hr2
  have hm : d * (c % 1000) ≤ 999 * 999 := Nat.mul_le_mul (by omega) (by omega)
  refine ⟨by rw [List.length_set, h1], wd_set h2 _ (by omega) (by omega), by omega, h4, ?_⟩
  have a := wv_set (l := o) (j := k) (by omega) (((carry + r + d * (c % 1000)) % 1000 : Nat) : Int)
  rw [hr] at a
  rw [show ((r : Int)).toNat = r by omega, show ((((carry + r + d * (c % 1000)) % 1000 : Nat) : Int)).toNat = (carry + r + d * (c % 1000)) % 1000 by omega] at a
  rw [← h5, Nat.pow_succ]
  have e : d * c = d * (c % 1000) + 1000 * (d * (c / 1000)) := by
    have g := Nat.mod_add_div c 1000
    conv => lhs; rw [← g]
    rw [Nat.mul_add, ← Nat.mul_assoc, ← Nat.mul_assoc, Nat.mul_comm d 1000]
  rw [e]
  generalize d * (c % 1000) = p at *
  generalize d * (c / 1000) = q at *
  generalize 1000 ^ k = W at *
  have s : W * ((carry + r + p) % 1000) + W * 1000 * ((carry + r + p) / 1000 + q) = W * (carry + (p + 1000 * q)) + W * r := by
    rw [Nat.mul_assoc, ← Nat.mul_add, ← Nat.mul_add]
    congr 1
    omega
  omega
/-- The place stays small: the value aimed at is small. -/
theorem tm_place {T k : Nat} {o : List Int} {carry d c : Nat} (h : TmAt T k o carry d c) (hT : T < 1000 ^ 11) (hc : 0 < carry) : k < 11 := by
  have g : 1000 ^ k ≤ T := by
    rw [← h.val]
    have : 1000 ^ k * 1 ≤ 1000 ^ k * (carry + d * c) := Nat.mul_le_mul_left _ (by omega)
    omega
  rcases Nat.lt_or_ge k 11 with p | p
  · exact p
  · have := Nat.pow_le_pow_right (show 0 < 1000 by decide) p
    omega
end Go.Proofs.YtieicceceggglaaGreatDoor
