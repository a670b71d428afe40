/-
  Plain mathematics of decimal strings: their value, nine digits at a time, and when a string is the numeral of a number. No program, no world.
-/
import Derived.Test.YtebmkbfbfmnbbaaDoorNatText
namespace Go.Proofs.YtebmkbfbfmnbbaaDoor
open Go.Lib (decDigits)

/-- The value of a decimal string. -/
def dv (l : List UInt8) : Nat := l.foldl (fun a c => a * 10 + (c.toNat - 48)) 0
/-- Every byte is a digit. -/
def AllD (l : List UInt8) : Prop := ∀ c ∈ l, 48 ≤ c.toNat ∧ c.toNat ≤ 57
theorem dv_snoc (l : List UInt8) (c : UInt8) : dv (l ++ [c]) = dv l * 10 + (c.toNat - 48) := by unfold dv; rw [List.foldl_append]; rfl
theorem dv_fold (l : List UInt8) (a : Nat) : l.foldl (fun a c => a * 10 + (c.toNat - 48)) a = a * 10 ^ l.length + dv l := by
  induction l generalizing a with
  | nil => simp [dv]
  | cons c r ih =>
    have e : dv (c :: r) = r.foldl (fun a c => a * 10 + (c.toNat - 48)) (0 * 10 + (c.toNat - 48)) := rfl
    rw [List.foldl_cons, ih, e, ih, List.length_cons, Nat.pow_succ, Nat.add_mul, Nat.add_mul]
    have e2 : a * 10 * 10 ^ r.length = a * (10 ^ r.length * 10) := by rw [Nat.mul_assoc, Nat.mul_comm 10]
    omega
theorem dv_app (a b : List UInt8) : dv (a ++ b) = dv a * 10 ^ b.length + dv b := by
  have e : dv (a ++ b) = b.foldl (fun a c => a * 10 + (c.toNat - 48)) (dv a) := by unfold dv; rw [List.foldl_append]
  rw [e, dv_fold]
theorem dv_lt {l : List UInt8} (h : AllD l) : dv l < 10 ^ l.length := by
  induction l with
  | nil => decide
  | cons c r ih =>
    have k := h c (List.mem_cons_self ..)
    have g := ih fun y hy => h y (List.mem_cons_of_mem _ hy)
    have e := dv_app [c] r
    rw [List.singleton_append] at e
    have e1 : dv [c] = c.toNat - 48 := by simp [dv]
    rw [e, e1, List.length_cons, Nat.pow_succ]
    have m : (c.toNat - 48) * 10 ^ r.length ≤ 9 * 10 ^ r.length := Nat.mul_le_mul_right _ (by omega)
    omega
theorem allD_dec (n : Nat) : AllD (decDigits n) := by
  induction n using Nat.strongRecOn with
  | _ n ih =>
    have dg : ∀ u, u < 10 → 48 ≤ (UInt8.ofNat (48 + u)).toNat ∧ (UInt8.ofNat (48 + u)).toNat ≤ 57 := fun u hu => by rw [UInt8.toNat_ofNat']; omega
    by_cases h : n < 10
    · rw [decDigits, dif_pos h]
      intro c hc
      have e : c = UInt8.ofNat (48 + n) := by simpa using hc
      rw [e]; exact dg n h
    · rw [decDigits, dif_neg h]
      intro c hc
      rcases List.mem_append.1 hc with g | g
      · exact ih (n / 10) (by omega) c g
      · have e : c = UInt8.ofNat (48 + n % 10) := by simpa using g
        rw [e]; exact dg _ (by omega)
theorem dv_dec (n : Nat) : dv (decDigits n) = n := by
  induction n using Nat.strongRecOn with
  | _ n ih =>
    by_cases h : n < 10
    · rw [decDigits, dif_pos h]
      have e : dv [UInt8.ofNat (48 + n)] = (UInt8.ofNat (48 + n)).toNat - 48 := by simp [dv]
      rw [e, UInt8.toNat_ofNat']; omega
    · rw [decDigits, dif_neg h, dv_snoc, ih (n / 10) (by omega), UInt8.toNat_ofNat']; omega
theorem dec_ne (n : Nat) : decDigits n ≠ [] := by
  rw [decDigits]; split
  · simp
  · simp
theorem dec_head (n : Nat) : (decDigits n).head? = some 48 → n = 0 := by
  induction n using Nat.strongRecOn with
  | _ n ih =>
    intro h
    by_cases h1 : n < 10
    · rw [decDigits, dif_pos h1] at h
      have e := congrArg UInt8.toNat (Option.some.inj h)
      rw [UInt8.toNat_ofNat'] at e
      have e2 : (48 : UInt8).toNat = 48 := rfl
      omega
    · rw [decDigits, dif_neg h1, List.head?_append] at h
      cases hd : (decDigits (n / 10)).head? with
      | none => exact absurd (List.head?_eq_none_iff.1 hd) (dec_ne _)
      | some c =>
        rw [hd] at h
        have e : c = 48 := Option.some.inj h
        rw [e] at hd
        have := ih (n / 10) (by omega) hd
        omega
/-- A string of digits without a leading zero is the numeral of its value. -/
theorem dec_of {l : List UInt8} (h : AllD l) (hne : l ≠ []) (hz : ¬ (1 < l.length ∧ l.head? = some 48)) : decDigits (dv l) = l := by
  induction hk : l.length generalizing l with
  | zero => exact absurd (List.length_eq_zero_iff.1 hk) hne
  | succ k ih =>
    obtain ⟨r, c, rfl⟩ : ∃ r c, l = r ++ [c] := ⟨l.dropLast, l.getLast hne, (List.dropLast_concat_getLast hne).symm⟩
    have hc := h c (List.mem_append_right _ (List.mem_cons_self ..))
    have hr : AllD r := fun y hy => h y (List.mem_append_left _ hy)
    rw [List.length_append, List.length_singleton] at hk
    rw [dv_snoc]
    by_cases hrn : r = []
    · subst hrn
      have e : dv [] * 10 + (c.toNat - 48) = c.toNat - 48 := by simp [dv]
      rw [e, decDigits, dif_pos (by omega), show 48 + (c.toNat - 48) = c.toNat by omega]
      simp
    · have hz2 : ¬ (1 < r.length ∧ r.head? = some 48) := fun g => hz ⟨by rw [List.length_append]; simp; omega, by rw [List.head?_append, g.2]; rfl⟩
      have e := ih hr hrn hz2 (by omega)
      have hpos : dv r ≠ 0 := by
        intro e0
        rw [e0] at e
        have e1 : r = [48] := by rw [← e, Lib.decDigits_one (by decide)]; rfl
        apply hz
        rw [e1]
        exact ⟨by simp, rfl⟩
      rw [decDigits, dif_neg (by omega), show (dv r * 10 + (c.toNat - 48)) / 10 = dv r by omega, e, show (dv r * 10 + (c.toNat - 48)) % 10 = c.toNat - 48 by omega, show 48 + (c.toNat - 48) = c.toNat by omega]
      simp

/-- May the string be a number. -/
def Fits (l : List UInt8) : Prop := l ≠ [] ∧ l.length ≤ 576 ∧ ¬ (1 < l.length ∧ l.head? = some 48) ∧ AllD l
open Classical in
/-- The parsed list, and whether there is one. -/
noncomputable def parL (l : List UInt8) : List Int := if Fits l then lim (dv l) else []
open Classical in
noncomputable def parB (l : List UInt8) : Bool := decide (Fits l)
theorem par_t {l : List UInt8} (h : Fits l) : parL l = lim (dv l) ∧ parB l = true := by
  classical
  exact ⟨by unfold parL; rw [if_pos h], by unfold parB; exact decide_eq_true h⟩
theorem par_f {l : List UInt8} (h : ¬ Fits l) : parL l = [] ∧ parB l = false := by
  classical
  exact ⟨by unfold parL; rw [if_neg h], by unfold parB; exact decide_eq_false h⟩
/-- Nine digits more: out holds k limbs, e bytes are left. -/
structure ParAt (l : List UInt8) (e : Int) (o : List Int) : Prop where
  digs : Digs o
  at_ : e = l.length - 9 * (o.length : Int)
  val : vl o + 1000000000 ^ o.length * dv (l.take e.toNat) = dv l
theorem par_start (l : List UInt8) : ParAt l l.length [] := ⟨digs_nil, by simp, by simp [vl]⟩
theorem par_step {l : List UInt8} {e : Int} {o : List Int} (h : ParAt l e o) (he : 0 < e) {n : Nat} (hn : n = dv ((l.take e.toNat).drop (e - 9).toNat)) (hlt : n < 1000000000) : ParAt l (e - 9) (o ++ [(n : Int)]) := by
  obtain ⟨h1, h2, h3⟩ := h
  refine ⟨digs_app h1 (digs_one (by omega) (by omega)), by rw [List.length_append, List.length_singleton]; omega, ?_⟩
  have t : l.take e.toNat = l.take (e - 9).toNat ++ (l.take e.toNat).drop (e - 9).toNat := by
    have g := (List.take_append_drop (e - 9).toNat (l.take e.toNat)).symm
    rw [List.take_take, Nat.min_eq_left (by omega)] at g
    exact g
  rw [← h3, vl_app, List.length_append, List.length_singleton, Nat.pow_succ]
  have e1 : vl [(n : Int)] = n := by simp [vl]
  rw [e1]
  have e2 : dv (l.take e.toNat) = dv (l.take (e - 9).toNat) * 1000000000 + n := by
    conv => lhs; rw [t]
    rw [dv_app, ← hn]
    congr 1
    rcases Int.lt_or_le e 9 with g | g
    · rw [show (e - 9).toNat = 0 by omega]; simp [dv]
    · rw [List.length_drop, List.length_take, Nat.min_eq_left (by omega), show e.toNat - (e - 9).toNat = 9 by omega]
  rw [e2, Nat.mul_add, Nat.mul_comm (dv (l.take (e - 9).toNat)) 1000000000, Nat.mul_assoc]
  omega
theorem par_end {l : List UInt8} {e : Int} {o : List Int} (h : ParAt l e o) (he : e ≤ 0) : vl o = dv l := by
  have k := h.val
  rw [show e.toNat = 0 by omega] at k
  simpa [dv] using k
end Go.Proofs.YtebmkbfbfmnbbaaDoor
