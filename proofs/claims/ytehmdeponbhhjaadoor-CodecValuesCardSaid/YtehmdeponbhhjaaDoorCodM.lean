/-
  Plain mathematics of byte encodings: varints and how they are read, the zigzag form, the checksum (by bits and by halves of a byte) and that one changed byte changes it, frames. No program, no world.
-/
import Derived.Lib.VarintMem
import Derived.Lib.Zigzag
import Derived.WalkKit
namespace Go.Proofs.YtehmdeponbhhjaaDoor
open Go.Lib

/-! Varints. -/
/-- How many bytes at the front say that another one follows. -/
def lead : List UInt8 → Nat
  | [] => 0
  | c :: r => if 128 ≤ c.toNat then lead r + 1 else 0
/-- The number of groups of seven bits, the least one first. -/
def gv : List UInt8 → Nat
  | [] => 0
  | c :: r => c.toNat % 128 + 128 * gv r
/-- What is read of a varint that is at most `most`: the number, how many bytes, the code of the error. -/
def rdv (most : Nat) (l : List UInt8) : Nat × Nat × Nat :=
  if 10 ≤ lead l then (0, 0, 4)
  else if lead l = l.length then (0, 0, 3)
  else if lead l = 9 ∧ 1 < (l.getD 9 0).toNat then (0, 0, 4)
  else if most < gv (l.take (lead l + 1)) then (0, 0, 4)
  else if 0 < lead l ∧ (l.getD (lead l) 0).toNat = 0 then (0, 0, 2)
  else (gv (l.take (lead l + 1)), lead l + 1, 0)
theorem lead_le : ∀ l : List UInt8, lead l ≤ l.length
  | [] => Nat.le_refl _
  | c :: r => by
    have := lead_le r
    unfold lead
    rw [List.length_cons]
    split <;> omega
theorem lead_more : ∀ (l : List UInt8) (i : Nat), i ≤ lead l → i < l.length → 128 ≤ (l.getD i 0).toNat → i + 1 ≤ lead l
  | [], i, _, h, _ => absurd h (Nat.not_lt_zero _)
  | c :: r, 0, _, _, h => by
    have e : (128 : Nat) ≤ c.toNat := h
    unfold lead
    rw [if_pos e]; omega
  | c :: r, i + 1, h, hl, hc => by
    have ih := lead_more r i
    unfold lead at h ⊢
    split at h
    · rename_i e
      rw [if_pos e]
      rw [List.length_cons] at hl
      have := ih (by omega) (by omega) hc
      omega
    · omega
theorem lead_stop : ∀ (l : List UInt8) (i : Nat), i ≤ lead l → i < l.length → (l.getD i 0).toNat < 128 → lead l = i
  | [], i, _, h, _ => absurd h (Nat.not_lt_zero _)
  | c :: r, 0, _, _, h => by
    have e : ¬ (128 : Nat) ≤ c.toNat := Nat.not_le.2 h
    unfold lead
    rw [if_neg e]
  | c :: r, i + 1, h, hl, hc => by
    have ih := lead_stop r i
    unfold lead at h ⊢
    split at h
    · rename_i e
      rw [if_pos e]
      rw [List.length_cons] at hl
      have := ih (by omega) (by omega) hc
      omega
    · omega
theorem gv_snoc (l : List UInt8) (c : UInt8) : gv (l ++ [c]) = gv l + c.toNat % 128 * 128 ^ l.length := by
  induction l with
  | nil => simp [gv]
  | cons d r ih =>
    rw [List.cons_append, gv, ih, gv, List.length_cons, Nat.pow_succ, Nat.mul_add]
    have : 128 * (c.toNat % 128 * 128 ^ r.length) = c.toNat % 128 * (128 ^ r.length * 128) := by
      rw [Nat.mul_comm 128, Nat.mul_assoc]
    omega
theorem byte_at {l : List UInt8} {i : Nat} (h : i < l.length) : l.getD i 0 = l[i] := by rw [List.getD_eq_getElem?_getD, List.getElem?_eq_getElem h]; rfl
theorem gv_take {l : List UInt8} {i : Nat} (h : i < l.length) : gv (l.take (i + 1)) = gv (l.take i) + (l.getD i 0).toNat % 128 * 128 ^ i := by
  rw [List.take_succ_eq_append_getElem h, gv_snoc, List.length_take, Nat.min_eq_left (by omega), byte_at h]
theorem gv_lt (l : List UInt8) : gv l < 128 ^ l.length := by
  induction l with
  | nil => simp [gv]
  | cons c r ih =>
    rw [gv, List.length_cons, Nat.pow_succ]
    have := Nat.mod_lt c.toNat (show 0 < 128 by decide)
    omega
theorem gv_drop {l : List UInt8} {i : Nat} (h : i < l.length) : gv (l.drop i) = (l.getD i 0).toNat % 128 + 128 * gv (l.drop (i + 1)) := by
  rw [List.drop_eq_getElem_cons h, gv, byte_at h]
theorem gv_drop_le (l : List UInt8) (i : Nat) : gv (l.drop i) ≤ gv l := by
  induction i with
  | zero => exact Nat.le_refl _
  | succ n ih =>
    by_cases h : n < l.length
    · rw [gv_drop h] at ih; omega
    · rw [List.drop_of_length_le (by omega)]; exact Nat.zero_le _
/-- Ten groups that end as they may hold 64 bits. -/
theorem gv_64 {l : List UInt8} {n : Nat} (hn : n < 10) (hl : n < l.length) (h : ¬ (n = 9 ∧ 1 < (l.getD 9 0).toNat)) : gv (l.take (n + 1)) < 18446744073709551616 := by
  have h1 := gv_lt (l.take n)
  rw [List.length_take, Nat.min_eq_left (by omega)] at h1
  rw [gv_take hl]
  by_cases e : n = 9
  · subst e
    have : (l.getD 9 0).toNat ≤ 1 := by omega
    have : (l.getD 9 0).toNat % 128 ≤ 1 := by omega
    have := Nat.mul_le_mul_right (128 ^ 9) this
    simp only [show (128 : Nat) ^ 9 = 9223372036854775808 by decide] at *
    omega
  · have a := Nat.mod_lt (l.getD n 0).toNat (show 0 < 128 by decide)
    have b : gv (l.take n) + (l.getD n 0).toNat % 128 * 128 ^ n < 128 ^ (n + 1) := by
      rw [Nat.pow_succ]
      have := Nat.mul_le_mul_right (128 ^ n) (show (l.getD n 0).toNat % 128 ≤ 127 by omega)
      omega
    exact Nat.lt_of_lt_of_le b (Nat.le_trans (Nat.pow_le_pow_right (by decide) (show n + 1 ≤ 9 by omega)) (by decide))
theorem rdv_lt (most : Nat) (l : List UInt8) : (rdv most l).1 ≤ most ∧ (rdv most l).1 < 18446744073709551616 ∧ (rdv most l).2.1 ≤ l.length := by
  unfold rdv
  have := lead_le l
  repeat' split
  all_goals first
    | (refine ⟨Nat.zero_le _, by decide, Nat.zero_le _⟩; done)
    | (rename_i h1 h2 h3 h4 h5
       exact ⟨Nat.not_lt.1 h4, gv_64 (by omega) (by omega) h3, by show lead l + 1 ≤ l.length; omega⟩)

/-! What is written is read. -/
theorem lead_uv : ∀ (k u : Nat) (r : List UInt8), u < 128 ^ (k + 1) → lead (uvarint u ++ r) + 1 = (uvarint u).length
  | 0, u, r, h => by
    have h' : u < 128 := by simpa using h
    rw [uvarint_small h']
    have e : (u.toUInt8).toNat = u := toUInt8_toNat (by omega)
    show lead (u.toUInt8 :: r) + 1 = 1
    unfold lead
    rw [e, if_neg (by omega)]
  | k + 1, u, r, h => by
    by_cases h' : u < 128
    · rw [uvarint_small h']
      have e : (u.toUInt8).toNat = u := toUInt8_toNat (by omega)
      show lead (u.toUInt8 :: r) + 1 = 1
      unfold lead
      rw [e, if_neg (by omega)]
    · rw [uvarint_big (by omega)]
      have e : ((u % 128 + 128).toUInt8).toNat = u % 128 + 128 := toUInt8_toNat (by omega)
      have ih := lead_uv k (u / 128) r (by rw [Nat.pow_succ] at h; exact Nat.div_lt_of_lt_mul (by rw [Nat.mul_comm]; exact h))
      rw [List.cons_append]
      unfold lead
      rw [e, if_pos (by omega), List.length_cons, ih]
theorem gv_uv : ∀ (k u : Nat), u < 128 ^ (k + 1) → gv (uvarint u) = u
  | 0, u, h => by
    have h' : u < 128 := by simpa using h
    rw [uvarint_small h']
    simp only [gv]
    rw [toUInt8_toNat (by omega)]; omega
  | k + 1, u, h => by
    by_cases h' : u < 128
    · rw [uvarint_small h']
      simp only [gv]
      rw [toUInt8_toNat (by omega)]; omega
    · rw [uvarint_big (by omega)]
      have ih := gv_uv k (u / 128) (by rw [Nat.pow_succ] at h; exact Nat.div_lt_of_lt_mul (by rw [Nat.mul_comm]; exact h))
      rw [gv, ih, toUInt8_toNat (by omega)]
      omega
theorem uv_last : ∀ (k u : Nat), u < 128 ^ (k + 1) → 1 < (uvarint u).length → ((uvarint u).getD ((uvarint u).length - 1) 0).toNat ≠ 0
  | 0, u, h => by
    have h' : u < 128 := by simpa using h
    rw [uvarint_small h']; intro k; exact absurd k (Nat.lt_irrefl 1)
  | k + 1, u, h => by
    by_cases h' : u < 128
    · rw [uvarint_small h']; intro k; exact absurd k (Nat.lt_irrefl 1)
    · have ih := uv_last k (u / 128) (by rw [Nat.pow_succ] at h; exact Nat.div_lt_of_lt_mul (by rw [Nat.mul_comm]; exact h))
      rw [uvarint_big (by omega)]
      intro _
      have hp := uvarint_pos (u / 128)
      rw [List.length_cons, show (uvarint (u / 128)).length + 1 - 1 = ((uvarint (u / 128)).length - 1) + 1 by omega]
      show ((uvarint (u / 128)).getD ((uvarint (u / 128)).length - 1) 0).toNat ≠ 0
      by_cases h2 : 1 < (uvarint (u / 128)).length
      · exact ih h2
      · have hs : u / 128 < 128 := by
          rcases Nat.lt_or_ge (u / 128) 128 with g | g
          · exact g
          · exfalso
            rw [uvarint_big g, List.length_cons] at h2
            have := uvarint_pos (u / 128 / 128)
            omega
        rw [uvarint_small hs]
        show ((u / 128).toUInt8).toNat ≠ 0
        rw [toUInt8_toNat (by omega)]
        omega
theorem uv_ten : ∀ (u : Nat), u < 18446744073709551616 → (uvarint u).length = 10 → ((uvarint u).getD 9 0).toNat ≤ 1 := by
  intro u h h10
  have e := gv_uv 9 u (Nat.lt_of_lt_of_le h (by decide))
  have t := gv_take (l := uvarint u) (i := 9) (by omega)
  rw [List.take_of_length_le (by omega), e] at t
  have l9 := lead_uv 9 u [] (Nat.lt_of_lt_of_le h (by decide))
  rw [List.append_nil] at l9
  have hb : ¬ 128 ≤ ((uvarint u).getD 9 0).toNat := by
    intro g
    have := lead_more (uvarint u) 9 (by omega) (by omega) g
    omega
  rw [Nat.mod_eq_of_lt (by omega)] at t
  simp only [show (128 : Nat) ^ 9 = 9223372036854775808 by decide] at t
  omega
/-- A varint in front of any bytes is read. -/
theorem rdv_uv {most u : Nat} (h : u ≤ most) (h64 : u < 18446744073709551616) (r : List UInt8) : rdv most (uvarint u ++ r) = (u, (uvarint u).length, 0) := by
  have hk : u < 128 ^ (9 + 1) := Nat.lt_of_lt_of_le h64 (by decide)
  have l1 := lead_uv 9 u r hk
  have l2 := uvarint_length64 h64
  have l3 := uvarint_pos u
  have e1 : (uvarint u ++ r).take (lead (uvarint u ++ r) + 1) = uvarint u := by
    rw [l1, List.take_left]
  have e2 : ∀ j, j < (uvarint u).length → (uvarint u ++ r).getD j 0 = (uvarint u).getD j 0 := fun j hj => by
    rw [List.getD_eq_getElem?_getD, List.getElem?_append_left hj, ← List.getD_eq_getElem?_getD]
  have el : lead (uvarint u ++ r) = (uvarint u).length - 1 := by omega
  unfold rdv
  rw [e1, gv_uv 9 u hk]
  rw [if_neg (by omega), if_neg (by rw [List.length_append]; omega)]
  rw [if_neg (by
    rintro ⟨g1, g2⟩
    rw [e2 9 (by omega)] at g2
    have := uv_ten u h64 (by omega)
    omega)]
  rw [if_neg (by omega)]
  rw [if_neg (by
    rintro ⟨g1, g2⟩
    rw [e2 _ (by omega), el] at g2
    exact uv_last 9 u hk (by omega) g2)]
  rw [l1]
/-- What is read as a varint is the only one of its number. -/
theorem uv_of_gv : ∀ (l : List UInt8), l ≠ [] → lead l + 1 = l.length → ¬ (0 < lead l ∧ (l.getD (lead l) 0).toNat = 0) → uvarint (gv l) = l
  | [], h, _, _ => absurd rfl h
  | c :: r, _, hl, hz => by
    by_cases hc : 128 ≤ c.toNat
    · have e : lead (c :: r) = lead r + 1 := by
        show (if 128 ≤ c.toNat then lead r + 1 else 0) = _
        rw [if_pos hc]
      rw [e, List.length_cons] at hl
      have hr : r ≠ [] := by intro g; subst g; simp [lead] at hl
      rw [e] at hz
      have hz1 : ¬ (0 < lead r + 1 ∧ (r.getD (lead r) 0).toNat = 0) := hz
      have ih := uv_of_gv r hr (by omega) (by rintro ⟨g1, g2⟩; exact hz1 ⟨by omega, g2⟩)
      have h0 : 0 < gv r := by
        rcases Nat.eq_zero_or_pos (gv r) with g | g
        · exfalso
          rw [g] at ih
          have e2 : r = [(0 : Nat).toUInt8] := by rw [← ih]; exact uvarint_small (by decide)
          rw [e2] at hz1
          exact hz1 ⟨Nat.succ_pos _, by decide⟩
        · exact g
      have hb := c.toNat_lt
      rw [gv, uvarint_big (by omega)]
      rw [show (c.toNat % 128 + 128 * gv r) / 128 = gv r by omega, ih]
      congr 1
      apply UInt8.toNat_inj.1
      rw [toUInt8_toNat (by omega)]
      omega
    · have e : lead (c :: r) = 0 := by
        show (if 128 ≤ c.toNat then lead r + 1 else 0) = _
        rw [if_neg hc]
      rw [e, List.length_cons] at hl
      have hr : r = [] := List.length_eq_zero_iff.1 (by omega)
      subst hr
      rw [gv, gv, uvarint_small (by omega)]
      congr 1
      apply UInt8.toNat_inj.1
      rw [toUInt8_toNat (by omega)]
      omega
theorem lead_take : ∀ (l : List UInt8), lead (l.take (lead l + 1)) = lead l
  | [] => rfl
  | c :: r => by
    by_cases hc : 128 ≤ c.toNat
    · have e : lead (c :: r) = lead r + 1 := by
        show (if 128 ≤ c.toNat then lead r + 1 else 0) = _
        rw [if_pos hc]
      rw [e, List.take_succ_cons]
      show (if 128 ≤ c.toNat then lead (r.take (lead r + 1)) + 1 else 0) = _
      rw [if_pos hc, lead_take r]
    · have e : lead (c :: r) = 0 := by
        show (if 128 ≤ c.toNat then lead r + 1 else 0) = _
        rw [if_neg hc]
      rw [e]
      show (if 128 ≤ c.toNat then lead ([] : List UInt8) + 1 else 0) = _
      rw [if_neg hc]
theorem rdv_only {most : Nat} {l : List UInt8} (h : (rdv most l).2.2 = 0) : uvarint (rdv most l).1 = l.take (rdv most l).2.1 ∧ (rdv most l).1 ≤ most ∧ 0 < (rdv most l).2.1 ∧ (rdv most l).2.1 ≤ l.length := by
  have hl := lead_le l
  unfold rdv at h ⊢
  repeat' split at h
  all_goals first
    | (exact absurd h (by decide))
    | skip
  rename_i h1 h2 h3 h4 h5
  rw [if_neg h1, if_neg h2, if_neg h3, if_neg h4, if_neg h5]
  refine ⟨?_, Nat.not_lt.1 h4, Nat.succ_pos _, by show lead l + 1 ≤ l.length; omega⟩
  show uvarint (gv (l.take (lead l + 1))) = l.take (lead l + 1)
  refine uv_of_gv _ ?_ ?_ ?_
  · intro g
    have := congrArg List.length g
    rw [List.length_take, List.length_nil, Nat.min_eq_left (by omega)] at this
    omega
  · rw [lead_take, List.length_take, Nat.min_eq_left (by omega)]
  · rw [lead_take]
    rintro ⟨g1, g2⟩
    refine h5 ⟨g1, ?_⟩
    rw [List.getD_eq_getElem?_getD, List.getElem?_take_of_lt (by omega), ← List.getD_eq_getElem?_getD] at g2
    exact g2

/-! Zigzag forms. -/
def unzz (u : Nat) : Int := if u % 2 = 1 then -((u / 2 : Nat) : Int) - 1 else ((u / 2 : Nat) : Int)
theorem unzz_zz (n : Int) : unzz (zigzag n) = n := by
  unfold unzz zigzag
  split <;> split <;> omega
theorem zz_unzz (u : Nat) : zigzag (unzz u) = u := by
  unfold unzz zigzag
  split <;> split <;> omega
theorem unzz_in {u : Nat} (h : u < 18446744073709551616) : -9223372036854775808 ≤ unzz u ∧ unzz u ≤ 9223372036854775807 := by
  unfold unzz
  split <;> omega

/-! What Uint, Int and Str give: the number, the offset behind it, the code. -/
def uintV (l : List UInt8) (at_ : Int) : Int × Int × Int :=
  if at_ < 0 ∨ (l.length : Int) < at_ then (0, 0, 1)
  else (((rdv 9223372036854775807 (l.drop at_.toNat)).1 : Int), (if (rdv 9223372036854775807 (l.drop at_.toNat)).2.2 = 0 then at_ + (rdv 9223372036854775807 (l.drop at_.toNat)).2.1 else 0), ((rdv 9223372036854775807 (l.drop at_.toNat)).2.2 : Int))
def intV (l : List UInt8) (at_ : Int) : Int × Int × Int :=
  if at_ < 0 ∨ (l.length : Int) < at_ then (0, 0, 1)
  else (unzz (rdv 18446744073709551615 (l.drop at_.toNat)).1, (if (rdv 18446744073709551615 (l.drop at_.toNat)).2.2 = 0 then at_ + (rdv 18446744073709551615 (l.drop at_.toNat)).2.1 else 0), ((rdv 18446744073709551615 (l.drop at_.toNat)).2.2 : Int))
def strV (l : List UInt8) (at_ most : Int) : List UInt8 × Int × Int :=
  if (uintV l at_).2.2 ≠ 0 then ([], 0, (uintV l at_).2.2)
  else if most < (uintV l at_).1 then ([], 0, 4)
  else if (l.length : Int) - (uintV l at_).2.1 < (uintV l at_).1 then ([], 0, 3)
  else ((l.drop (uintV l at_).2.1.toNat).take (uintV l at_).1.toNat, (uintV l at_).2.1 + (uintV l at_).1, 0)

/-! The checksum. -/
theorem xor_nil {a b : Nat} (h : a ^^^ b = 0) : a = b := by
  have e := congrArg (fun n => n ^^^ b) h
  simpa [Nat.xor_assoc] using e
/-- One step of the division. -/
def cbit (c : Nat) : Nat := if c % 2 = 1 then (c / 2) ^^^ 3988292384 else c / 2
def cbits : Nat → Nat → Nat
  | 0, c => c
  | k + 1, c => cbits k (cbit c)
def cstep (c b : Nat) : Nat := cbits 8 (c ^^^ b)
def crcR (c : Nat) (l : List UInt8) : Nat := l.foldl (fun c b => cstep c b.toNat) c
def crc (l : List UInt8) : Nat := crcR 4294967295 l ^^^ 4294967295
def halfs : List Nat := [0x00000000, 0x1DB71064, 0x3B6E20C8, 0x26D930AC, 0x76DC4190, 0x6B6B51F4, 0x4DB26158, 0x5005713C, 0xEDB88320, 0xF00F9344, 0xD6D6A3E8, 0xCB61B38C, 0x9B64C2B0, 0x86D3D2D4, 0xA00AE278, 0xBDBDF21C]
def nib (c : Nat) : Nat := (c / 16) ^^^ halfs.getD (c % 16) 0
theorem xor_lt {a b : Nat} (ha : a < 4294967296) (hb : b < 4294967296) : a ^^^ b < 4294967296 := Nat.xor_lt_two_pow (n := 32) ha hb
theorem cbit_lt {c : Nat} (h : c < 4294967296) : cbit c < 4294967296 := by
  unfold cbit
  split
  · exact xor_lt (by omega) (by decide)
  · omega
theorem cbits_lt : ∀ (k : Nat) {c : Nat}, c < 4294967296 → cbits k c < 4294967296
  | 0, _, h => h
  | k + 1, _, h => cbits_lt k (cbit_lt h)
theorem xor_half (a b : Nat) : (a ^^^ b) / 2 = (a / 2) ^^^ (b / 2) := by
  have := Nat.shiftRight_xor_distrib (a := a) (b := b) (i := 1)
  simpa [Nat.shiftRight_succ] using this
theorem xor_odd (a b : Nat) : (a ^^^ b) % 2 = (a % 2 + b % 2) % 2 := by
  have h := Nat.testBit_xor a b 0
  simp only [Nat.testBit_zero] at h
  have ha := Nat.mod_two_eq_zero_or_one a
  have hb := Nat.mod_two_eq_zero_or_one b
  have hc := Nat.mod_two_eq_zero_or_one (a ^^^ b)
  rcases ha with ha | ha <;> rcases hb with hb | hb <;> rcases hc with hc | hc <;> simp_all
theorem cbit_xor (a b : Nat) : cbit (a ^^^ b) = cbit a ^^^ cbit b := by
  unfold cbit
  rw [xor_odd, xor_half]
  rcases Nat.mod_two_eq_zero_or_one a with ha | ha <;> rcases Nat.mod_two_eq_zero_or_one b with hb | hb <;> simp only [ha, hb]
  · rfl
  · show a / 2 ^^^ b / 2 ^^^ 3988292384 = a / 2 ^^^ (b / 2 ^^^ 3988292384)
    rw [Nat.xor_assoc]
  · show a / 2 ^^^ b / 2 ^^^ 3988292384 = a / 2 ^^^ 3988292384 ^^^ b / 2
    rw [Nat.xor_assoc, Nat.xor_assoc, Nat.xor_comm (b / 2)]
  · show a / 2 ^^^ b / 2 = (a / 2 ^^^ 3988292384) ^^^ (b / 2 ^^^ 3988292384)
    rw [Nat.xor_assoc, ← Nat.xor_assoc 3988292384, Nat.xor_comm 3988292384 (b / 2), Nat.xor_assoc (b / 2), Nat.xor_self, Nat.xor_zero]
theorem cbits_xor : ∀ (k a b : Nat), cbits k (a ^^^ b) = cbits k a ^^^ cbits k b
  | 0, _, _ => rfl
  | k + 1, a, b => by
    show cbits k (cbit (a ^^^ b)) = _
    rw [cbit_xor, cbits_xor k]; rfl
theorem cbit_double (x : Nat) : cbit (2 * x) = x := by
  unfold cbit
  rw [if_neg (by omega)]; omega
theorem cbits_mul : ∀ (k x : Nat), cbits k (2 ^ k * x) = x
  | 0, x => by show 2 ^ 0 * x = x; omega
  | k + 1, x => by
    show cbits k (cbit (2 ^ (k + 1) * x)) = x
    rw [show 2 ^ (k + 1) * x = 2 * (2 ^ k * x) by rw [Nat.pow_succ, Nat.mul_comm (2 ^ k) 2, Nat.mul_assoc], cbit_double, cbits_mul k]
theorem half_bits : ∀ r : Fin 16, cbits 4 r.val = halfs.getD r.val 0 := by decide +kernel
theorem split16 (c : Nat) : c = (2 ^ 4 * (c / 16)) ^^^ (c % 16) := by
  have h : 2 ^ 4 * (c / 16) + c % 16 = c := by omega
  have e := Nat.two_pow_add_eq_or_of_lt (i := 4) (b := c % 16) (by omega) (c / 16)
  have k : (2 ^ 4 * (c / 16)) &&& (c % 16) = 0 := by
    apply Nat.eq_of_testBit_eq
    intro i
    rw [Nat.testBit_and, Nat.zero_testBit, Nat.testBit_two_pow_mul]
    by_cases hi : 4 ≤ i
    · rw [Nat.testBit_lt_two_pow (x := c % 16) (Nat.lt_of_lt_of_le (show c % 16 < 2 ^ 4 by omega) (Nat.pow_le_pow_right (by decide) hi))]
      simp
    · simp [hi]
  apply Nat.eq_of_testBit_eq
  intro i
  have k2 := congrArg (fun n => n.testBit i) k
  have e2 := congrArg (fun n => n.testBit i) (h.symm.trans e)
  simp only [Nat.testBit_and, Nat.zero_testBit, Nat.testBit_or] at k2 e2
  rw [e2, Nat.testBit_xor]
  cases h1 : (2 ^ 4 * (c / 16)).testBit i <;> cases h2 : (c % 16).testBit i <;> simp_all
theorem nib_eq (c : Nat) : nib c = cbits 4 c := by
  conv => rhs; rw [split16 c]
  rw [cbits_xor, cbits_mul]
  have := half_bits ⟨c % 16, Nat.mod_lt _ (by decide)⟩
  rw [show cbits 4 (c % 16) = halfs.getD (c % 16) 0 from this]
  rfl
theorem nib_two (c : Nat) : nib (nib c) = cbits 8 c := by rw [nib_eq, nib_eq]; rfl
theorem nib_lt {c : Nat} (h : c < 4294967296) : nib c < 4294967296 := by rw [nib_eq]; exact cbits_lt 4 h
theorem cstep_lt {c b : Nat} (h : c < 4294967296) (hb : b < 4294967296) : cstep c b < 4294967296 := cbits_lt 8 (xor_lt h hb)
theorem crcR_lt : ∀ (l : List UInt8) {c : Nat}, c < 4294967296 → crcR c l < 4294967296
  | [], _, h => h
  | b :: r, _, h => crcR_lt r (cstep_lt h (by have := b.toNat_lt; omega))
theorem crc_lt (l : List UInt8) : crc l < 4294967296 := xor_lt (crcR_lt l (by decide)) (by decide)
theorem crcR_snoc (c : Nat) (l : List UInt8) (b : UInt8) : crcR c (l ++ [b]) = cstep (crcR c l) b.toNat := by
  unfold crcR
  rw [List.foldl_append]; rfl
theorem crcR_app (c : Nat) (l r : List UInt8) : crcR c (l ++ r) = crcR (crcR c l) r := by
  unfold crcR
  rw [List.foldl_append]
/-! A changed byte changes it. -/
theorem cbit_0 {c : Nat} (h : c < 4294967296) (e : cbit c = 0) : c = 0 := by
  unfold cbit at e
  split at e
  · have := xor_nil e
    omega
  · omega
theorem cbits_0 : ∀ (k : Nat) {c : Nat}, c < 4294967296 → cbits k c = 0 → c = 0
  | 0, _, _, e => e
  | k + 1, _, h, e => cbit_0 h (cbits_0 k (cbit_lt h) e)
theorem cbits_inj {k a b : Nat} (ha : a < 4294967296) (hb : b < 4294967296) (e : cbits k a = cbits k b) : a = b := by
  have h : cbits k (a ^^^ b) = 0 := by rw [cbits_xor, e, Nat.xor_self]
  exact xor_nil (cbits_0 k (xor_lt ha hb) h)
theorem cstep_inj1 {a b x : Nat} (ha : a < 4294967296) (hb : b < 4294967296) (hx : x < 4294967296) (e : cstep a x = cstep b x) : a = b := by
  have := cbits_inj (xor_lt ha hx) (xor_lt hb hx) e
  have h2 := congrArg (fun n => n ^^^ x) this
  simpa [Nat.xor_assoc] using h2
theorem cstep_inj2 {c x y : Nat} (hc : c < 4294967296) (hx : x < 4294967296) (hy : y < 4294967296) (e : cstep c x = cstep c y) : x = y := by
  have := cbits_inj (xor_lt hc hx) (xor_lt hc hy) e
  have h2 := congrArg (fun n => c ^^^ n) this
  simpa [← Nat.xor_assoc] using h2
theorem crcR_inj : ∀ (l : List UInt8) {a b : Nat}, a < 4294967296 → b < 4294967296 → crcR a l = crcR b l → a = b
  | [], _, _, _, _, e => e
  | x :: r, a, b, ha, hb, e => by
    have hx : x.toNat < 4294967296 := by have := x.toNat_lt; omega
    exact cstep_inj1 ha hb hx (crcR_inj r (cstep_lt ha hx) (cstep_lt hb hx) e)
theorem crc_changed {p r : List UInt8} {x y : UInt8} (h : x ≠ y) : crc (p ++ x :: r) ≠ crc (p ++ y :: r) := by
  intro e
  have e1 := congrArg (fun n => n ^^^ 4294967295) e
  simp only [crc, Nat.xor_assoc, Nat.xor_self, Nat.xor_zero] at e1
  rw [crcR_app, crcR_app] at e1
  have hp := crcR_lt p (c := 4294967295) (by decide)
  have hx : x.toNat < 4294967296 := by have := x.toNat_lt; omega
  have hy : y.toNat < 4294967296 := by have := y.toNat_lt; omega
  have e2 := crcR_inj r (cstep_lt hp hx) (cstep_lt hp hy) e1
  exact h (UInt8.toNat_inj.1 (cstep_inj2 hp hx hy e2))

/-! Frames. -/
def le4 (s : Nat) : List UInt8 := [(s % 256).toUInt8, (s / 256 % 256).toUInt8, (s / 65536 % 256).toUInt8, (s / 16777216 % 256).toUInt8]
def frameV (l : List UInt8) : List UInt8 := uvarint l.length ++ l ++ le4 (crc l)
/-- What Unframe gives. -/
def unframeV (l : List UInt8) (at_ : Int) : List UInt8 × Int × Int :=
  if (uintV l at_).2.2 ≠ 0 then ([], 0, (uintV l at_).2.2)
  else if (l.length : Int) - (uintV l at_).2.1 - 4 < (uintV l at_).1 then ([], 0, 3)
  else if le4 (crc ((l.drop (uintV l at_).2.1.toNat).take (uintV l at_).1.toNat)) ≠ (l.drop ((uintV l at_).2.1 + (uintV l at_).1).toNat).take 4 then ([], 0, 21)
  else ((l.drop (uintV l at_).2.1.toNat).take (uintV l at_).1.toNat, (uintV l at_).2.1 + (uintV l at_).1 + 4, 0)
end Go.Proofs.YtehmdeponbhhjaaDoor
