/-
  FrP; NumT; FrX; FzE: texts of one kind in one file; each part says what it holds.
-/
import Derived.Test.YteonkiajgfkieaaGreatDoorM04
import Derived.Test.YteonkiajgfkieaaGreatDoorM00
import Derived.Test.YteonkiajgfkieaaGreatDoorM06
import Derived.Test.YteonkiajgfkieaaGreatDoorM05
import Derived.Laws.IdiomStrings
import Derived.Lib.ItoaLen
import Derived.Lib.Hide
import Derived.Deep.RegionHeld3
import Derived.Test.YteonkiajgfkieaaGreatDoorShelf
import Derived.FnData
import Derived.Test.YteonkiajgfkieaaGreatDoorM07

/-! The reference of package frac: digits gives the decimal numeral of an int, Text the numeral of a valid fraction, an empty string for any other one. Nothing that was there turns. -/
namespace Go.Proofs.YteonkiajgfkieaaGreatDoor
open Go.RowKit
open Go.Lib (decDigits)

/-- The numeral of an int. -/
def txt (n : Int) : ByteArray := ⟨(Lib.itoa n).toArray⟩
theorem txt_size (n : Int) (h0 : -9223372036854775808 ≤ n) (h1 : n ≤ 9223372036854775807) : (txt n).size ≤ 21 := by
  have k := Lib.itoa_length_le n h0 h1
  show (Lib.itoa n).toArray.size ≤ 21
  simpa using k
/-- The digits that are not written yet. -/
def pre (u : Nat) : List UInt8 := if u = 0 then [] else decDigits u
/-- The text of a fraction. -/
def fracTxt (n d : Int) : ByteArray := if d = 1 then txt n else txt n ++ ⟨#[47]⟩ ++ txt d
def texV (n d : Int) : ByteArray := if okF n d = true then fracTxt n d else ⟨#[]⟩

end Go.Proofs.YteonkiajgfkieaaGreatDoor

/-! Package num: Text returns the decimal numeral of every int value. Condition: in the world at the call the table of powers of ten of the library reads as its initialiser lays it (Good). -/
namespace Go.Proofs.YteonkiajgfkieaaGreatDoor
open Go.RowKit


theorem var_on {P : Program} {w w' : World} {n : String} {cs : Array Value} (h : w.var? P n = some cs) (hb : Fuw w w') : w'.var? P n = some cs := by
  unfold World.var? at *
  cases hg : P.globalNamed n with
  | none => simp [hg] at h
  | some g =>
    simp only [hg, Option.bind_some] at h ⊢
    have hlt : g < w.heap.size := by
      rcases Nat.lt_or_ge g w.heap.size with h' | h'
      · exact h'
      · rw [Array.getElem?_eq_none h'] at h; simp at h
    rw [Below.block hb g hlt]
    exact h
/-- The listed variables read as laid. -/
structure Good (w : World) : Prop where
  tab : Lib.TabIs Tryz.prog w "internal/strconv.uint64pow10" .u64 Lib.pow10Tab
  mx : ∃ m, w.cell? ⟨0, 0, none⟩ = some (.int .i64 m)
theorem Good.onw {w w' : World} (h : Good w) (hb : Fuw w w') : Good w' :=
  ⟨var_on h.tab hb, h.mx.imp fun _ k => cellOnw hb k⟩
theorem Good.on {w w' : World} (h : Good w) (hb : Fur w w') : Good w' := h.onw hb.b
theorem fur_grow (w : World) (k : Nat) (os : Array Obj) : Fur w (Go.Sort.grow (w.drewN k) os) :=
  ⟨⟨rfl, rfl, rfl, by show w.heap.size ≤ (w.heap ++ os).size; rw [Array.size_append]; omega, fun j hj => by
    show (w.heap ++ os)[j]? = w.heap[j]?
    rw [Array.getElem?_append_left hj]⟩, Nat.le_add_right _ _⟩
theorem num_text (n : Int) (h0 : -9223372036854775808 ≤ n) (h1 : n ≤ 9223372036854775807) (w : World) (G : Good w) :
    Calls Tryz.prog 52 #[.int .i64 n] w fun e w' => e = .returned (.string (txt n)) ∧ Fur w w' := by
  go_enter Tryz.func52, Tryz.ntmps52
  go_wp2_with (go_at_call 84; refine (Tryz.strconv_Itoa n h0 h1 _ G.tab).mono ?_; rintro e w' ⟨rfl, k, os, rfl⟩)
  go_ret
  exact ⟨rfl, fur_grow _ _ _⟩
end Go.Proofs.YteonkiajgfkieaaGreatDoor

/-! Package frac: wide numbers: plus, sign, abs, gcd and over do what they should, for every number of less than 2^100 in size (a divisor from 1 to 10^15). Nothing that was there turns. -/
namespace Go.Proofs.YteonkiajgfkieaaGreatDoor
open Go.RowKit Go.Shelf

theorem wbox3 (w : World) (a b c d e f : Int) :
    WBox (((w.alloc (.cells #[.int .u64 a, .int .u64 b] 91)).alloc (.cells #[.int .u64 c, .int .u64 d] 91)).alloc (.cells #[.int .u64 e, .int .u64 f] 91)) w.heap.size a b ∧
    WBox (((w.alloc (.cells #[.int .u64 a, .int .u64 b] 91)).alloc (.cells #[.int .u64 c, .int .u64 d] 91)).alloc (.cells #[.int .u64 e, .int .u64 f] 91)) (w.heap.size + 1) c d ∧
    WBox (((w.alloc (.cells #[.int .u64 a, .int .u64 b] 91)).alloc (.cells #[.int .u64 c, .int .u64 d] 91)).alloc (.cells #[.int .u64 e, .int .u64 f] 91)) (w.heap.size + 1 + 1) e f ∧
    Fur w (((w.alloc (.cells #[.int .u64 a, .int .u64 b] 91)).alloc (.cells #[.int .u64 c, .int .u64 d] 91)).alloc (.cells #[.int .u64 e, .int .u64 f] 91)) := by
  obtain ⟨p0, f0⟩ := wbox1 w a b
  have s0 : (w.alloc (.cells #[.int .u64 a, .int .u64 b] 91)).heap.size = w.heap.size + 1 := by simp
  generalize w.alloc (.cells #[.int .u64 a, .int .u64 b] 91) = w1 at *
  obtain ⟨p1, f1⟩ := wbox1 w1 c d
  have s1 : (w1.alloc (.cells #[.int .u64 c, .int .u64 d] 91)).heap.size = w.heap.size + 1 + 1 := by simp [s0]
  rw [s0] at p1
  generalize w1.alloc (.cells #[.int .u64 c, .int .u64 d] 91) = w2 at *
  obtain ⟨p2, f2⟩ := wbox1 w2 e f
  rw [s1] at p2
  exact ⟨(p0.on f1).on f2, p1.on f2, p2, (f0.trans f1).trans f2⟩

theorem plus_hi (A B : Int) : (hiW A + hiW B + (loW A + loW B) / 18446744073709551616) % 18446744073709551616 = hiW (A + B) := by unfold hiW loW; omega
theorem plus_lo (A B : Int) : (loW A + loW B) % 18446744073709551616 = loW (A + B) := by unfold loW; omega
set_option maxHeartbeats 800000 in
theorem plus_any (A B : Int) (w : World) :
    Calls Tryz.prog 80 #[.agg #[.int .u64 (hiW A), .int .u64 (loW A)], .agg #[.int .u64 (hiW B), .int .u64 (loW B)]] w (RetV w (A + B)) := by
  obtain ⟨p0, p1, p2, f0⟩ := wbox3 w (hiW A) (loW A) (hiW B) (loW B) 0 0
  have c00 := p0.c0
  have c01 := p0.c1
  have c10 := p1.c0
  have c11 := p1.c1
  have z20 := p2.f0 0
  have z21 := p2.f0 1
  have HH := Lib.hid (plus_hi A B)
  have HL := Lib.hid (plus_lo A B)
  have a0 := hiW_0 A; have a1 := hiW_1 A; have a2 := loW_0 A; have a3 := loW_1 A
  have b0 := hiW_0 B; have b1 := hiW_1 B; have b2 := loW_0 B; have b3 := loW_1 B
  have k0 : 0 ≤ (loW A + loW B) / 18446744073709551616 := by omega
  have k1 : (loW A + loW B) / 18446744073709551616 ≤ 1 := by omega
  generalize hiW A = ha at *
  generalize loW A = la at *
  generalize hiW B = hb at *
  generalize loW B = lb at *
  go_enter Tryz.func80, Tryz.ntmps80
  go_wp2_with (first | simp only [add64_0 la lb a2 b2 a3 b3] | simp only [add64 ha hb _ a0 b0 k0 k1 a1 b1])
  exact w_ret_at rfl rfl (by simp) (((Fur.refl w).alloc _).alloc _) HH.out HL.out

theorem or_word {A : Int} : bits .or .u64 (hiW A) (loW A) = (((hiW A).toNat ||| (loW A).toNat : Nat) : Int) := by
  have a0 := hiW_0 A; have a1 := hiW_1 A; have a2 := loW_0 A; have a3 := loW_1 A
  have e1 : hiW A = (((hiW A).toNat : Nat) : Int) := by omega
  have e2 : loW A = (((loW A).toNat : Nat) : Int) := by omega
  have k := bits_or_u64_nat (hiW A).toNat (loW A).toNat (by omega) (by omega)
  rw [← e1, ← e2] at k
  exact k
theorem or_nz {A : Int} (h : 0 < A) (l1 : A < 1000000000000000000000000000000000000) : (bits .or .u64 (hiW A) (loW A) == 0) = false := by
  rw [or_word, beq_eq_false_iff_ne]
  intro e
  have e' : (hiW A).toNat ||| (loW A).toNat = 0 := by omega
  rw [Nat.or_eq_zero_iff] at e'
  have a0 := hiW_0 A; have a2 := loW_0 A
  unfold hiW loW at *
  omega
set_option maxHeartbeats 800000 in
theorem sign_any (A : Int) (l0 : -1000000000000000000000000000000000000 < A) (l1 : A < 1000000000000000000000000000000000000) (w : World) :
    Calls Tryz.prog 81 #[.agg #[.int .u64 (hiW A), .int .u64 (loW A)]] w (RetI w A.sign) := by
  obtain ⟨p0, f0⟩ := wbox1 w (hiW A) (loW A)
  have c00 := p0.c0
  have c01 := p0.c1
  have FF := Lib.hid f0
  clear f0 p0
  have a0 := hiW_0 A; have a1 := hiW_1 A; have a2 := loW_0 A; have a3 := loW_1 A
  rcases Int.lt_trichotomy A 0 with h | h | h
  · have k : (hiW A / 9223372036854775808 == 1) = true := by rw [beq_iff_eq]; unfold hiW; omega
    rw [Int.sign_eq_neg_one_of_neg h]
    clear h l0 l1
    generalize hiW A = ha at *
    generalize loW A = la at *
    go_enter Tryz.func81, Tryz.ntmps81
    go_wp2
    go_ret
    exact ⟨rfl, FF.out⟩
  · subst h
    have k : (hiW 0 / 9223372036854775808 == 1) = false := rfl
    have k2 : (bits .or .u64 (hiW 0) (loW 0) == 0) = true := rfl
    rw [show Int.sign 0 = 0 from rfl]
    generalize hiW 0 = ha at *
    generalize loW 0 = la at *
    go_enter Tryz.func81, Tryz.ntmps81
    go_wp2
    go_ret
    exact ⟨rfl, FF.out⟩
  · have k : (hiW A / 9223372036854775808 == 1) = false := by rw [beq_eq_false_iff_ne]; unfold hiW; omega
    have k2 := or_nz h l1
    rw [Int.sign_eq_one_of_pos h]
    clear h l0 l1
    generalize hiW A = ha at *
    generalize loW A = la at *
    go_enter Tryz.func81, Tryz.ntmps81
    go_wp2
    go_ret
    exact ⟨rfl, FF.out⟩

end Go.Proofs.YteonkiajgfkieaaGreatDoor

/-! Package frac: Add gives the fraction of the sum of two valid fractions and true, or no fraction and false. For every two pairs of ints; nothing that was there turns. -/
namespace Go.Proofs.YteonkiajgfkieaaGreatDoor
open Go.RowKit

theorem WBox.put {W : World} {B : Nat} {a b : Int} (h : WBox W B a b) (n d : Int) : WBox ((W.setCell ⟨B, 0, none⟩ (.int .u64 n)).setCell ⟨B, 1, none⟩ (.int .u64 d)) B n d := by
  unfold WBox at *
  simp [World.setCell, Array.getElem?_modify, h]
theorem mul_bound {x p : Int} (a : -1000000000000000 ≤ x) (b : x ≤ 1000000000000000) (c : 0 ≤ p) (d : p ≤ 1000000000000000) : (x * p).natAbs ≤ 1000000000000000000000000000000 := by
  rw [Int.natAbs_mul]
  have k := Nat.mul_le_mul (show x.natAbs ≤ 1000000000000000 by omega) (show p.natAbs ≤ 1000000000000000 by omega)
  omega
theorem keep4 {v v' : World} {p0 p1 p2 p3 : Addr} {x0 x1 x2 x3 : Value} (hf : Fur v v') (h0 : v.cell? p0 = some x0) (h1 : v.cell? p1 = some x1) (h2 : v.cell? p2 = some x2) (h3 : v.cell? p3 = some x3) :
    Fur v v' ∧ v'.cell? p0 = some x0 ∧ v'.cell? p1 = some x1 ∧ v'.cell? p2 = some x2 ∧ v'.cell? p3 = some x3 := ⟨hf, cellOn hf h0, cellOn hf h1, cellOn hf h2, cellOn hf h3⟩
end Go.Proofs.YteonkiajgfkieaaGreatDoor
