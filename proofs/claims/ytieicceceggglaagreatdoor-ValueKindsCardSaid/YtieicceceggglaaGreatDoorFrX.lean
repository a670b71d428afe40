
/-
  Package frac: wide numbers: plus, sign, abs, gcd and over do what they should, for every number of less than 2^100 in size (a divisor from 1 to 10^15). Nothing that was there turns.
-/
import Derived.Test.YtieicceceggglaaGreatDoorFrW
import Derived.Test.YtieicceceggglaaGreatDoorNumA
import Derived.Deep.RegionHeld3
namespace Go.Proofs.YtieicceceggglaaGreatDoor
open Go.RowKit Go.Shelf

theorem wbox3 (w : World) (a b c d e f : Int) :
    WBox (((w.alloc (.cells #[.int .u64 a, .int .u64 b] 108)).alloc (.cells #[.int .u64 c, .int .u64 d] 108)).alloc (.cells #[.int .u64 e, .int .u64 f] 108)) w.heap.size a b ∧
    WBox (((w.alloc (.cells #[.int .u64 a, .int .u64 b] 108)).alloc (.cells #[.int .u64 c, .int .u64 d] 108)).alloc (.cells #[.int .u64 e, .int .u64 f] 108)) (w.heap.size + 1) c d ∧
    WBox (((w.alloc (.cells #[.int .u64 a, .int .u64 b] 108)).alloc (.cells #[.int .u64 c, .int .u64 d] 108)).alloc (.cells #[.int .u64 e, .int .u64 f] 108)) (w.heap.size + 1 + 1) e f ∧
    Fur w (((w.alloc (.cells #[.int .u64 a, .int .u64 b] 108)).alloc (.cells #[.int .u64 c, .int .u64 d] 108)).alloc (.cells #[.int .u64 e, .int .u64 f] 108)) := by
  obtain ⟨p0, f0⟩ := wbox1 w a b
  have s0 : (w.alloc (.cells #[.int .u64 a, .int .u64 b] 108)).heap.size = w.heap.size + 1 := by simp
  generalize w.alloc (.cells #[.int .u64 a, .int .u64 b] 108) = w1 at *
  obtain ⟨p1, f1⟩ := wbox1 w1 c d
  have s1 : (w1.alloc (.cells #[.int .u64 c, .int .u64 d] 108)).heap.size = w.heap.size + 1 + 1 := by simp [s0]
  rw [s0] at p1
  generalize w1.alloc (.cells #[.int .u64 c, .int .u64 d] 108) = w2 at *
  obtain ⟨p2, f2⟩ := wbox1 w2 e f
  rw [s1] at p2
  exact ⟨(p0.on f1).on f2, p1.on f2, p2, (f0.trans f1).trans f2⟩

theorem plus_hi (A B : Int) : (hiW A + hiW B + (loW A + loW B) / 18446744073709551616) % 18446744073709551616 = hiW (A + B) := by unfold hiW loW; omega
theorem plus_lo (A B : Int) : (loW A + loW B) % 18446744073709551616 = loW (A + B) := by unfold loW; omega
set_option maxHeartbeats 800000 in
theorem plus_any (A B : Int) (w : World) :
    Calls Tryz.prog 120 #[.agg #[.int .u64 (hiW A), .int .u64 (loW A)], .agg #[.int .u64 (hiW B), .int .u64 (loW B)]] w (RetV w (A + B)) := by
  obtain ⟨p0, p1, p2, f0⟩ := wbox3 w (hiW A) (loW A) (hiW B) (loW B) 0 0
  have c00 := p0.c0
  have c01 := p0.c1
  have c10 := p1.c0
  have c11 := p1.c1
  have z20 := p2.f0 0
  have z21 := p2.f0 1
  have HH := Lib.hid (plus_hi A B)
  have HL := Lib.hid (plus_lo A B)
  have a0 := hiW_0 A; have a1 := hiW_1 A; have a2 := loW_0 A; have a3 := loW_1 A
  have b0 := hiW_0 B; have b1 := hiW_1 B; have b2 := loW_0 B; have b3 := loW_1 B
  have k0 : 0 ≤ (loW A + loW B) / 18446744073709551616 := by omega
  have k1 : (loW A + loW B) / 18446744073709551616 ≤ 1 := by omega
  generalize hiW A = ha at *
  generalize loW A = la at *
  generalize hiW B = hb at *
  generalize loW B = lb at *
  go_enter Tryz.func120, Tryz.ntmps120
  go_wp2_with (first | simp only [add64_0 la lb a2 b2 a3 b3] | simp only [add64 ha hb _ a0 b0 k0 k1 a1 b1])
  exact w_ret_at rfl rfl (by simp) (((Fur.refl w).alloc _).alloc _) HH.out HL.out

theorem or_word {A : Int} : bits .or .u64 (hiW A) (loW A) = (((hiW A).toNat ||| (loW A).toNat : Nat) : Int) := by
  have a0 := hiW_0 A; have a1 := hiW_1 A; have a2 := loW_0 A; have a3 := loW_1 A
  have e1 : hiW A = (((hiW A).toNat : Nat) : Int) := by omega
  have e2 : loW A = (((loW A).toNat : Nat) : Int) := by omega
  have k := bits_or_u64_nat (hiW A).toNat (loW A).toNat (by omega) (by omega)
  rw [← e1, ← e2] at k
  exact k
theorem or_nz {A : Int} (h : 0 < A) (l1 : A < 1000000000000000000000000000000000000) : (bits .or .u64 (hiW A) (loW A) == 0) = false := by
  rw [or_word, beq_eq_false_iff_ne]
  intro e
  have e' : (hiW A).toNat ||| (loW A).toNat = 0 := by omega
  rw [Nat.or_eq_zero_iff] at e'
  have a0 := hiW_0 A; have a2 := loW_0 A
  unfold hiW loW at *
  omega
set_option maxHeartbeats 800000 in
theorem sign_any (A : Int) (l0 : -1000000000000000000000000000000000000 < A) (l1 : A < 1000000000000000000000000000000000000) (w : World) :
    Calls Tryz.prog 121 #[.agg #[.int .u64 (hiW A), .int .u64 (loW A)]] w (RetI w A.sign) := by
  obtain ⟨p0, f0⟩ := wbox1 w (hiW A) (loW A)
  have c00 := p0.c0
  have c01 := p0.c1
  have FF := Lib.hid f0
  clear f0 p0
  have a0 := hiW_0 A; have a1 := hiW_1 A; have a2 := loW_0 A; have a3 := loW_1 A
  rcases Int.lt_trichotomy A 0 with h | h | h
  · have k : (hiW A / 9223372036854775808 == 1) = true := by rw [beq_iff_eq]; unfold hiW; omega
    rw [Int.sign_eq_neg_one_of_neg h]
    clear h l0 l1
    generalize hiW A = ha at *
    generalize loW A = la at *
    go_enter Tryz.func121, Tryz.ntmps121
    go_wp2
    go_ret
    exact ⟨rfl, FF.out⟩
  · subst h
    have k : (hiW 0 / 9223372036854775808 == 1) = false := rfl
    have k2 : (bits .or .u64 (hiW 0) (loW 0) == 0) = true := rfl
    rw [show Int.sign 0 = 0 from rfl]
    generalize hiW 0 = ha at *
    generalize loW 0 = la at *
    go_enter Tryz.func121, Tryz.ntmps121
    go_wp2
    go_ret
    exact ⟨rfl, FF.out⟩
  · have k : (hiW A / 9223372036854775808 == 1) = false := by rw [beq_eq_false_iff_ne]; unfold hiW; omega
    have k2 := or_nz h l1
    rw [Int.sign_eq_one_of_pos h]
    clear h l0 l1
    generalize hiW A = ha at *
    generalize loW A = la at *
    go_enter Tryz.func121, Tryz.ntmps121
    go_wp2
    go_ret
    exact ⟨rfl, FF.out⟩

end Go.Proofs.YtieicceceggglaaGreatDoor
