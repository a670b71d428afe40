/-
  math/bits.Div64: the quotient and the remainder of 128 bits by 64, where the upper half is less than the divisor. For every such three words; nothing that was there turns.
-/
import Derived.Test.YtdkmfhlmeildmaaDoorDivM
import Derived.Test.YtdkmfhlmeildmaaDoorShelf
import Derived.Test.YtdkmfhlmeildmaaDoorFrMem
import Derived.Deep.CutBlock
import Derived.Deep.LoopGhost
import Derived.Deep.CutRange
import Derived.Lib.Hide
namespace Go.Proofs.YtdkmfhlmeildmaaDoor
open Go.RowKit

/-- The divisor is shifted up until its first bit is set. -/
theorem norm_of {y : Nat} (h0 : y ≠ 0) (hy : y < 18446744073709551616) : ∃ s : Nat, (64 - (Lib.bitLen ((y : Int).toNat) : Int)) = s ∧ s ≤ 63 ∧ 9223372036854775808 ≤ y * 2 ^ s ∧ y * 2 ^ s < 18446744073709551616 := by
  rw [Int.toNat_natCast]
  have up : ∀ n x : Nat, x ≤ n → x < 18446744073709551616 → x < 2 ^ Lib.bitLen x := by
    intro n
    induction n with
    | zero => intro x hx _; rw [show x = 0 by omega]; exact Nat.two_pow_pos _
    | succ n ih =>
      intro x hx hl
      by_cases hz : x = 0
      · rw [hz]; exact Nat.two_pow_pos _
      · rw [Lib.bitLen_half x hz (by omega), Nat.add_comm, Nat.pow_succ]
        have k := ih (x / 2) (by omega) (by omega)
        omega
  have lo : 2 ^ (Lib.bitLen y - 1) ≤ y := by
    apply Nat.le_of_not_lt
    intro k
    have b1 : Lib.bitLen y = 1 + Lib.bitLen (y / 2) := Lib.bitLen_half y h0 (by omega)
    have b2 := Lib.bitLen_le y 64 (by omega) (by omega)
    have b3 := Lib.bitLen_le y (Lib.bitLen y - 1) (by omega) k
    omega
  have hi := up y y (Nat.le_refl _) hy
  have b1 : Lib.bitLen y = 1 + Lib.bitLen (y / 2) := Lib.bitLen_half y h0 (by omega)
  have b2 := Lib.bitLen_le y 64 (by omega) (by omega)
  generalize Lib.bitLen y = b at *
  refine ⟨64 - b, by omega, by omega, ?_, ?_⟩
  · have k := Nat.mul_le_mul_right (2 ^ (64 - b)) lo
    rw [← Nat.pow_add, show b - 1 + (64 - b) = 63 by omega] at k
    omega
  · have k := Nat.mul_lt_mul_of_pos_right hi (Nat.two_pow_pos (64 - b))
    rw [← Nat.pow_add, show b + (64 - b) = 64 by omega] at k
    omega
theorem cast_shl (a s : Nat) : (a : Int) * 2 ^ s = ((a * 2 ^ s : Nat) : Int) := by rw [Int.natCast_mul, Int.natCast_pow]; rfl
theorem cast_shr (a s : Nat) : (a : Int) / 2 ^ s = ((a / 2 ^ s : Nat) : Int) := by rw [Int.natCast_ediv, Int.natCast_pow]; rfl
theorem split_of {hi lo y s : Nat} (hs : s ≤ 63) (hh : hi < y) (hl : lo < 18446744073709551616) (n2 : y * 2 ^ s < 18446744073709551616) :
    IntKind.u64.wrap ((y : Int) * 2 ^ s) = ((y * 2 ^ s : Nat) : Int) ∧
    bits .or .u64 (IntKind.u64.wrap ((hi : Int) * 2 ^ s)) ((lo : Int) / 2 ^ (64 - s)) = ((hi * 2 ^ s + lo / 2 ^ (64 - s) : Nat) : Int) ∧
    IntKind.u64.wrap ((lo : Int) * 2 ^ s) = ((lo * 2 ^ s % 18446744073709551616 : Nat) : Int) ∧
    hi * 2 ^ s + lo / 2 ^ (64 - s) < y * 2 ^ s := by
  have ls : lo / 2 ^ (64 - s) < 2 ^ s := by
    rw [Nat.div_lt_iff_lt_mul (Nat.two_pow_pos _), ← Nat.pow_add, show s + (64 - s) = 64 by omega]
    omega
  have m : (hi + 1) * 2 ^ s ≤ y * 2 ^ s := Nat.mul_le_mul_right _ hh
  rw [Nat.add_mul, Nat.one_mul] at m
  have g1 : hi * 2 ^ s < 18446744073709551616 := Nat.lt_of_le_of_lt (Nat.le_trans (Nat.le_add_right _ _) m) n2
  have g2 : lo / 2 ^ (64 - s) < 18446744073709551616 := Nat.lt_of_le_of_lt (Nat.div_le_self _ _) hl
  refine ⟨?_, ?_, ?_, Nat.lt_of_lt_of_le (Nat.add_lt_add_left ls _) m⟩
  · rw [cast_shl, Mul64.wrapN _ n2]
  · rw [cast_shl, cast_shr, Mul64.wrapN _ g1, bits_or_u64_nat _ _ g1 g2, Nat.mul_comm, ← Nat.two_pow_add_eq_or_of_lt ls, Nat.mul_comm]
  · rw [cast_shl, Mul64.wrapM]
theorem num_of {hi lo s : Nat} (hs : s ≤ 63) : (hi * 18446744073709551616 + lo) * 2 ^ s = (hi * 2 ^ s + lo / 2 ^ (64 - s)) * 18446744073709551616 + lo * 2 ^ s % 18446744073709551616 := by
  have e : lo * 2 ^ s / 18446744073709551616 = lo / 2 ^ (64 - s) := by
    rw [show (18446744073709551616 : Nat) = 2 ^ (64 - s) * 2 ^ s by rw [← Nat.pow_add, show 64 - s + s = 64 by omega], Nat.mul_div_mul_right _ _ (Nat.two_pow_pos s)]
  have k := Nat.div_add_mod (lo * 2 ^ s) 18446744073709551616
  rw [e] at k
  rw [Nat.add_mul, Nat.add_mul, Nat.mul_right_comm]
  omega
theorem scale_of {N y : Nat} (s : Nat) (_h : 0 < y) : N * 2 ^ s / (y * 2 ^ s) = N / y ∧ N * 2 ^ s % (y * 2 ^ s) / 2 ^ s = N % y := by
  rw [Nat.mul_div_mul_right _ _ (Nat.two_pow_pos s), Nat.mul_mod_mul_right, Nat.mul_div_cancel _ (Nat.two_pow_pos s)]
  exact ⟨rfl, rfl⟩
theorem ret_uu {a b c d : Int} (h1 : a = b) (h2 : c = d) : Ending.returned (.tuple #[.int .u64 a, .int .u64 c]) = .returned (.tuple #[.int .u64 b, .int .u64 d]) := by rw [h1, h2]
theorem ret_u {a b : Nat} (h : a = b) : Value.int .u64 (a : Int) = .int .u64 (b : Int) := by rw [h]

set_option maxHeartbeats 1600000 in
set_option maxRecDepth 100000 in
theorem div64_big (hi lo y : Nat) (h0 : hi ≠ 0) (hh : hi < y) (hl : lo < 18446744073709551616) (hy : y < 18446744073709551616) (w : World) :
    Calls Tryd.prog 60 #[.int .u64 hi, .int .u64 lo, .int .u64 y] w fun e w' => e = .returned (.tuple #[.int .u64 ((hi * 18446744073709551616 + lo) / y : Nat), .int .u64 ((hi * 18446744073709551616 + lo) % y : Nat)]) ∧ Fur w w' := by
  have hne : ((hi : Int) == 0) = false := by rw [beq_eq_false_iff_ne]; omega
  have hyne : ((y : Int) == 0) = false := by rw [beq_eq_false_iff_ne]; omega
  have CL := Lib.hid (fun w => Tryd.bits_LeadingZeros64 y w (by omega) (by omega))
  obtain ⟨s, hs, hs64, n1, n2⟩ := norm_of (y := y) (by omega) hy
  rw [hs] at CL
  obtain ⟨e1, e2, e3, e4⟩ := split_of hs64 hh hl n2
  have eN := num_of (hi := hi) (lo := lo) hs64
  obtain ⟨R1, hR1⟩ : ∃ R, (hi * 18446744073709551616 + lo) % y = R := ⟨_, rfl⟩
  have eR := scale_of (N := hi * 18446744073709551616 + lo) (y := y) s (by omega)
  obtain ⟨Y, hYd⟩ : ∃ Y, y * 2 ^ s = Y := ⟨_, rfl⟩
  rw [hYd] at n1 n2 e1 e4 eR
  have hY : IntKind.u64.wrap (↑y * 2 ^ s) = (Y : Int) := e1
  obtain ⟨h, hh0⟩ : ∃ h, Y / 4294967296 = h := ⟨_, rfl⟩
  obtain ⟨l, hl0⟩ : ∃ l, Y % 4294967296 = l := ⟨_, rfl⟩
  have hH : (Y : Int) / 4294967296 = (h : Int) := by omega
  have hL : bits .and .u64 (Y : Int) 4294967295 = (l : Int) := by rw [Mul64.maskN Y n2, hl0]
  obtain ⟨U, hU0⟩ : ∃ U, hi * 2 ^ s + lo / 2 ^ (64 - s) = U := ⟨_, rfl⟩
  have hU : bits .or .u64 (IntKind.u64.wrap (↑hi * 2 ^ s)) (↑lo / 2 ^ (64 - s)) = (U : Int) := by rw [← hU0]; exact e2
  obtain ⟨T, hT0'⟩ : ∃ T, lo * 2 ^ s % 18446744073709551616 = T := ⟨_, rfl⟩
  have hT : IntKind.u64.wrap (↑lo * 2 ^ s) = (T : Int) := by rw [← hT0']; exact e3
  obtain ⟨u1, hu1⟩ : ∃ u1, T / 4294967296 = u1 := ⟨_, rfl⟩
  obtain ⟨u0, hu0⟩ : ∃ u0, T % 4294967296 = u0 := ⟨_, rfl⟩
  have Tl : T < 18446744073709551616 := by omega
  have hT1 : (T : Int) / 4294967296 = (u1 : Int) := by omega
  have hT0 : bits .and .u64 (T : Int) 4294967295 = (u0 : Int) := by rw [Mul64.maskN T Tl, hu0]
  have YL : Hid (Y = h * 4294967296 + l) := Lib.hid (by omega)
  have h1 : 2147483648 ≤ h := by omega
  have h2 : h < 4294967296 := by omega
  have l1 : l < 4294967296 := by omega
  rw [hU0] at e4 eN
  have uY : U < Y := e4
  have Yl : Y < 18446744073709551616 := n2
  have Ul : U < 18446744073709551616 := by omega
  have u1l : u1 < 4294967296 := by omega
  have u0l : u0 < 4294967296 := by omega
  have HN : Hid ((hi * 18446744073709551616 + lo) * 2 ^ s = (U * 4294967296 + u1) * 4294967296 + u0) := Lib.hid (by rw [eN, hT0']; omega)
  have HQ : Hid ((hi * 18446744073709551616 + lo) * 2 ^ s / Y = (hi * 18446744073709551616 + lo) / y) := Lib.hid eR.1
  have HR : Hid ((hi * 18446744073709551616 + lo) * 2 ^ s % Y / 2 ^ s = R1) := Lib.hid (by rw [eR.2, hR1])
  have hs63 : (s : Int) ≤ 63 := by omega
  rw [hR1]
  clear e1 e2 e3 e4 eN eR hYd hh0 hl0 hU0 hT0' hu1 hu0 Tl n1 n2 hR1
  have hnz : ¬ h = 0 := by omega
  go_enter Tryd.func60, Tryd.ntmps60
  go_wp2_with fail
  go_at_call 68; refine (CL.out _).mono ?_; rintro e1 w1 ⟨rfl, rfl⟩
  go_upto_region 15 with fail
  clear hY hH hL hU hT hT1 hT0 CL hs
  have D0 := Lib.hid (dg_start (U := U) (u := u1) YL.out h1 l1 uY u1l h2)
  obtain ⟨q0, hq0⟩ : ∃ q0, U / h = q0 := ⟨_, rfl⟩
  obtain ⟨r0, hr0⟩ : ∃ r0, U % h = r0 := ⟨_, rfl⟩
  rw [hq0, hr0] at D0
  have hq : (U : Int) / (h : Int) = (q0 : Int) := by rw [← hq0]; rfl
  have eq0 := D0.out.eq
  have tq0 := D0.out.top
  have rq0 := D0.out.r0
  have hm : (q0 : Int) * (h : Int) = (U : Int) - (r0 : Int) := by have := D0.out.eq; rw [← Int.natCast_mul]; omega
  have ru : r0 ≤ U := by omega
  clear hq0 hr0 eq0
  go_upto_block 0 with fail
  go_cut [15, 16] from 67 to 85 (fun qv rv wx => wx = w1 ∧ qv = .int .u64 (((U * 4294967296 + u1) / Y : Nat) : Int) ∧ ∃ x : Int, rv = .int .u64 x)
  case first =>
    clear hq hm
    go_wp2_with fail
    go_loopw [15, 16] (fun qv rv wr => ∃ q r : Int, qv = .int .u64 q ∧ rv = .int .u64 r ∧ 0 ≤ q ∧ q ≤ 4294967297 ∧ 0 ≤ r ∧ r < 4294967296 ∧ Hid (Dg U Y u1 h l q.toNat r.toNat) ∧ wr = w1) (fun qv _ _ => (RowKit.intOf qv).toNat)
    case atStart => exact ⟨q0, r0, rfl, congrArg (Value.int .u64) (by omega), by omega, by omega, by omega, by omega, D0, rfl⟩
    case round =>
      clear D0
      obtain ⟨q, r, rfl, rfl, q0', tq, r0', tr, D, rfl⟩ := hrel
      by_cases k1 : 4294967296 ≤ q
      · by_cases k2 : 4294967296 ≤ r + h
        · have HB := Lib.hid (dg_break YL.out l1 uY u1l D.out (.inl (by omega)) (by omega))
          clear D
          go_wp2
          go_meet
          exact ⟨rfl, congrArg (Value.int .u64) (by have := HB.out; omega), _, rfl⟩
        · have HN := Lib.hid (dg_next YL.out uY u1l D.out (.inl (by omega)) (by omega))
          clear D
          go_wp2
          go_roundw
          case rel => exact ⟨q - 1, r + h, congrArg (Value.int .u64) (by omega), congrArg (Value.int .u64) (by omega), by omega, by omega, by omega, by omega, by rw [show (q - 1).toNat = q.toNat - 1 by omega, show (r + (h : Int)).toNat = r.toNat + h by omega]; exact HN, (by first | rfl | trivial)⟩
          case measure => simp [RowKit.intOf]; omega
      · obtain ⟨P, hP⟩ : ∃ P : Int, q * l = P := ⟨_, rfl⟩
        have hPn : ((q.toNat * l : Nat) : Int) = P := by rw [Int.natCast_mul, Int.toNat_of_nonneg q0', hP]
        have hPl : P ≤ 4294967295 * 4294967295 := by
          have k := Nat.mul_le_mul (show q.toNat ≤ 4294967295 by omega) (show l ≤ 4294967295 by omega)
          omega
        have hP0 : 0 ≤ P := by omega
        by_cases k2 : 4294967296 * r + u1 < P
        · have kk : 4294967296 ≤ q.toNat ∨ 4294967296 * r.toNat + u1 < q.toNat * l := .inr (by omega)
          have q1 := (dg_big YL.out uY u1l D.out kk).1
          have q1' : 1 ≤ q := by omega
          by_cases k3 : 4294967296 ≤ r + h
          · have HB := Lib.hid (dg_break YL.out l1 uY u1l D.out kk (by omega))
            clear D kk hPn q1
            go_wp2
            go_meet
            exact ⟨rfl, congrArg (Value.int .u64) (by have := HB.out; omega), _, rfl⟩
          · have HN := Lib.hid (dg_next YL.out uY u1l D.out kk (by omega))
            clear D kk hPn q1
            go_wp2
            go_roundw
            case rel => exact ⟨q - 1, r + h, congrArg (Value.int .u64) (by omega), congrArg (Value.int .u64) (by omega), by omega, by omega, by omega, by omega, by rw [show (q - 1).toNat = q.toNat - 1 by omega, show (r + (h : Int)).toNat = r.toNat + h by omega]; exact HN, (by first | rfl | trivial)⟩
            case measure => simp [RowKit.intOf]; omega
        · have HB := Lib.hid (dg_fit YL.out (by omega) D.out.eq D.out.up (by omega))
          clear D hPn
          go_wp2
          go_meet
          exact ⟨rfl, congrArg (Value.int .u64) (by have := HB.out; omega), _, rfl⟩
  case rest =>
    obtain ⟨hwc, rfl, x, rfl⟩ := hcut
    replace hwc := hwc.symm
    subst hwc
    clear D0 hq hm tq0 rq0 ru
    have e1 := Nat.div_add_mod (U * 4294967296 + u1) Y
    have q1l := dg_lt uY u1l
    have r1l := Nat.mod_lt (U * 4294967296 + u1) (show 0 < Y by omega)
    have HE := Lib.hid (div_two (N := (hi * 18446744073709551616 + lo) * 2 ^ s) (Y := Y) 4294967296 (u1 := u1) (u0 := u0) (U := U) (by omega) HN.out)
    obtain ⟨Q1, hQ1⟩ : ∃ Q1, (U * 4294967296 + u1) / Y = Q1 := ⟨_, rfl⟩
    obtain ⟨V, hV⟩ : ∃ V, (U * 4294967296 + u1) % Y = V := ⟨_, rfl⟩
    rw [hQ1, hV] at HE
    rw [hQ1, hV] at e1
    rw [hQ1] at q1l
    rw [hV] at r1l
    rw [hQ1]
    obtain ⟨M, hM⟩ : ∃ M : Int, (Q1 : Int) * (Y : Int) = M := ⟨_, rfl⟩
    have hMe : (U : Int) * 4294967296 + u1 = M + V := by rw [← hM, Int.mul_comm (Q1 : Int), ← Int.natCast_mul]; omega
    have hMw : IntKind.u64.wrap (IntKind.u64.wrap (IntKind.u64.wrap ((U : Int) * 4294967296) + u1) - IntKind.u64.wrap M) = V := by
      simp only [IntKind.wrap_u64]; omega
    have W0 := Lib.hid (dg_start (U := V) (u := u0) YL.out h1 l1 r1l u0l h2)
    obtain ⟨q0, hq0⟩ : ∃ q0, V / h = q0 := ⟨_, rfl⟩
    obtain ⟨r0, hr0⟩ : ∃ r0, V % h = r0 := ⟨_, rfl⟩
    rw [hq0, hr0] at W0
    have hq : (V : Int) / (h : Int) = (q0 : Int) := by rw [← hq0]; rfl
    have eq0 := W0.out.eq
    have tq0 := W0.out.top
    have rq0 := W0.out.r0
    have hm : (q0 : Int) * (h : Int) = (V : Int) - (r0 : Int) := by have := W0.out.eq; rw [← Int.natCast_mul]; omega
    have ru : r0 ≤ V := by omega
    clear hq0 hr0 eq0 hMe e1 hQ1 hV
    go_upto_block 2 with fail
    go_cut [18, 16] from 102 to 120 (fun qv rv wx => wx = w1 ∧ qv = .int .u64 (((V * 4294967296 + u0) / Y : Nat) : Int) ∧ ∃ x : Int, rv = .int .u64 x)
    case first =>
      clear hq hm hM hMw
      go_wp2_with fail
      go_loopw [18, 16] (fun qv rv wr => ∃ q r : Int, qv = .int .u64 q ∧ rv = .int .u64 r ∧ 0 ≤ q ∧ q ≤ 4294967297 ∧ 0 ≤ r ∧ r < 4294967296 ∧ Hid (Dg V Y u0 h l q.toNat r.toNat) ∧ wr = w1) (fun qv _ _ => (RowKit.intOf qv).toNat)
      case atStart => exact ⟨q0, r0, rfl, congrArg (Value.int .u64) (by omega), by omega, by omega, by omega, by omega, W0, rfl⟩
      case round =>
        clear W0
        obtain ⟨q, r, rfl, rfl, q0', tq, r0', tr, D, rfl⟩ := hrel
        by_cases k1 : 4294967296 ≤ q
        · by_cases k2 : 4294967296 ≤ r + h
          · have HB := Lib.hid (dg_break YL.out l1 r1l u0l D.out (.inl (by omega)) (by omega))
            clear D
            go_wp2
            go_meet
            exact ⟨rfl, congrArg (Value.int .u64) (by have := HB.out; omega), _, rfl⟩
          · have HN := Lib.hid (dg_next YL.out r1l u0l D.out (.inl (by omega)) (by omega))
            clear D
            go_wp2
            go_roundw
            case rel => exact ⟨q - 1, r + h, congrArg (Value.int .u64) (by omega), congrArg (Value.int .u64) (by omega), by omega, by omega, by omega, by omega, by rw [show (q - 1).toNat = q.toNat - 1 by omega, show (r + (h : Int)).toNat = r.toNat + h by omega]; exact HN, (by first | rfl | trivial)⟩
            case measure => simp [RowKit.intOf]; omega
        · obtain ⟨P, hP⟩ : ∃ P : Int, q * l = P := ⟨_, rfl⟩
          have hPn : ((q.toNat * l : Nat) : Int) = P := by rw [Int.natCast_mul, Int.toNat_of_nonneg q0', hP]
          have hPl : P ≤ 4294967295 * 4294967295 := by
            have k := Nat.mul_le_mul (show q.toNat ≤ 4294967295 by omega) (show l ≤ 4294967295 by omega)
            omega
          have hP0 : 0 ≤ P := by omega
          by_cases k2 : 4294967296 * r + u0 < P
          · have kk : 4294967296 ≤ q.toNat ∨ 4294967296 * r.toNat + u0 < q.toNat * l := .inr (by omega)
            have q1 := (dg_big YL.out r1l u0l D.out kk).1
            have q1' : 1 ≤ q := by omega
            by_cases k3 : 4294967296 ≤ r + h
            · have HB := Lib.hid (dg_break YL.out l1 r1l u0l D.out kk (by omega))
              clear D kk hPn q1
              go_wp2
              go_meet
              exact ⟨rfl, congrArg (Value.int .u64) (by have := HB.out; omega), _, rfl⟩
            · have HN := Lib.hid (dg_next YL.out r1l u0l D.out kk (by omega))
              clear D kk hPn q1
              go_wp2
              go_roundw
              case rel => exact ⟨q - 1, r + h, congrArg (Value.int .u64) (by omega), congrArg (Value.int .u64) (by omega), by omega, by omega, by omega, by omega, by rw [show (q - 1).toNat = q.toNat - 1 by omega, show (r + (h : Int)).toNat = r.toNat + h by omega]; exact HN, (by first | rfl | trivial)⟩
              case measure => simp [RowKit.intOf]; omega
          · have HB := Lib.hid (dg_fit YL.out (by omega) D.out.eq D.out.up (by omega))
            clear D hPn
            go_wp2
            go_meet
            exact ⟨rfl, congrArg (Value.int .u64) (by have := HB.out; omega), _, rfl⟩
    case rest =>
      obtain ⟨hwc, rfl, x2, rfl⟩ := hcut
      replace hwc := hwc.symm
      subst hwc
      clear W0 hq hm tq0 rq0 ru hM hMw
      have e1 := Nat.div_add_mod (V * 4294967296 + u0) Y
      have q2l := dg_lt r1l u0l
      have r2l := Nat.mod_lt (V * 4294967296 + u0) (show 0 < Y by omega)
      obtain ⟨Q0, hQ0⟩ : ∃ Q0, (V * 4294967296 + u0) / Y = Q0 := ⟨_, rfl⟩
      obtain ⟨R, hR⟩ : ∃ R, (V * 4294967296 + u0) % Y = R := ⟨_, rfl⟩
      rw [hQ0, hR] at HE
      rw [hQ0, hR] at e1
      rw [hQ0] at q2l
      rw [hR] at r2l
      rw [hQ0]
      obtain ⟨M2, hM2⟩ : ∃ M2 : Int, (Q0 : Int) * (Y : Int) = M2 := ⟨_, rfl⟩
      have hMe : (V : Int) * 4294967296 + u0 = M2 + R := by rw [← hM2, Int.mul_comm (Q0 : Int), ← Int.natCast_mul]; omega
      have hMw : IntKind.u64.wrap (IntKind.u64.wrap (IntKind.u64.wrap ((V : Int) * 4294967296) + u0) - IntKind.u64.wrap M2) = R := by
        simp only [IntKind.wrap_u64]; omega
      have HF1 := HE.out.1
      rw [HQ.out] at HF1
      have HF2 := HR.out
      rw [HE.out.2] at HF2
      have HG := Lib.hid (And.intro HF1 HF2)
      clear hMe e1 hQ0 hR HF1 HF2 HE HQ HR HN YL
      go_wp2
      go_ret2
      exact ⟨ret_uu (by rw [HG.out.1]; omega) (by rw [cast_shr, HG.out.2]), Fur.refl _⟩

/-- The upper half is zero. -/
theorem div64_low (lo y : Nat) (h0 : y ≠ 0) (hl : lo < 18446744073709551616) (hy : y < 18446744073709551616) (w : World) :
    Calls Tryd.prog 60 #[.int .u64 0, .int .u64 lo, .int .u64 y] w fun e w' => e = .returned (.tuple #[.int .u64 (lo / y : Nat), .int .u64 (lo % y : Nat)]) ∧ Fur w w' := by
  have hyne : ((y : Int) == 0) = false := by rw [beq_eq_false_iff_ne]; omega
  have hyp : ¬ ((y : Int) ≤ 0) := by omega
  have b1 : lo / y < 18446744073709551616 := Nat.lt_of_le_of_lt (Nat.div_le_self _ _) hl
  have b2 : lo % y < 18446744073709551616 := Nat.lt_of_le_of_lt (Nat.mod_le _ _) hl
  have hq : (lo : Int) / (y : Int) = ((lo / y : Nat) : Int) := (Int.natCast_ediv _ _).symm
  have hr : (lo : Int) % (y : Int) = ((lo % y : Nat) : Int) := (Int.natCast_emod _ _).symm
  obtain ⟨Q, hQ⟩ : ∃ Q, lo / y = Q := ⟨_, rfl⟩
  obtain ⟨R, hR⟩ : ∃ R, lo % y = R := ⟨_, rfl⟩
  rw [hQ] at hq b1
  rw [hR] at hr b2
  rw [hQ, hR]
  clear hQ hR
  go_enter Tryd.func60, Tryd.ntmps60
  go_wp2
  go_quiet (fail)
  go_wp2
  go_ret2
  exact ⟨ret_uu (by first | rfl | omega) (by first | rfl | omega), by first | exact Fur.refl _ | exact (Fur.refl _).drew | exact fur_drewN _ _⟩
theorem div64_any (hi lo y : Nat) (hh : hi < y) (hl : lo < 18446744073709551616) (hy : y < 18446744073709551616) (w : World) :
    Calls Tryd.prog 60 #[.int .u64 hi, .int .u64 lo, .int .u64 y] w fun e w' => e = .returned (.tuple #[.int .u64 ((hi * 18446744073709551616 + lo) / y : Nat), .int .u64 ((hi * 18446744073709551616 + lo) % y : Nat)]) ∧ Fur w w' := by
  by_cases h0 : hi = 0
  · subst h0
    rw [Nat.zero_mul, Nat.zero_add]
    exact div64_low lo y (by omega) hl hy w
  · exact div64_big hi lo y h0 hh hl hy w
theorem rem64_any (hi lo y : Nat) (h0 : 0 < y) (hh : hi < 18446744073709551616) (hl : lo < 18446744073709551616) (hy : y < 18446744073709551616) (w : World) :
    Calls Tryd.prog 59 #[.int .u64 hi, .int .u64 lo, .int .u64 y] w fun e w' => e = .returned (.int .u64 ((hi * 18446744073709551616 + lo) % y : Nat)) ∧ Fur w w' := by
  have CD := Lib.hid (fun w => div64_any (hi % y) lo y (Nat.mod_lt _ h0) hl hy w)
  have e : (hi % y * 18446744073709551616 + lo) % y = (hi * 18446744073709551616 + lo) % y := by
    rw [Nat.add_mod, Nat.mul_mod, Nat.mod_mod, ← Nat.mul_mod, ← Nat.add_mod]
  rw [e] at CD
  clear e
  have hr : (hi : Int) % (y : Int) = ((hi % y : Nat) : Int) := (Int.natCast_emod _ _).symm
  have b2 : hi % y < 18446744073709551616 := Nat.lt_of_le_of_lt (Nat.mod_le _ _) hh
  obtain ⟨R, hR⟩ : ∃ R, hi % y = R := ⟨_, rfl⟩
  rw [hR] at hr b2 CD
  have hyne : ((y : Int) == 0) = false := by rw [beq_eq_false_iff_ne]; omega
  clear hR
  generalize (hi * 18446744073709551616 + lo) % y = Z at *
  generalize (R * 18446744073709551616 + lo) / y = Z2 at *
  go_enter Tryd.func59, Tryd.ntmps59
  go_wp2_with fail
  trace_state
  go_at_call 60; refine (CD.out _).mono ?_; rintro e1 w1 ⟨rfl, f1⟩
  go_wp2
  go_ret
  exact ⟨rfl, f1⟩
end Go.Proofs.YtdkmfhlmeildmaaDoor
