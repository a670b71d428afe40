/-
  Package codec: what Uint, Int and Str return, for all bytes and offsets; nothing turns.
-/
import Derived.Test.YtehmdeponbhhjaaDoorCdMem
import Derived.Lib.Hide
import Derived.Lib.EndianBits
import Derived.Deep.Cut
namespace Go.Proofs.YtehmdeponbhhjaaDoor
open Go.RowKit

/-- What reading a varint gives: the number, the offset behind it, the code. -/
def varV (most : Nat) (l : List UInt8) (at_ : Int) : Nat × Int × Int :=
  if at_ < 0 ∨ (l.length : Int) < at_ then (0, 0, 1)
  else ((rdv most (l.drop at_.toNat)).1, (if (rdv most (l.drop at_.toNat)).2.2 = 0 then at_ + (rdv most (l.drop at_.toNat)).2.1 else 0), ((rdv most (l.drop at_.toNat)).2.2 : Int))

theorem andNot128 : ∀ n : Fin 256, bits .andNot .u8 (n.val : Int) 128 = ((n.val % 128 : Nat) : Int) := by decide +kernel
theorem or_add {n x i : Nat} (hn : n < 128 ^ i) (h : n + x * 128 ^ i < 18446744073709551616) : bits .or .u64 (n : Int) ((x * 128 ^ i : Nat) : Int) = ((n + x * 128 ^ i : Nat) : Int) := by
  have hp : (128 : Nat) ^ i = 2 ^ (7 * i) := by rw [Nat.pow_mul]
  rw [hp] at hn h ⊢
  rw [bits_join_low .u64 64 (by decide) wraps_u64 (7 * i) (n : Int) ((x * 2 ^ (7 * i) : Nat) : Int) (by omega) (by exact_mod_cast hn) (by omega) (by omega) ?_ (by omega)]
  · omega
  · have : (x * 2 ^ (7 * i)) % 2 ^ (7 * i) = 0 := Nat.mul_mod_left _ _
    exact_mod_cast this
/-- One byte more. -/
theorem rd_step {l : List UInt8} {i n c : Nat} (hi : i < l.length) (h9 : i ≤ 9) (hl : i ≤ lead l) (hn : n = gv (l.take i)) (hc : (l.getD i 0).toNat = c) (hx : ¬ (i = 9 ∧ 1 < c)) :
    n + c % 128 * 128 ^ i < 18446744073709551616 ∧ gv (l.take (i + 1)) = n + c % 128 * 128 ^ i ∧ n < 128 ^ i ∧ IntKind.u64.wrap ((c : Int) % 128 * 2 ^ (7 * i)) = ((c % 128 * 128 ^ i : Nat) : Int) ∧ bits .or .u64 (n : Int) ((c % 128 * 128 ^ i : Nat) : Int) = ((n + c % 128 * 128 ^ i : Nat) : Int) := by
  have e := gv_take hi
  rw [hc, ← hn] at e
  have h64 : gv (l.take (i + 1)) < 18446744073709551616 := gv_64 (by omega) hi (by rintro ⟨rfl, g⟩; rw [hc] at g; exact hx ⟨rfl, g⟩)
  have hlt := gv_lt (l.take i)
  rw [List.length_take, Nat.min_eq_left (by omega), ← hn] at hlt
  rw [e] at h64
  refine ⟨h64, e, hlt, ?_, or_add hlt h64⟩
  have hp : (128 : Nat) ^ i = 2 ^ (7 * i) := by rw [Nat.pow_mul]
  rw [hp] at h64 ⊢
  rw [show (c : Int) % 128 * 2 ^ (7 * i) = ((c % 128 * 2 ^ (7 * i) : Nat) : Int) by push_cast; rfl, IntKind.wrap_u64]
  omega
theorem rd_more {most : Nat} {l : List UInt8} {i c : Nat} (hi : i < l.length) (hl : i ≤ lead l) (hc : (l.getD i 0).toNat = c) (h : i = 9 ∧ 1 < c) : rdv most l = (0, 0, 4) := by
  obtain ⟨rfl, h1⟩ := h
  unfold rdv
  by_cases g : 128 ≤ c
  · have := lead_more l 9 hl hi (by rw [hc]; exact g)
    rw [if_pos (by omega)]
  · have e := lead_stop l 9 hl hi (by rw [hc]; omega)
    rw [if_neg (by omega), if_neg (by omega), if_pos ⟨e, by rw [hc]; exact h1⟩]
theorem rd_end {most : Nat} {l : List UInt8} {i n c : Nat} (hi : i < l.length) (h9 : i ≤ 9) (hl : i ≤ lead l) (hc : (l.getD i 0).toNat = c) (hx : ¬ (i = 9 ∧ 1 < c)) (h1 : c < 128) (hn : gv (l.take (i + 1)) = n) :
    rdv most l = if most < n then (0, 0, 4) else if 0 < i ∧ c = 0 then (0, 0, 2) else (n, i + 1, 0) := by
  have e := lead_stop l i hl hi (by rw [hc]; exact h1)
  unfold rdv
  rw [e, hn, hc, if_neg (by omega), if_neg (by omega), if_neg (by rintro ⟨rfl, g⟩; rw [hc] at g; exact hx ⟨rfl, g⟩)]
theorem rd_short {most : Nat} {l : List UInt8} (hl : l.length ≤ lead l) (h9 : l.length ≤ 9) : rdv most l = (0, 0, 3) := by
  have := lead_le l
  unfold rdv
  rw [if_neg (by omega), if_pos (by omega)]

theorem var_out {most : Nat} {l l2 : List UInt8} {a : Nat} {U : Nat} {E C : Int} (ha : a ≤ l.length) (h : varV most l a = (U, E, C)) (h2 : l2 = l.drop a) {u k c : Nat} (hr : rdv most l2 = (u, k, c)) : (u : Int) = U ∧ ((if c = 0 then (a : Int) + k else 0) : Int) = E ∧ (c : Int) = C := by
  unfold varV at h
  rw [if_neg (by omega), Int.toNat_natCast, ← h2, hr] at h
  simp only [Prod.mk.injEq] at h
  exact ⟨by rw [h.1], h.2.1, h.2.2⟩

set_option maxHeartbeats 8000000 in
set_option maxRecDepth 100000 in
theorem varint_is (ao : Option Addr) (l : List UInt8) (cap : Nat) (at_ : Int) (most : Nat) (h0 : -9223372036854775808 ≤ at_) (h1 : at_ ≤ 9223372036854775807) (w : World) (h : IsB w ao l cap)
    (U : Nat) (E C : Int) (hv : varV most l at_ = (U, E, C)) :
    Calls Tryd.prog 23 #[.slice ao l.length cap, .int .i64 at_, .int .u64 most] w (Ret3 w .u64 U E C) := by
  have hlen := h.len.1
  by_cases hb1 : at_ < 0
  · have e : varV most l at_ = (0, 0, 1) := if_pos (.inl hb1)
    rw [e] at hv
    obtain ⟨rfl, rfl, rfl⟩ : 0 = U ∧ 0 = E ∧ 1 = C := by simpa using hv
    clear e hv
    go_enter Tryd.func23, Tryd.ntmps23
    go_wp2
    go_ret3
    exact ⟨rfl, rfl⟩
  by_cases hb2 : (l.length : Int) < at_
  · have e : varV most l at_ = (0, 0, 1) := if_pos (.inr hb2)
    rw [e] at hv
    obtain ⟨rfl, rfl, rfl⟩ : 0 = U ∧ 0 = E ∧ 1 = C := by simpa using hv
    clear e hv
    go_enter Tryd.func23, Tryd.ntmps23
    go_wp2
    go_ret3
    exact ⟨rfl, rfl⟩
  obtain ⟨a, rfl⟩ := Int.eq_ofNat_of_zero_le (show 0 ≤ at_ by omega)
  have ha : a ≤ l.length := by omega
  obtain ⟨ao2, l2, c2, hl2, hI2, hsl⟩ := slice_l h ha
  have HV := Lib.hid (fun u k c => var_out (u := u) (k := k) (c := c) ha hv hl2)
  have HL := Lib.hid (show a + l2.length = l.length by rw [hl2, List.length_drop]; omega)
  have hal : a + l2.length ≤ 9223372036854775807 := by have := HL.out; omega
  have hsl1 := hsl w
  clear hsl hl2 hb1 hb2 h0 h1 hv
  have HI := Lib.hid hI2
  clear hI2 h
  go_enter Tryd.func23, Tryd.ntmps23
  go_wp2
  clear hsl1
  go_loop [9, 24] (fun v ii => ∃ i n : Nat, ii = .int .i64 i ∧ i ≤ l2.length ∧ v = .int .u64 n ∧ Hid (i ≤ lead l2 ∧ n = gv (l2.take i)) ∧ i ≤ 9) (fun _ ii => l2.length - (RowKit.intOf ii).toNat)
  case atStart => exact ⟨0, 0, rfl, Nat.zero_le _, rfl, ⟨Nat.zero_le _, rfl⟩, by decide⟩
  case round =>
    obtain ⟨i, n, rfl, hi, rfl, HD, hi9⟩ := hrel
    by_cases hlt : i < l2.length
    · obtain ⟨b, off, rfl, hb, hc⟩ := HI.out.at_ (by omega)
      have hck := hc i hlt
      have hcl : (l2.getD i 0).toNat < 256 := (l2.getD i 0).toNat_lt
      obtain ⟨c, hcc⟩ : ∃ c, (l2.getD i 0).toNat = c := ⟨_, rfl⟩
      have HC := Lib.hid hcc
      rw [hcc] at hck hcl
      clear hc hcc
      by_cases hx : i = 9 ∧ 1 < c
      · have HR := Lib.hid (HV.out _ _ _ (rd_more (most := most) hlt HD.out.1 HC.out hx))
        obtain ⟨rfl, hc1⟩ := hx
        clear HV
        go_wp2
        go_ret3
        exact ⟨ret_3 HR.out.1 HR.out.2.1 HR.out.2.2, rfl⟩
      · have st := rd_step hlt hi9 HD.out.1 HD.out.2 HC.out hx
        have han : bits .andNot .u8 (c : Int) 128 = ((c % 128 : Nat) : Int) := andNot128 ⟨c, hcl⟩
        obtain ⟨-, hg, -, hsh, hor⟩ := st
        have HG := Lib.hid hg
        clear hg
        have hx1 : i < 9 ∨ c ≤ 1 := by omega
        have HX := Lib.hid hx
        clear hx
        generalize c % 128 * 128 ^ i = X at hsh hor HG
        by_cases h128 : 128 ≤ c
        · have HM := Lib.hid (lead_more l2 i HD.out.1 hlt (by rw [HC.out]; exact h128))
          go_wp2
          refine ⟨⟨_, _, _, _, _, _, _, ⟨i + 1, rfl, by omega, n + X, rfl, ⟨HM.out, HG.out.symm⟩, by omega⟩, rfl, rfl, rfl, rfl, rfl, rfl, rfl⟩, ?_⟩
          simp [RowKit.intOf]; omega
        · have HE := Lib.hid (rd_end (most := most) hlt hi9 HD.out.1 HC.out HX.out (by omega) HG.out)
          have hc1 : ¬ 128 ≤ (c : Int) := by omega
          by_cases h9 : i = 9
          · subst h9
            have hc2 : (c : Int) ≤ 1 := by omega
            have hor9 : bits .or .u64 (n : Int) ((c : Int) % 128 * 9223372036854775808) = ((n + X : Nat) : Int) := by
              rw [← hor, ← hsh, IntKind.wrap_u64]
              congr 1
              have e63 : (2 : Int) ^ (7 * 9) = 9223372036854775808 := by decide
              rw [e63]
              omega
            clear hsh hor hx1
            by_cases g1 : most < n + X
            · have HR := Lib.hid (HV.out _ _ _ (by rw [HE.out, if_pos g1]))
              clear HV HE
              go_wp2
              go_ret3
              exact ⟨ret_3 HR.out.1 HR.out.2.1 HR.out.2.2, rfl⟩
            · by_cases g2 : 0 < 9 ∧ c = 0
              · have HR := Lib.hid (HV.out _ _ _ (by rw [HE.out, if_neg g1, if_pos g2]))
                obtain ⟨g3, g4⟩ := g2
                have HZ := Lib.hid g4
                clear HV HE g4
                go_upto_region 13 with fail
                have g5 : (c : Int) = 0 := by have := HZ.out; omega
                go_wp2
                go_ret3
                exact ⟨ret_3 HR.out.1 HR.out.2.1 HR.out.2.2, rfl⟩
              · have HR := Lib.hid (HV.out _ _ _ (by rw [HE.out, if_neg g1, if_neg g2]))
                clear HV HE
                have g4 : ¬ ((c : Int) = 0) := by omega
                clear g2
                go_wp2
                go_ret3
                exact ⟨ret_3 HR.out.1 (by have := HR.out.2.1; simp at this; omega) HR.out.2.2, rfl⟩
          · have h9' : ¬ ((i : Int) = 9) := by omega
            clear hx1 h9
            by_cases g1 : most < n + X
            · have HR := Lib.hid (HV.out _ _ _ (by rw [HE.out, if_pos g1]))
              clear HV HE
              go_wp2
              go_ret3
              exact ⟨ret_3 HR.out.1 HR.out.2.1 HR.out.2.2, rfl⟩
            · by_cases g2 : 0 < i ∧ c = 0
              · have HR := Lib.hid (HV.out _ _ _ (by rw [HE.out, if_neg g1, if_pos g2]))
                obtain ⟨g3, g4⟩ := g2
                have HZ := Lib.hid g4
                clear HV HE g4
                go_upto_region 13 with fail
                have g5 : (c : Int) = 0 := by have := HZ.out; omega
                go_wp2
                go_ret3
                exact ⟨ret_3 HR.out.1 HR.out.2.1 HR.out.2.2, rfl⟩
              · have HR := Lib.hid (HV.out _ _ _ (by rw [HE.out, if_neg g1, if_neg g2]))
                clear HV HE
                by_cases g3 : 0 < i
                · have g4 : ¬ ((c : Int) = 0) := by omega
                  clear g2
                  go_wp2
                  go_ret3
                  exact ⟨ret_3 HR.out.1 (by have := HR.out.2.1; simp at this; omega) HR.out.2.2, rfl⟩
                · have g5 : ¬ ((0 : Int) < i) := by omega
                  clear g2
                  go_wp2
                  go_ret3
                  exact ⟨ret_3 HR.out.1 (by have := HR.out.2.1; simp at this; omega) HR.out.2.2, rfl⟩
    · have e : i = l2.length := by omega
      subst e
      have HR := Lib.hid (HV.out _ _ _ (rd_short (most := most) HD.out.1 hi9))
      clear HV
      go_wp2
      go_ret3
      exact ⟨ret_3 HR.out.1 HR.out.2.1 HR.out.2.2, rfl⟩

theorem uint_var (l : List UInt8) (at_ : Int) : uintV l at_ = (((varV 9223372036854775807 l at_).1 : Int), (varV 9223372036854775807 l at_).2.1, (varV 9223372036854775807 l at_).2.2) := by
  unfold uintV varV
  split <;> rfl
theorem int_var (l : List UInt8) (at_ : Int) : intV l at_ = (unzz (varV 18446744073709551615 l at_).1, (varV 18446744073709551615 l at_).2.1, (varV 18446744073709551615 l at_).2.2) := by
  unfold intV varV
  split <;> rfl
theorem var_le (most : Nat) (l : List UInt8) (at_ : Int) : (varV most l at_).1 ≤ most ∧ (varV most l at_).1 < 18446744073709551616 := by
  unfold varV
  split
  · exact ⟨Nat.zero_le _, by decide⟩
  · have := rdv_lt most (l.drop at_.toNat)
    exact ⟨this.1, this.2.1⟩
theorem uint_is (ao : Option Addr) (l : List UInt8) (cap : Nat) (at_ : Int) (h0 : -9223372036854775808 ≤ at_) (h1 : at_ ≤ 9223372036854775807) (w : World) (h : IsB w ao l cap)
    (U E C : Int) (hv : uintV l at_ = (U, E, C)) :
    Calls Tryd.prog 8 #[.slice ao l.length cap, .int .i64 at_] w (Ret3 w .i64 U E C) := by
  rw [uint_var] at hv
  have hle := var_le 9223372036854775807 l at_
  obtain ⟨u, e, c, hr⟩ : ∃ u e c, varV 9223372036854775807 l at_ = (u, e, c) := ⟨_, _, _, rfl⟩
  rw [hr] at hv hle
  obtain ⟨rfl, rfl, rfl⟩ : (u : Int) = U ∧ e = E ∧ c = C := by simpa using hv
  have HV := Lib.hid (varint_is ao l cap at_ 9223372036854775807 h0 h1 w h u e c hr)
  have hu : (u : Int) ≤ 9223372036854775807 := by have := hle.1; omega
  clear hv hle hr h h0 h1
  go_enter Tryd.func8, Tryd.ntmps8
  go_wp2_with fail
  go_at_call 23; refine HV.out.mono ?_; rintro e1 w1 ⟨rfl, rfl⟩
  clear HV
  go_wp2
  go_ret3
  exact ⟨rfl, rfl⟩
theorem unzz_any (u : Nat) (hu : u < 18446744073709551616) (w : World) :
    Calls Tryd.prog 57 #[.int .u64 u] w fun e w' => e = .returned (.int .i64 (unzz u)) ∧ w = w' := by
  have hh : u / 2 < 9223372036854775808 := by omega
  by_cases hn : u % 2 = 1
  · have e : unzz u = -((u / 2 : Nat) : Int) - 1 := if_pos hn
    have hn' : (u : Int) % 2 = 1 := by omega
    have hnot := Lib.i64_not (u / 2) hh
    have hdiv : (u : Int) / 2 = ((u / 2 : Nat) : Int) := by omega
    rw [e]; clear e hn hh
    generalize u / 2 = v at *
    go_enter Tryd.func57, Tryd.ntmps57
    go_wp2
    go_ret
    exact ⟨rfl, rfl⟩
  · have e : unzz u = ((u / 2 : Nat) : Int) := if_neg hn
    have hn' : ¬ ((u : Int) % 2 = 1) := by omega
    rw [e]; clear e hn
    go_enter Tryd.func57, Tryd.ntmps57
    go_wp2
    go_ret
    exact ⟨ret_int (by omega), rfl⟩
theorem int_is (ao : Option Addr) (l : List UInt8) (cap : Nat) (at_ : Int) (h0 : -9223372036854775808 ≤ at_) (h1 : at_ ≤ 9223372036854775807) (w : World) (h : IsB w ao l cap)
    (U E C : Int) (hv : intV l at_ = (U, E, C)) :
    Calls Tryd.prog 41 #[.slice ao l.length cap, .int .i64 at_] w (Ret3 w .i64 U E C) := by
  rw [int_var] at hv
  have hle := var_le 18446744073709551615 l at_
  obtain ⟨u, e, c, hr⟩ : ∃ u e c, varV 18446744073709551615 l at_ = (u, e, c) := ⟨_, _, _, rfl⟩
  rw [hr] at hv hle
  obtain ⟨rfl, rfl, rfl⟩ : unzz u = U ∧ e = E ∧ c = C := by simpa using hv
  have HV := Lib.hid (varint_is ao l cap at_ 18446744073709551615 h0 h1 w h u e c hr)
  have HZ := Lib.hid (unzz_any u hle.2)
  clear hv hle hr h h0 h1
  generalize unzz u = z at *
  go_enter Tryd.func41, Tryd.ntmps41
  go_wp2_with fail
  go_at_call 23; refine HV.out.mono ?_; rintro e1 w1 ⟨rfl, rfl⟩
  clear HV
  go_wp2_with fail
  go_at_call 57; refine (HZ.out _).mono ?_; rintro e1 w1 ⟨rfl, rfl⟩
  clear HZ
  go_wp2
  go_ret3
  exact ⟨rfl, rfl⟩
/-- What reading a varint of a number of 63 bits gives. -/
theorem uint_ok {l : List UInt8} {at_ U E C : Int} (hv : uintV l at_ = (U, E, C)) : 0 ≤ U ∧ U ≤ 9223372036854775807 ∧ 0 ≤ E ∧ (C = 0 → 0 ≤ at_ ∧ at_ < E ∧ E ≤ l.length) ∧ (C ≠ 0 → E = 0) := by
  unfold uintV at hv
  split at hv
  · obtain ⟨rfl, rfl, rfl⟩ : 0 = U ∧ 0 = E ∧ 1 = C := by simpa using hv
    exact ⟨by decide, by decide, by decide, fun h => absurd h (by decide), fun _ => rfl⟩
  · rename_i hb
    have hr := rdv_lt 9223372036854775807 (l.drop at_.toNat)
    have ho := rdv_only (most := 9223372036854775807) (l := l.drop at_.toNat)
    generalize rdv 9223372036854775807 (l.drop at_.toNat) = r at *
    obtain ⟨u, k, c⟩ := r
    obtain ⟨rfl, rfl, rfl⟩ : (u : Int) = U ∧ (if c = 0 then at_ + (k : Int) else 0) = E ∧ (c : Int) = C := by simpa using hv
    rw [List.length_drop] at hr ho
    simp only at hr ho
    refine ⟨by omega, by omega, by split <;> omega, fun hc => ?_, fun hc => ?_⟩
    · have hc' : c = 0 := by omega
      rw [if_pos hc']
      have := ho hc'
      omega
    · rw [if_neg (by omega)]
set_option maxRecDepth 100000 in
theorem str_is (ao : Option Addr) (l : List UInt8) (cap : Nat) (at_ most : Int) (h0 : -9223372036854775808 ≤ at_) (h1 : at_ ≤ 9223372036854775807) (w : World) (h : IsB w ao l cap)
    (S : List UInt8) (E C : Int) (hv : strV l at_ most = (S, E, C)) :
    Calls Tryd.prog 42 #[.slice ao l.length cap, .int .i64 at_, .int .i64 most] w fun e w' => e = .returned (.tuple #[.string (yb S), .int .i64 E, .int .i64 C]) ∧ w = w' := by
  obtain ⟨u, n, c, hr⟩ : ∃ u n c, uintV l at_ = (u, n, c) := ⟨_, _, _, rfl⟩
  have hok := uint_ok hr
  have hlen := h.len.1
  have HV := Lib.hid (uint_is ao l cap at_ h0 h1 w h u n c hr)
  unfold strV at hv
  rw [hr] at hv
  simp only at hv
  clear hr h0 h1
  by_cases hc : c = 0
  · rw [if_neg (by simp [hc])] at hv
    obtain ⟨ha0, han, hnl⟩ := hok.2.2.2.1 hc
    have HC := Lib.hid hc
    clear hc
    by_cases g1 : most < u
    · rw [if_pos g1] at hv
      obtain ⟨rfl, rfl, rfl⟩ : [] = S ∧ 0 = E ∧ 4 = C := by simpa using hv
      clear hv h hok
      go_enter Tryd.func42, Tryd.ntmps42
      go_wp2_with fail
      go_at_call 8; refine HV.out.mono ?_; rintro e1 w1 ⟨rfl, rfl⟩
      clear HV
      have hc := HC.out
      go_wp2
      go_ret3
      exact ⟨rfl, rfl⟩
    · rw [if_neg g1] at hv
      by_cases g2 : (l.length : Int) - n < u
      · rw [if_pos g2] at hv
        obtain ⟨rfl, rfl, rfl⟩ : [] = S ∧ 0 = E ∧ 3 = C := by simpa using hv
        clear hv h hok
        go_enter Tryd.func42, Tryd.ntmps42
        go_wp2_with fail
        go_at_call 8; refine HV.out.mono ?_; rintro e1 w1 ⟨rfl, rfl⟩
        clear HV
        have hc := HC.out
        go_wp2
        go_ret3
        exact ⟨rfl, rfl⟩
      · rw [if_neg g2] at hv
        obtain ⟨rfl, rfl, rfl⟩ : (l.drop n.toNat).take u.toNat = S ∧ n + u = E ∧ 0 = C := by simpa using hv
        clear hv
        obtain ⟨k, rfl⟩ := Int.eq_ofNat_of_zero_le (show 0 ≤ n by omega)
        obtain ⟨m, rfl⟩ := Int.eq_ofNat_of_zero_le (show 0 ≤ u by omega)
        obtain ⟨a2, l2, c2, hl2, hlen2, hI2, hs⟩ := slice_lh h (lo := k) (hi := k + m) (by omega) (by omega)
        have e2 : l2 = (l.drop k).take m := by rw [hl2, Nat.add_sub_cancel_left]
        rw [Int.toNat_natCast, Int.toNat_natCast, ← e2]
        have hs1 := hs w
        have hcv := conv_bytes hI2
        rw [show (((k + m : Nat)) : Int) = (k : Int) + (m : Int) by omega] at hs1
        clear hs hl2 hlen2 hI2 h hok e2
        go_enter Tryd.func42, Tryd.ntmps42
        go_wp2_with fail
        go_at_call 8; refine HV.out.mono ?_; rintro e1 w1 ⟨rfl, rfl⟩
        clear HV
        have hc := HC.out
        go_wp2
        go_ret3
        exact ⟨rfl, rfl⟩
  · rw [if_pos hc] at hv
    obtain ⟨rfl, rfl, rfl⟩ : [] = S ∧ 0 = E ∧ c = C := by simpa using hv
    clear hv h hok
    go_enter Tryd.func42, Tryd.ntmps42
    go_wp2_with fail
    go_at_call 8; refine HV.out.mono ?_; rintro e1 w1 ⟨rfl, rfl⟩
    clear HV
    go_wp2
    go_ret3
    exact ⟨rfl, rfl⟩
end Go.Proofs.YtehmdeponbhhjaaDoor
