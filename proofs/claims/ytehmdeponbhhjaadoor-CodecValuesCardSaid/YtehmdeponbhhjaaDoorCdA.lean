/-
  Package codec: what PutUint, PutInt and PutStr return, for every argument; nothing that was there turns.
-/
import Derived.Test.YtehmdeponbhhjaaDoorCdMem
import Derived.Lib.Hide
import Derived.Lib.AppendStr
namespace Go.Proofs.YtehmdeponbhhjaaDoor
open Go.RowKit

theorem closed_any (ao : Option Addr) (l : List UInt8) (cap : Nat) (w : World) (h : IsB w ao l cap) :
    Calls Tryd.prog 25 #[.slice ao l.length cap] w (RetY w l) := by
  have hlen := h.len
  obtain ⟨a2, c2, h2, hs⟩ := slice_hm h
  have H2 := Lib.hid h2
  clear h2 h
  have hs1 := hs w
  clear hs
  go_enter Tryd.func25, Tryd.ntmps25
  go_wp2
  go_ret
  exact ⟨a2, c2, rfl, H2.out, Fuw.refl _⟩

theorem b8_last {y : Nat} (h : y < 128) : IntKind.u8.wrap (y : Int) = (y : Int) := by rw [IntKind.wrap_u8]; omega
set_option maxHeartbeats 8000000 in
set_option maxRecDepth 100000 in
theorem varint_put (B n x : Nat) (hx : x < 18446744073709551616) (sv : Value) (xs : List Value) (w : World) (hown : w.ownsRow B 5 1 sv n xs) (hBw : B ≤ w.heap.size) (hlim : n + 10 ≤ 140737488355328) :
    Calls Tryd.prog 26 #[sv, .int .u64 x] w fun e w' => ∃ v', e = .returned v' ∧ w'.ownsRow B 5 1 v' (n + (Lib.uvarint x).length) (xs ++ Lib.byteCells (Lib.uvarint x)) ∧ Below B w w' := by
  obtain ⟨i0, hi, hz0, hz1, hz2⟩ := info_parts infoB
  have hlen := Lib.uvarint_length64 hx
  go_enter Tryd.func26, Tryd.ntmps26
  go_wp2
  go_loopw [0, 1] (fun vb vx wr => ∃ (y : Nat) (pre : List UInt8), vx = .int .u64 y ∧ y ≤ x ∧ Lib.uvarint x = pre ++ Lib.uvarint y ∧ wr.ownsRow B 5 1 vb (n + pre.length) (xs ++ Lib.byteCells pre) ∧ Below B w wr)
    (fun _ vx _ => (intOf vx).toNat)
  case atStart => exact ⟨x, [], rfl, Nat.le_refl _, rfl, by simpa [Lib.byteCells] using hown, Below.refl _ _⟩
  case round =>
    obtain ⟨y, pre, rfl, hy, hsplit, hown1, hnx⟩ := hrel
    have hpl : pre.length + (Lib.uvarint y).length ≤ 10 := by
      have h2 := congrArg List.length hsplit
      rw [List.length_append] at h2
      omega
    have hyp := Lib.uvarint_pos y
    by_cases h128 : 128 ≤ y
    · have hor : bits .or .u8 ((y : Int) % 256) 128 = ((y % 128 + 128 : Nat) : Int) := by
        rw [Lib.u8_or128_any _ (by omega) (by omega)]
        omega
      go_wp2_with (at_builtin; refine wpList_append_own _ rfl _ _ 22 rfl B 5 i0 (.int .u8 0) 1 1 Tryd.underlying22 hi hz0 hz1 hz2 rfl (by decide) _ _ _ rfl (hown1.alloc _) ⟨wr.heap.size, 0, none⟩ 1 1 [Value.int .u8 ((y % 128 + 128 : Nat) : Int)] rfl rfl ?c1 ?c2 ?c3 ?c4 ?c5 ?_)
      case c1 =>
        intro j u hj
        match j, hj with
        | 0, hj => simp at hj; subst hj; simp [Addr.add]
      case c2 => intro u hu; simp at hu; subst hu; rfl
      case c3 => unfold maxLen; omega
      case c4 => omega
      case c5 => have := hnx.size; simp; omega
      intro v' w1 hown' hgrow _
      have hnx1 : Below B w w1 := (hnx.alloc (by have := hnx.size; omega) _).grown hgrow (by have := hnx.size; simp; omega) (fun k hk => (hown1.lt k hk).1)
      go_wp2
      go_roundw
      case rel =>
        refine ⟨y / 128, pre ++ [(y % 128 + 128).toUInt8], by go_num, by omega, by rw [hsplit, Lib.uvarint_big h128]; simp, ?_, hnx1⟩
        have ec : ((y % 128 + 128 : Nat) : Int) = (y : Int) % 128 + 128 := by omega
        rw [Lib.byteCells_snoc pre (by omega), List.length_append, List.length_singleton, ← Nat.add_assoc, ec]
        exact hown'
      case measure => simp [intOf]; omega
    · have hsm : Lib.uvarint y = [y.toUInt8] := Lib.uvarint_small (by omega)
      go_wp2_with (at_builtin; refine wpList_append_own _ rfl _ _ 22 rfl B 5 i0 (.int .u8 0) 1 1 Tryd.underlying22 hi hz0 hz1 hz2 rfl (by decide) _ _ _ rfl (hown1.alloc _) ⟨wr.heap.size, 0, none⟩ 1 1 [Value.int .u8 (y : Int)] rfl rfl ?c1 ?c2 ?c3 ?c4 ?c5 ?_)
      case c1 =>
        intro j u hj
        match j, hj with
        | 0, hj => simp at hj; subst hj; simp [Addr.add]
      case c2 => intro u hu; simp at hu; subst hu; rfl
      case c3 => unfold maxLen; omega
      case c4 => omega
      case c5 => have := hnx.size; simp; omega
      intro v' w1 hown' hgrow _
      have hnx1 : Below B w w1 := (hnx.alloc (by have := hnx.size; omega) _).grown hgrow (by have := hnx.size; simp; omega) (fun k hk => (hown1.lt k hk).1)
      go_wp2
      go_ret
      refine ⟨v', rfl, ?_, hnx1⟩
      rw [hsplit, hsm, Lib.byteCells_snoc pre (by omega), List.length_append, List.length_singleton, ← Nat.add_assoc]
      exact hown'

theorem varint_own (x : Nat) (hx : x < 18446744073709551616) (w : World) :
    Calls Tryd.prog 26 #[.slice none 0 0, .int .u64 x] w (RetY w (Lib.uvarint x)) := by
  refine (varint_put w.heap.size 0 x hx _ [] w (World.ownsRow_nil _ _ _ _) (Nat.le_refl _) (by omega)).mono ?_
  rintro e w' ⟨v', rfl, ho, hb⟩
  rw [List.nil_append] at ho
  obtain ⟨ao, cap, rfl, -, hI⟩ := IsB.of_own ho
  exact ⟨ao, cap, rfl, hI, hb⟩
/-- What PutUint gives. -/
def putU (n : Int) : List UInt8 := if n < 0 then [] else Lib.uvarint n.toNat
theorem put_uint (n : Int) (h0 : -9223372036854775808 ≤ n) (h1 : n ≤ 9223372036854775807) (w : World) :
    Calls Tryd.prog 10 #[.int .i64 n] w (RetY w (putU n)) := by
  by_cases hn : n < 0
  · have e : putU n = [] := if_pos hn
    rw [e]; clear e
    go_enter Tryd.func10, Tryd.ntmps10
    go_wp2
    go_ret
    exact ⟨none, 0, rfl, IsB.empty _, Fuw.refl _⟩
  · have e : putU n = Lib.uvarint n.toNat := if_neg hn
    rw [e]; clear e
    obtain ⟨m, rfl⟩ := Int.eq_ofNat_of_zero_le (show 0 ≤ n by omega)
    have HV := Lib.hid (varint_own m (by omega) w)
    have hm : m < 9223372036854775808 := by omega
    clear h0 h1
    rw [Int.toNat_natCast]
    go_enter Tryd.func10, Tryd.ntmps10
    go_wp2_with fail
    go_at_call 26; refine HV.out.mono ?_; rintro e w1 ⟨ao, cap, rfl, hI, hf⟩
    have HF := Lib.hid hf
    have HC := Lib.hid (closed_any ao _ cap w1 hI)
    clear hf hI HV
    go_wp2_with fail
    go_at_call 25; refine HC.out.mono ?_; rintro e w2 ⟨ao2, cap2, rfl, hI2, hf2⟩
    have HG := Lib.hid hf2
    have HI := Lib.hid hI2
    clear HC hf2 hI2
    go_wp2
    go_ret
    exact ⟨_, _, rfl, HI.out, HF.out.trans HG.out⟩

theorem zigzag_any (n : Int) (h0 : -9223372036854775808 ≤ n) (h1 : n ≤ 9223372036854775807) (w : World) :
    Calls Tryd.prog 40 #[.int .i64 n] w fun e w' => e = .returned (.int .u64 (Lib.zigzag n : Nat)) ∧ w = w' := by
  by_cases hn : n < 0
  · have e := Lib.zigzag_neg h0 hn
    go_enter Tryd.func40, Tryd.ntmps40
    go_wp2
    go_ret
    exact ⟨rfl, rfl⟩
  · go_enter Tryd.func40, Tryd.ntmps40
    go_wp2
    go_ret
    exact ⟨ret_int (Lib.zigzag_nonneg (by omega)).symm, rfl⟩

theorem int_put (B n : Nat) (x : Int) (h0 : -9223372036854775808 ≤ x) (h1 : x ≤ 9223372036854775807) (sv : Value) (xs : List Value) (w : World) (hown : w.ownsRow B 5 1 sv n xs) (hBw : B ≤ w.heap.size) (hlim : n + 10 ≤ 140737488355328) :
    Calls Tryd.prog 27 #[sv, .int .i64 x] w fun e w' => ∃ v', e = .returned v' ∧ w'.ownsRow B 5 1 v' (n + (Lib.uvarint (Lib.zigzag x)).length) (xs ++ Lib.byteCells (Lib.uvarint (Lib.zigzag x))) ∧ Below B w w' := by
  have HZ := Lib.hid (zigzag_any x h0 h1 w)
  have HV := Lib.hid (varint_put B n (Lib.zigzag x) (Lib.zigzag_lt h0 h1) sv xs w hown hBw hlim)
  clear hown hlim
  go_enter Tryd.func27, Tryd.ntmps27
  go_wp2_with fail
  go_at_call 40; refine HZ.out.mono ?_; rintro e w1 ⟨rfl, rfl⟩
  clear HZ
  go_wp2_with fail
  go_at_call 26; refine HV.out.mono ?_; rintro e w1 ⟨v', rfl, ho, hb⟩
  have HO := Lib.hid ho
  have HB := Lib.hid hb
  clear HV ho hb
  go_wp2
  go_ret
  exact ⟨_, rfl, HO.out, HB.out⟩
/-- What PutInt gives. -/
def putI (n : Int) : List UInt8 := Lib.uvarint (Lib.zigzag n)
theorem put_int (n : Int) (h0 : -9223372036854775808 ≤ n) (h1 : n ≤ 9223372036854775807) (w : World) :
    Calls Tryd.prog 11 #[.int .i64 n] w (RetY w (putI n)) := by
  have HV := Lib.hid (int_put w.heap.size 0 n h0 h1 _ [] w (World.ownsRow_nil _ _ _ _) (Nat.le_refl _) (by omega))
  clear h0 h1
  go_enter Tryd.func11, Tryd.ntmps11
  go_wp2_with fail
  go_at_call 27; refine HV.out.mono ?_; rintro e w1 ⟨v', rfl, ho, hb⟩
  rw [List.nil_append] at ho
  obtain ⟨ao, cap, rfl, -, hI⟩ := IsB.of_own ho
  have HF := Lib.hid hb
  have HC := Lib.hid (closed_any ao _ cap w1 hI)
  clear hb hI HV ho
  go_wp2_with fail
  go_at_call 25; refine HC.out.mono ?_; rintro e w2 ⟨ao2, cap2, rfl, hI2, hf2⟩
  have HG := Lib.hid hf2
  have HI := Lib.hid hI2
  clear HC hf2 hI2
  go_wp2
  go_ret
  exact ⟨_, _, rfl, HI.out, Fuw.trans HF.out HG.out⟩

theorem str_put (B n : Nat) (s : ByteArray) (hs : s.size ≤ 1000000) (sv : Value) (xs : List Value) (w : World) (hown : w.ownsRow B 5 1 sv n xs) (hBw : B ≤ w.heap.size) (hlim : n ≤ 140000000000000) :
    Calls Tryd.prog 28 #[sv, .string s] w fun e w' => ∃ v', e = .returned v' ∧ w'.ownsRow B 5 1 v' (n + (Lib.uvarint s.size).length + s.size) (xs ++ Lib.byteCells (Lib.uvarint s.size) ++ Lib.byteCells s.data.toList) ∧ Below B w w' := by
  obtain ⟨i0, hi, hz0, hz1, hz2⟩ := info_parts infoB
  have hlen := Lib.uvarint_length64 (x := s.size) (by omega)
  have HV := Lib.hid (varint_put B n s.size (by omega) sv xs w hown hBw (by omega))
  clear hown
  go_enter Tryd.func28, Tryd.ntmps28
  go_wp2_with fail
  go_at_call 26; refine HV.out.mono ?_; rintro e w1 ⟨v', rfl, ho, hb⟩
  clear HV
  have hsz := hb.size
  go_wp2_with (at_builtin; refine Lib.wpList_append_own_string _ rfl _ _ 22 9 rfl B 5 i0 Tryd.underlying22 Tryd.underlying9 hi hz0 hz1 hz2 _ _ _ rfl ho s rfl ?c1 ?c2 ?c3 ?_)
  case c1 => unfold maxLen; omega
  case c2 => omega
  case c3 => omega
  intro v2 w2 hown2 hgrow _
  have hb2 : Below B w w2 := hb.grown hgrow (by omega) (fun k hk => (ho.lt k hk).1)
  go_wp2
  go_ret
  exact ⟨v2, rfl, by rw [List.append_assoc]; exact hown2, hb2⟩
/-- What PutStr gives. -/
def putS (l : List UInt8) : List UInt8 := Lib.uvarint l.length ++ l
theorem put_str (s : ByteArray) (hs : s.size ≤ 1000000) (w : World) :
    Calls Tryd.prog 12 #[.string s] w (RetY w (putS s.data.toList)) := by
  have HV := Lib.hid (str_put w.heap.size 0 s hs _ [] w (World.ownsRow_nil _ _ _ _) (Nat.le_refl _) (by omega))
  have e : s.data.toList.length = s.size := Array.length_toList
  unfold putS
  rw [e]
  clear e
  go_enter Tryd.func12, Tryd.ntmps12
  go_wp2_with fail
  go_at_call 28; refine HV.out.mono ?_; rintro e w1 ⟨v', rfl, ho, hb⟩
  rw [List.nil_append, ← Lib.byteCells_append] at ho
  obtain ⟨ao, cap, rfl, -, hI⟩ := IsB.of_own ho
  have HF := Lib.hid hb
  have HC := Lib.hid (closed_any ao _ cap w1 hI)
  clear hb hI HV ho
  generalize Lib.uvarint s.size ++ s.data.toList = l at *
  go_wp2_with fail
  go_at_call 25; refine HC.out.mono ?_; rintro e w2 ⟨ao2, cap2, rfl, hI2, hf2⟩
  have HG := Lib.hid hf2
  have HI := Lib.hid hI2
  clear HC hf2 hI2
  go_wp2
  go_ret
  exact ⟨_, _, rfl, HI.out, Fuw.trans HF.out HG.out⟩
end Go.Proofs.YtehmdeponbhhjaaDoor
