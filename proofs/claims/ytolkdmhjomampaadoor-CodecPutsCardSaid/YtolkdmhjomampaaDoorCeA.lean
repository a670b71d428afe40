/-
  The reference of package codec: what PutUint, PutInt and PutStr return, for every argument: the same as package codec's; nothing that was there turns.
-/
import Derived.Test.YtolkdmhjomampaaDoorCdA
import Derived.Lib.ConvBytes
namespace Go.Proofs.YtolkdmhjomampaaDoor
open Go.RowKit

set_option maxHeartbeats 8000000 in
set_option maxRecDepth 100000 in
theorem rvarint_put (x : Nat) (hx : x < 18446744073709551616) (w : World) :
    Calls Tryd.prog 35 #[.int .u64 x] w fun e w' => ∃ v', e = .returned v' ∧ w'.ownsRow w.heap.size 5 1 v' (Lib.uvarint x).length (Lib.byteCells (Lib.uvarint x)) ∧ Fuw w w' := by
  obtain ⟨i0, hi, hz0, hz1, hz2⟩ := info_parts infoB
  have hlen := Lib.uvarint_length64 hx
  go_enter Tryd.func35, Tryd.ntmps35
  go_wp2
  go_loopw [0, 3] (fun vx vb wr => ∃ (y : Nat) (pre : List UInt8), vx = .int .u64 y ∧ y ≤ x ∧ Lib.uvarint x = pre ++ Lib.uvarint y ∧ wr.ownsRow w.heap.size 5 1 vb pre.length (Lib.byteCells pre) ∧ Below w.heap.size w wr)
    (fun vx _ _ => (intOf vx).toNat)
  case atStart => exact ⟨x, [], rfl, Nat.le_refl _, rfl, World.ownsRow_nil _ _ _ _, Below.refl _ _⟩
  case round =>
    obtain ⟨y, pre, rfl, hy, hsplit, hown1, hnx⟩ := hrel
    have hpl : pre.length + (Lib.uvarint y).length ≤ 10 := by
      have h2 := congrArg List.length hsplit
      rw [List.length_append] at h2
      omega
    have hyp := Lib.uvarint_pos y
    by_cases h128 : 128 ≤ y
    · go_wp2_with (at_builtin; refine wpList_append_own _ rfl _ _ 27 rfl w.heap.size 5 i0 (.int .u8 0) 1 1 Tryd.underlying27 hi hz0 hz1 hz2 rfl (by decide) _ _ _ rfl (hown1.alloc _) ⟨wr.heap.size, 0, none⟩ 1 1 [Value.int .u8 ((y % 128 + 128 : Nat) : Int)] rfl rfl ?c1 ?c2 ?c3 ?c4 ?c5 ?_)
      case c1 =>
        intro j u hj
        match j, hj with
        | 0, hj => simp at hj; subst hj; simp [Addr.add]
      case c2 => intro u hu; simp at hu; subst hu; rfl
      case c3 => unfold maxLen; omega
      case c4 => omega
      case c5 => have := hnx.size; simp; omega
      intro v' w1 hown' hgrow _
      have hnx1 : Below w.heap.size w w1 := (hnx.alloc (by have := hnx.size; omega) _).grown hgrow (by have := hnx.size; simp; omega) (fun k hk => (hown1.lt k hk).1)
      go_wp2
      go_roundw
      case rel =>
        refine ⟨y / 128, pre ++ [(y % 128 + 128).toUInt8], by go_num, by omega, by rw [hsplit, Lib.uvarint_big h128]; simp, ?_, hnx1⟩
        have ec : ((y % 128 + 128 : Nat) : Int) = (y : Int) % 128 + 128 := by omega
        rw [Lib.byteCells_snoc pre (by omega), List.length_append, List.length_singleton, ec]
        exact hown'
      case measure => simp [intOf]; omega
    · have hsm : Lib.uvarint y = [y.toUInt8] := Lib.uvarint_small (by omega)
      go_wp2_with (at_builtin; refine wpList_append_own _ rfl _ _ 27 rfl w.heap.size 5 i0 (.int .u8 0) 1 1 Tryd.underlying27 hi hz0 hz1 hz2 rfl (by decide) _ _ _ rfl (hown1.alloc _) ⟨wr.heap.size, 0, none⟩ 1 1 [Value.int .u8 (y : Int)] rfl rfl ?c1 ?c2 ?c3 ?c4 ?c5 ?_)
      case c1 =>
        intro j u hj
        match j, hj with
        | 0, hj => simp at hj; subst hj; simp [Addr.add]
      case c2 => intro u hu; simp at hu; subst hu; rfl
      case c3 => unfold maxLen; omega
      case c4 => omega
      case c5 => have := hnx.size; simp; omega
      intro v' w1 hown' hgrow _
      have hnx1 : Below w.heap.size w w1 := (hnx.alloc (by have := hnx.size; omega) _).grown hgrow (by have := hnx.size; simp; omega) (fun k hk => (hown1.lt k hk).1)
      go_wp2
      go_ret
      refine ⟨v', rfl, ?_, hnx1⟩
      rw [hsplit, hsm, Lib.byteCells_snoc pre (by omega), List.length_append, List.length_singleton]
      exact hown'
theorem ruint_put (n : Int) (h0 : -9223372036854775808 ≤ n) (h1 : n ≤ 9223372036854775807) (w : World) :
    Calls Tryd.prog 11 #[.int .i64 n] w fun e w' => ∃ v', e = .returned v' ∧ w'.ownsRow w.heap.size 5 1 v' (putU n).length (Lib.byteCells (putU n)) ∧ Fuw w w' := by
  by_cases hn : n < 0
  · have e : putU n = [] := if_pos hn
    rw [e]; clear e
    go_enter Tryd.func11, Tryd.ntmps11
    go_wp2
    go_ret
    exact ⟨_, rfl, World.ownsRow_nil _ _ _ _, Fuw.refl _⟩
  · have e : putU n = Lib.uvarint n.toNat := if_neg hn
    rw [e]; clear e
    obtain ⟨m, rfl⟩ := Int.eq_ofNat_of_zero_le (show 0 ≤ n by omega)
    have HV := Lib.hid (rvarint_put m (by omega) w)
    have hm : m < 9223372036854775808 := by omega
    clear h0 h1
    rw [Int.toNat_natCast]
    go_enter Tryd.func11, Tryd.ntmps11
    go_wp2_with fail
    go_at_call 35; refine HV.out.mono ?_; rintro e w1 ⟨v', rfl, ho, hf⟩
    have HO := Lib.hid ho
    have HF := Lib.hid hf
    clear hf ho HV
    go_wp2
    go_ret
    exact ⟨_, rfl, HO.out, HF.out⟩
theorem rput_uint (n : Int) (h0 : -9223372036854775808 ≤ n) (h1 : n ≤ 9223372036854775807) (w : World) :
    Calls Tryd.prog 11 #[.int .i64 n] w (RetY w (putU n)) :=
  (ruint_put n h0 h1 w).mono fun e w' ⟨v', he, ho, hf⟩ => by
    obtain ⟨ao, cap, hv, -, hI⟩ := IsB.of_own ho
    exact ⟨ao, cap, by rw [he, hv], hI, hf⟩
theorem rint_put (n : Int) (h0 : -9223372036854775808 ≤ n) (h1 : n ≤ 9223372036854775807) (w : World) :
    Calls Tryd.prog 13 #[.int .i64 n] w fun e w' => ∃ v', e = .returned v' ∧ w'.ownsRow w.heap.size 5 1 v' (putI n).length (Lib.byteCells (putI n)) ∧ Fuw w w' := by
  have HV := Lib.hid (rvarint_put (Lib.zigzag n) (Lib.zigzag_lt h0 h1) w)
  unfold putI
  by_cases hn : n < 0
  · have e : ((Lib.zigzag n : Nat) : Int) = 2 * (-(n + 1)) + 1 := by unfold Lib.zigzag; rw [if_neg (by omega)]; omega
    rw [e] at HV
    generalize Lib.uvarint (Lib.zigzag n) = l at *
    clear e
    go_enter Tryd.func13, Tryd.ntmps13
    go_wp2_with fail
    go_at_call 35; refine HV.out.mono ?_; rintro e w1 ⟨v', rfl, ho, hf⟩
    have HO := Lib.hid ho
    have HF := Lib.hid hf
    clear hf ho HV
    go_wp2
    go_ret
    exact ⟨_, rfl, HO.out, HF.out⟩
  · have e : ((Lib.zigzag n : Nat) : Int) = 2 * n := by rw [Lib.zigzag_nonneg (by omega)]; omega
    rw [e] at HV
    generalize Lib.uvarint (Lib.zigzag n) = l at *
    clear e
    go_enter Tryd.func13, Tryd.ntmps13
    go_wp2_with fail
    go_at_call 35; refine HV.out.mono ?_; rintro e w1 ⟨v', rfl, ho, hf⟩
    have HO := Lib.hid ho
    have HF := Lib.hid hf
    clear hf ho HV
    go_wp2
    go_ret
    exact ⟨_, rfl, HO.out, HF.out⟩
theorem rput_int (n : Int) (h0 : -9223372036854775808 ≤ n) (h1 : n ≤ 9223372036854775807) (w : World) :
    Calls Tryd.prog 13 #[.int .i64 n] w (RetY w (putI n)) :=
  (rint_put n h0 h1 w).mono fun e w' ⟨v', he, ho, hf⟩ => by
    obtain ⟨ao, cap, hv, -, hI⟩ := IsB.of_own ho
    exact ⟨ao, cap, by rw [he, hv], hI, hf⟩

theorem own_on {w w' : World} {base e size : Nat} {v : Value} {n : Nat} {xs : List Value} (h : w.ownsRow base e size v n xs) (hf : Fuw w w') : w'.ownsRow base e size v n xs := by
  refine ⟨h.1, ?_⟩
  rcases h.2 with h0 | ⟨g, cap, cur, hv, hg, hh, rest⟩
  · exact .inl h0
  · refine .inr ⟨g, cap, cur, hv, hg, ?_, rest⟩
    have hlt : g < w.heap.size := by
      rcases Nat.lt_or_ge g w.heap.size with k | k
      · exact k
      · rw [Array.getElem?_eq_none k] at hh; cases hh
    rw [Below.block hf g hlt]; exact hh
theorem fuw_bytes (w : World) (e : TypeId) (s : ByteArray) : Fuw w (Lib.bytesWorld w e s) :=
  ⟨rfl, rfl, rfl, by rw [Lib.bytesWorld_size]; omega, fun j hj => Lib.bytesWorld_at_old w e s j hj⟩
set_option maxRecDepth 100000 in
theorem rstr_put (s : ByteArray) (hs : s.size ≤ 1000000) (w : World) :
    Calls Tryd.prog 15 #[.string s] w fun e w' => ∃ v', e = .returned v' ∧ w'.ownsRow w.heap.size 5 1 v' (putS s.data.toList).length (Lib.byteCells (putS s.data.toList)) ∧ Fuw w w' := by
  obtain ⟨i0, hi, hz0, hz1, hz2⟩ := info_parts infoB
  have hu : putU (s.size : Int) = Lib.uvarint s.size := by unfold putU; rw [if_neg (by omega), Int.toNat_natCast]
  have hlen := Lib.uvarint_length64 (x := s.size) (by omega)
  have HV := Lib.hid (ruint_put (s.size : Int) (by omega) (by omega) w)
  rw [hu] at HV
  have e : s.data.toList.length = s.size := Array.length_toList
  have HS := Lib.hid (show putS s.data.toList = Lib.uvarint s.size ++ s.data.toList by unfold putS; rw [e])
  have HE := Lib.hid e
  clear e hu
  go_enter Tryd.func15, Tryd.ntmps15
  go_wp2_with fail
  go_at_call 11; refine HV.out.mono ?_; rintro e w1 ⟨v', rfl, ho, hf⟩
  clear HV
  have hcv := Lib.run_convert_string_bytes (P := Tryd.prog) w1 9 27 5 s (u := .string) Tryd.underlying9 Tryd.underlying27 Tryd.underlying5
  have HCL := Lib.hid (fun j hj => Lib.bytesWorld_cell w1 5 s j hj)
  have hb := fuw_bytes w1 5 s
  generalize Lib.bytesWorld w1 5 s = wb at hcv HCL hb
  generalize grownCap w1 s.size 0 5 = cap at hcv
  have ho2 := own_on ho hb
  have hf2 := Fuw.trans hf hb
  have hsz := hf2.size
  clear ho hb hf
  go_wp2_with (at_builtin; refine wpList_append_own _ rfl _ _ 27 rfl w.heap.size 5 i0 (.int .u8 0) 1 1 Tryd.underlying27 hi hz0 hz1 hz2 rfl (by decide) _ _ _ rfl ho2 ⟨w1.heap.size, 0, none⟩ s.size cap (Lib.byteCells s.data.toList) rfl ?c0 ?c1 ?c2 ?c3 ?c4 ?c5 ?_)
  case c0 => rw [Lib.byteCells_length, HE.out, Nat.mul_one]
  case c1 =>
    intro j u hj
    have hjl : j < s.data.toList.length := by
      rcases Nat.lt_or_ge j s.data.toList.length with h | h
      · exact h
      · rw [List.getElem?_eq_none (by rw [Lib.byteCells_length]; exact h)] at hj; cases hj
    rw [byteCells_get hjl] at hj
    have e1 := Option.some.inj hj
    subst e1
    rw [Go.WideShapes.add_plain, Nat.zero_add]
    exact HCL.out j (by rw [← HE.out]; exact hjl)
  case c2 =>
    intro u hu
    unfold Lib.byteCells at hu
    obtain ⟨c, -, rfl⟩ := List.mem_map.1 hu
    rfl
  case c3 => unfold maxLen; omega
  case c4 => omega
  case c5 => omega
  intro v2 w2 hown2 hgrow _
  have hb2 : Fuw w w2 := Below.grown hf2 hgrow (by omega) (fun k hk => (ho2.lt k hk).1)
  go_wp2
  go_ret
  refine ⟨v2, rfl, ?_, hb2⟩
  rw [HS.out, Lib.byteCells_append, List.length_append, HE.out]
  exact hown2
theorem rput_str (s : ByteArray) (hs : s.size ≤ 1000000) (w : World) :
    Calls Tryd.prog 15 #[.string s] w (RetY w (putS s.data.toList)) :=
  (rstr_put s hs w).mono fun e w' ⟨v', he, ho, hf⟩ => by
    obtain ⟨ao, cap, hv, -, hI⟩ := IsB.of_own ho
    exact ⟨ao, cap, by rw [he, hv], hI, hf⟩
end Go.Proofs.YtolkdmhjomampaaDoor
