/-
  Package codec: appendVarint and appendInt once more: of what lay there only the row appended to may have turned. For every argument.
-/
import Derived.Test.YtolkdmhjomampaaDoorCdA
import Derived.Maps.AppendAt
namespace Go.Proofs.YtolkdmhjomampaaDoor
open Go.RowKit

/-- Only the row o may have turned. -/
def KeepB (w w' : World) (o : Option Nat) : Prop := ∀ b, b < w.heap.size → some b ≠ o → w'.heap[b]? = w.heap[b]?
/-- A slice lies in the other's row or in a new one. -/
def Lies (w : World) (v v' : Value) : Prop := v'.ownBlock = v.ownBlock ∨ ∀ k, v'.ownBlock = some k → w.heap.size ≤ k
theorem keep_more {w wr w1 : World} {sv vb v' : Value} {o : Obj} (hs : w.heap.size ≤ wr.heap.size) (hk : KeepB w wr sv.ownBlock) (hl : Lies w sv vb) (hg : (wr.alloc o).grownBy w1 vb.ownBlock)
    (hat : v'.ownBlock = vb.ownBlock ∨ v'.ownBlock = some (wr.heap.size + 1)) : KeepB w w1 sv.ownBlock ∧ Lies w sv v' := by
  refine ⟨fun b hb hne => ?_, ?_⟩
  · have h1 : some b ≠ vb.ownBlock := by
      rcases hl with h | h
      · rw [h]; exact hne
      · intro e
        have := h b e.symm
        omega
    rw [hg.block b (by simp; omega) h1, Below.heap_alloc wr o b (by omega)]
    exact hk b hb hne
  · rcases hat with h | h
    · rcases hl with h2 | h2
      · exact .inl (h.trans h2)
      · exact .inr fun k e => h2 k (h ▸ e)
    · refine .inr fun k e => ?_
      rw [h] at e
      injection e with e
      subst e
      omega
theorem KeepB.trans {w w1 w2 : World} {sv v1 : Value} (h : KeepB w w1 sv.ownBlock) (k : KeepB w1 w2 v1.ownBlock) (hl : Lies w sv v1) (hs : w.heap.size ≤ w1.heap.size) : KeepB w w2 sv.ownBlock := fun b hb hne =>
  (k b (Nat.lt_of_lt_of_le hb hs) (by
    rcases hl with e | e
    · rw [e]; exact hne
    · intro q
      have := e b q.symm
      omega)).trans (h b hb hne)
set_option maxHeartbeats 8000000 in
set_option maxRecDepth 100000 in
theorem varint_put2 (B n x : Nat) (hx : x < 18446744073709551616) (sv : Value) (xs : List Value) (w : World) (hown : w.ownsRow B 5 1 sv n xs) (hBw : B ≤ w.heap.size) (hlim : n + 10 ≤ 140737488355328) :
    Calls Tryd.prog 34 #[sv, .int .u64 x] w fun e w' => ∃ v', e = .returned v' ∧ w'.ownsRow B 5 1 v' (n + (Lib.uvarint x).length) (xs ++ Lib.byteCells (Lib.uvarint x)) ∧ Below B w w' ∧ KeepB w w' sv.ownBlock ∧ Lies w sv v' := by
  obtain ⟨i0, hi, hz0, hz1, hz2⟩ := info_parts infoB
  have hlen := Lib.uvarint_length64 hx
  go_enter Tryd.func34, Tryd.ntmps34
  go_wp2
  go_loopw [0, 1] (fun vb vx wr => ∃ (y : Nat) (pre : List UInt8), vx = .int .u64 y ∧ y ≤ x ∧ Lib.uvarint x = pre ++ Lib.uvarint y ∧ wr.ownsRow B 5 1 vb (n + pre.length) (xs ++ Lib.byteCells pre) ∧ Below B w wr ∧ KeepB w wr sv.ownBlock ∧ Lies w sv vb)
    (fun _ vx _ => (intOf vx).toNat)
  case atStart => exact ⟨x, [], rfl, Nat.le_refl _, rfl, by simpa [Lib.byteCells] using hown, Below.refl _ _, fun _ _ _ => rfl, .inl rfl⟩
  case round =>
    obtain ⟨y, pre, rfl, hy, hsplit, hown1, hnx, hkp, hli⟩ := hrel
    have hpl : pre.length + (Lib.uvarint y).length ≤ 10 := by
      have h2 := congrArg List.length hsplit
      rw [List.length_append] at h2
      omega
    have hyp := Lib.uvarint_pos y
    by_cases h128 : 128 ≤ y
    · have hor : bits .or .u8 ((y : Int) % 256) 128 = ((y % 128 + 128 : Nat) : Int) := by
        rw [Lib.u8_or128_any _ (by omega) (by omega)]
        omega
      go_wp2_with (at_builtin; refine wpList_append_own_at _ rfl _ _ 27 rfl B 5 i0 (.int .u8 0) 1 1 Tryd.underlying27 hi hz0 hz1 hz2 rfl (by decide) _ _ _ rfl (hown1.alloc _) ⟨wr.heap.size, 0, none⟩ 1 1 [Value.int .u8 ((y % 128 + 128 : Nat) : Int)] rfl rfl ?c1 ?c2 ?c3 ?c4 ?c5 ?_)
      case c1 =>
        intro j u hj
        match j, hj with
        | 0, hj => simp at hj; subst hj; simp [Addr.add]
      case c2 => intro u hu; simp at hu; subst hu; rfl
      case c3 => unfold maxLen; omega
      case c4 => omega
      case c5 => have := hnx.size; simp; omega
      intro v' w1 hown' hgrow _ hat
      obtain ⟨hkp1, hli1⟩ := keep_more hnx.size hkp hli hgrow hat
      have hnx1 : Below B w w1 := (hnx.alloc (by have := hnx.size; omega) _).grown hgrow (by have := hnx.size; simp; omega) (fun k hk => (hown1.lt k hk).1)
      go_wp2
      go_roundw
      case rel =>
        refine ⟨y / 128, pre ++ [(y % 128 + 128).toUInt8], by go_num, by omega, by rw [hsplit, Lib.uvarint_big h128]; simp, ?_, hnx1, hkp1, hli1⟩
        have ec : ((y % 128 + 128 : Nat) : Int) = (y : Int) % 128 + 128 := by omega
        rw [Lib.byteCells_snoc pre (by omega), List.length_append, List.length_singleton, ← Nat.add_assoc, ec]
        exact hown'
      case measure => simp [intOf]; omega
    · have hsm : Lib.uvarint y = [y.toUInt8] := Lib.uvarint_small (by omega)
      go_wp2_with (at_builtin; refine wpList_append_own_at _ rfl _ _ 27 rfl B 5 i0 (.int .u8 0) 1 1 Tryd.underlying27 hi hz0 hz1 hz2 rfl (by decide) _ _ _ rfl (hown1.alloc _) ⟨wr.heap.size, 0, none⟩ 1 1 [Value.int .u8 (y : Int)] rfl rfl ?c1 ?c2 ?c3 ?c4 ?c5 ?_)
      case c1 =>
        intro j u hj
        match j, hj with
        | 0, hj => simp at hj; subst hj; simp [Addr.add]
      case c2 => intro u hu; simp at hu; subst hu; rfl
      case c3 => unfold maxLen; omega
      case c4 => omega
      case c5 => have := hnx.size; simp; omega
      intro v' w1 hown' hgrow _ hat
      obtain ⟨hkp1, hli1⟩ := keep_more hnx.size hkp hli hgrow hat
      have hnx1 : Below B w w1 := (hnx.alloc (by have := hnx.size; omega) _).grown hgrow (by have := hnx.size; simp; omega) (fun k hk => (hown1.lt k hk).1)
      go_wp2
      go_ret
      refine ⟨v', rfl, ?_, hnx1, hkp1, hli1⟩
      rw [hsplit, hsm, Lib.byteCells_snoc pre (by omega), List.length_append, List.length_singleton, ← Nat.add_assoc]
      exact hown'

theorem int_put2 (B n : Nat) (x : Int) (h0 : -9223372036854775808 ≤ x) (h1 : x ≤ 9223372036854775807) (sv : Value) (xs : List Value) (w : World) (hown : w.ownsRow B 5 1 sv n xs) (hBw : B ≤ w.heap.size) (hlim : n + 10 ≤ 140737488355328) :
    Calls Tryd.prog 36 #[sv, .int .i64 x] w fun e w' => ∃ v', e = .returned v' ∧ w'.ownsRow B 5 1 v' (n + (Lib.uvarint (Lib.zigzag x)).length) (xs ++ Lib.byteCells (Lib.uvarint (Lib.zigzag x))) ∧ Below B w w' ∧ KeepB w w' sv.ownBlock ∧ Lies w sv v' := by
  have HZ := Lib.hid (zigzag_any x h0 h1 w)
  have HV := Lib.hid (varint_put2 B n (Lib.zigzag x) (Lib.zigzag_lt h0 h1) sv xs w hown hBw hlim)
  clear hown hlim
  go_enter Tryd.func36, Tryd.ntmps36
  go_wp2_with fail
  go_at_call 53; refine HZ.out.mono ?_; rintro e w1 ⟨rfl, rfl⟩
  clear HZ
  go_wp2_with fail
  go_at_call 34; refine HV.out.mono ?_; rintro e w1 ⟨v', rfl, ho, hb⟩
  have HO := Lib.hid ho
  have HB := Lib.hid hb
  clear HV ho hb
  go_wp2
  go_ret
  exact ⟨_, rfl, HO.out, HB.out⟩
end Go.Proofs.YtolkdmhjomampaaDoor
