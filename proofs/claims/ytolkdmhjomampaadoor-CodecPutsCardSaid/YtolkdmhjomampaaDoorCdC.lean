/-
  Package codec and its reference: Sum of every slice of bytes is its CRC-32. Condition of package codec's: the table of halves of a byte reads as its initialiser lays it (Good5). Nothing turns.
-/
import Derived.Test.YtolkdmhjomampaaDoorCdMem
import Derived.Lib.Hide
import Derived.Lib.EndianBits
import Derived.Deep.Cut
namespace Go.Proofs.YtolkdmhjomampaaDoor
open Go.RowKit

/-- The table lies as its initialiser lays it. -/
structure Good5 (w : World) : Prop where
  lt : 0 < w.heap.size
  at_ : ∀ j, j < 16 → w.cell? ⟨0, j, none⟩ = some (.int .u32 ((halfs.getD j 0 : Nat) : Int))
theorem Good5.on {w w' : World} (h : Good5 w) (hf : Fuw w w') : Good5 w' :=
  ⟨Nat.lt_of_lt_of_le h.lt hf.size, fun j hj => (Below.cell hf (p := ⟨0, j, none⟩) h.lt).trans (h.at_ j hj)⟩
theorem xor32 (a b : Nat) (ha : a < 4294967296) (hb : b < 4294967296) : bits .xor .u32 (a : Int) (b : Int) = ((a ^^^ b : Nat) : Int) := by
  show IntKind.u32.wrap ((BitVec.ofInt 32 (a : Int) ^^^ BitVec.ofInt 32 (b : Int)).toNat : Int) = _
  have h1 : (BitVec.ofInt 32 (a : Int)).toNat = a := by
    rw [BitVec.ofInt_natCast, BitVec.toNat_ofNat]; exact Nat.mod_eq_of_lt (by omega)
  have h2 : (BitVec.ofInt 32 (b : Int)).toNat = b := by
    rw [BitVec.ofInt_natCast, BitVec.toNat_ofNat]; exact Nat.mod_eq_of_lt (by omega)
  rw [BitVec.toNat_xor, h1, h2]
  have := xor_lt ha hb
  rw [IntKind.wrap_u32]; omega
theorem and15 (a : Nat) (ha : a < 4294967296) : bits .and .u32 (a : Int) 15 = ((a % 16 : Nat) : Int) := by
  have h := bits_mask .u32 32 (by decide) wraps_u32 4 (by decide) (a : Int) (by omega) (by omega)
  rw [show ((2 : Int) ^ 4 - 1) = 15 by decide] at h
  rw [h]; omega
theorem halfs_lt : ∀ j : Fin 16, halfs.getD j.val 0 < 4294967296 := by decide
/-- Half a byte's step. -/
theorem half_step {w : World} (G : Good5 w) {c : Nat} (hc : c < 4294967296) : ∃ k t n : Nat, k < 16 ∧ bits .and .u32 (c : Int) 15 = (k : Int) ∧ w.cell? ⟨0, k, none⟩ = some (.int .u32 (t : Int)) ∧ bits .xor .u32 ((c : Int) / 16) (t : Int) = (n : Int) ∧ n < 4294967296 ∧ n = nib c := by
  refine ⟨c % 16, halfs.getD (c % 16) 0, nib c, Nat.mod_lt _ (by decide), and15 c hc, G.at_ _ (Nat.mod_lt _ (by decide)), ?_, nib_lt hc, rfl⟩
  have h := halfs_lt ⟨c % 16, Nat.mod_lt _ (by decide)⟩
  have k := xor32 (c / 16) (halfs.getD (c % 16) 0) (by omega) h
  rw [show ((c / 16 : Nat) : Int) = (c : Int) / 16 by omega] at k
  exact k
theorem crc_take {l : List UInt8} {i c x : Nat} (hi : i < l.length) (hx : (l.getD i 0).toNat = x) (hc : c = crcR 4294967295 (l.take i)) : cbits 8 (c ^^^ x) = crcR 4294967295 (l.take (i + 1)) := by
  rw [List.take_succ_eq_append_getElem hi, crcR_snoc, ← hc, ← byte_at hi, hx]; rfl
set_option maxHeartbeats 8000000 in
set_option maxRecDepth 100000 in
theorem sum_is (ao : Option Addr) (l : List UInt8) (cap : Nat) (w : World) (h : IsB w ao l cap) (G : Good5 w) :
    Calls Tryd.prog 23 #[.slice ao l.length cap] w fun e w' => e = .returned (.int .i64 (crc l : Nat)) ∧ w = w' := by
  have hlen := h.len.1
  have HG := Lib.hid G
  have HI := Lib.hid h
  clear h G
  go_enter Tryd.func23, Tryd.ntmps23
  go_wp2
  go_loop [3, 8] (fun v ii => ∃ i c : Nat, ii = .int .i64 i ∧ i ≤ l.length ∧ v = .int .u32 c ∧ c < 4294967296 ∧ Hid (c = crcR 4294967295 (l.take i))) (fun _ ii => l.length - (RowKit.intOf ii).toNat)
  case atStart => exact ⟨0, 4294967295, rfl, Nat.zero_le _, rfl, by decide, rfl⟩
  case round =>
    obtain ⟨i, c, rfl, hi, rfl, hc, HD⟩ := hrel
    by_cases hlt : i < l.length
    · obtain ⟨b, off, rfl, hb, hcc⟩ := HI.out.at_ (by omega)
      have hck := hcc i hlt
      have hcl : (l.getD i 0).toNat < 256 := (l.getD i 0).toNat_lt
      obtain ⟨x, hx⟩ : ∃ x, (l.getD i 0).toNat = x := ⟨_, rfl⟩
      have HN := Lib.hid (crc_take hlt hx HD.out)
      rw [hx] at hck hcl
      clear hcc hx
      have hx1 := xor32 c x hc (by omega)
      have hc1 := xor_lt hc (show x < 4294967296 by omega)
      generalize c ^^^ x = c1 at *
      obtain ⟨k1, t1, n1, hk1, ha1, hl1, hn1, hb1, e1⟩ := half_step HG.out hc1
      obtain ⟨k2, t2, n2, hk2, ha2, hl2, hn2, hb2, e2⟩ := half_step HG.out hb1
      have HE := Lib.hid (show n2 = crcR 4294967295 (l.take (i + 1)) by rw [← HN.out, e2, e1, nib_two])
      clear e1 e2 HN
      go_wp2
      go_round
      case rel => exact ⟨i + 1, n2, by go_num, by omega, rfl, hb2, HE.out⟩
      case measure => simp [RowKit.intOf]; omega
    · have e : i = l.length := by omega
      subst e
      have HE := Lib.hid (show crc l = c ^^^ 4294967295 by unfold crc; rw [HD.out, List.take_of_length_le (Nat.le_refl _)])
      have hx1 := xor32 c 4294967295 hc (by decide)
      have hb2 := xor_lt hc (show 4294967295 < 4294967296 by decide)
      generalize c ^^^ 4294967295 = c1 at *
      rw [show ((4294967295 : Nat) : Int) = 4294967295 from rfl] at hx1
      go_wp2
      go_ret
      exact ⟨ret_int (by rw [HE.out]), rfl⟩

theorem cbits_succ (k c : Nat) : cbits (k + 1) c = cbit (cbits k c) := by
  induction k generalizing c with
  | zero => rfl
  | succ n ih =>
    show cbits (n + 1) (cbit c) = cbit (cbits n (cbit c))
    exact ih (cbit c)
set_option maxHeartbeats 8000000 in
set_option maxRecDepth 100000 in
theorem rsum_is (ao : Option Addr) (l : List UInt8) (cap : Nat) (w : World) (h : IsB w ao l cap) :
    Calls Tryd.prog 24 #[.slice ao l.length cap] w fun e w' => e = .returned (.int .i64 (crc l : Nat)) ∧ w = w' := by
  have hlen := h.len.1
  have HI := Lib.hid h
  clear h
  go_enter Tryd.func24, Tryd.ntmps24
  go_wp2
  go_loop [3, 4] (fun v ii => ∃ i c : Nat, ii = .int .i64 i ∧ i ≤ l.length ∧ v = .int .u32 c ∧ c < 4294967296 ∧ Hid (c = crcR 4294967295 (l.take i))) (fun _ ii => l.length - (RowKit.intOf ii).toNat)
  case atStart => exact ⟨0, 4294967295, rfl, Nat.zero_le _, rfl, by decide, rfl⟩
  case round =>
    obtain ⟨i, c, rfl, hi, rfl, hc, HD⟩ := hrel
    by_cases hlt : i < l.length
    · obtain ⟨b, off, rfl, hb, hcc⟩ := HI.out.at_ (by omega)
      have hck := hcc i hlt
      have hcl : (l.getD i 0).toNat < 256 := (l.getD i 0).toNat_lt
      obtain ⟨x, hx⟩ : ∃ x, (l.getD i 0).toNat = x := ⟨_, rfl⟩
      have HN := Lib.hid (crc_take hlt hx HD.out)
      rw [hx] at hck hcl
      clear hcc hx
      have hx1 := xor32 c x hc (by omega)
      have hc1 := xor_lt hc (show x < 4294967296 by omega)
      generalize c ^^^ x = c1 at *
      have hil : (i : Int) < l.length := by omega
      go_wp2
      go_loop [3, 5] (fun v kk => ∃ k d : Nat, kk = .int .i64 k ∧ k ≤ 8 ∧ v = .int .u32 d ∧ d < 4294967296 ∧ Hid (d = cbits k c1)) (fun _ kk => 8 - (RowKit.intOf kk).toNat)
      case atStart => exact ⟨0, c1, rfl, by decide, rfl, hc1, rfl⟩
      case round =>
        obtain ⟨k, d, rfl, hk, rfl, hd, HK⟩ := hrel
        by_cases hk8 : k < 8
        · have hnext := cbits_succ k c1
          rw [← HK.out] at hnext
          by_cases ho : d % 2 = 1
          · have hb1 : cbit d = (d / 2) ^^^ 3988292384 := if_pos ho
            have hxx := xor32 (d / 2) 3988292384 (by omega) (by decide)
            have hlt2 := xor_lt (show d / 2 < 4294967296 by omega) (show 3988292384 < 4294967296 by decide)
            rw [hb1] at hnext
            rw [show ((d / 2 : Nat) : Int) = (d : Int) / 2 by omega, show ((3988292384 : Nat) : Int) = 3988292384 from rfl] at hxx
            have HX := Lib.hid hnext
            clear hnext hb1
            generalize (d / 2) ^^^ 3988292384 = d2 at *
            have ho' : (d : Int) % 2 = 1 := by omega
            clear ho
            go_wp2
            go_round
            case rel => exact ⟨k + 1, d2, by go_num, by omega, rfl, hlt2, HX.out.symm⟩
            case measure => simp [RowKit.intOf]; omega
          · have hb1 : cbit d = d / 2 := if_neg ho
            rw [hb1] at hnext
            have HX := Lib.hid hnext
            clear hnext hb1
            have ho' : ¬ ((d : Int) % 2 = 1) := by omega
            clear ho
            go_wp2
            go_round
            case rel => exact ⟨k + 1, d / 2, by go_num, by omega, by go_num, by omega, HX.out.symm⟩
            case measure => simp [RowKit.intOf]; omega
        · have e : k = 8 := by omega
          subst e
          have HE := Lib.hid (show d = crcR 4294967295 (l.take (i + 1)) by rw [HK.out, HN.out])
          go_wp2
          go_round
          case rel => exact ⟨i + 1, d, by go_num, by omega, rfl, hd, HE.out⟩
          case measure => simp [RowKit.intOf]; omega
    · have e : i = l.length := by omega
      subst e
      have HE := Lib.hid (show crc l = c ^^^ 4294967295 by unfold crc; rw [HD.out, List.take_of_length_le (Nat.le_refl _)])
      have hx1 := xor32 c 4294967295 hc (by decide)
      have hb2 := xor_lt hc (show 4294967295 < 4294967296 by decide)
      generalize c ^^^ 4294967295 = c1 at *
      rw [show ((4294967295 : Nat) : Int) = 4294967295 from rfl] at hx1
      go_wp2
      go_ret
      exact ⟨ret_int (by rw [HE.out]), rfl⟩
/-- A slice laid from four bytes. -/
theorem IsB.four {w : World} {g : Nat} {a b c d : Nat} {t : TypeId} {f : Nat × Nat} (ha : a < 256) (hb : b < 256) (hc : c < 256) (hd : d < 256) (h : w.heap[g]? = some (.cells #[.int .u8 (a : Int), .int .u8 (b : Int), .int .u8 (c : Int), .int .u8 (d : Int)] t f)) :
    IsB w (some ⟨g, 0, none⟩) [a.toUInt8, b.toUInt8, c.toUInt8, d.toUInt8] 4 := by
  refine ⟨Nat.le_refl _, by decide, (fun e => by cases e), fun _ => ⟨g, 0, rfl, ?_, fun j hj => ?_⟩⟩
  · rcases Nat.lt_or_ge g w.heap.size with k | k
    · exact k
    · rw [Array.getElem?_eq_none k] at h; cases h
  · have hj' : j = 0 ∨ j = 1 ∨ j = 2 ∨ j = 3 := by simp at hj; omega
    unfold World.cell?
    rcases hj' with rfl | rfl | rfl | rfl
    · rw [show ([a.toUInt8, b.toUInt8, c.toUInt8, d.toUInt8].getD 0 0).toNat = a from Lib.toUInt8_toNat ha]; simp [h]
    · rw [show ([a.toUInt8, b.toUInt8, c.toUInt8, d.toUInt8].getD 1 0).toNat = b from Lib.toUInt8_toNat hb]; simp [h]
    · rw [show ([a.toUInt8, b.toUInt8, c.toUInt8, d.toUInt8].getD 2 0).toNat = c from Lib.toUInt8_toNat hc]; simp [h]
    · rw [show ([a.toUInt8, b.toUInt8, c.toUInt8, d.toUInt8].getD 3 0).toNat = d from Lib.toUInt8_toNat hd]; simp [h]
theorem put_sum (s : Nat) (w : World) : Calls Tryd.prog 48 #[.int .i64 s] w (RetY w (le4 s)) := by
  have h0 : IntKind.u8.wrap (s : Int) = ((s % 256 : Nat) : Int) := by rw [IntKind.wrap_u8]; omega
  have h1 : IntKind.u8.wrap ((s : Int) / 256) = ((s / 256 % 256 : Nat) : Int) := by rw [IntKind.wrap_u8]; omega
  have h2 : IntKind.u8.wrap ((s : Int) / 65536) = ((s / 65536 % 256 : Nat) : Int) := by rw [IntKind.wrap_u8]; omega
  have h3 : IntKind.u8.wrap ((s : Int) / 16777216) = ((s / 16777216 % 256 : Nat) : Int) := by rw [IntKind.wrap_u8]; omega
  have a0 : s % 256 < 256 := by omega
  have a1 : s / 256 % 256 < 256 := by omega
  have a2 : s / 65536 % 256 < 256 := by omega
  have a3 : s / 16777216 % 256 < 256 := by omega
  unfold le4
  generalize s % 256 = x0 at *
  generalize s / 256 % 256 = x1 at *
  generalize s / 65536 % 256 = x2 at *
  generalize s / 16777216 % 256 = x3 at *
  go_enter Tryd.func48, Tryd.ntmps48
  go_wp2
  go_ret
  refine ⟨_, _, rfl, IsB.four (t := 5) (f := (0, 0)) a0 a1 a2 a3 ?_, (Fuw.refl w).alloc _⟩
  show (w.heap.push _)[w.heap.size]? = _
  rw [Array.getElem?_push, if_pos rfl]
end Go.Proofs.YtolkdmhjomampaaDoor
