/-
  The reference of package codec: Frame of every slice of at most a million bytes is its frame; nothing that was there turns.
-/
import Derived.Test.YtolkdmhjomampaaDoorCdE
import Derived.Test.YtolkdmhjomampaaDoorCeA
import Derived.Test.YtolkdmhjomampaaDoorCeB
namespace Go.Proofs.YtolkdmhjomampaaDoor
open Go.RowKit

theorem le4_cells (s : Nat) : Lib.byteCells (le4 s) = [.int .u8 ((s % 256 : Nat) : Int), .int .u8 ((s / 256 % 256 : Nat) : Int), .int .u8 ((s / 65536 % 256 : Nat) : Int), .int .u8 ((s / 16777216 % 256 : Nat) : Int)] := by
  unfold le4 Lib.byteCells
  simp only [List.map_cons, List.map_nil]
  rw [Lib.toUInt8_toNat (Nat.mod_lt _ (by decide)), Lib.toUInt8_toNat (Nat.mod_lt _ (by decide)), Lib.toUInt8_toNat (Nat.mod_lt _ (by decide)), Lib.toUInt8_toNat (Nat.mod_lt _ (by decide))]
set_option maxHeartbeats 8000000 in
set_option maxRecDepth 100000 in
theorem rframe_is (ao : Option Addr) (l : List UInt8) (cap : Nat) (w : World) (h : IsB w ao l cap) (hmax : l.length ≤ 1000000) :
    Calls Tryd.prog 26 #[.slice ao l.length cap] w (RetY w (frameV l)) := by
  obtain ⟨i0, hi, hz0, hz1, hz2⟩ := info_parts infoB
  have hh := Lib.uvarint_length64 (x := l.length) (by omega)
  have e : putU (l.length : Int) = Lib.uvarint l.length := by unfold putU; rw [if_neg (by omega), Int.toNat_natCast]
  have HV := Lib.hid (ruint_put (l.length : Int) (by omega) (by omega) w)
  rw [e] at HV
  have HF := Lib.hid (show frameV l = Lib.uvarint l.length ++ l ++ le4 (crc l) from rfl)
  generalize Lib.uvarint l.length = head at *
  have HI := Lib.hid h
  have hcl := crc_lt l
  clear e
  have hna : ao = none → l = [] := fun t => List.length_eq_zero_iff.1 (by have := h.nil t; have := h.le; omega)
  have hat : ∀ a, ao = some a → ∀ w', Fuw w w' → ∀ j u, (Lib.byteCells l)[j]? = some u → w'.cell? (a.add j) = some u := fun a t w' hf j u hu => by
    have hjl : j < l.length := by
      rcases Nat.lt_or_ge j l.length with k | k
      · exact k
      · rw [List.getElem?_eq_none (by rw [Lib.byteCells_length]; exact k)] at hu; cases hu
    obtain ⟨b, off, e, hb, hc⟩ := (h.on hf).at_ (by omega)
    rw [t] at e
    obtain rfl := Option.some.inj e
    rw [byteCells_get hjl] at hu
    rw [Go.WideShapes.add_plain, hc j hjl]
    exact hu
  clear h
  go_enter Tryd.func26, Tryd.ntmps26
  go_wp2_with fail
  go_at_call 11; refine HV.out.mono ?_; rintro e w1 ⟨v1, rfl, ho1, hf1⟩
  clear HV
  cases ao with
  | none =>
    have hl := hna rfl
    clear hna hat
    subst hl
    have hc0 := HI.out.nil rfl
    subst hc0
    go_upto_region 2 with (at_builtin; refine wpList_append_own_none rfl _ _ 27 rfl w.heap.size 5 i0 1 Tryd.underlying27 hi _ _ _ rfl ho1 rfl ?_)
    obtain ⟨v2, hv2⟩ : ∃ v2, v1 = v2 := ⟨_, rfl⟩
    obtain ⟨w2, hw2⟩ : ∃ w2, w1 = w2 := ⟨_, rfl⟩
    rw [hv2, hw2] at ho1
    rw [hw2] at hf1
    rw [hv2, hw2]
    clear hv2 hw2
    have hf2 := hf1
    have ho2 : w2.ownsRow w.heap.size 5 1 v2 (head.length + ([] : List UInt8).length) (Lib.byteCells head ++ Lib.byteCells []) := by simpa [Lib.byteCells] using ho1
    clear ho1 hf1
    have hcl2 : (crc [] : Int) < 4294967296 := by omega
    have HC4 := Lib.hid (le4_cells (crc []))
    have HSUM := Lib.hid (rsum_is _ [] 0 w2 (HI.out.on hf2))
    generalize crc [] = c at *
    go_wp2_with fail
    go_at_call 24; refine HSUM.out.mono ?_; rintro e5 w5 ⟨rfl, rfl⟩
    clear HSUM
    have hsz := hf2.size
    go_wp2_with (at_builtin; refine wpList_append_own _ rfl _ _ 27 rfl w.heap.size 5 i0 (.int .u8 0) 1 1 Tryd.underlying27 hi hz0 hz1 hz2 rfl (by decide) _ _ _ rfl (ho2.alloc _) ⟨w2.heap.size, 0, none⟩ 4 4 [.int .u8 ((c : Int) % 256), .int .u8 ((c : Int) / 256 % 256), .int .u8 ((c : Int) / 65536 % 256), .int .u8 ((c : Int) / 16777216)] rfl rfl ?c1 ?c2 ?c3 ?c4 ?c5 ?_)
    case c1 =>
      intro j u hj
      match j, hj with
      | 0, hj => simp at hj; subst hj; simp [Addr.add]
      | 1, hj => simp at hj; subst hj; simp [Addr.add]
      | 2, hj => simp at hj; subst hj; simp [Addr.add]
      | 3, hj => simp at hj; subst hj; simp [Addr.add]
    case c2 => intro u hu; simp at hu; rcases hu with rfl | rfl | rfl | rfl <;> rfl
    case c3 => unfold maxLen; omega
    case c4 => omega
    case c5 => simp; omega
    intro v3 w3 ho3 hg3 _
    have hf3 : Fuw w w3 := (Below.alloc hf2 hsz _).grown hg3 (by simp; omega) (fun k hk => (ho2.lt k hk).1)
    have hl4 : (le4 c).length = 4 := rfl
    rw [show [Value.int .u8 ((c : Int) % 256), .int .u8 ((c : Int) / 256 % 256), .int .u8 ((c : Int) / 65536 % 256), .int .u8 ((c : Int) / 16777216)] = Lib.byteCells (le4 c) by rw [HC4.out]; congr 3; congr 1; congr 1; congr 1; omega, ← Lib.byteCells_append, ← Lib.byteCells_append, ← List.append_assoc, ← HF.out] at ho3
    obtain ⟨a3, c3, rfl, -, hI3⟩ := IsB.of_own ho3
    have HI3 := Lib.hid hI3
    have HF3 := Lib.hid hf3
    clear ho3 hI3 hf3 ho2 hg3
    go_wp2
    go_ret
    exact ⟨_, _, rfl, HI3.out, HF3.out⟩
  | some ad =>
    have hat' := hat ad rfl w1 hf1
    clear hat hna
    go_upto_region 2 with (at_builtin; refine wpList_append_own _ rfl _ _ 27 rfl w.heap.size 5 i0 (.int .u8 0) 1 1 Tryd.underlying27 hi hz0 hz1 hz2 rfl (by decide) _ _ _ rfl ho1 ad l.length cap (Lib.byteCells l) rfl (by rw [Lib.byteCells_length, Nat.mul_one]) hat' (by intro u hu; unfold Lib.byteCells at hu; obtain ⟨c, -, rfl⟩ := List.mem_map.1 hu; rfl) (by unfold maxLen; omega) (by omega) hf1.size ?_; intro v2 w2 ho2 hg2 _)
    have hf2 : Fuw w w2 := Below.grown hf1 hg2 hf1.size (fun k hk => (ho1.lt k hk).1)
    clear ho1 hg2 hf1 hat'
    have hcl2 : (crc l : Int) < 4294967296 := by omega
    have HC4 := Lib.hid (le4_cells (crc l))
    have HSUM := Lib.hid (rsum_is _ l cap w2 (HI.out.on hf2))
    generalize crc l = c at *
    go_wp2_with fail
    go_at_call 24; refine HSUM.out.mono ?_; rintro e5 w5 ⟨rfl, rfl⟩
    clear HSUM
    have hsz := hf2.size
    go_wp2_with (at_builtin; refine wpList_append_own _ rfl _ _ 27 rfl w.heap.size 5 i0 (.int .u8 0) 1 1 Tryd.underlying27 hi hz0 hz1 hz2 rfl (by decide) _ _ _ rfl (ho2.alloc _) ⟨w2.heap.size, 0, none⟩ 4 4 [.int .u8 ((c : Int) % 256), .int .u8 ((c : Int) / 256 % 256), .int .u8 ((c : Int) / 65536 % 256), .int .u8 ((c : Int) / 16777216)] rfl rfl ?c1 ?c2 ?c3 ?c4 ?c5 ?_)
    case c1 =>
      intro j u hj
      match j, hj with
      | 0, hj => simp at hj; subst hj; simp [Addr.add]
      | 1, hj => simp at hj; subst hj; simp [Addr.add]
      | 2, hj => simp at hj; subst hj; simp [Addr.add]
      | 3, hj => simp at hj; subst hj; simp [Addr.add]
    case c2 => intro u hu; simp at hu; rcases hu with rfl | rfl | rfl | rfl <;> rfl
    case c3 => unfold maxLen; omega
    case c4 => omega
    case c5 => simp; omega
    intro v3 w3 ho3 hg3 _
    have hf3 : Fuw w w3 := (Below.alloc hf2 hsz _).grown hg3 (by simp; omega) (fun k hk => (ho2.lt k hk).1)
    have hl4 : (le4 c).length = 4 := rfl
    rw [show [Value.int .u8 ((c : Int) % 256), .int .u8 ((c : Int) / 256 % 256), .int .u8 ((c : Int) / 65536 % 256), .int .u8 ((c : Int) / 16777216)] = Lib.byteCells (le4 c) by rw [HC4.out]; congr 3; congr 1; congr 1; congr 1; omega, ← Lib.byteCells_append, ← Lib.byteCells_append, ← List.append_assoc, ← HF.out] at ho3
    obtain ⟨a3, c3, rfl, -, hI3⟩ := IsB.of_own ho3
    have HI3 := Lib.hid hI3
    have HF3 := Lib.hid hf3
    clear ho3 hI3 hf3 ho2 hg3
    go_wp2
    go_ret
    exact ⟨_, _, rfl, HI3.out, HF3.out⟩

end Go.Proofs.YtolkdmhjomampaaDoor
