/-
  Package codec: Frame of every slice of at most a million bytes is its frame, and Unframe of all bytes and offsets. Condition: the table of halves of a byte reads as its initialiser lays it (Good5). Nothing that was there turns.
-/
import Derived.Test.YtehmdeponbhhjaaDoorCdB
import Derived.Test.YtehmdeponbhhjaaDoorM05
import Derived.Shelf.Spec.SlicesInsert
import Derived.Deep.RegionHeld3
namespace Go.Proofs.YtehmdeponbhhjaaDoor
open Go.RowKit

theorem frame_a (head l : List UInt8) : (List.replicate (head.length + l.length + 4) (0 : UInt8)).take 0 ++ head ++ (List.replicate (head.length + l.length + 4) (0 : UInt8)).drop (0 + head.length) = head ++ List.replicate (l.length + 4) 0 := by
  rw [List.take_zero, List.nil_append, Nat.zero_add, List.drop_replicate]
  congr 2
  omega
theorem frame_b (head l : List UInt8) : (head ++ List.replicate (l.length + 4) (0 : UInt8)).take head.length ++ l ++ (head ++ List.replicate (l.length + 4) (0 : UInt8)).drop (head.length + l.length) = head ++ l ++ List.replicate 4 0 := by
  rw [List.take_left, List.drop_append]
  rw [List.drop_of_length_le (by omega), List.nil_append, List.drop_replicate]
  congr 2
  omega
theorem frame_c (head l s : List UInt8) (hs : s.length = 4) : (head ++ l ++ List.replicate 4 (0 : UInt8)).take (head.length + l.length) ++ s ++ (head ++ l ++ List.replicate 4 (0 : UInt8)).drop (head.length + l.length + s.length) = head ++ l ++ s := by
  rw [← List.length_append, List.take_left, List.drop_of_length_le (by rw [List.length_append, List.length_replicate, hs]; exact Nat.le_refl _), List.append_nil]
theorem le4_len (s : Nat) : (le4 s).length = 4 := rfl
set_option maxHeartbeats 8000000 in
set_option maxRecDepth 100000 in
theorem frame_is (ao : Option Addr) (l : List UInt8) (cap : Nat) (w : World) (h : IsB w ao l cap) (G : Good5 w) (hmax : l.length ≤ 1000000) :
    Calls Tryd.prog 9 #[.slice ao l.length cap] w (RetY w (frameV l)) := by
  obtain ⟨i0, hi, hz0, hz1, hz2⟩ := info_parts infoB
  have hh := Lib.uvarint_length64 (x := l.length) (by omega)
  have hp := Lib.uvarint_pos l.length
  have e : putU (l.length : Int) = Lib.uvarint l.length := by unfold putU; rw [if_neg (by omega), Int.toNat_natCast]
  have HV := Lib.hid (put_uint (l.length : Int) (by omega) (by omega) w)
  rw [e] at HV
  have HF := Lib.hid (show frameV l = Lib.uvarint l.length ++ l ++ le4 (crc l) from rfl)
  generalize Lib.uvarint l.length = head at *
  have HG := Lib.hid G
  have HI := Lib.hid h
  clear G h e
  go_enter Tryd.func9, Tryd.ntmps9
  go_wp2_with fail
  go_at_call 10; refine HV.out.mono ?_; rintro e w1 ⟨a1, c1, rfl, hI1, hf1⟩
  clear HV
  go_upto_region 3 with (at_make; refine wpList_make_full _ rfl (.tmp 14) (.tmp 14) 22 rfl w1.heap.size 5 i0 (.int .u8 0) 1 Tryd.underlying22 hi hz0 hz1 .i64 .i64 _ _ (head.length + l.length + 4) rfl rfl (by omega) (by omega) (by rw [hz2]; omega) (by unfold maxLen; omega) (Nat.le_refl _) ?_; intro w2 hown hgrow)
  have hf2 : Fuw w1 w2 := Below.grown (Below.refl _ _) hgrow (Nat.le_refl _) (fun k hk => by cases hk)
  have hO := made_bytes hown
  clear hown hgrow
  have hlen0 : (List.replicate (head.length + l.length + 4) (0 : UInt8)).length = head.length + l.length + 4 := List.length_replicate
  obtain ⟨w3, hcp, hO3, hf3⟩ := run_copyB (hI1.on hf2) (o := 0) (dLen := head.length + l.length + 4) (dCap := head.length + l.length + 4) hO (by omega) (by omega)
  rw [frame_a] at hO3
  have hf13 := hf3 w1 hf2 (Nat.le_refl _)
  have hw13 := Fuw.trans hf1 hf13
  clear hO hf3 hf2 hf13 hlen0
  have hlen3 : (head ++ List.replicate (l.length + 4) (0 : UInt8)).length = head.length + l.length + 4 := by rw [List.length_append, List.length_replicate]; omega
  have hs1 := slice_out (g := w1.heap.size) (n := head.length + l.length + 4) (at_ := head.length) (by omega) w3
  obtain ⟨w4, hcp2, hO4, hf4⟩ := run_copyB (HI.out.on hw13) (o := head.length) (dLen := head.length + l.length + 4 - head.length) (dCap := head.length + l.length + 4 - head.length) hO3 (by omega) (by omega)
  rw [frame_b] at hO4
  have hw14 := hf4 w hw13 hf1.size
  clear hO3 hf4 hlen3 hw13
  have hlen4 : (head ++ l ++ List.replicate 4 (0 : UInt8)).length = head.length + l.length + 4 := by rw [List.length_append, List.length_append, List.length_replicate]
  go_upto_region 4 with (at_builtin; refine wpList_copy_runI _ rfl _ _ 22 22 rfl _ _ rfl rfl (hcp _) ?_)
  clear hcp
  go_upto_region 5 with (at_builtin; refine wpList_copy_runI _ rfl _ _ 22 22 rfl _ _ rfl rfl (hcp2 _) ?_)
  clear hcp2 hs1 hi hz0 hz1 hz2
  have hs2 : ∀ w', (Instr.slice 22 (.slice (some ⟨w1.heap.size, 0, none⟩) (head.length + l.length + 4) (head.length + l.length + 4)) (some (.int .i64 ((head.length : Int) + (l.length : Int)))) none none).run Tryd.prog w' = .ok (.slice (some ⟨w1.heap.size, head.length + l.length, none⟩) 4 4) w' :=
    fun w' => by
      have k := slice_out (g := w1.heap.size) (n := head.length + l.length + 4) (at_ := head.length + l.length) (by omega) w'
      rw [Nat.add_sub_cancel_left] at k
      exact k
  have HO4 := Lib.hid hO4
  have HLN := Lib.hid hlen4
  clear hO4 hlen4
  have ff : Fuw w4 w4.drew := Fuw.drew (Fuw.refl w4)
  have HL4 := Lib.hid (le4_len (crc l))
  have f0 : Fuw w w4.drew := Fuw.trans hw14 ff
  go_region_held3 (fun w' => Fuw w w')
    (first
      | exact f0
      | exact hf7)
    (first
      | (go_at_call 13; refine (sum_is _ _ _ _ (HI.out.on (Fuw.trans hw14 ff)) (HG.out.on (Fuw.trans hw14 ff))).mono ?_; rintro e5 w5 ⟨rfl, rfl⟩)
      | (go_at_call 24; refine (put_sum _ _).mono ?_; rintro e6 w6 ⟨a6, c6, rfl, hI6, hf6⟩; replace ff := Fuw.trans ff hf6; replace f0 := Fuw.trans f0 hf6; obtain ⟨w7, hcp, hO7, hf7⟩ := run_copyB hI6 (g := w1.heap.size) (o := head.length + l.length) (dLen := 4) (dCap := 4) (HO4.out.on ff) (by rw [HLN.out, HL4.out]; omega) (by rw [HL4.out]; exact Nat.le_refl _); rw [frame_c _ _ _ HL4.out] at hO7; replace hf7 := hf7 w (Fuw.trans hw14 ff) hf1.size)
      | (refine step_copy_runI (by rfl) (.tmp 28) (.tmp 31) 22 22 (by rfl) _ _ (by rfl) (by rfl) (hcp _) ?_))
  have hln : (head ++ l ++ le4 (crc l)).length = head.length + l.length + 4 := by rw [List.length_append, List.length_append]; rfl
  have hI7 := hO7.isB (cap := head.length + l.length + 4) (by omega) (by unfold maxLen; omega)
  rw [← HF.out] at hI7 hln
  have HL7 := Lib.hid hln
  clear hln hcp
  go_wp2
  go_ret
  exact ⟨_, _, by rw [HL7.out]; rfl, hI7, hf7⟩

/-- Bytes, an offset and a code. -/
def RetU (w : World) (S : List UInt8) (E C : Int) (e : Ending) (w' : World) : Prop := ∃ ao cap, e = .returned (.tuple #[.slice ao S.length cap, .int .i64 E, .int .i64 C]) ∧ IsB w' ao S cap ∧ Fuw w w'
theorem yb_toList (l : List UInt8) : (yb l).toList = l := ByteArray.toList_mk l
theorem unf_ok {l : List UInt8} {at_ U n c : Int} (hr : uintV l at_ = (U, n, c)) (hc : c = 0) {S : List UInt8} {E C : Int} (hv : unframeV l at_ = (S, E, C)) :
    (((l.length : Int) - n - 4 < U) → S = [] ∧ E = 0 ∧ C = 3) ∧ (¬ ((l.length : Int) - n - 4 < U) → (le4 (crc ((l.drop n.toNat).take U.toNat)) ≠ (l.drop (n + U).toNat).take 4 → S = [] ∧ E = 0 ∧ C = 21) ∧ (le4 (crc ((l.drop n.toNat).take U.toNat)) = (l.drop (n + U).toNat).take 4 → S = (l.drop n.toNat).take U.toNat ∧ E = n + U + 4 ∧ C = 0)) := by
  unfold unframeV at hv
  rw [hr] at hv
  simp only [hc, ne_eq, not_true_eq_false, if_false] at hv
  refine ⟨fun g => ?_, fun g => ⟨fun k => ?_, fun k => ?_⟩⟩
  · rw [if_pos g] at hv
    obtain ⟨rfl, rfl, rfl⟩ : [] = S ∧ 0 = E ∧ 3 = C := by simpa using hv
    exact ⟨rfl, rfl, rfl⟩
  · rw [if_neg g, if_pos k] at hv
    obtain ⟨rfl, rfl, rfl⟩ : [] = S ∧ 0 = E ∧ 21 = C := by simpa using hv
    exact ⟨rfl, rfl, rfl⟩
  · rw [if_neg g, if_neg (fun t => t k)] at hv
    simp only [Prod.mk.injEq] at hv
    exact ⟨hv.1.symm, hv.2.1.symm, hv.2.2.symm⟩
theorem unf_bad {l : List UInt8} {at_ U n c : Int} (hr : uintV l at_ = (U, n, c)) (hc : c ≠ 0) {S : List UInt8} {E C : Int} (hv : unframeV l at_ = (S, E, C)) : S = [] ∧ E = 0 ∧ C = c := by
  unfold unframeV at hv
  rw [hr] at hv
  rw [if_pos hc] at hv
  simp only [Prod.mk.injEq] at hv
  exact ⟨hv.1.symm, hv.2.1.symm, hv.2.2.symm⟩
end Go.Proofs.YtehmdeponbhhjaaDoor
