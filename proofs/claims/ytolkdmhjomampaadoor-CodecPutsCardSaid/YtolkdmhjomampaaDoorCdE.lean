/-
  Package codec: Frame of every slice of at most a million bytes is its frame, and Unframe of all bytes and offsets. Condition: the table of halves of a byte reads as its initialiser lays it (Good5). Nothing that was there turns.
-/
import Derived.Test.YtolkdmhjomampaaDoorCdB
import Derived.Test.YtolkdmhjomampaaDoorCdD
import Derived.Shelf.Spec.SlicesInsert
import Derived.Deep.RegionHeld3
namespace Go.Proofs.YtolkdmhjomampaaDoor
open Go.RowKit

theorem frame_a (head l : List UInt8) : (List.replicate (head.length + l.length + 4) (0 : UInt8)).take 0 ++ head ++ (List.replicate (head.length + l.length + 4) (0 : UInt8)).drop (0 + head.length) = head ++ List.replicate (l.length + 4) 0 := by
  rw [List.take_zero, List.nil_append, Nat.zero_add, List.drop_replicate]
  congr 2
  omega
theorem frame_b (head l : List UInt8) : (head ++ List.replicate (l.length + 4) (0 : UInt8)).take head.length ++ l ++ (head ++ List.replicate (l.length + 4) (0 : UInt8)).drop (head.length + l.length) = head ++ l ++ List.replicate 4 0 := by
  rw [List.take_left, List.drop_append]
  rw [List.drop_of_length_le (by omega), List.nil_append, List.drop_replicate]
  congr 2
  omega
theorem frame_c (head l s : List UInt8) (hs : s.length = 4) : (head ++ l ++ List.replicate 4 (0 : UInt8)).take (head.length + l.length) ++ s ++ (head ++ l ++ List.replicate 4 (0 : UInt8)).drop (head.length + l.length + s.length) = head ++ l ++ s := by
  rw [← List.length_append, List.take_left, List.drop_of_length_le (by rw [List.length_append, List.length_replicate, hs]; exact Nat.le_refl _), List.append_nil]
theorem le4_len (s : Nat) : (le4 s).length = 4 := rfl
set_option maxHeartbeats 8000000 in
set_option maxRecDepth 100000 in
theorem frame_is (ao : Option Addr) (l : List UInt8) (cap : Nat) (w : World) (h : IsB w ao l cap) (G : Good5 w) (hmax : l.length ≤ 1000000) :
    Calls Tryd.prog 25 #[.slice ao l.length cap] w (RetY w (frameV l)) := by
  obtain ⟨i0, hi, hz0, hz1, hz2⟩ := info_parts infoB
  have hh := Lib.uvarint_length64 (x := l.length) (by omega)
  have hp := Lib.uvarint_pos l.length
  have e : putU (l.length : Int) = Lib.uvarint l.length := by unfold putU; rw [if_neg (by omega), Int.toNat_natCast]
  have HV := Lib.hid (put_uint (l.length : Int) (by omega) (by omega) w)
  rw [e] at HV
  have HF := Lib.hid (show frameV l = Lib.uvarint l.length ++ l ++ le4 (crc l) from rfl)
  generalize Lib.uvarint l.length = head at *
  have HG := Lib.hid G
  have HI := Lib.hid h
  clear G h e
  go_enter Tryd.func25, Tryd.ntmps25
  go_wp2_with fail
  go_at_call 10; refine HV.out.mono ?_; rintro e w1 ⟨a1, c1, rfl, hI1, hf1⟩
  clear HV
  go_upto_region 3 with (at_make; refine wpList_make_full _ rfl (.tmp 14) (.tmp 14) 27 rfl w1.heap.size 5 i0 (.int .u8 0) 1 Tryd.underlying27 hi hz0 hz1 .i64 .i64 _ _ (head.length + l.length + 4) rfl rfl (by omega) (by omega) (by rw [hz2]; omega) (by unfold maxLen; omega) (Nat.le_refl _) ?_; intro w2 hown hgrow)
  have hf2 : Fuw w1 w2 := Below.grown (Below.refl _ _) hgrow (Nat.le_refl _) (fun k hk => by cases hk)
  have hO := made_bytes hown
  clear hown hgrow
  have hlen0 : (List.replicate (head.length + l.length + 4) (0 : UInt8)).length = head.length + l.length + 4 := List.length_replicate
  obtain ⟨w3, hcp, hO3, hf3⟩ := run_copyB (hI1.on hf2) (o := 0) (dLen := head.length + l.length + 4) (dCap := head.length + l.length + 4) hO (by omega) (by omega)
  rw [frame_a] at hO3
  have hf13 := hf3 w1 hf2 (Nat.le_refl _)
  have hw13 := Fuw.trans hf1 hf13
  clear hO hf3 hf2 hf13 hlen0
  have hlen3 : (head ++ List.replicate (l.length + 4) (0 : UInt8)).length = head.length + l.length + 4 := by rw [List.length_append, List.length_replicate]; omega
  have hs1 := slice_out (g := w1.heap.size) (n := head.length + l.length + 4) (at_ := head.length) (by omega) w3
  obtain ⟨w4, hcp2, hO4, hf4⟩ := run_copyB (HI.out.on hw13) (o := head.length) (dLen := head.length + l.length + 4 - head.length) (dCap := head.length + l.length + 4 - head.length) hO3 (by omega) (by omega)
  rw [frame_b] at hO4
  have hw14 := hf4 w hw13 hf1.size
  clear hO3 hf4 hlen3 hw13
  have hlen4 : (head ++ l ++ List.replicate 4 (0 : UInt8)).length = head.length + l.length + 4 := by rw [List.length_append, List.length_append, List.length_replicate]
  go_upto_region 4 with (at_builtin; refine wpList_copy_runI _ rfl _ _ 27 27 rfl _ _ rfl rfl (hcp _) ?_)
  clear hcp
  go_upto_region 5 with (at_builtin; refine wpList_copy_runI _ rfl _ _ 27 27 rfl _ _ rfl rfl (hcp2 _) ?_)
  clear hcp2 hs1 hi hz0 hz1 hz2
  have hs2 : ∀ w', (Instr.slice 27 (.slice (some ⟨w1.heap.size, 0, none⟩) (head.length + l.length + 4) (head.length + l.length + 4)) (some (.int .i64 ((head.length : Int) + (l.length : Int)))) none none).run Tryd.prog w' = .ok (.slice (some ⟨w1.heap.size, head.length + l.length, none⟩) 4 4) w' :=
    fun w' => by
      have k := slice_out (g := w1.heap.size) (n := head.length + l.length + 4) (at_ := head.length + l.length) (by omega) w'
      rw [Nat.add_sub_cancel_left] at k
      exact k
  have HO4 := Lib.hid hO4
  have HLN := Lib.hid hlen4
  clear hO4 hlen4
  have ff : Fuw w4 w4.drew := Fuw.drew (Fuw.refl w4)
  have HL4 := Lib.hid (le4_len (crc l))
  have f0 : Fuw w w4.drew := Fuw.trans hw14 ff
  go_region_held3 (fun w' => Fuw w w')
    (first
      | exact f0
      | exact hf7)
    (first
      | (go_at_call 23; refine (sum_is _ _ _ _ (HI.out.on (Fuw.trans hw14 ff)) (HG.out.on (Fuw.trans hw14 ff))).mono ?_; rintro e5 w5 ⟨rfl, rfl⟩)
      | (go_at_call 48; refine (put_sum _ _).mono ?_; rintro e6 w6 ⟨a6, c6, rfl, hI6, hf6⟩; replace ff := Fuw.trans ff hf6; replace f0 := Fuw.trans f0 hf6; obtain ⟨w7, hcp, hO7, hf7⟩ := run_copyB hI6 (g := w1.heap.size) (o := head.length + l.length) (dLen := 4) (dCap := 4) (HO4.out.on ff) (by rw [HLN.out, HL4.out]; omega) (by rw [HL4.out]; exact Nat.le_refl _); rw [frame_c _ _ _ HL4.out] at hO7; replace hf7 := hf7 w (Fuw.trans hw14 ff) hf1.size)
      | (refine step_copy_runI (by rfl) (.tmp 28) (.tmp 31) 27 27 (by rfl) _ _ (by rfl) (by rfl) (hcp _) ?_))
  have hln : (head ++ l ++ le4 (crc l)).length = head.length + l.length + 4 := by rw [List.length_append, List.length_append]; rfl
  have hI7 := hO7.isB (cap := head.length + l.length + 4) (by omega) (by unfold maxLen; omega)
  rw [← HF.out] at hI7 hln
  have HL7 := Lib.hid hln
  clear hln hcp
  go_wp2
  go_ret
  exact ⟨_, _, by rw [HL7.out]; rfl, hI7, hf7⟩

/-- Bytes, an offset and a code. -/
def RetU (w : World) (S : List UInt8) (E C : Int) (e : Ending) (w' : World) : Prop := ∃ ao cap, e = .returned (.tuple #[.slice ao S.length cap, .int .i64 E, .int .i64 C]) ∧ IsB w' ao S cap ∧ Fuw w w'
theorem yb_toList (l : List UInt8) : (yb l).toList = l := ByteArray.toList_mk l
theorem unf_ok {l : List UInt8} {at_ U n c : Int} (hr : uintV l at_ = (U, n, c)) (hc : c = 0) {S : List UInt8} {E C : Int} (hv : unframeV l at_ = (S, E, C)) :
    (((l.length : Int) - n - 4 < U) → S = [] ∧ E = 0 ∧ C = 3) ∧ (¬ ((l.length : Int) - n - 4 < U) → (le4 (crc ((l.drop n.toNat).take U.toNat)) ≠ (l.drop (n + U).toNat).take 4 → S = [] ∧ E = 0 ∧ C = 21) ∧ (le4 (crc ((l.drop n.toNat).take U.toNat)) = (l.drop (n + U).toNat).take 4 → S = (l.drop n.toNat).take U.toNat ∧ E = n + U + 4 ∧ C = 0)) := by
  unfold unframeV at hv
  rw [hr] at hv
  simp only [hc, ne_eq, not_true_eq_false, if_false] at hv
  refine ⟨fun g => ?_, fun g => ⟨fun k => ?_, fun k => ?_⟩⟩
  · rw [if_pos g] at hv
    obtain ⟨rfl, rfl, rfl⟩ : [] = S ∧ 0 = E ∧ 3 = C := by simpa using hv
    exact ⟨rfl, rfl, rfl⟩
  · rw [if_neg g, if_pos k] at hv
    obtain ⟨rfl, rfl, rfl⟩ : [] = S ∧ 0 = E ∧ 21 = C := by simpa using hv
    exact ⟨rfl, rfl, rfl⟩
  · rw [if_neg g, if_neg (fun t => t k)] at hv
    simp only [Prod.mk.injEq] at hv
    exact ⟨hv.1.symm, hv.2.1.symm, hv.2.2.symm⟩
theorem unf_bad {l : List UInt8} {at_ U n c : Int} (hr : uintV l at_ = (U, n, c)) (hc : c ≠ 0) {S : List UInt8} {E C : Int} (hv : unframeV l at_ = (S, E, C)) : S = [] ∧ E = 0 ∧ C = c := by
  unfold unframeV at hv
  rw [hr] at hv
  rw [if_pos hc] at hv
  simp only [Prod.mk.injEq] at hv
  exact ⟨hv.1.symm, hv.2.1.symm, hv.2.2.symm⟩
set_option maxHeartbeats 8000000 in
set_option maxRecDepth 100000 in
theorem unframe_is (ao : Option Addr) (l : List UInt8) (cap : Nat) (at_ : Int) (h0 : -9223372036854775808 ≤ at_) (h1 : at_ ≤ 9223372036854775807) (w : World) (h : IsB w ao l cap) (G : Good5 w)
    (S : List UInt8) (E C : Int) (hv : unframeV l at_ = (S, E, C)) :
    Calls Tryd.prog 21 #[.slice ao l.length cap, .int .i64 at_] w (RetU w S E C) := by
  obtain ⟨u, n, c, hr⟩ : ∃ u n c, uintV l at_ = (u, n, c) := ⟨_, _, _, rfl⟩
  have hok := uint_ok hr
  have hlen := h.len.1
  have HV := Lib.hid (uint_is ao l cap at_ h0 h1 w h u n c hr)
  clear h0 h1
  by_cases hc : c = 0
  · have ho := unf_ok hr hc hv
    obtain ⟨ha0, han, hnl⟩ := hok.2.2.2.1 hc
    have HC := Lib.hid hc
    clear hc hr hv
    by_cases g2 : (l.length : Int) - n - 4 < u
    · obtain ⟨rfl, rfl, rfl⟩ := ho.1 g2
      clear h hok G ho
      go_enter Tryd.func21, Tryd.ntmps21
      go_wp2_with fail
      go_at_call 27; refine HV.out.mono ?_; rintro e1 w1 ⟨rfl, rfl⟩
      clear HV
      have hc := HC.out
      go_wp2
      go_ret3
      exact ⟨none, 0, rfl, IsB.empty _, Fuw.refl _⟩
    · replace ho := ho.2 g2
      obtain ⟨k, rfl⟩ := Int.eq_ofNat_of_zero_le (show 0 ≤ n by omega)
      obtain ⟨m, rfl⟩ := Int.eq_ofNat_of_zero_le (show 0 ≤ u by omega)
      rw [Int.toNat_natCast, Int.toNat_natCast, show (k : Int) + (m : Int) = ((k + m : Nat) : Int) by omega, Int.toNat_natCast] at ho
      obtain ⟨a2, l2, c2, hl2, hlen2, hI2, hs2⟩ := slice_lhm h (lo := k) (hi := k + m) (by omega) (by omega)
      obtain ⟨a3, l3, c3, hl3, hlen3, hI3, hs3⟩ := slice_lh h (lo := k + m) (hi := k + m + 4) (by omega) (by omega)
      have e2 : l2 = (l.drop k).take m := by rw [hl2, Nat.add_sub_cancel_left]
      have e3 : l3 = (l.drop (k + m)).take 4 := by rw [hl3, Nat.add_sub_cancel_left]
      rw [← e2, ← e3] at ho
      have hs2' := hs2 w
      rw [show (((k + m : Nat)) : Int) = (k : Int) + (m : Int) by omega] at hs2'
      have hs3' : ∀ w', (Instr.slice 27 (.slice ao l.length cap) (some (.int .i64 ((k : Int) + (m : Int)))) (some (.int .i64 ((k : Int) + (m : Int) + 4))) none).run Tryd.prog w' = .ok (.slice a3 l3.length c3) w' := hs3
      have HL2 := Lib.hid hlen2
      have HO := Lib.hid ho
      have HI2 := Lib.hid hI2
      have HI3 := Lib.hid hI3
      have HG := Lib.hid G
      clear hs2 hs3 hl2 hlen2 hl3 hlen3 h hok e2 e3 ho hI2 hI3 G
      go_enter Tryd.func21, Tryd.ntmps21
      go_wp2_with fail
      go_at_call 27; refine HV.out.mono ?_; rintro e1 w1 ⟨rfl, rfl⟩
      clear HV
      have hc := HC.out
      go_upto_region 8 with fail
      clear hs2'
      have hwr : IntKind.i64.wrap ((k : Int) + (m : Int) + 4) = (k : Int) + (m : Int) + 4 := IntWalk.i64_in _ (by omega)
      have HCV := Lib.hid (fun w' (hf : Fuw w w') => conv_bytes (HI3.out.on hf))
      have ff : Fuw w w.drew := Fuw.drew (Fuw.refl w)
      by_cases hd : le4 (crc l2) = l3
      · obtain ⟨rfl, rfl, rfl⟩ := HO.out.2 hd
        have hcmp : ((yb (le4 (crc S))).toList == (yb l3).toList) = true := by rw [yb_toList, yb_toList, hd]; exact beq_self_eq_true _
        clear HO hd
        have hcv0 := HCV.out _ ff
        go_region_with
          (first
            | (go_at_call 23; refine (sum_is _ _ _ _ (HI2.out.on ff) (HG.out.on ff)).mono ?_; rintro e5 w5 ⟨rfl, rfl⟩)
            | (go_at_call 48; refine (put_sum _ _).mono ?_; rintro e6 w6 ⟨a6, c6, rfl, hI6, hf6⟩; replace ff := Fuw.trans ff hf6; have hcv6 := conv_bytes hI6; have hcv7 := HCV.out _ ff))
        all_goals
          go_wp2
          go_ret3
          exact ⟨_, _, rfl, HI2.out.on ff, ff⟩
      · obtain ⟨rfl, rfl, rfl⟩ := HO.out.1 hd
        have hcmp : ((yb (le4 (crc l2))).toList == (yb l3).toList) = false := by rw [yb_toList, yb_toList, beq_eq_false_iff_ne]; exact hd
        clear HO hd
        have hcv0 := HCV.out _ ff
        go_region_with
          (first
            | (go_at_call 23; refine (sum_is _ _ _ _ (HI2.out.on ff) (HG.out.on ff)).mono ?_; rintro e5 w5 ⟨rfl, rfl⟩)
            | (go_at_call 48; refine (put_sum _ _).mono ?_; rintro e6 w6 ⟨a6, c6, rfl, hI6, hf6⟩; replace ff := Fuw.trans ff hf6; have hcv6 := conv_bytes hI6; have hcv7 := HCV.out _ ff))
        all_goals
          go_wp2
          go_ret3
          exact ⟨none, 0, rfl, IsB.empty _, ff⟩
  · obtain ⟨rfl, rfl, rfl⟩ := unf_bad hr hc hv
    clear hv h hok G
    go_enter Tryd.func21, Tryd.ntmps21
    go_wp2_with fail
    go_at_call 27; refine HV.out.mono ?_; rintro e1 w1 ⟨rfl, rfl⟩
    clear HV
    go_wp2
    go_ret3
    exact ⟨none, 0, rfl, IsB.empty _, Fuw.refl _⟩
end Go.Proofs.YtolkdmhjomampaaDoor
