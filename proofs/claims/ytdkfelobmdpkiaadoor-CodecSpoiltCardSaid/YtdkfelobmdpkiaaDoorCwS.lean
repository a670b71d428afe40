/-
  CodecSpoilt gives true by the contracts of package codec.
-/
import Derived.Test.YtdkfelobmdpkiaaDoorCdW
import Derived.Test.YtdkfelobmdpkiaaDoorCodS
namespace Go.Proofs.YtdkfelobmdpkiaaDoor
open Go.RowKit

/-- s[:hi] -/
theorem slice_h {w : World} {ao : Option Addr} {l : List UInt8} {cap : Nat} (h : IsB w ao l cap) {hi : Nat} (h2 : hi ≤ l.length) :
    ∃ ao' l' cap', l' = l.take hi ∧ IsB w ao' l' cap' ∧ ∀ w', (Instr.slice 27 (.slice ao l.length cap) none (some (.int .i64 hi)) none).run Tryd.prog w' = .ok (.slice ao' l'.length cap') w' := by
  have hle := h.le
  have k := h.sub (lo := 0) (Nat.zero_le _) h2 (Nat.le_trans h2 hle) (Nat.le_refl _)
  rw [List.drop_zero, Nat.sub_zero] at k
  have hl : (l.take hi).length = hi := by rw [List.length_take]; omega
  refine ⟨_, _, _, rfl, k, fun w' => ?_⟩
  rw [run_slice_h w' _ _ _ _ elem8 .i64 _ (by omega) (by omega), run_size8, hl]
  simp [Result.andThen, sliced]
/-- What a call owns, written to. -/
theorem own_out {w : World} {base g0 : Nat} {v : Value} {n : Nat} {L : List UInt8} (h : w.ownsRow base 5 1 v n (Lib.byteCells L)) (hp : 0 < L.length) (hb0 : g0 ≤ base) : ∃ g cap, v = .slice (some ⟨g, 0, none⟩) L.length cap ∧ g0 ≤ g ∧ L.length ≤ cap ∧ cap ≤ maxLen ∧ OutB w g L := by
  have hl := h.1
  rw [Lib.byteCells_length, Nat.mul_one] at hl
  subst hl
  rcases h.2 with ⟨rfl, h0⟩ | ⟨g, cap, cur, rfl, hb, hh, h1, h2, h3, h4⟩
  · omega
  · refine ⟨g, cap, rfl, by omega, h1, h2, ?_, fun j hj => ?_, fun j hj => Lib.frozen_of_heap hh _⟩
    · rcases Nat.lt_or_ge g w.heap.size with k | k
      · exact k
      · rw [Array.getElem?_eq_none k] at hh; cases hh
    · have k := h.cells (g := g) rfl j (.int .u8 ((L.getD j 0).toNat : Int)) (byteCells_get hj)
      rw [Go.WideShapes.add_plain, Nat.zero_add] at k
      exact k
theorem OutB.set {w : World} {g : Nat} {L : List UInt8} (h : OutB w g L) {k : Nat} (hk : k < L.length) (x : UInt8) : OutB (w.setCell ⟨g, k, none⟩ (.int .u8 (x.toNat : Int))) g (L.set k x) := by
  refine ⟨by rw [World.size_setCell]; exact h.lt, fun j hj => ?_, fun j hj => ?_⟩
  · rw [List.length_set] at hj
    by_cases e : j = k
    · subst e
      rw [World.cell?_setCell_same _ _ _ (h.at_ j hj)]
      rw [List.getD_eq_getElem?_getD, List.getElem?_set_self hj]; rfl
    · rw [World.cell?_setCell_other _ _ _ _ (by simp), h.at_ j hj]
      rw [List.getD_eq_getElem?_getD, List.getD_eq_getElem?_getD, List.getElem?_set_ne (Ne.symm e)]
  · rw [List.length_set] at hj
    rw [World.frozen?_setCell]
    exact h.fr j hj
set_option maxHeartbeats 8000000 in
set_option maxRecDepth 4000000 in
theorem spoilt_any (ao : Option Addr) (l : List UInt8) (cap : Nat) (at_ by_ : Int) (ha : 0 ≤ at_ ∧ at_ ≤ 255) (hby : 0 ≤ by_ ∧ by_ ≤ 255) (w : World) (h : IsB w ao l cap) (G : Good5 w) (HLV : Alive5) :
    Calls Tryd.prog 9 #[.slice ao l.length cap, .int .u8 at_, .int .u8 by_] w (RwC w true) := by
  have HA := Lib.hid HLV
  have HG := Lib.hid G
  have hlen := h.len.1
  by_cases hl : 120 < l.length
  · clear h G HLV
    go_enter Tryd.func9, Tryd.ntmps9
    go_wp2_with fail
    go_at_call 11; refine (HA.out _ HG.out).mono ?_; rintro e9 w9 ⟨rfl, f9⟩
    go_wp2
    go_ret
    exact ⟨rfl, f9⟩
  have hl2 : l.length ≤ 120 := by omega
  have HI := Lib.hid h
  have H5 := Lib.hid (frame_is ao l cap w h G (by omega))
  have hFL : (frameV l).length = l.length + 5 := by rw [frame_cons (by omega), List.length_cons, List.length_append]; rfl
  obtain ⟨a, rfl⟩ := Int.eq_ofNat_of_zero_le ha.1
  obtain ⟨y, rfl⟩ := Int.eq_ofNat_of_zero_le hby.1
  have ha' : a ≤ 255 := by omega
  have hy' : y ≤ 255 := by omega
  obtain ⟨k, hk⟩ : ∃ k, 1 + a % (l.length + 4) = k := ⟨_, rfl⟩
  have hkm : a % (l.length + 4) < l.length + 4 := Nat.mod_lt _ (by omega)
  have hk1 : 1 ≤ k := by omega
  have hk2 : k ≤ l.length + 4 := by omega
  have hki : (1 : Int) + (a : Int) % (((frameV l).length : Int) - 1) = (k : Int) := by
    rw [hFL, show (((l.length + 5 : Nat) : Int) - 1) = ((l.length + 4 : Nat) : Int) by omega, ← hk]
    omega
  have HU1 := Lib.hid (unf_short (l := l) (by omega) hk1 hk2)
  have HU2 : Hid (unframeV (frameV l) 0 = (l, ((frameV l).length : Int), 0)) := Lib.hid (by rw [hFL]; exact unf_whole (l := l) (by omega))
  have HU3 := Lib.hid (fun x => unf_spoilt (l := l) (x := x) (by omega) hk1 hk2)
  have hne : (((frameV l).length : Int) != (l.length : Int) + 5) = false := by rw [bne_eq_false_iff_eq]; omega
  have hF5 : 5 ≤ (frameV l).length := by omega
  have hF125 : (frameV l).length ≤ 125 := by omega
  have hkF : k < (frameV l).length := by omega
  have HL0 := Lib.hid hl2
  clear h G HLV ha hby hk hkm hl hk2 hFL hl2
  generalize frameV l = F at *
  go_enter Tryd.func9, Tryd.ntmps9
  have hl120 : ¬ ((120 : Int) < l.length) := by have := HL0.out; omega
  go_wp2_with fail
  go_at_call 33; refine H5.out.mono ?_; rintro e1 w1 ⟨a1, c1, rfl, i1, f1⟩
  clear H5
  obtain ⟨a2, L2, c2, hL2, i2, hs2⟩ := slice_h i1 (hi := k) (by omega)
  have hs2' := hs2 w1
  have H6 := Lib.hid (unframe_is a2 L2 c2 0 (by decide) (by decide) w1 i2 (HG.out.on f1) [] 0 3 (by rw [hL2]; exact HU1.out))
  clear hs2 hL2 i2 HU1
  go_wp2_with fail
  go_at_call 29; refine H6.out.mono ?_; rintro e2 w2 ⟨a3, c3, rfl, i3, f2⟩
  clear H6 hs2' i3
  have f12 := Fuw.trans f1 f2
  have i4 := (i1.on f2).on ((Fuw.refl w2).alloc (.cells #[] 5))
  go_upto_region 9 with (at_builtin; refine wpList_appB _ rfl _ _ rfl w2.heap.size _ _ _ rfl (own_empty w2) _ F _ rfl i4 (by omega) (by simp) ?_; intro v5 w5 ho5 hf5)
  have f5 := hf5 w2 ((Fuw.refl w2).alloc _) (Nat.le_refl _)
  rw [List.nil_append] at ho5
  obtain ⟨g, c5, rfl, hg, hc5, hm5, hO⟩ := own_out ho5 (by omega) (Nat.le_refl _)
  have hck := hO.at_ k hkF
  have hfk := hO.fr k hkF
  have hb8 : (F.getD k 0).toNat < 256 := (F.getD k 0).toNat_lt
  have HX := Lib.hid (xor8 (F.getD k 0).toNat y hb8 (by omega))
  have HO := Lib.hid hO
  obtain ⟨c, hc⟩ : ∃ c, (F.getD k 0).toNat = c := ⟨_, rfl⟩
  have HC := Lib.hid hc
  rw [hc] at hck HX
  clear ho5 hf5 i1 i4 hO hc hb8
  obtain ⟨x, hx⟩ : ∃ x, c ^^^ y = x := ⟨_, rfl⟩
  rw [hx] at HX
  have hx1 := HX.out.1
  have hx2 := HX.out.2.1
  have HXX := Lib.hid hx
  clear hx
  have hO6 := HO.out.set hkF x.toUInt8
  rw [Lib.toUInt8_toNat hx2] at hO6
  have hi6 := hO6.isB (cap := c5) (by rw [List.length_set]; exact hc5) hm5
  have hf6 : Fuw w (w5.setCell ⟨g, k, none⟩ (.int .u8 (x : Int))) := Below.setCell (Fuw.trans f12 f5) (Nat.le_trans f12.size hg) _
  have HI6 := Lib.hid hi6
  have HF6 := Lib.hid hf6
  have hkF' : (k : Int) < F.length := by omega
  have hk0' : (0 : Int) ≤ k := by omega
  clear hO6 hi6 hf6
  go_upto_region 10 with fail
  clear hck hfk hx1
  generalize w5.setCell ⟨g, k, none⟩ (.int .u8 (x : Int)) = w6 at *
  by_cases hy0 : y = 0
  · have hS : F.set k x.toUInt8 = F := by
      have e1 : x = c := by rw [← HXX.out, hy0, Nat.xor_zero]
      rw [e1, ← HC.out, byte_at hkF]
      have e2 : (F[k].toNat).toUInt8 = F[k] := by
        apply UInt8.toNat_inj.1
        rw [Lib.toUInt8_toNat (F[k].toNat_lt)]
      rw [e2, List.set_getElem_self]
    have hi7 := HI6.out
    rw [hS] at hi7
    have hyb : ((y : Int) == 0) = true := beq_iff_eq.2 (by omega)
    have H7 := Lib.hid (unframe_is (some ⟨g, 0, none⟩) F c5 0 (by decide) (by decide) w6 hi7 (HG.out.on HF6.out) l F.length 0 HU2.out)
    clear hi7 hS hy0
    go_wp2_with fail
    go_at_call 29; refine H7.out.mono ?_; rintro e7 w7 ⟨a7, c7, rfl, i7, f7⟩
    clear H7
    have f67 := Fuw.trans HF6.out f7
    have hcv1 := conv_bytes i7
    have hcv2 := conv_bytes (HI.out.on f67)
    have hT : ((yb l).toList == (yb l).toList) = true := beq_self_eq_true _
    have F67 := Lib.hid f67
    clear i7 f7 f67
    go_wp2_with fail
    go_at_call 11; refine (HA.out _ (HG.out.on F67.out)).mono ?_; rintro e9 w9 ⟨rfl, f9⟩
    go_wp2
    go_ret
    exact ⟨rfl, Fuw.trans F67.out f9⟩
  · have hS : x.toUInt8 ≠ F.getD k 0 := fun e => hy0 (HX.out.2.2 (by
      have := congrArg UInt8.toNat e
      rw [Lib.toUInt8_toNat hx2, HC.out] at this
      exact this))
    have hyb : ((y : Int) == 0) = false := beq_eq_false_iff_ne.2 (by omega)
    have H7 := unframe_is (some ⟨g, 0, none⟩) (F.set k x.toUInt8) c5 0 (by decide) (by decide) w6 HI6.out (HG.out.on HF6.out) [] 0 21 (HU3.out _ hS)
    rw [List.length_set] at H7
    have H7' := Lib.hid H7
    clear H7 hS hy0
    go_wp2_with fail
    go_at_call 29; refine H7'.out.mono ?_; rintro e7 w7 ⟨a7, c7, rfl, i7, f7⟩
    clear H7'
    have F67 := Lib.hid (Fuw.trans HF6.out f7)
    clear i7 f7
    go_wp2_with fail
    go_at_call 11; refine (HA.out _ (HG.out.on F67.out)).mono ?_; rintro e9 w9 ⟨rfl, f9⟩
    go_wp2
    go_ret
    exact ⟨rfl, Fuw.trans F67.out f9⟩
end Go.Proofs.YtdkfelobmdpkiaaDoor
