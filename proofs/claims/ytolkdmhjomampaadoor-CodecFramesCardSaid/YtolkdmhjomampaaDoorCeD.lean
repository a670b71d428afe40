/-
  The reference of package codec: Unframe of all bytes and offsets gives what package codec's gives; nothing that was there turns.
-/
import Derived.Test.YtolkdmhjomampaaDoorCeC
namespace Go.Proofs.YtolkdmhjomampaaDoor
open Go.RowKit

/-- The four bytes of a checksum, read. -/
theorem le4_read {s : Nat} (hs : s < 4294967296) {L : List UInt8} (hL : L.length = 4) : le4 s = L ↔ (L.getD 0 0).toNat + 256 * (L.getD 1 0).toNat + 65536 * (L.getD 2 0).toNat + 16777216 * (L.getD 3 0).toNat = s := by
  match L, hL with
  | [a, b, c, d], _ =>
    show [(s % 256).toUInt8, (s / 256 % 256).toUInt8, (s / 65536 % 256).toUInt8, (s / 16777216 % 256).toUInt8] = [a, b, c, d] ↔ a.toNat + 256 * b.toNat + 65536 * c.toNat + 16777216 * d.toNat = s
    have h0 := a.toNat_lt; have h1 := b.toNat_lt; have h2 := c.toNat_lt; have h3 := d.toNat_lt
    constructor
    · intro e
      simp only [List.cons.injEq, and_true] at e
      obtain ⟨e0, e1, e2, e3⟩ := e
      subst e0 e1 e2 e3
      rw [Lib.toUInt8_toNat (Nat.mod_lt _ (by decide)), Lib.toUInt8_toNat (Nat.mod_lt _ (by decide)), Lib.toUInt8_toNat (Nat.mod_lt _ (by decide)), Lib.toUInt8_toNat (Nat.mod_lt _ (by decide))]
      omega
    · intro e
      simp only [List.cons.injEq, and_true]
      refine ⟨?_, ?_, ?_, ?_⟩ <;> apply UInt8.toNat_inj.1 <;> rw [Lib.toUInt8_toNat (Nat.mod_lt _ (by decide))] <;> omega
set_option maxHeartbeats 8000000 in
set_option maxRecDepth 100000 in
theorem runframe_is (ao : Option Addr) (l : List UInt8) (cap : Nat) (at_ : Int) (h0 : -9223372036854775808 ≤ at_) (h1 : at_ ≤ 9223372036854775807) (w : World) (h : IsB w ao l cap) (hb47 : l.length ≤ 1000000000000)
    (S : List UInt8) (E C : Int) (hv : unframeV l at_ = (S, E, C)) :
    Calls Tryd.prog 22 #[.slice ao l.length cap, .int .i64 at_] w (RetU w S E C) := by
  obtain ⟨i0, hi, hz0, hz1, hz2⟩ := info_parts infoB
  obtain ⟨u, n, c, hr⟩ : ∃ u n c, uintV l at_ = (u, n, c) := ⟨_, _, _, rfl⟩
  have hok := uint_ok hr
  have HV := Lib.hid (ruint_is ao l cap at_ h0 h1 w h hb47 u n c hr)
  clear h0 h1
  by_cases hc : c = 0
  · have ho := unf_ok hr hc hv
    obtain ⟨ha0, han, hnl⟩ := hok.2.2.2.1 hc
    have HC := Lib.hid hc
    clear hc hr hv
    by_cases g2 : (l.length : Int) - n - 4 < u
    · obtain ⟨rfl, rfl, rfl⟩ := ho.1 g2
      have hu0 := hok.1
      clear h hok ho
      by_cases g3 : (l.length : Int) - n < 4
      · go_enter Tryd.func22, Tryd.ntmps22
        go_wp2_with fail
        go_at_call 49; refine HV.out.mono ?_; rintro e1 w1 ⟨rfl, rfl⟩
        clear HV
        have hc := HC.out
        go_wp2
        go_ret3
        exact ⟨none, 0, rfl, IsB.empty _, Fuw.refl _⟩
      · go_enter Tryd.func22, Tryd.ntmps22
        go_wp2_with fail
        go_at_call 49; refine HV.out.mono ?_; rintro e1 w1 ⟨rfl, rfl⟩
        clear HV
        have hc := HC.out
        go_wp2
        go_ret3
        exact ⟨none, 0, rfl, IsB.empty _, Fuw.refl _⟩
    · replace ho := ho.2 g2
      obtain ⟨k, rfl⟩ := Int.eq_ofNat_of_zero_le (show 0 ≤ n by omega)
      obtain ⟨m, rfl⟩ := Int.eq_ofNat_of_zero_le (show 0 ≤ u by omega)
      rw [Int.toNat_natCast, Int.toNat_natCast, show (k : Int) + (m : Int) = ((k + m : Nat) : Int) by omega, Int.toNat_natCast] at ho
      have g3 : ¬ ((l.length : Int) - (k : Int) < 4) := by omega
      obtain ⟨a2, l2, c2, hl2, hlen2, hI2, hs2⟩ := slice_lh h (lo := k) (hi := k + m) (by omega) (by omega)
      have e2 : l2 = (l.drop k).take m := by rw [hl2, Nat.add_sub_cancel_left]
      obtain ⟨b, off, rfl, hb, hcell⟩ := h.at_ (by omega)
      have hr4 := le4_read (crc_lt l2) (L := (l.drop (k + m)).take 4) (by rw [List.length_take, List.length_drop]; omega)
      have q0 := hcell (k + m) (by omega)
      have q1 := hcell (k + m + 1) (by omega)
      have q2 := hcell (k + m + 2) (by omega)
      have q3 := hcell (k + m + 3) (by omega)
      have g0 : ∀ j, j < 4 → ((l.drop (k + m)).take 4).getD j 0 = l.getD (k + m + j) 0 := fun j hj => by rw [getD_take hj, getD_drop]
      rw [g0 0 (by decide), g0 1 (by decide), g0 2 (by decide), g0 3 (by decide), Nat.add_zero] at hr4
      rw [← e2] at ho
      have t0 := (l.getD (k + m) 0).toNat_lt
      have t1 := (l.getD (k + m + 1) 0).toNat_lt
      have t2 := (l.getD (k + m + 2) 0).toNat_lt
      have t3 := (l.getD (k + m + 3) 0).toNat_lt
      generalize (l.getD (k + m) 0).toNat = x0 at *
      generalize (l.getD (k + m + 1) 0).toNat = x1 at *
      generalize (l.getD (k + m + 2) 0).toNat = x2 at *
      generalize (l.getD (k + m + 3) 0).toNat = x3 at *
      have hs2' : (Instr.slice 27 (.slice (some ⟨b, off, none⟩) l.length cap) (some (.int .i64 k)) (some (.int .i64 ((k : Int) + (m : Int)))) none).run Tryd.prog (w.alloc (.cells #[] 5)) = .ok (.slice a2 l2.length c2) (w.alloc (.cells #[] 5)) := hs2 _
      have hI2' := hI2.on ((Fuw.refl w).alloc (.cells #[] 5))
      have HO := Lib.hid ho
      have HR4 := Lib.hid hr4
      have HL2 := Lib.hid hlen2
      clear hs2 hl2 e2 hlen2 ho hr4 hI2 hcell g0 hok h
      go_enter Tryd.func22, Tryd.ntmps22
      go_wp2_with fail
      go_at_call 49; refine HV.out.mono ?_; rintro e1 w1 ⟨rfl, rfl⟩
      clear HV
      have hc := HC.out
      go_upto_region 7 with (at_builtin; refine wpList_appB _ rfl _ _ rfl w.heap.size _ _ _ rfl (own_empty w) _ l2 _ rfl hI2' (by have := HL2.out; omega) (by simp) ?_; intro v2 w2 ho2 hf2)
      have hf := hf2 w ((Fuw.refl w).alloc _) (Nat.le_refl _)
      rw [List.nil_append, Nat.zero_add] at ho2
      obtain ⟨a5, c5, rfl, -, hI5⟩ := IsB.of_own ho2
      have HI5 := Lib.hid hI5
      have HF := Lib.hid hf
      replace q0 := (Below.cell hf (p := ⟨b, off + (k + m), none⟩) hb).trans q0
      replace q1 := (Below.cell hf (p := ⟨b, off + (k + m + 1), none⟩) hb).trans q1
      replace q2 := (Below.cell hf (p := ⟨b, off + (k + m + 2), none⟩) hb).trans q2
      replace q3 := (Below.cell hf (p := ⟨b, off + (k + m + 3), none⟩) hb).trans q3
      clear hf2 ho2 hI5 hs2' hI2'
      go_upto_region 8 with fail
      have z1 : IntKind.i64.wrap ((k : Int) + (m : Int) + 1) = (k : Int) + (m : Int) + 1 := IntWalk.i64_in _ (by omega)
      have z2 : IntKind.i64.wrap ((k : Int) + (m : Int) + 2) = (k : Int) + (m : Int) + 2 := IntWalk.i64_in _ (by omega)
      have z3 : IntKind.i64.wrap ((k : Int) + (m : Int) + 3) = (k : Int) + (m : Int) + 3 := IntWalk.i64_in _ (by omega)
      have z4 : IntKind.i64.wrap (256 * (x1 : Int)) = 256 * (x1 : Int) := IntWalk.i64_in _ (by omega)
      have z5 : IntKind.i64.wrap (65536 * (x2 : Int)) = 65536 * (x2 : Int) := IntWalk.i64_in _ (by omega)
      have z6 : IntKind.i64.wrap (16777216 * (x3 : Int)) = 16777216 * (x3 : Int) := IntWalk.i64_in _ (by omega)
      have z7 : IntKind.i64.wrap ((x0 : Int) + 256 * (x1 : Int)) = (x0 : Int) + 256 * (x1 : Int) := IntWalk.i64_in _ (by omega)
      have z8 : IntKind.i64.wrap ((x0 : Int) + 256 * (x1 : Int) + 65536 * (x2 : Int)) = (x0 : Int) + 256 * (x1 : Int) + 65536 * (x2 : Int) := IntWalk.i64_in _ (by omega)
      have z9 : IntKind.i64.wrap ((x0 : Int) + 256 * (x1 : Int) + 65536 * (x2 : Int) + 16777216 * (x3 : Int)) = (x0 : Int) + 256 * (x1 : Int) + 65536 * (x2 : Int) + 16777216 * (x3 : Int) := IntWalk.i64_in _ (by omega)
      have b0 : (0 : Int) ≤ (k : Int) + (m : Int) := by omega
      have b1 : (k : Int) + (m : Int) < l.length := by omega
      have b2 : (k : Int) + (m : Int) + 1 < l.length := by omega
      have b3 : (k : Int) + (m : Int) + 2 < l.length := by omega
      have b4 : (k : Int) + (m : Int) + 3 < l.length := by omega
      have n0 : ((k : Int) + (m : Int)).toNat = k + m := by omega
      have n1 : ((k : Int) + (m : Int) + 1).toNat = k + m + 1 := by omega
      have n2 : ((k : Int) + (m : Int) + 2).toNat = k + m + 2 := by omega
      have n3 : ((k : Int) + (m : Int) + 3).toNat = k + m + 3 := by omega
      have p1 : (0 : Int) ≤ (k : Int) + (m : Int) + 1 := by omega
      have p2 : (0 : Int) ≤ (k : Int) + (m : Int) + 2 := by omega
      have p3 : (0 : Int) ≤ (k : Int) + (m : Int) + 3 := by omega
      have y0 : IntKind.i64.wrap (x0 : Int) = (x0 : Int) := IntWalk.i64_in _ (by omega)
      have y1 : IntKind.i64.wrap (x1 : Int) = (x1 : Int) := IntWalk.i64_in _ (by omega)
      have y2 : IntKind.i64.wrap (x2 : Int) = (x2 : Int) := IntWalk.i64_in _ (by omega)
      have y3 : IntKind.i64.wrap (x3 : Int) = (x3 : Int) := IntWalk.i64_in _ (by omega)
      go_region_held3 (fun w' => w'.cell? ⟨b, off + (k + m), none⟩ = some (.int .u8 (x0 : Int)) ∧ w'.cell? ⟨b, off + (k + m + 1), none⟩ = some (.int .u8 (x1 : Int)) ∧ w'.cell? ⟨b, off + (k + m + 2), none⟩ = some (.int .u8 (x2 : Int)) ∧ w'.cell? ⟨b, off + (k + m + 3), none⟩ = some (.int .u8 (x3 : Int)))
        (first
          | go_keep
          | exact ⟨q0, q1, q2, q3⟩)
        (fail)
      have HSUM := Lib.hid (rsum_is a5 l2 c5 w2.drew (HI5.out.on (Fuw.drew (Fuw.refl w2))))
      have HF2 := Lib.hid (Fuw.drew HF.out)
      have HI6 := Lib.hid (HI5.out.on (Fuw.drew (Fuw.refl w2)))
      clear q0 q1 q2 q3 y0 y1 y2 y3 z1 z2 z3 z4 z5 z6 z7 z8 z9 n0 n1 n2 n3 hf
      by_cases hd : x0 + 256 * x1 + 65536 * x2 + 16777216 * x3 = crc l2
      · obtain ⟨rfl, rfl, rfl⟩ := HO.out.2 (HR4.out.2 hd)
        have hne : (((x0 : Int) + 256 * (x1 : Int) + 65536 * (x2 : Int) + 16777216 * (x3 : Int)) != ((crc S : Nat) : Int)) = false := by rw [bne_eq_false_iff_eq]; omega
        clear hd HO HR4
        go_wp2_with fail
        go_at_call 24; refine HSUM.out.mono ?_; rintro e5 w5 ⟨rfl, rfl⟩
        clear HSUM
        go_wp2
        go_ret3
        exact ⟨_, _, rfl, HI6.out, HF2.out⟩
      · obtain ⟨rfl, rfl, rfl⟩ := HO.out.1 (fun t => hd (HR4.out.1 t))
        have hne : (((x0 : Int) + 256 * (x1 : Int) + 65536 * (x2 : Int) + 16777216 * (x3 : Int)) != ((crc l2 : Nat) : Int)) = true := by rw [bne_iff_ne]; omega
        clear hd HO HR4
        go_wp2_with fail
        go_at_call 24; refine HSUM.out.mono ?_; rintro e5 w5 ⟨rfl, rfl⟩
        clear HSUM
        go_wp2
        go_ret3
        exact ⟨none, 0, rfl, IsB.empty _, HF2.out⟩
  · obtain ⟨rfl, rfl, rfl⟩ := unf_bad hr hc hv
    clear hv h hok
    go_enter Tryd.func22, Tryd.ntmps22
    go_wp2_with fail
    go_at_call 49; refine HV.out.mono ?_; rintro e1 w1 ⟨rfl, rfl⟩
    clear HV
    go_wp2
    go_ret3
    exact ⟨none, 0, rfl, IsB.empty _, Fuw.refl _⟩
end Go.Proofs.YtolkdmhjomampaaDoor
