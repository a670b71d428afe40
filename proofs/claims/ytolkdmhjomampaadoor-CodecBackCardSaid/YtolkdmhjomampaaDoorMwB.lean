/-
  CodecBack gives true by the contracts of package codec: what a Put function writes is read back between any other bytes.
-/
import Derived.Test.YtolkdmhjomampaaDoorCdW
import Derived.Test.YtolkdmhjomampaaDoorCdG
import Derived.Test.YtolkdmhjomampaaDoorMpO
import Derived.Test.YtolkdmhjomampaaDoorMpv
import Derived.Test.YtolkdmhjomampaaDoorMre
namespace Go.Proofs.YtolkdmhjomampaaDoor
open Go.RowKit

/-- A frame between any other bytes. -/
theorem frame_back (f s r : List UInt8) (h : s.length ≤ 1000000) : unframeV (f ++ (frameV s ++ r)) f.length = (s, (f.length : Int) + (frameV s).length, 0) := by
  have hu := uint_back f (s ++ (le4 (crc s) ++ r)) (u := s.length) (by omega)
  have e0 : f ++ (frameV s ++ r) = f ++ (Lib.uvarint s.length ++ (s ++ (le4 (crc s) ++ r))) := by unfold frameV; simp
  have hl : (f ++ (Lib.uvarint s.length ++ (s ++ (le4 (crc s) ++ r)))).length = f.length + ((Lib.uvarint s.length).length + (s.length + (4 + r.length))) := by simp [le4_len]
  have hF : (frameV s).length = (Lib.uvarint s.length).length + s.length + 4 := by unfold frameV; simp [le4_len]; omega
  rw [e0, hF]
  unfold unframeV
  rw [hu]
  simp only
  have e : ((f.length : Int) + (Lib.uvarint s.length).length).toNat = f.length + (Lib.uvarint s.length).length := by omega
  have e2 : f ++ (Lib.uvarint s.length ++ (s ++ (le4 (crc s) ++ r))) = (f ++ Lib.uvarint s.length) ++ (s ++ (le4 (crc s) ++ r)) := by simp
  have e3 : ((f.length : Int) + (Lib.uvarint s.length).length + s.length).toNat = f.length + (Lib.uvarint s.length).length + s.length := by omega
  have e4 : f ++ (Lib.uvarint s.length ++ (s ++ (le4 (crc s) ++ r))) = (f ++ Lib.uvarint s.length ++ s) ++ (le4 (crc s) ++ r) := by simp
  have d1 : (f ++ (Lib.uvarint s.length ++ (s ++ (le4 (crc s) ++ r)))).drop (f.length + (Lib.uvarint s.length).length) = s ++ (le4 (crc s) ++ r) := by rw [e2, List.drop_left' (by simp)]
  have d2 : (f ++ (Lib.uvarint s.length ++ (s ++ (le4 (crc s) ++ r)))).drop (f.length + (Lib.uvarint s.length).length + s.length) = le4 (crc s) ++ r := by rw [e4, List.drop_left' (by simp; omega)]
  rw [if_neg (fun h => h rfl), if_neg (by rw [hl]; omega), e, e3, d1, d2, Int.toNat_natCast, List.take_left, List.take_left' (le4_len _), if_neg (fun h => h rfl)]
  congr 2
  omega
/-- Value, where it reads one. -/
theorem valueB_ok {ao : Option Addr} {l : List UInt8} {cap : Nat} {b E : Int} {x : Vl} {w : World} (h : IsB w ao l cap) (hv : valueV l b = .ok x E) :
    Calls Tryd.prog 18 #[.slice ao l.length cap, .int .i64 b] w fun e w' => ∃ a2 c2, e = .returned (.tuple #[.agg #[.int .i64 x.kd, .int .i64 x.nn, .int .i64 x.dd, .string (bs x.ss), .slice a2 x.ll.length c2], .int .i64 E, .int .i64 0]) ∧ (∀ w2, Fuw w' w2 → SlV w2 a2 x.ll c2) ∧ Fuw w w' := by
  have k := value_is ao l cap b w h
  rw [hv] at k
  refine k.mono fun e w' ⟨hf, a2, c2, he, hk⟩ => ⟨a2, c2, he, fun w2 hw => hk w2 hw.size fun q _ h2 => Below.block hw q h2, hf⟩

set_option maxHeartbeats 8000000 in
set_option maxRecDepth 4000000 in
theorem back_00 (w : World) (n : Int) (hn0 : -9223372036854775808 ≤ n) (hn1 : n ≤ 9223372036854775807) (v : Vl) (av : Option Addr) (cv : Nat) (hV : Vin v) (hs : SlV w av v.ll cv) (a2 : Option Addr) (l2 : List UInt8) (c2 : Nat) (h2 : IsB w a2 l2 c2) (a3 : Option Addr) (l3 : List UInt8) (c3 : Nat) (h3 : IsB w a3 l3 c3) (a4 : Option Addr) (l4 : List UInt8) (c4 : Nat) (h4 : IsB w a4 l4 c4) (G : Good5 w) (HLV : Alive5) (hsm : smV 21 v = true) (g2 : l2.length ≤ 200) (g3 : l3.length ≤ 200) (g4 : l4.length ≤ 200) (hneg : 0 ≤ n) (hX : okX v = false) :
    Calls Tryd.prog 6 #[.int .i64 n, vlv v av cv, .slice a2 l2.length c2, .slice a3 l3.length c3, .slice a4 l4.length c4] w (RwC w true) := by
  have HA := Lib.hid HLV
  have HG := Lib.hid G
  have S0 : Hid (∀ w', Fuw w w' → Calls Tryd.prog 8 #[vlv v av cv, .int .i64 0] w' (RetB w' true)) := Lib.hid (fun w' hf => by
    have k := small_any 21 (Nat.le_refl _) v av cv w' hV (hs.onw hf)
    rw [hsm, show (21 : Int) - ((21 : Nat) : Int) = 0 by decide] at k
    exact k)
  have AR : ∀ (L : List UInt8), L.length ≤ 100000000000000 → ∀ w' a c, Fuw w w' → IsB w' a L c → Calls Tryd.prog 28 #[.slice a2 l2.length c2, .slice a L.length c, .slice a4 l4.length c4] w' (RetY w' (l2 ++ (L ++ l4))) := fun L hL w' a c hf h => around_any a2 l2 c2 a L c a4 l4 c4 w' (h2.on hf) h (h4.on hf) (by omega)
  obtain ⟨B1, hB1⟩ : ∃ B, putU n = B := ⟨_, rfl⟩
  obtain ⟨B2, hB2⟩ : ∃ B, putI n = B := ⟨_, rfl⟩
  obtain ⟨B3, hB3⟩ : ∃ B, putS l3 = B := ⟨_, rfl⟩
  obtain ⟨B4, hB4⟩ : ∃ B, frameV l3 = B := ⟨_, rfl⟩
  obtain ⟨B5, hB5⟩ : ∃ B, putVal v = B := ⟨_, rfl⟩
  have z3 := Lib.uvarint_length64 (x := l3.length) (by omega)
  have m1 : B1.length ≤ 10 := by rw [← hB1]; unfold putU; rw [if_neg (by omega)]; exact Lib.uvarint_length64 (by omega)
  have m2 : B2.length ≤ 10 := by rw [← hB2]; exact Lib.uvarint_length64 (Lib.zigzag_lt hn0 hn1)
  have m3 : B3.length ≤ 300 := by rw [← hB3]; unfold putS; simp; omega
  have m4 : B4.length ≤ 300 := by rw [← hB4]; unfold frameV; simp [le4_len]; omega
  have m5 : B5.length = 0 := by rw [← hB5]; unfold putVal; rw [if_neg (by rw [hX]; decide)]; rfl
  have P1 := Lib.hid (fun w' => hB1 ▸ put_uint n hn0 hn1 w')
  have P2 := Lib.hid (fun w' => hB2 ▸ put_int n hn0 hn1 w')
  have P3 : Hid (∀ w', Calls Tryd.prog 14 #[.string (yb l3)] w' (RetY w' B3)) := Lib.hid (fun w' => by
    have k := put_str (yb l3) (by rw [yb_size]; omega) w'
    rw [yb_list, hB3] at k
    exact k)
  have P4 := Lib.hid (fun w' (hf : Fuw w w') => hB4 ▸ frame_is a3 l3 c3 w' (h3.on hf) (G.on hf) (by omega))
  have P5 := Lib.hid (fun w' (hf : Fuw w w') => hB5 ▸ put_value v av cv w' hV (hs.onw hf) (fun hX' => put_small hsm hX'))
  obtain ⟨Y1, hY1⟩ : ∃ Y, l2 ++ (B1 ++ l4) = Y := ⟨_, rfl⟩
  have A1 := Lib.hid (hY1 ▸ AR B1 (by omega))
  obtain ⟨Y2, hY2⟩ : ∃ Y, l2 ++ (B2 ++ l4) = Y := ⟨_, rfl⟩
  have A2 := Lib.hid (hY2 ▸ AR B2 (by omega))
  obtain ⟨Y3, hY3⟩ : ∃ Y, l2 ++ (B3 ++ l4) = Y := ⟨_, rfl⟩
  have A3 := Lib.hid (hY3 ▸ AR B3 (by omega))
  obtain ⟨Y4, hY4⟩ : ∃ Y, l2 ++ (B4 ++ l4) = Y := ⟨_, rfl⟩
  have A4 := Lib.hid (hY4 ▸ AR B4 (by omega))
  have q1 : uintV Y1 l2.length = (n, (l2.length : Int) + B1.length, 0) := by
    have e : putU n = Lib.uvarint n.toNat := by unfold putU; rw [if_neg (by omega)]
    have k := uint_back l2 l4 (u := n.toNat) (by omega)
    rw [← e, hB1, hY1, Int.toNat_of_nonneg hneg] at k
    exact k
  have U1' := Lib.hid (fun w' a c (h : IsB w' a Y1 c) => uint_is a Y1 c l2.length (by omega) (by omega) w' h _ _ _ q1)
  have q2 : intV Y2 l2.length = (n, (l2.length : Int) + B2.length, 0) := by
    have k := int_back l2 l4 (n := n) ⟨hn0, hn1⟩
    rw [show Lib.uvarint (Lib.zigzag n) = B2 from hB2, hY2] at k
    exact k
  have U2 := Lib.hid (fun w' a c (h : IsB w' a Y2 c) => int_is a Y2 c l2.length (by omega) (by omega) w' h _ _ _ q2)
  have q3 : strV Y3 l2.length l3.length = (l3, (l2.length : Int) + B3.length, 0) := by
    have k := str_back l2 l3 l4 (most := l3.length) (by omega) (by omega)
    have e : l2 ++ (Lib.uvarint l3.length ++ (l3 ++ l4)) = Y3 := by rw [← hY3, ← hB3]; unfold putS; simp
    have e2 : (l2.length : Int) + (Lib.uvarint l3.length).length + l3.length = (l2.length : Int) + B3.length := by rw [← hB3]; unfold putS; simp; omega
    rw [e, e2] at k
    exact k
  have U3 := Lib.hid (fun w' a c (h : IsB w' a Y3 c) => str_is a Y3 c l2.length l3.length (by omega) (by omega) w' h _ _ _ q3)
  have q4 : unframeV Y4 l2.length = (l3, (l2.length : Int) + B4.length, 0) := by
    have k := frame_back l2 l3 l4 (by omega)
    rw [hB4, hY4] at k
    exact k
  have U4 := Lib.hid (fun w' a c (hf : Fuw w w') (h : IsB w' a Y4 c) => unframe_is a Y4 c l2.length (by omega) (by omega) w' h (G.on hf) _ _ _ q4)
  have V6 := Lib.hid (fun w' (hf : Fuw w w') => hX ▸ rokV_any v av cv w' hV (hs.onw hf))
  have HI3 := Lib.hid h3
  have hl := hV.s
  unfold maxLen at hl
  have hT : ((yb l3).toList == (yb l3).toList) = true := beq_self_eq_true _
  obtain ⟨p0, q0⟩ := bx1 w v av cv
  have f0 := q0.b
  clear AR hB1 hB2 hB3 hB4 hB5 hY1 hY2 hY3 hY4 z3 q1 q2 q3 q4 h2 h3 h4 G HLV hsm hX hV hs q0 hl
  unfold vlv at *
  go_enter Tryd.func6, Tryd.ntmps6
  go_upto_region 1 with fail
  obtain ⟨W0, hW⟩ : ∃ W0, w.alloc (.cells #[.int .i64 v.kd, .int .i64 v.nn, .int .i64 v.dd, .string (bs v.ss), .slice av v.ll.length cv] 24) = W0 := ⟨_, rfl⟩
  rw [hW] at p0 f0
  rw [hW]
  clear hW
  have PB := Lib.hid p0
  have F0 := Lib.hid f0
  have g0 := Lib.hid (Fuw.refl W0)
  clear p0 f0
  obtain ⟨d0, d1, d2, d3, d4⟩ : _ ∧ _ ∧ _ ∧ _ ∧ _ := ⟨(PB.out.onw g0.out).c0, (PB.out.onw g0.out).c1, (PB.out.onw g0.out).c2, (PB.out.onw g0.out).c3, (PB.out.onw g0.out).c4⟩
  go_wp2_with fail
  go_at_call 8; refine (S0.out _ (Fuw.trans F0.out g0.out)).mono ?_; rintro e w1 ⟨rfl, f1⟩
  have g1 := Lib.hid (Fuw.trans g0.out f1.b)
  clear f1
  clear S0 d0 d1 d2 d3 d4
  go_wp2_with fail
  go_at_call 10; refine (P1.out _).mono ?_; rintro e w2 ⟨b2, e2, rfl, i2, f2⟩
  have g2 := Lib.hid (Fuw.trans g1.out f2)
  clear f2
  go_wp2_with fail
  go_at_call 28; refine (A1.out _ _ _ (Fuw.trans F0.out g2.out) i2).mono ?_; rintro e w3 ⟨b3, e3, rfl, i3, f3⟩
  have g3 := Lib.hid (Fuw.trans g2.out f3)
  clear f3
  go_wp2_with fail
  go_at_call 27; refine (U1'.out _ _ _ i3).mono ?_; rintro e ww ⟨rfl, rfl⟩
  clear P1 A1 U1' i2 i3
  go_wp2_with fail
  go_at_call 12; refine (P2.out _).mono ?_; rintro e w4 ⟨b4, e4, rfl, i4, f4⟩
  have g4 := Lib.hid (Fuw.trans g3.out f4)
  clear f4
  go_wp2_with fail
  go_at_call 28; refine (A2.out _ _ _ (Fuw.trans F0.out g4.out) i4).mono ?_; rintro e w5 ⟨b5, e5, rfl, i5, f5⟩
  have g5 := Lib.hid (Fuw.trans g4.out f5)
  clear f5
  go_wp2_with fail
  go_at_call 29; refine (U2.out _ _ _ i5).mono ?_; rintro e ww ⟨rfl, rfl⟩
  clear P2 A2 U2 i4 i5
  have cv1 := conv_bytes (HI3.out.on (Fuw.trans F0.out g5.out))
  go_wp2_with fail
  go_at_call 14; refine (P3.out _).mono ?_; rintro e w6 ⟨b6, e6, rfl, i6, f6⟩
  have g6 := Lib.hid (Fuw.trans g5.out f6)
  clear f6
  clear cv1
  go_wp2_with fail
  go_at_call 28; refine (A3.out _ _ _ (Fuw.trans F0.out g6.out) i6).mono ?_; rintro e w7 ⟨b7, e7, rfl, i7, f7⟩
  have g7 := Lib.hid (Fuw.trans g6.out f7)
  clear f7
  go_wp2_with fail
  go_at_call 30; refine (U3.out _ _ _ i7).mono ?_; rintro e ww ⟨rfl, rfl⟩
  clear P3 A3 U3 i6 i7
  have cv1 := conv_bytes (HI3.out.on (Fuw.trans F0.out g7.out))
  go_wp2_with fail
  go_at_call 25; refine (P4.out _ (Fuw.trans F0.out g7.out)).mono ?_; rintro e w8 ⟨b8, e8, rfl, i8, f8⟩
  have g8 := Lib.hid (Fuw.trans g7.out f8)
  clear f8
  clear cv1
  go_wp2_with fail
  go_at_call 28; refine (A4.out _ _ _ (Fuw.trans F0.out g8.out) i8).mono ?_; rintro e w9 ⟨b9, e9, rfl, i9, f9⟩
  have g9 := Lib.hid (Fuw.trans g8.out f9)
  clear f9
  go_wp2_with fail
  go_at_call 21; refine (U4.out _ _ _ (Fuw.trans F0.out g9.out) i9).mono ?_; rintro e w10 ⟨b10, e10, rfl, i10, f10⟩
  have g10 := Lib.hid (Fuw.trans g9.out f10)
  clear f10
  have cv2 := conv_bytes i10
  have cv1 := conv_bytes (HI3.out.on (Fuw.trans F0.out g10.out))
  clear P4 A4 U4 i8 i9 i10
  obtain ⟨d0, d1, d2, d3, d4⟩ : _ ∧ _ ∧ _ ∧ _ ∧ _ := ⟨(PB.out.onw g10.out).c0, (PB.out.onw g10.out).c1, (PB.out.onw g10.out).c2, (PB.out.onw g10.out).c3, (PB.out.onw g10.out).c4⟩
  go_wp2_with fail
  go_at_call 16; refine (P5.out _ (Fuw.trans F0.out g10.out)).mono ?_; rintro e w11 ⟨b11, e11, rfl, i11, f11⟩
  have g11 := Lib.hid (Fuw.trans g10.out f11)
  clear f11
  clear cv1 cv2 d0 d1 d2 d3 d4
  obtain ⟨d0, d1, d2, d3, d4⟩ : _ ∧ _ ∧ _ ∧ _ ∧ _ := ⟨(PB.out.onw g11.out).c0, (PB.out.onw g11.out).c1, (PB.out.onw g11.out).c2, (PB.out.onw g11.out).c3, (PB.out.onw g11.out).c4⟩
  go_wp2_with fail
  go_at_call 31; refine (V6.out _ (Fuw.trans F0.out g11.out)).mono ?_; rintro e w12 ⟨rfl, f12⟩
  have g12 := Lib.hid (Fuw.trans g11.out f12.b)
  clear f12
  clear P5 V6 d0 d1 d2 d3 d4
  go_wp2_with fail
  go_at_call 9; refine (HA.out _ (HG.out.on (Fuw.trans F0.out g12.out))).mono ?_; rintro e w999 ⟨rfl, f999⟩
  go_wp2
  go_ret
  exact ⟨rfl, Fuw.trans (Fuw.trans F0.out g12.out) f999⟩

set_option maxHeartbeats 8000000 in
set_option maxRecDepth 4000000 in
theorem back_01 (w : World) (n : Int) (hn0 : -9223372036854775808 ≤ n) (hn1 : n ≤ 9223372036854775807) (v : Vl) (av : Option Addr) (cv : Nat) (hV : Vin v) (hs : SlV w av v.ll cv) (a2 : Option Addr) (l2 : List UInt8) (c2 : Nat) (h2 : IsB w a2 l2 c2) (a3 : Option Addr) (l3 : List UInt8) (c3 : Nat) (h3 : IsB w a3 l3 c3) (a4 : Option Addr) (l4 : List UInt8) (c4 : Nat) (h4 : IsB w a4 l4 c4) (G : Good5 w) (HLV : Alive5) (hsm : smV 21 v = true) (g2 : l2.length ≤ 200) (g3 : l3.length ≤ 200) (g4 : l4.length ≤ 200) (hneg : 0 ≤ n) (hX : okX v = true) :
    Calls Tryd.prog 6 #[.int .i64 n, vlv v av cv, .slice a2 l2.length c2, .slice a3 l3.length c3, .slice a4 l4.length c4] w (RwC w true) := by
  have HA := Lib.hid HLV
  have HG := Lib.hid G
  have S0 : Hid (∀ w', Fuw w w' → Calls Tryd.prog 8 #[vlv v av cv, .int .i64 0] w' (RetB w' true)) := Lib.hid (fun w' hf => by
    have k := small_any 21 (Nat.le_refl _) v av cv w' hV (hs.onw hf)
    rw [hsm, show (21 : Int) - ((21 : Nat) : Int) = 0 by decide] at k
    exact k)
  have AR : ∀ (L : List UInt8), L.length ≤ 100000000000000 → ∀ w' a c, Fuw w w' → IsB w' a L c → Calls Tryd.prog 28 #[.slice a2 l2.length c2, .slice a L.length c, .slice a4 l4.length c4] w' (RetY w' (l2 ++ (L ++ l4))) := fun L hL w' a c hf h => around_any a2 l2 c2 a L c a4 l4 c4 w' (h2.on hf) h (h4.on hf) (by omega)
  obtain ⟨B1, hB1⟩ : ∃ B, putU n = B := ⟨_, rfl⟩
  obtain ⟨B2, hB2⟩ : ∃ B, putI n = B := ⟨_, rfl⟩
  obtain ⟨B3, hB3⟩ : ∃ B, putS l3 = B := ⟨_, rfl⟩
  obtain ⟨B4, hB4⟩ : ∃ B, frameV l3 = B := ⟨_, rfl⟩
  obtain ⟨B5, hB5⟩ : ∃ B, putVal v = B := ⟨_, rfl⟩
  have z3 := Lib.uvarint_length64 (x := l3.length) (by omega)
  have m1 : B1.length ≤ 10 := by rw [← hB1]; unfold putU; rw [if_neg (by omega)]; exact Lib.uvarint_length64 (by omega)
  have m2 : B2.length ≤ 10 := by rw [← hB2]; exact Lib.uvarint_length64 (Lib.zigzag_lt hn0 hn1)
  have m3 : B3.length ≤ 300 := by rw [← hB3]; unfold putS; simp; omega
  have m4 : B4.length ≤ 300 := by rw [← hB4]; unfold frameV; simp [le4_len]; omega
  have m5 : B5.length ≤ 100000000000000 := by rw [← hB5]; unfold putVal; rw [if_pos hX]; exact put_small hsm hX
  have P1 := Lib.hid (fun w' => hB1 ▸ put_uint n hn0 hn1 w')
  have P2 := Lib.hid (fun w' => hB2 ▸ put_int n hn0 hn1 w')
  have P3 : Hid (∀ w', Calls Tryd.prog 14 #[.string (yb l3)] w' (RetY w' B3)) := Lib.hid (fun w' => by
    have k := put_str (yb l3) (by rw [yb_size]; omega) w'
    rw [yb_list, hB3] at k
    exact k)
  have P4 := Lib.hid (fun w' (hf : Fuw w w') => hB4 ▸ frame_is a3 l3 c3 w' (h3.on hf) (G.on hf) (by omega))
  have P5 := Lib.hid (fun w' (hf : Fuw w w') => hB5 ▸ put_value v av cv w' hV (hs.onw hf) (fun hX' => put_small hsm hX'))
  obtain ⟨Y1, hY1⟩ : ∃ Y, l2 ++ (B1 ++ l4) = Y := ⟨_, rfl⟩
  have A1 := Lib.hid (hY1 ▸ AR B1 (by omega))
  obtain ⟨Y2, hY2⟩ : ∃ Y, l2 ++ (B2 ++ l4) = Y := ⟨_, rfl⟩
  have A2 := Lib.hid (hY2 ▸ AR B2 (by omega))
  obtain ⟨Y3, hY3⟩ : ∃ Y, l2 ++ (B3 ++ l4) = Y := ⟨_, rfl⟩
  have A3 := Lib.hid (hY3 ▸ AR B3 (by omega))
  obtain ⟨Y4, hY4⟩ : ∃ Y, l2 ++ (B4 ++ l4) = Y := ⟨_, rfl⟩
  have A4 := Lib.hid (hY4 ▸ AR B4 (by omega))
  obtain ⟨Y5, hY5⟩ : ∃ Y, l2 ++ (B5 ++ l4) = Y := ⟨_, rfl⟩
  have A5 := Lib.hid (hY5 ▸ AR B5 (by omega))
  have q1 : uintV Y1 l2.length = (n, (l2.length : Int) + B1.length, 0) := by
    have e : putU n = Lib.uvarint n.toNat := by unfold putU; rw [if_neg (by omega)]
    have k := uint_back l2 l4 (u := n.toNat) (by omega)
    rw [← e, hB1, hY1, Int.toNat_of_nonneg hneg] at k
    exact k
  have U1' := Lib.hid (fun w' a c (h : IsB w' a Y1 c) => uint_is a Y1 c l2.length (by omega) (by omega) w' h _ _ _ q1)
  have q2 : intV Y2 l2.length = (n, (l2.length : Int) + B2.length, 0) := by
    have k := int_back l2 l4 (n := n) ⟨hn0, hn1⟩
    rw [show Lib.uvarint (Lib.zigzag n) = B2 from hB2, hY2] at k
    exact k
  have U2 := Lib.hid (fun w' a c (h : IsB w' a Y2 c) => int_is a Y2 c l2.length (by omega) (by omega) w' h _ _ _ q2)
  have q3 : strV Y3 l2.length l3.length = (l3, (l2.length : Int) + B3.length, 0) := by
    have k := str_back l2 l3 l4 (most := l3.length) (by omega) (by omega)
    have e : l2 ++ (Lib.uvarint l3.length ++ (l3 ++ l4)) = Y3 := by rw [← hY3, ← hB3]; unfold putS; simp
    have e2 : (l2.length : Int) + (Lib.uvarint l3.length).length + l3.length = (l2.length : Int) + B3.length := by rw [← hB3]; unfold putS; simp; omega
    rw [e, e2] at k
    exact k
  have U3 := Lib.hid (fun w' a c (h : IsB w' a Y3 c) => str_is a Y3 c l2.length l3.length (by omega) (by omega) w' h _ _ _ q3)
  have q4 : unframeV Y4 l2.length = (l3, (l2.length : Int) + B4.length, 0) := by
    have k := frame_back l2 l3 l4 (by omega)
    rw [hB4, hY4] at k
    exact k
  have U4 := Lib.hid (fun w' a c (hf : Fuw w w') (h : IsB w' a Y4 c) => unframe_is a Y4 c l2.length (by omega) (by omega) w' h (G.on hf) _ _ _ q4)
  have V6 := Lib.hid (fun w' (hf : Fuw w w') => hX ▸ rokV_any v av cv w' hV (hs.onw hf))
  have q5 : valueV Y5 l2.length = .ok v ((l2.length : Int) + B5.length) := by
    have e : putX v = B5 := by rw [← hB5]; unfold putVal; rw [if_pos hX]
    have k := value_back hX l2 l4
    rw [e, hY5] at k
    exact k
  have U5 := Lib.hid (fun w' a c (h : IsB w' a Y5 c) => valueB_ok h q5)
  have O7 := Lib.hid (fun w' bo cb (hf : Fuw w w') (h : SlV w' bo v.ll cb) => (ord_self v) ▸ rorder_all v v av bo cv cb w' hV hV (hs.onw hf) h)
  have HI3 := Lib.hid h3
  have hl := hV.s
  unfold maxLen at hl
  have hT : ((yb l3).toList == (yb l3).toList) = true := beq_self_eq_true _
  obtain ⟨p0, q0⟩ := bx1 w v av cv
  have f0 := q0.b
  clear AR hB1 hB2 hB3 hB4 hB5 hY1 hY2 hY3 hY4 hY5 z3 q1 q2 q3 q4 h2 h3 h4 G HLV hsm hX hV hs q0 hl q5
  unfold vlv at *
  go_enter Tryd.func6, Tryd.ntmps6
  go_upto_region 1 with fail
  obtain ⟨W0, hW⟩ : ∃ W0, w.alloc (.cells #[.int .i64 v.kd, .int .i64 v.nn, .int .i64 v.dd, .string (bs v.ss), .slice av v.ll.length cv] 24) = W0 := ⟨_, rfl⟩
  rw [hW] at p0 f0
  rw [hW]
  clear hW
  have PB := Lib.hid p0
  have F0 := Lib.hid f0
  have g0 := Lib.hid (Fuw.refl W0)
  clear p0 f0
  obtain ⟨d0, d1, d2, d3, d4⟩ : _ ∧ _ ∧ _ ∧ _ ∧ _ := ⟨(PB.out.onw g0.out).c0, (PB.out.onw g0.out).c1, (PB.out.onw g0.out).c2, (PB.out.onw g0.out).c3, (PB.out.onw g0.out).c4⟩
  go_wp2_with fail
  go_at_call 8; refine (S0.out _ (Fuw.trans F0.out g0.out)).mono ?_; rintro e w1 ⟨rfl, f1⟩
  have g1 := Lib.hid (Fuw.trans g0.out f1.b)
  clear f1
  clear S0 d0 d1 d2 d3 d4
  go_wp2_with fail
  go_at_call 10; refine (P1.out _).mono ?_; rintro e w2 ⟨b2, e2, rfl, i2, f2⟩
  have g2 := Lib.hid (Fuw.trans g1.out f2)
  clear f2
  go_wp2_with fail
  go_at_call 28; refine (A1.out _ _ _ (Fuw.trans F0.out g2.out) i2).mono ?_; rintro e w3 ⟨b3, e3, rfl, i3, f3⟩
  have g3 := Lib.hid (Fuw.trans g2.out f3)
  clear f3
  go_wp2_with fail
  go_at_call 27; refine (U1'.out _ _ _ i3).mono ?_; rintro e ww ⟨rfl, rfl⟩
  clear P1 A1 U1' i2 i3
  go_wp2_with fail
  go_at_call 12; refine (P2.out _).mono ?_; rintro e w4 ⟨b4, e4, rfl, i4, f4⟩
  have g4 := Lib.hid (Fuw.trans g3.out f4)
  clear f4
  go_wp2_with fail
  go_at_call 28; refine (A2.out _ _ _ (Fuw.trans F0.out g4.out) i4).mono ?_; rintro e w5 ⟨b5, e5, rfl, i5, f5⟩
  have g5 := Lib.hid (Fuw.trans g4.out f5)
  clear f5
  go_wp2_with fail
  go_at_call 29; refine (U2.out _ _ _ i5).mono ?_; rintro e ww ⟨rfl, rfl⟩
  clear P2 A2 U2 i4 i5
  have cv1 := conv_bytes (HI3.out.on (Fuw.trans F0.out g5.out))
  go_wp2_with fail
  go_at_call 14; refine (P3.out _).mono ?_; rintro e w6 ⟨b6, e6, rfl, i6, f6⟩
  have g6 := Lib.hid (Fuw.trans g5.out f6)
  clear f6
  clear cv1
  go_wp2_with fail
  go_at_call 28; refine (A3.out _ _ _ (Fuw.trans F0.out g6.out) i6).mono ?_; rintro e w7 ⟨b7, e7, rfl, i7, f7⟩
  have g7 := Lib.hid (Fuw.trans g6.out f7)
  clear f7
  go_wp2_with fail
  go_at_call 30; refine (U3.out _ _ _ i7).mono ?_; rintro e ww ⟨rfl, rfl⟩
  clear P3 A3 U3 i6 i7
  have cv1 := conv_bytes (HI3.out.on (Fuw.trans F0.out g7.out))
  go_wp2_with fail
  go_at_call 25; refine (P4.out _ (Fuw.trans F0.out g7.out)).mono ?_; rintro e w8 ⟨b8, e8, rfl, i8, f8⟩
  have g8 := Lib.hid (Fuw.trans g7.out f8)
  clear f8
  clear cv1
  go_wp2_with fail
  go_at_call 28; refine (A4.out _ _ _ (Fuw.trans F0.out g8.out) i8).mono ?_; rintro e w9 ⟨b9, e9, rfl, i9, f9⟩
  have g9 := Lib.hid (Fuw.trans g8.out f9)
  clear f9
  go_wp2_with fail
  go_at_call 21; refine (U4.out _ _ _ (Fuw.trans F0.out g9.out) i9).mono ?_; rintro e w10 ⟨b10, e10, rfl, i10, f10⟩
  have g10 := Lib.hid (Fuw.trans g9.out f10)
  clear f10
  have cv2 := conv_bytes i10
  have cv1 := conv_bytes (HI3.out.on (Fuw.trans F0.out g10.out))
  clear P4 A4 U4 i8 i9 i10
  obtain ⟨d0, d1, d2, d3, d4⟩ : _ ∧ _ ∧ _ ∧ _ ∧ _ := ⟨(PB.out.onw g10.out).c0, (PB.out.onw g10.out).c1, (PB.out.onw g10.out).c2, (PB.out.onw g10.out).c3, (PB.out.onw g10.out).c4⟩
  go_wp2_with fail
  go_at_call 16; refine (P5.out _ (Fuw.trans F0.out g10.out)).mono ?_; rintro e w11 ⟨b11, e11, rfl, i11, f11⟩
  have g11 := Lib.hid (Fuw.trans g10.out f11)
  clear f11
  clear cv1 cv2 d0 d1 d2 d3 d4
  obtain ⟨d0, d1, d2, d3, d4⟩ : _ ∧ _ ∧ _ ∧ _ ∧ _ := ⟨(PB.out.onw g11.out).c0, (PB.out.onw g11.out).c1, (PB.out.onw g11.out).c2, (PB.out.onw g11.out).c3, (PB.out.onw g11.out).c4⟩
  go_wp2_with fail
  go_at_call 31; refine (V6.out _ (Fuw.trans F0.out g11.out)).mono ?_; rintro e w12 ⟨rfl, f12⟩
  have g12 := Lib.hid (Fuw.trans g11.out f12.b)
  have j5 := i11.on f12.b
  clear f12
  clear P5 V6 d0 d1 d2 d3 d4
  go_wp2_with fail
  go_at_call 28; refine (A5.out _ _ _ (Fuw.trans F0.out g12.out) j5).mono ?_; rintro e w13 ⟨b13, e13, rfl, i13, f13⟩
  have g13 := Lib.hid (Fuw.trans g12.out f13)
  clear f13
  go_wp2_with fail
  go_at_call 18; refine (U5.out _ _ _ i13).mono ?_; rintro e w14 ⟨a9, c9, rfl, hk, f14⟩
  have g14 := Lib.hid (Fuw.trans g13.out f14)
  clear f14
  clear A5 U5 i11 j5 i13
  have HK := Lib.hid hk
  clear hk
  obtain ⟨p9, q9⟩ := bx1 w14 v a9 c9
  have f9 := q9.b
  clear q9
  go_upto_region 24 with fail
  obtain ⟨W9, hW⟩ : ∃ W9, w14.alloc (.cells #[.int .i64 v.kd, .int .i64 v.nn, .int .i64 v.dd, .string (bs v.ss), .slice a9 v.ll.length c9] 24) = W9 := ⟨_, rfl⟩
  rw [hW] at p9 f9
  rw [hW]
  clear hW
  have g99 := Lib.hid (Fuw.trans g14.out f9)
  have SL := Lib.hid (HK.out _ f9)
  obtain ⟨x0, x1, x2, x3, x4⟩ : _ ∧ _ ∧ _ ∧ _ ∧ _ := ⟨p9.c0, p9.c1, p9.c2, p9.c3, p9.c4⟩
  clear f9 p9
  obtain ⟨d0, d1, d2, d3, d4⟩ : _ ∧ _ ∧ _ ∧ _ ∧ _ := ⟨(PB.out.onw g99.out).c0, (PB.out.onw g99.out).c1, (PB.out.onw g99.out).c2, (PB.out.onw g99.out).c3, (PB.out.onw g99.out).c4⟩
  go_wp2_with fail
  go_at_call 20; refine (O7.out _ _ _ (Fuw.trans F0.out g99.out) SL.out).mono ?_; rintro e w101 ⟨rfl, f101⟩
  have g101 := Lib.hid (Fuw.trans g99.out f101)
  clear f101
  clear d0 d1 d2 d3 d4 x0 x1 x2 x3 x4
  go_wp2_with fail
  go_at_call 9; refine (HA.out _ (HG.out.on (Fuw.trans F0.out g101.out))).mono ?_; rintro e w999 ⟨rfl, f999⟩
  go_wp2
  go_ret
  exact ⟨rfl, Fuw.trans (Fuw.trans F0.out g101.out) f999⟩

set_option maxHeartbeats 8000000 in
set_option maxRecDepth 4000000 in
theorem back_10 (w : World) (n : Int) (hn0 : -9223372036854775808 ≤ n) (hn1 : n ≤ 9223372036854775807) (v : Vl) (av : Option Addr) (cv : Nat) (hV : Vin v) (hs : SlV w av v.ll cv) (a2 : Option Addr) (l2 : List UInt8) (c2 : Nat) (h2 : IsB w a2 l2 c2) (a3 : Option Addr) (l3 : List UInt8) (c3 : Nat) (h3 : IsB w a3 l3 c3) (a4 : Option Addr) (l4 : List UInt8) (c4 : Nat) (h4 : IsB w a4 l4 c4) (G : Good5 w) (HLV : Alive5) (hsm : smV 21 v = true) (g2 : l2.length ≤ 200) (g3 : l3.length ≤ 200) (g4 : l4.length ≤ 200) (hneg : n < 0) (hX : okX v = false) :
    Calls Tryd.prog 6 #[.int .i64 n, vlv v av cv, .slice a2 l2.length c2, .slice a3 l3.length c3, .slice a4 l4.length c4] w (RwC w true) := by
  have HA := Lib.hid HLV
  have HG := Lib.hid G
  have S0 : Hid (∀ w', Fuw w w' → Calls Tryd.prog 8 #[vlv v av cv, .int .i64 0] w' (RetB w' true)) := Lib.hid (fun w' hf => by
    have k := small_any 21 (Nat.le_refl _) v av cv w' hV (hs.onw hf)
    rw [hsm, show (21 : Int) - ((21 : Nat) : Int) = 0 by decide] at k
    exact k)
  have AR : ∀ (L : List UInt8), L.length ≤ 100000000000000 → ∀ w' a c, Fuw w w' → IsB w' a L c → Calls Tryd.prog 28 #[.slice a2 l2.length c2, .slice a L.length c, .slice a4 l4.length c4] w' (RetY w' (l2 ++ (L ++ l4))) := fun L hL w' a c hf h => around_any a2 l2 c2 a L c a4 l4 c4 w' (h2.on hf) h (h4.on hf) (by omega)
  obtain ⟨B1, hB1⟩ : ∃ B, putU n = B := ⟨_, rfl⟩
  obtain ⟨B2, hB2⟩ : ∃ B, putI n = B := ⟨_, rfl⟩
  obtain ⟨B3, hB3⟩ : ∃ B, putS l3 = B := ⟨_, rfl⟩
  obtain ⟨B4, hB4⟩ : ∃ B, frameV l3 = B := ⟨_, rfl⟩
  obtain ⟨B5, hB5⟩ : ∃ B, putVal v = B := ⟨_, rfl⟩
  have z3 := Lib.uvarint_length64 (x := l3.length) (by omega)
  have m1 : B1.length ≤ 10 := by rw [← hB1]; unfold putU; rw [if_pos hneg]; exact Nat.zero_le _
  have mz : ((B1.length : Int) != 0) = false := by rw [← hB1]; unfold putU; rw [if_pos hneg]; rfl
  have m2 : B2.length ≤ 10 := by rw [← hB2]; exact Lib.uvarint_length64 (Lib.zigzag_lt hn0 hn1)
  have m3 : B3.length ≤ 300 := by rw [← hB3]; unfold putS; simp; omega
  have m4 : B4.length ≤ 300 := by rw [← hB4]; unfold frameV; simp [le4_len]; omega
  have m5 : B5.length = 0 := by rw [← hB5]; unfold putVal; rw [if_neg (by rw [hX]; decide)]; rfl
  have P1 := Lib.hid (fun w' => hB1 ▸ put_uint n hn0 hn1 w')
  have P2 := Lib.hid (fun w' => hB2 ▸ put_int n hn0 hn1 w')
  have P3 : Hid (∀ w', Calls Tryd.prog 14 #[.string (yb l3)] w' (RetY w' B3)) := Lib.hid (fun w' => by
    have k := put_str (yb l3) (by rw [yb_size]; omega) w'
    rw [yb_list, hB3] at k
    exact k)
  have P4 := Lib.hid (fun w' (hf : Fuw w w') => hB4 ▸ frame_is a3 l3 c3 w' (h3.on hf) (G.on hf) (by omega))
  have P5 := Lib.hid (fun w' (hf : Fuw w w') => hB5 ▸ put_value v av cv w' hV (hs.onw hf) (fun hX' => put_small hsm hX'))
  obtain ⟨Y1, hY1⟩ : ∃ Y, l2 ++ (B1 ++ l4) = Y := ⟨_, rfl⟩
  have A1 := Lib.hid (hY1 ▸ AR B1 (by omega))
  obtain ⟨Y2, hY2⟩ : ∃ Y, l2 ++ (B2 ++ l4) = Y := ⟨_, rfl⟩
  have A2 := Lib.hid (hY2 ▸ AR B2 (by omega))
  obtain ⟨Y3, hY3⟩ : ∃ Y, l2 ++ (B3 ++ l4) = Y := ⟨_, rfl⟩
  have A3 := Lib.hid (hY3 ▸ AR B3 (by omega))
  obtain ⟨Y4, hY4⟩ : ∃ Y, l2 ++ (B4 ++ l4) = Y := ⟨_, rfl⟩
  have A4 := Lib.hid (hY4 ▸ AR B4 (by omega))
  obtain ⟨U1, E1, C1, q1⟩ : ∃ u e c, uintV Y1 l2.length = (u, e, c) := ⟨_, _, _, rfl⟩
  have U1' := Lib.hid (fun w' a c (h : IsB w' a Y1 c) => uint_is a Y1 c l2.length (by omega) (by omega) w' h _ _ _ q1)
  have q2 : intV Y2 l2.length = (n, (l2.length : Int) + B2.length, 0) := by
    have k := int_back l2 l4 (n := n) ⟨hn0, hn1⟩
    rw [show Lib.uvarint (Lib.zigzag n) = B2 from hB2, hY2] at k
    exact k
  have U2 := Lib.hid (fun w' a c (h : IsB w' a Y2 c) => int_is a Y2 c l2.length (by omega) (by omega) w' h _ _ _ q2)
  have q3 : strV Y3 l2.length l3.length = (l3, (l2.length : Int) + B3.length, 0) := by
    have k := str_back l2 l3 l4 (most := l3.length) (by omega) (by omega)
    have e : l2 ++ (Lib.uvarint l3.length ++ (l3 ++ l4)) = Y3 := by rw [← hY3, ← hB3]; unfold putS; simp
    have e2 : (l2.length : Int) + (Lib.uvarint l3.length).length + l3.length = (l2.length : Int) + B3.length := by rw [← hB3]; unfold putS; simp; omega
    rw [e, e2] at k
    exact k
  have U3 := Lib.hid (fun w' a c (h : IsB w' a Y3 c) => str_is a Y3 c l2.length l3.length (by omega) (by omega) w' h _ _ _ q3)
  have q4 : unframeV Y4 l2.length = (l3, (l2.length : Int) + B4.length, 0) := by
    have k := frame_back l2 l3 l4 (by omega)
    rw [hB4, hY4] at k
    exact k
  have U4 := Lib.hid (fun w' a c (hf : Fuw w w') (h : IsB w' a Y4 c) => unframe_is a Y4 c l2.length (by omega) (by omega) w' h (G.on hf) _ _ _ q4)
  have V6 := Lib.hid (fun w' (hf : Fuw w w') => hX ▸ rokV_any v av cv w' hV (hs.onw hf))
  have HI3 := Lib.hid h3
  have hl := hV.s
  unfold maxLen at hl
  have hT : ((yb l3).toList == (yb l3).toList) = true := beq_self_eq_true _
  obtain ⟨p0, q0⟩ := bx1 w v av cv
  have f0 := q0.b
  clear AR hB1 hB2 hB3 hB4 hB5 hY1 hY2 hY3 hY4 z3 q1 q2 q3 q4 h2 h3 h4 G HLV hsm hX hV hs q0 hl
  unfold vlv at *
  go_enter Tryd.func6, Tryd.ntmps6
  go_upto_region 1 with fail
  obtain ⟨W0, hW⟩ : ∃ W0, w.alloc (.cells #[.int .i64 v.kd, .int .i64 v.nn, .int .i64 v.dd, .string (bs v.ss), .slice av v.ll.length cv] 24) = W0 := ⟨_, rfl⟩
  rw [hW] at p0 f0
  rw [hW]
  clear hW
  have PB := Lib.hid p0
  have F0 := Lib.hid f0
  have g0 := Lib.hid (Fuw.refl W0)
  clear p0 f0
  obtain ⟨d0, d1, d2, d3, d4⟩ : _ ∧ _ ∧ _ ∧ _ ∧ _ := ⟨(PB.out.onw g0.out).c0, (PB.out.onw g0.out).c1, (PB.out.onw g0.out).c2, (PB.out.onw g0.out).c3, (PB.out.onw g0.out).c4⟩
  go_wp2_with fail
  go_at_call 8; refine (S0.out _ (Fuw.trans F0.out g0.out)).mono ?_; rintro e w1 ⟨rfl, f1⟩
  have g1 := Lib.hid (Fuw.trans g0.out f1.b)
  clear f1
  clear S0 d0 d1 d2 d3 d4
  go_wp2_with fail
  go_at_call 10; refine (P1.out _).mono ?_; rintro e w2 ⟨b2, e2, rfl, i2, f2⟩
  have g2 := Lib.hid (Fuw.trans g1.out f2)
  clear f2
  go_wp2_with fail
  go_at_call 28; refine (A1.out _ _ _ (Fuw.trans F0.out g2.out) i2).mono ?_; rintro e w3 ⟨b3, e3, rfl, i3, f3⟩
  have g3 := Lib.hid (Fuw.trans g2.out f3)
  clear f3
  go_wp2_with fail
  go_at_call 27; refine (U1'.out _ _ _ i3).mono ?_; rintro e ww ⟨rfl, rfl⟩
  clear P1 A1 U1' i2 i3
  go_wp2_with fail
  go_at_call 12; refine (P2.out _).mono ?_; rintro e w4 ⟨b4, e4, rfl, i4, f4⟩
  have g4 := Lib.hid (Fuw.trans g3.out f4)
  clear f4
  go_wp2_with fail
  go_at_call 28; refine (A2.out _ _ _ (Fuw.trans F0.out g4.out) i4).mono ?_; rintro e w5 ⟨b5, e5, rfl, i5, f5⟩
  have g5 := Lib.hid (Fuw.trans g4.out f5)
  clear f5
  go_wp2_with fail
  go_at_call 29; refine (U2.out _ _ _ i5).mono ?_; rintro e ww ⟨rfl, rfl⟩
  clear P2 A2 U2 i4 i5
  have cv1 := conv_bytes (HI3.out.on (Fuw.trans F0.out g5.out))
  go_wp2_with fail
  go_at_call 14; refine (P3.out _).mono ?_; rintro e w6 ⟨b6, e6, rfl, i6, f6⟩
  have g6 := Lib.hid (Fuw.trans g5.out f6)
  clear f6
  clear cv1
  go_wp2_with fail
  go_at_call 28; refine (A3.out _ _ _ (Fuw.trans F0.out g6.out) i6).mono ?_; rintro e w7 ⟨b7, e7, rfl, i7, f7⟩
  have g7 := Lib.hid (Fuw.trans g6.out f7)
  clear f7
  go_wp2_with fail
  go_at_call 30; refine (U3.out _ _ _ i7).mono ?_; rintro e ww ⟨rfl, rfl⟩
  clear P3 A3 U3 i6 i7
  have cv1 := conv_bytes (HI3.out.on (Fuw.trans F0.out g7.out))
  go_wp2_with fail
  go_at_call 25; refine (P4.out _ (Fuw.trans F0.out g7.out)).mono ?_; rintro e w8 ⟨b8, e8, rfl, i8, f8⟩
  have g8 := Lib.hid (Fuw.trans g7.out f8)
  clear f8
  clear cv1
  go_wp2_with fail
  go_at_call 28; refine (A4.out _ _ _ (Fuw.trans F0.out g8.out) i8).mono ?_; rintro e w9 ⟨b9, e9, rfl, i9, f9⟩
  have g9 := Lib.hid (Fuw.trans g8.out f9)
  clear f9
  go_wp2_with fail
  go_at_call 21; refine (U4.out _ _ _ (Fuw.trans F0.out g9.out) i9).mono ?_; rintro e w10 ⟨b10, e10, rfl, i10, f10⟩
  have g10 := Lib.hid (Fuw.trans g9.out f10)
  clear f10
  have cv2 := conv_bytes i10
  have cv1 := conv_bytes (HI3.out.on (Fuw.trans F0.out g10.out))
  clear P4 A4 U4 i8 i9 i10
  obtain ⟨d0, d1, d2, d3, d4⟩ : _ ∧ _ ∧ _ ∧ _ ∧ _ := ⟨(PB.out.onw g10.out).c0, (PB.out.onw g10.out).c1, (PB.out.onw g10.out).c2, (PB.out.onw g10.out).c3, (PB.out.onw g10.out).c4⟩
  go_wp2_with fail
  go_at_call 16; refine (P5.out _ (Fuw.trans F0.out g10.out)).mono ?_; rintro e w11 ⟨b11, e11, rfl, i11, f11⟩
  have g11 := Lib.hid (Fuw.trans g10.out f11)
  clear f11
  clear cv1 cv2 d0 d1 d2 d3 d4
  obtain ⟨d0, d1, d2, d3, d4⟩ : _ ∧ _ ∧ _ ∧ _ ∧ _ := ⟨(PB.out.onw g11.out).c0, (PB.out.onw g11.out).c1, (PB.out.onw g11.out).c2, (PB.out.onw g11.out).c3, (PB.out.onw g11.out).c4⟩
  go_wp2_with fail
  go_at_call 31; refine (V6.out _ (Fuw.trans F0.out g11.out)).mono ?_; rintro e w12 ⟨rfl, f12⟩
  have g12 := Lib.hid (Fuw.trans g11.out f12.b)
  clear f12
  clear P5 V6 d0 d1 d2 d3 d4
  go_wp2_with fail
  go_at_call 9; refine (HA.out _ (HG.out.on (Fuw.trans F0.out g12.out))).mono ?_; rintro e w999 ⟨rfl, f999⟩
  go_wp2
  go_ret
  exact ⟨rfl, Fuw.trans (Fuw.trans F0.out g12.out) f999⟩

set_option maxHeartbeats 8000000 in
set_option maxRecDepth 4000000 in
theorem back_11 (w : World) (n : Int) (hn0 : -9223372036854775808 ≤ n) (hn1 : n ≤ 9223372036854775807) (v : Vl) (av : Option Addr) (cv : Nat) (hV : Vin v) (hs : SlV w av v.ll cv) (a2 : Option Addr) (l2 : List UInt8) (c2 : Nat) (h2 : IsB w a2 l2 c2) (a3 : Option Addr) (l3 : List UInt8) (c3 : Nat) (h3 : IsB w a3 l3 c3) (a4 : Option Addr) (l4 : List UInt8) (c4 : Nat) (h4 : IsB w a4 l4 c4) (G : Good5 w) (HLV : Alive5) (hsm : smV 21 v = true) (g2 : l2.length ≤ 200) (g3 : l3.length ≤ 200) (g4 : l4.length ≤ 200) (hneg : n < 0) (hX : okX v = true) :
    Calls Tryd.prog 6 #[.int .i64 n, vlv v av cv, .slice a2 l2.length c2, .slice a3 l3.length c3, .slice a4 l4.length c4] w (RwC w true) := by
  have HA := Lib.hid HLV
  have HG := Lib.hid G
  have S0 : Hid (∀ w', Fuw w w' → Calls Tryd.prog 8 #[vlv v av cv, .int .i64 0] w' (RetB w' true)) := Lib.hid (fun w' hf => by
    have k := small_any 21 (Nat.le_refl _) v av cv w' hV (hs.onw hf)
    rw [hsm, show (21 : Int) - ((21 : Nat) : Int) = 0 by decide] at k
    exact k)
  have AR : ∀ (L : List UInt8), L.length ≤ 100000000000000 → ∀ w' a c, Fuw w w' → IsB w' a L c → Calls Tryd.prog 28 #[.slice a2 l2.length c2, .slice a L.length c, .slice a4 l4.length c4] w' (RetY w' (l2 ++ (L ++ l4))) := fun L hL w' a c hf h => around_any a2 l2 c2 a L c a4 l4 c4 w' (h2.on hf) h (h4.on hf) (by omega)
  obtain ⟨B1, hB1⟩ : ∃ B, putU n = B := ⟨_, rfl⟩
  obtain ⟨B2, hB2⟩ : ∃ B, putI n = B := ⟨_, rfl⟩
  obtain ⟨B3, hB3⟩ : ∃ B, putS l3 = B := ⟨_, rfl⟩
  obtain ⟨B4, hB4⟩ : ∃ B, frameV l3 = B := ⟨_, rfl⟩
  obtain ⟨B5, hB5⟩ : ∃ B, putVal v = B := ⟨_, rfl⟩
  have z3 := Lib.uvarint_length64 (x := l3.length) (by omega)
  have m1 : B1.length ≤ 10 := by rw [← hB1]; unfold putU; rw [if_pos hneg]; exact Nat.zero_le _
  have mz : ((B1.length : Int) != 0) = false := by rw [← hB1]; unfold putU; rw [if_pos hneg]; rfl
  have m2 : B2.length ≤ 10 := by rw [← hB2]; exact Lib.uvarint_length64 (Lib.zigzag_lt hn0 hn1)
  have m3 : B3.length ≤ 300 := by rw [← hB3]; unfold putS; simp; omega
  have m4 : B4.length ≤ 300 := by rw [← hB4]; unfold frameV; simp [le4_len]; omega
  have m5 : B5.length ≤ 100000000000000 := by rw [← hB5]; unfold putVal; rw [if_pos hX]; exact put_small hsm hX
  have P1 := Lib.hid (fun w' => hB1 ▸ put_uint n hn0 hn1 w')
  have P2 := Lib.hid (fun w' => hB2 ▸ put_int n hn0 hn1 w')
  have P3 : Hid (∀ w', Calls Tryd.prog 14 #[.string (yb l3)] w' (RetY w' B3)) := Lib.hid (fun w' => by
    have k := put_str (yb l3) (by rw [yb_size]; omega) w'
    rw [yb_list, hB3] at k
    exact k)
  have P4 := Lib.hid (fun w' (hf : Fuw w w') => hB4 ▸ frame_is a3 l3 c3 w' (h3.on hf) (G.on hf) (by omega))
  have P5 := Lib.hid (fun w' (hf : Fuw w w') => hB5 ▸ put_value v av cv w' hV (hs.onw hf) (fun hX' => put_small hsm hX'))
  obtain ⟨Y1, hY1⟩ : ∃ Y, l2 ++ (B1 ++ l4) = Y := ⟨_, rfl⟩
  have A1 := Lib.hid (hY1 ▸ AR B1 (by omega))
  obtain ⟨Y2, hY2⟩ : ∃ Y, l2 ++ (B2 ++ l4) = Y := ⟨_, rfl⟩
  have A2 := Lib.hid (hY2 ▸ AR B2 (by omega))
  obtain ⟨Y3, hY3⟩ : ∃ Y, l2 ++ (B3 ++ l4) = Y := ⟨_, rfl⟩
  have A3 := Lib.hid (hY3 ▸ AR B3 (by omega))
  obtain ⟨Y4, hY4⟩ : ∃ Y, l2 ++ (B4 ++ l4) = Y := ⟨_, rfl⟩
  have A4 := Lib.hid (hY4 ▸ AR B4 (by omega))
  obtain ⟨Y5, hY5⟩ : ∃ Y, l2 ++ (B5 ++ l4) = Y := ⟨_, rfl⟩
  have A5 := Lib.hid (hY5 ▸ AR B5 (by omega))
  obtain ⟨U1, E1, C1, q1⟩ : ∃ u e c, uintV Y1 l2.length = (u, e, c) := ⟨_, _, _, rfl⟩
  have U1' := Lib.hid (fun w' a c (h : IsB w' a Y1 c) => uint_is a Y1 c l2.length (by omega) (by omega) w' h _ _ _ q1)
  have q2 : intV Y2 l2.length = (n, (l2.length : Int) + B2.length, 0) := by
    have k := int_back l2 l4 (n := n) ⟨hn0, hn1⟩
    rw [show Lib.uvarint (Lib.zigzag n) = B2 from hB2, hY2] at k
    exact k
  have U2 := Lib.hid (fun w' a c (h : IsB w' a Y2 c) => int_is a Y2 c l2.length (by omega) (by omega) w' h _ _ _ q2)
  have q3 : strV Y3 l2.length l3.length = (l3, (l2.length : Int) + B3.length, 0) := by
    have k := str_back l2 l3 l4 (most := l3.length) (by omega) (by omega)
    have e : l2 ++ (Lib.uvarint l3.length ++ (l3 ++ l4)) = Y3 := by rw [← hY3, ← hB3]; unfold putS; simp
    have e2 : (l2.length : Int) + (Lib.uvarint l3.length).length + l3.length = (l2.length : Int) + B3.length := by rw [← hB3]; unfold putS; simp; omega
    rw [e, e2] at k
    exact k
  have U3 := Lib.hid (fun w' a c (h : IsB w' a Y3 c) => str_is a Y3 c l2.length l3.length (by omega) (by omega) w' h _ _ _ q3)
  have q4 : unframeV Y4 l2.length = (l3, (l2.length : Int) + B4.length, 0) := by
    have k := frame_back l2 l3 l4 (by omega)
    rw [hB4, hY4] at k
    exact k
  have U4 := Lib.hid (fun w' a c (hf : Fuw w w') (h : IsB w' a Y4 c) => unframe_is a Y4 c l2.length (by omega) (by omega) w' h (G.on hf) _ _ _ q4)
  have V6 := Lib.hid (fun w' (hf : Fuw w w') => hX ▸ rokV_any v av cv w' hV (hs.onw hf))
  have q5 : valueV Y5 l2.length = .ok v ((l2.length : Int) + B5.length) := by
    have e : putX v = B5 := by rw [← hB5]; unfold putVal; rw [if_pos hX]
    have k := value_back hX l2 l4
    rw [e, hY5] at k
    exact k
  have U5 := Lib.hid (fun w' a c (h : IsB w' a Y5 c) => valueB_ok h q5)
  have O7 := Lib.hid (fun w' bo cb (hf : Fuw w w') (h : SlV w' bo v.ll cb) => (ord_self v) ▸ rorder_all v v av bo cv cb w' hV hV (hs.onw hf) h)
  have HI3 := Lib.hid h3
  have hl := hV.s
  unfold maxLen at hl
  have hT : ((yb l3).toList == (yb l3).toList) = true := beq_self_eq_true _
  obtain ⟨p0, q0⟩ := bx1 w v av cv
  have f0 := q0.b
  clear AR hB1 hB2 hB3 hB4 hB5 hY1 hY2 hY3 hY4 hY5 z3 q1 q2 q3 q4 h2 h3 h4 G HLV hsm hX hV hs q0 hl q5
  unfold vlv at *
  go_enter Tryd.func6, Tryd.ntmps6
  go_upto_region 1 with fail
  obtain ⟨W0, hW⟩ : ∃ W0, w.alloc (.cells #[.int .i64 v.kd, .int .i64 v.nn, .int .i64 v.dd, .string (bs v.ss), .slice av v.ll.length cv] 24) = W0 := ⟨_, rfl⟩
  rw [hW] at p0 f0
  rw [hW]
  clear hW
  have PB := Lib.hid p0
  have F0 := Lib.hid f0
  have g0 := Lib.hid (Fuw.refl W0)
  clear p0 f0
  obtain ⟨d0, d1, d2, d3, d4⟩ : _ ∧ _ ∧ _ ∧ _ ∧ _ := ⟨(PB.out.onw g0.out).c0, (PB.out.onw g0.out).c1, (PB.out.onw g0.out).c2, (PB.out.onw g0.out).c3, (PB.out.onw g0.out).c4⟩
  go_wp2_with fail
  go_at_call 8; refine (S0.out _ (Fuw.trans F0.out g0.out)).mono ?_; rintro e w1 ⟨rfl, f1⟩
  have g1 := Lib.hid (Fuw.trans g0.out f1.b)
  clear f1
  clear S0 d0 d1 d2 d3 d4
  go_wp2_with fail
  go_at_call 10; refine (P1.out _).mono ?_; rintro e w2 ⟨b2, e2, rfl, i2, f2⟩
  have g2 := Lib.hid (Fuw.trans g1.out f2)
  clear f2
  go_wp2_with fail
  go_at_call 28; refine (A1.out _ _ _ (Fuw.trans F0.out g2.out) i2).mono ?_; rintro e w3 ⟨b3, e3, rfl, i3, f3⟩
  have g3 := Lib.hid (Fuw.trans g2.out f3)
  clear f3
  go_wp2_with fail
  go_at_call 27; refine (U1'.out _ _ _ i3).mono ?_; rintro e ww ⟨rfl, rfl⟩
  clear P1 A1 U1' i2 i3
  go_wp2_with fail
  go_at_call 12; refine (P2.out _).mono ?_; rintro e w4 ⟨b4, e4, rfl, i4, f4⟩
  have g4 := Lib.hid (Fuw.trans g3.out f4)
  clear f4
  go_wp2_with fail
  go_at_call 28; refine (A2.out _ _ _ (Fuw.trans F0.out g4.out) i4).mono ?_; rintro e w5 ⟨b5, e5, rfl, i5, f5⟩
  have g5 := Lib.hid (Fuw.trans g4.out f5)
  clear f5
  go_wp2_with fail
  go_at_call 29; refine (U2.out _ _ _ i5).mono ?_; rintro e ww ⟨rfl, rfl⟩
  clear P2 A2 U2 i4 i5
  have cv1 := conv_bytes (HI3.out.on (Fuw.trans F0.out g5.out))
  go_wp2_with fail
  go_at_call 14; refine (P3.out _).mono ?_; rintro e w6 ⟨b6, e6, rfl, i6, f6⟩
  have g6 := Lib.hid (Fuw.trans g5.out f6)
  clear f6
  clear cv1
  go_wp2_with fail
  go_at_call 28; refine (A3.out _ _ _ (Fuw.trans F0.out g6.out) i6).mono ?_; rintro e w7 ⟨b7, e7, rfl, i7, f7⟩
  have g7 := Lib.hid (Fuw.trans g6.out f7)
  clear f7
  go_wp2_with fail
  go_at_call 30; refine (U3.out _ _ _ i7).mono ?_; rintro e ww ⟨rfl, rfl⟩
  clear P3 A3 U3 i6 i7
  have cv1 := conv_bytes (HI3.out.on (Fuw.trans F0.out g7.out))
  go_wp2_with fail
  go_at_call 25; refine (P4.out _ (Fuw.trans F0.out g7.out)).mono ?_; rintro e w8 ⟨b8, e8, rfl, i8, f8⟩
  have g8 := Lib.hid (Fuw.trans g7.out f8)
  clear f8
  clear cv1
  go_wp2_with fail
  go_at_call 28; refine (A4.out _ _ _ (Fuw.trans F0.out g8.out) i8).mono ?_; rintro e w9 ⟨b9, e9, rfl, i9, f9⟩
  have g9 := Lib.hid (Fuw.trans g8.out f9)
  clear f9
  go_wp2_with fail
  go_at_call 21; refine (U4.out _ _ _ (Fuw.trans F0.out g9.out) i9).mono ?_; rintro e w10 ⟨b10, e10, rfl, i10, f10⟩
  have g10 := Lib.hid (Fuw.trans g9.out f10)
  clear f10
  have cv2 := conv_bytes i10
  have cv1 := conv_bytes (HI3.out.on (Fuw.trans F0.out g10.out))
  clear P4 A4 U4 i8 i9 i10
  obtain ⟨d0, d1, d2, d3, d4⟩ : _ ∧ _ ∧ _ ∧ _ ∧ _ := ⟨(PB.out.onw g10.out).c0, (PB.out.onw g10.out).c1, (PB.out.onw g10.out).c2, (PB.out.onw g10.out).c3, (PB.out.onw g10.out).c4⟩
  go_wp2_with fail
  go_at_call 16; refine (P5.out _ (Fuw.trans F0.out g10.out)).mono ?_; rintro e w11 ⟨b11, e11, rfl, i11, f11⟩
  have g11 := Lib.hid (Fuw.trans g10.out f11)
  clear f11
  clear cv1 cv2 d0 d1 d2 d3 d4
  obtain ⟨d0, d1, d2, d3, d4⟩ : _ ∧ _ ∧ _ ∧ _ ∧ _ := ⟨(PB.out.onw g11.out).c0, (PB.out.onw g11.out).c1, (PB.out.onw g11.out).c2, (PB.out.onw g11.out).c3, (PB.out.onw g11.out).c4⟩
  go_wp2_with fail
  go_at_call 31; refine (V6.out _ (Fuw.trans F0.out g11.out)).mono ?_; rintro e w12 ⟨rfl, f12⟩
  have g12 := Lib.hid (Fuw.trans g11.out f12.b)
  have j5 := i11.on f12.b
  clear f12
  clear P5 V6 d0 d1 d2 d3 d4
  go_wp2_with fail
  go_at_call 28; refine (A5.out _ _ _ (Fuw.trans F0.out g12.out) j5).mono ?_; rintro e w13 ⟨b13, e13, rfl, i13, f13⟩
  have g13 := Lib.hid (Fuw.trans g12.out f13)
  clear f13
  go_wp2_with fail
  go_at_call 18; refine (U5.out _ _ _ i13).mono ?_; rintro e w14 ⟨a9, c9, rfl, hk, f14⟩
  have g14 := Lib.hid (Fuw.trans g13.out f14)
  clear f14
  clear A5 U5 i11 j5 i13
  have HK := Lib.hid hk
  clear hk
  obtain ⟨p9, q9⟩ := bx1 w14 v a9 c9
  have f9 := q9.b
  clear q9
  go_upto_region 24 with fail
  obtain ⟨W9, hW⟩ : ∃ W9, w14.alloc (.cells #[.int .i64 v.kd, .int .i64 v.nn, .int .i64 v.dd, .string (bs v.ss), .slice a9 v.ll.length c9] 24) = W9 := ⟨_, rfl⟩
  rw [hW] at p9 f9
  rw [hW]
  clear hW
  have g99 := Lib.hid (Fuw.trans g14.out f9)
  have SL := Lib.hid (HK.out _ f9)
  obtain ⟨x0, x1, x2, x3, x4⟩ : _ ∧ _ ∧ _ ∧ _ ∧ _ := ⟨p9.c0, p9.c1, p9.c2, p9.c3, p9.c4⟩
  clear f9 p9
  obtain ⟨d0, d1, d2, d3, d4⟩ : _ ∧ _ ∧ _ ∧ _ ∧ _ := ⟨(PB.out.onw g99.out).c0, (PB.out.onw g99.out).c1, (PB.out.onw g99.out).c2, (PB.out.onw g99.out).c3, (PB.out.onw g99.out).c4⟩
  go_wp2_with fail
  go_at_call 20; refine (O7.out _ _ _ (Fuw.trans F0.out g99.out) SL.out).mono ?_; rintro e w101 ⟨rfl, f101⟩
  have g101 := Lib.hid (Fuw.trans g99.out f101)
  clear f101
  clear d0 d1 d2 d3 d4 x0 x1 x2 x3 x4
  go_wp2_with fail
  go_at_call 9; refine (HA.out _ (HG.out.on (Fuw.trans F0.out g101.out))).mono ?_; rintro e w999 ⟨rfl, f999⟩
  go_wp2
  go_ret
  exact ⟨rfl, Fuw.trans (Fuw.trans F0.out g101.out) f999⟩

set_option maxHeartbeats 8000000 in
set_option maxRecDepth 4000000 in
theorem back_any (w : World) (n : Int) (hn0 : -9223372036854775808 ≤ n) (hn1 : n ≤ 9223372036854775807) (v : Vl) (av : Option Addr) (cv : Nat) (hV : Vin v) (hs : SlV w av v.ll cv) (a2 : Option Addr) (l2 : List UInt8) (c2 : Nat) (h2 : IsB w a2 l2 c2) (a3 : Option Addr) (l3 : List UInt8) (c3 : Nat) (h3 : IsB w a3 l3 c3) (a4 : Option Addr) (l4 : List UInt8) (c4 : Nat) (h4 : IsB w a4 l4 c4) (G : Good5 w) (HLV : Alive5) :
    Calls Tryd.prog 6 #[.int .i64 n, vlv v av cv, .slice a2 l2.length c2, .slice a3 l3.length c3, .slice a4 l4.length c4] w (RwC w true) := by
  cases hsm : smV 21 v
  · have S0 : Hid (∀ w', Fuw w w' → Calls Tryd.prog 8 #[vlv v av cv, .int .i64 0] w' (RetB w' false)) := Lib.hid (fun w' hf => by
      have k := small_any 21 (Nat.le_refl _) v av cv w' hV (hs.onw hf)
      rw [hsm, show (21 : Int) - ((21 : Nat) : Int) = 0 by decide] at k
      exact k)
    have HA := Lib.hid HLV
    have HG := Lib.hid G
    obtain ⟨p0, q0⟩ := bx1 w v av cv
    have f0 := q0.b
    have hl2 := h2.len.1
    have hl3 := h3.len.1
    have hl4 := h4.len.1
    clear h2 h3 h4 G HLV hsm hV hs q0
    unfold vlv at *
    go_enter Tryd.func6, Tryd.ntmps6
    go_upto_region 1 with fail
    obtain ⟨W0, hW⟩ : ∃ W0, w.alloc (.cells #[.int .i64 v.kd, .int .i64 v.nn, .int .i64 v.dd, .string (bs v.ss), .slice av v.ll.length cv] 24) = W0 := ⟨_, rfl⟩
    rw [hW] at p0 f0
    rw [hW]
    clear hW
    obtain ⟨d0, d1, d2, d3, d4⟩ : _ ∧ _ ∧ _ ∧ _ ∧ _ := ⟨p0.c0, p0.c1, p0.c2, p0.c3, p0.c4⟩
    go_wp2_with fail
    go_at_call 8; refine (S0.out _ f0).mono ?_; rintro e w1 ⟨rfl, f1⟩
    clear d0 d1 d2 d3 d4 p0
    have F1 := Lib.hid (Fuw.trans f0 f1.b)
    clear f0 f1
    go_wp2_with fail
    go_at_call 9; refine (HA.out _ (HG.out.on F1.out)).mono ?_; rintro e w9 ⟨rfl, f9⟩
    go_wp2
    go_ret
    exact ⟨rfl, Fuw.trans F1.out f9⟩
  by_cases hb : l2.length ≤ 200 ∧ l3.length ≤ 200 ∧ l4.length ≤ 200
  · obtain ⟨g2, g3, g4⟩ := hb
    cases hX : okX v <;> by_cases hneg : n < 0
    · exact back_10 w n hn0 hn1 v av cv hV hs a2 l2 c2 h2 a3 l3 c3 h3 a4 l4 c4 h4 G HLV hsm g2 g3 g4 hneg hX
    · exact back_00 w n hn0 hn1 v av cv hV hs a2 l2 c2 h2 a3 l3 c3 h3 a4 l4 c4 h4 G HLV hsm g2 g3 g4 (by omega) hX
    · exact back_11 w n hn0 hn1 v av cv hV hs a2 l2 c2 h2 a3 l3 c3 h3 a4 l4 c4 h4 G HLV hsm g2 g3 g4 hneg hX
    · exact back_01 w n hn0 hn1 v av cv hV hs a2 l2 c2 h2 a3 l3 c3 h3 a4 l4 c4 h4 G HLV hsm g2 g3 g4 (by omega) hX
  · have S0 : Hid (∀ w', Fuw w w' → Calls Tryd.prog 8 #[vlv v av cv, .int .i64 0] w' (RetB w' true)) := Lib.hid (fun w' hf => by
      have k := small_any 21 (Nat.le_refl _) v av cv w' hV (hs.onw hf)
      rw [hsm, show (21 : Int) - ((21 : Nat) : Int) = 0 by decide] at k
      exact k)
    by_cases b2 : l2.length ≤ 200
    · by_cases b3 : l3.length ≤ 200
      · have b4 : 200 < l4.length := by omega
        clear hb
        have HA := Lib.hid HLV
        have HG := Lib.hid G
        obtain ⟨p0, q0⟩ := bx1 w v av cv
        have f0 := q0.b
        have hl2 := h2.len.1
        have hl3 := h3.len.1
        have hl4 := h4.len.1
        clear h2 h3 h4 G HLV hsm hV hs q0
        unfold vlv at *
        go_enter Tryd.func6, Tryd.ntmps6
        go_upto_region 1 with fail
        obtain ⟨W0, hW⟩ : ∃ W0, w.alloc (.cells #[.int .i64 v.kd, .int .i64 v.nn, .int .i64 v.dd, .string (bs v.ss), .slice av v.ll.length cv] 24) = W0 := ⟨_, rfl⟩
        rw [hW] at p0 f0
        rw [hW]
        clear hW
        obtain ⟨d0, d1, d2, d3, d4⟩ : _ ∧ _ ∧ _ ∧ _ ∧ _ := ⟨p0.c0, p0.c1, p0.c2, p0.c3, p0.c4⟩
        go_wp2_with fail
        go_at_call 8; refine (S0.out _ f0).mono ?_; rintro e w1 ⟨rfl, f1⟩
        clear d0 d1 d2 d3 d4 p0
        have F1 := Lib.hid (Fuw.trans f0 f1.b)
        clear f0 f1
        go_wp2_with fail
        go_at_call 9; refine (HA.out _ (HG.out.on F1.out)).mono ?_; rintro e w9 ⟨rfl, f9⟩
        go_wp2
        go_ret
        exact ⟨rfl, Fuw.trans F1.out f9⟩
      · clear hb
        have HA := Lib.hid HLV
        have HG := Lib.hid G
        obtain ⟨p0, q0⟩ := bx1 w v av cv
        have f0 := q0.b
        have hl2 := h2.len.1
        have hl3 := h3.len.1
        have hl4 := h4.len.1
        clear h2 h3 h4 G HLV hsm hV hs q0
        unfold vlv at *
        go_enter Tryd.func6, Tryd.ntmps6
        go_upto_region 1 with fail
        obtain ⟨W0, hW⟩ : ∃ W0, w.alloc (.cells #[.int .i64 v.kd, .int .i64 v.nn, .int .i64 v.dd, .string (bs v.ss), .slice av v.ll.length cv] 24) = W0 := ⟨_, rfl⟩
        rw [hW] at p0 f0
        rw [hW]
        clear hW
        obtain ⟨d0, d1, d2, d3, d4⟩ : _ ∧ _ ∧ _ ∧ _ ∧ _ := ⟨p0.c0, p0.c1, p0.c2, p0.c3, p0.c4⟩
        go_wp2_with fail
        go_at_call 8; refine (S0.out _ f0).mono ?_; rintro e w1 ⟨rfl, f1⟩
        clear d0 d1 d2 d3 d4 p0
        have F1 := Lib.hid (Fuw.trans f0 f1.b)
        clear f0 f1
        go_wp2_with fail
        go_at_call 9; refine (HA.out _ (HG.out.on F1.out)).mono ?_; rintro e w9 ⟨rfl, f9⟩
        go_wp2
        go_ret
        exact ⟨rfl, Fuw.trans F1.out f9⟩
    · clear hb
      have HA := Lib.hid HLV
      have HG := Lib.hid G
      obtain ⟨p0, q0⟩ := bx1 w v av cv
      have f0 := q0.b
      have hl2 := h2.len.1
      have hl3 := h3.len.1
      have hl4 := h4.len.1
      clear h2 h3 h4 G HLV hsm hV hs q0
      unfold vlv at *
      go_enter Tryd.func6, Tryd.ntmps6
      go_upto_region 1 with fail
      obtain ⟨W0, hW⟩ : ∃ W0, w.alloc (.cells #[.int .i64 v.kd, .int .i64 v.nn, .int .i64 v.dd, .string (bs v.ss), .slice av v.ll.length cv] 24) = W0 := ⟨_, rfl⟩
      rw [hW] at p0 f0
      rw [hW]
      clear hW
      obtain ⟨d0, d1, d2, d3, d4⟩ : _ ∧ _ ∧ _ ∧ _ ∧ _ := ⟨p0.c0, p0.c1, p0.c2, p0.c3, p0.c4⟩
      go_wp2_with fail
      go_at_call 8; refine (S0.out _ f0).mono ?_; rintro e w1 ⟨rfl, f1⟩
      clear d0 d1 d2 d3 d4 p0
      have F1 := Lib.hid (Fuw.trans f0 f1.b)
      clear f0 f1
      go_wp2_with fail
      go_at_call 9; refine (HA.out _ (HG.out.on F1.out)).mono ?_; rintro e w9 ⟨rfl, f9⟩
      go_wp2
      go_ret
      exact ⟨rfl, Fuw.trans F1.out f9⟩
end Go.Proofs.YtolkdmhjomampaaDoor
