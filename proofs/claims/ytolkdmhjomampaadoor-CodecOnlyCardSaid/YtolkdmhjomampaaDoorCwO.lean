/-
  CodecOnly gives true by the contracts of package codec: what a read function accepts is the only encoding of its result.
-/
import Derived.Test.YtolkdmhjomampaaDoorCdW
import Derived.Test.YtolkdmhjomampaaDoorPvO
namespace Go.Proofs.YtolkdmhjomampaaDoor
open Go.RowKit

set_option maxHeartbeats 3200000 in
theorem holds_yes (ao : Option Addr) (l : List UInt8) (cap : Nat) (a2 : Option Addr) (L2 : List UInt8) (c2 : Nat) (a E : Int) (w : World) (h : IsB w ao l cap) (h2 : IsB w a2 L2 c2) (g0 : 0 ≤ a) (g1 : a ≤ E) (g2 : E ≤ l.length) (hq : cutL l a E = L2) :
    Calls Tryd.prog 32 #[.slice ao l.length cap, .int .i64 a, .int .i64 E, .slice a2 L2.length c2] w (RwC w true) := by
  obtain ⟨p, rfl⟩ := Int.eq_ofNat_of_zero_le g0
  obtain ⟨r, rfl⟩ := Int.eq_ofNat_of_zero_le (show 0 ≤ E by omega)
  have hlen := h.len.1
  obtain ⟨a3, l3, c3, e3, hl3, h3, hs⟩ := slice_lh h (lo := p) (hi := r) (by omega) (by omega)
  have e4 : l3 = L2 := by
    rw [e3, ← hq]
    unfold cutL
    rw [Int.toNat_natCast]
    congr 1
    omega
  subst e4
  have f0 : Fuw w w.drew := Fuw.drew (Fuw.refl w)
  have v1 := conv_bytes (h3.on f0)
  have v2 := conv_bytes (h2.on f0)
  have hS : ((yb l3).toList == (yb l3).toList) = true := beq_self_eq_true _
  have i1 : (p : Int) ≤ r := g1
  have i2 : (r : Int) ≤ l.length := g2
  clear hq e3 hl3 h3 h2 h g1 g2
  go_enter Tryd.func32, Tryd.ntmps32
  go_upto_region 1 with fail
  go_region
  all_goals
    go_wp2
    go_ret
    exact ⟨rfl, f0⟩

/-- Value, where it reads one. -/
theorem value_ok {ao : Option Addr} {l : List UInt8} {cap : Nat} {b E : Int} {x : Vl} {w : World} (h : IsB w ao l cap) (hv : valueV l b = .ok x E) :
    Calls Tryd.prog 18 #[.slice ao l.length cap, .int .i64 b] w fun e w' => ∃ a2 c2, e = .returned (.tuple #[.agg #[.int .i64 x.kd, .int .i64 x.nn, .int .i64 x.dd, .string (bs x.ss), .slice a2 x.ll.length c2], .int .i64 E, .int .i64 0]) ∧ (∀ w2, Fuw w' w2 → SlV w2 a2 x.ll c2) ∧ Fuw w w' := by
  have k := value_is ao l cap b w h
  rw [hv] at k
  refine k.mono fun e w' ⟨hf, a2, c2, he, hk⟩ => ⟨a2, c2, he, fun w2 hw => hk w2 hw.size fun q _ h2 => Below.block hw q h2, hf⟩
/-- Value, where it reads none. -/
theorem value_er {ao : Option Addr} {l : List UInt8} {cap : Nat} {b c : Int} {w : World} (h : IsB w ao l cap) (hv : valueV l b = .er c) :
    Calls Tryd.prog 18 #[.slice ao l.length cap, .int .i64 b] w fun e w' => e = .returned (.tuple #[.agg #[.int .i64 0, .int .i64 0, .int .i64 0, .string ⟨#[]⟩, .slice none 0 0], .int .i64 0, .int .i64 c]) ∧ (c == 0) = false ∧ Fuw w w' := by
  have k := value_is ao l cap b w h
  rw [hv] at k
  exact k.mono fun e w' ⟨hf, he, hc⟩ => ⟨he, by rw [beq_eq_false_iff_ne]; exact hc, hf⟩

set_option maxHeartbeats 8000000 in
set_option maxRecDepth 4000000 in
theorem only_1111 (ao : Option Addr) (l : List UInt8) (cap : Nat) (at_ : Int) (h0 : -9223372036854775808 ≤ at_) (h1 : at_ ≤ 9223372036854775807) (w : World) (h : IsB w ao l cap) (G : Good5 w) (HLV : Alive5) (hl2 : l.length ≤ 1000) (n1 E1 : Int) (q1 : uintV l at_ = (n1, E1, 0)) (n2 E2 : Int) (q2 : intV l at_ = (n2, E2, 0)) (x : Vl) (E3 : Int) (q3 : valueV l at_ = .ok x E3) (S : List UInt8) (E4 : Int) (q4 : unframeV l at_ = (S, E4, 0)) :
    Calls Tryd.prog 7 #[.slice ao l.length cap, .int .i64 at_] w (RwC w true) := by
  have HA := Lib.hid HLV
  have HG := Lib.hid G
  have HI := Lib.hid h
  have H1 := Lib.hid (uint_is ao l cap at_ h0 h1 w h _ _ _ q1)
  have H2 := Lib.hid (int_is ao l cap at_ h0 h1 w h _ _ _ q2)
  have H3 := Lib.hid (value_ok h q3)
  have H4 := Lib.hid (fun w' (hf : Fuw w w') => unframe_is ao l cap at_ h0 h1 w' (h.on hf) (G.on hf) _ _ _ q4)
  obtain ⟨b1, m1, m2, g0, g1, g2⟩ := uint_only q1
  have K1 := Lib.hid (fun w' a2 c2 (hf : Fuw w w') (h2 : IsB w' a2 (putU n1) c2) => holds_yes ao l cap a2 _ c2 at_ E1 w' (h.on hf) h2 g0 (by omega) g2 (b1.trans (show Lib.uvarint n1.toNat = putU n1 by unfold putU; rw [if_neg (by omega)])))
  have P1 := Lib.hid (fun w' => put_uint n1 (by omega) m2 w')
  clear b1 m1 m2 g0 g1 g2
  obtain ⟨b2, m2, g0, g1, g2⟩ := int_only q2
  have K2 := Lib.hid (fun w' a2 c2 (hf : Fuw w w') (h2 : IsB w' a2 (putI n2) c2) => holds_yes ao l cap a2 _ c2 at_ E2 w' (h.on hf) h2 g0 (by omega) g2 b2)
  have P2 := Lib.hid (fun w' => put_int n2 m2.1 m2.2 w')
  clear b2 m2 g0 g1 g2
  obtain ⟨hX, b3, g0, g1, g2⟩ := value_only q3
  have hV : Vin x := by
    have hq := q3
    unfold valueV at hq
    rw [if_neg (by omega)] at hq
    exact (val_rd (Nat.le_trans h.le h.max) 8 at_ x E3 g0 (by omega) hq).1
  have hpl : (putX x).length ≤ 1000 := by
    rw [← b3]
    unfold cutL
    rw [List.length_take, List.length_drop]
    omega
  have K3 := Lib.hid (fun w' a2 c2 (hf : Fuw w w') (h2 : IsB w' a2 (putVal x) c2) => holds_yes ao l cap a2 _ c2 at_ E3 w' (h.on hf) h2 g0 g1 g2 (b3.trans (show putX x = putVal x by unfold putVal; rw [if_pos hX])))
  have P3 := Lib.hid (fun w' a2 c2 (hs : SlV w' a2 x.ll c2) => put_value x a2 c2 w' hV hs (fun _ => by omega))
  unfold vlv at P3
  clear hX b3 g0 g1 g2 hV hpl
  obtain ⟨b4, g0, g1, g2⟩ := frame_only q4
  have hsl : S.length ≤ 1000 := by
    have e := congrArg List.length b4
    unfold cutL frameV at e
    rw [List.length_take, List.length_drop] at e
    simp at e
    omega
  have K4 := Lib.hid (fun w' a2 c2 (hf : Fuw w w') (h2 : IsB w' a2 (frameV S) c2) => holds_yes ao l cap a2 _ c2 at_ E4 w' (h.on hf) h2 g0 g1 g2 b4)
  have P4 := Lib.hid (fun w' a2 c2 (hf : Fuw w w') (h2 : IsB w' a2 S c2) => frame_is a2 S c2 w' h2 (G.on hf) (by omega))
  clear b4 g0 g1 g2 hsl
  have hl3 : (l.length : Int) ≤ 1000 := by omega
  clear q1 q2 q3 q4 h G h0 h1 HLV
  go_enter Tryd.func7, Tryd.ntmps7
  go_wp2_with fail
  go_at_call 27; refine H1.out.mono ?_; rintro e1 w1 ⟨rfl, rfl⟩
  clear H1
  go_wp2_with fail
  go_at_call 29; refine H2.out.mono ?_; rintro e1 w1 ⟨rfl, rfl⟩
  clear H2
  go_wp2_with fail
  go_at_call 18; refine H3.out.mono ?_; rintro e1 w3 ⟨a3, c3, rfl, hk, f3⟩
  clear H3
  have HK := Lib.hid hk
  clear hk
  obtain ⟨p0, q0⟩ := bx1 w3 x a3 c3
  have f4 := q0.b
  clear q0
  go_upto_region 6 with fail
  obtain ⟨W4, hW⟩ : ∃ W4, w3.alloc (.cells #[.int .i64 x.kd, .int .i64 x.nn, .int .i64 x.dd, .string (bs x.ss), .slice a3 x.ll.length c3] 24) = W4 := ⟨_, rfl⟩
  rw [hW] at p0 f4
  rw [hW]
  clear hW
  have ff := Fuw.trans f3 f4
  go_wp2_with fail
  go_at_call 21; refine (H4.out _ ff).mono ?_; rintro e1 w5 ⟨a5, c5, rfl, i5, f5⟩
  clear H4
  have FF := Lib.hid (Fuw.trans ff f5)
  have PB := Lib.hid (p0.onw f5)
  have F4 := Lib.hid (Fuw.trans f4 f5)
  clear p0
  have I5 := Lib.hid i5
  clear ff f3 f4 f5 i5
  have g5 := Lib.hid (Fuw.refl w5)
  go_wp2_with fail
  go_at_call 10; refine (P1.out _).mono ?_; rintro e1 w6 ⟨a6, c6, rfl, i6, f6⟩
  have g6 := Lib.hid (Fuw.trans g5.out f6)
  clear f6
  go_wp2_with fail
  go_at_call 32; refine (K1.out _ _ _ (Fuw.trans FF.out g6.out) i6).mono ?_; rintro e1 w7 ⟨rfl, f7⟩
  have g7 := Lib.hid (Fuw.trans g6.out f7)
  clear f7 i6
  go_wp2_with fail
  go_at_call 12; refine (P2.out _).mono ?_; rintro e1 w8 ⟨a8, c8, rfl, i8, f8⟩
  have g8 := Lib.hid (Fuw.trans g7.out f8)
  clear f8
  go_wp2_with fail
  go_at_call 32; refine (K2.out _ _ _ (Fuw.trans FF.out g8.out) i8).mono ?_; rintro e1 w9 ⟨rfl, f9⟩
  have g9 := Lib.hid (Fuw.trans g8.out f9)
  clear f9 i8
  obtain ⟨d0, d1, d2, d3, d4⟩ : _ ∧ _ ∧ _ ∧ _ ∧ _ := ⟨(PB.out.onw g9.out).c0, (PB.out.onw g9.out).c1, (PB.out.onw g9.out).c2, (PB.out.onw g9.out).c3, (PB.out.onw g9.out).c4⟩
  have SL := Lib.hid (HK.out _ (Fuw.trans F4.out g9.out))
  go_wp2_with fail
  go_at_call 16; refine (P3.out _ _ _ SL.out).mono ?_; rintro e1 w10 ⟨a10, c10, rfl, i10, f10⟩
  have g10 := Lib.hid (Fuw.trans g9.out f10)
  clear f10
  go_wp2_with fail
  go_at_call 32; refine (K3.out _ _ _ (Fuw.trans FF.out g10.out) i10).mono ?_; rintro e1 w11 ⟨rfl, f11⟩
  have g11 := Lib.hid (Fuw.trans g10.out f11)
  clear f11 i10
  clear d0 d1 d2 d3 d4 SL
  go_wp2_with fail
  go_at_call 25; refine (P4.out _ _ _ (Fuw.trans FF.out g11.out) (I5.out.on g11.out)).mono ?_; rintro e1 w12 ⟨a12, c12, rfl, i12, f12⟩
  have g12 := Lib.hid (Fuw.trans g11.out f12)
  clear f12
  go_wp2_with fail
  go_at_call 32; refine (K4.out _ _ _ (Fuw.trans FF.out g12.out) i12).mono ?_; rintro e1 w13 ⟨rfl, f13⟩
  have g13 := Lib.hid (Fuw.trans g12.out f13)
  clear f13 i12
  go_wp2_with fail
  go_at_call 9; refine (HA.out _ (HG.out.on (Fuw.trans FF.out g13.out))).mono ?_; rintro e9 w99 ⟨rfl, f99⟩
  go_wp2
  go_ret
  exact ⟨rfl, Fuw.trans FF.out (Fuw.trans g13.out f99)⟩

set_option maxHeartbeats 8000000 in
set_option maxRecDepth 4000000 in
theorem only_1110 (ao : Option Addr) (l : List UInt8) (cap : Nat) (at_ : Int) (h0 : -9223372036854775808 ≤ at_) (h1 : at_ ≤ 9223372036854775807) (w : World) (h : IsB w ao l cap) (G : Good5 w) (HLV : Alive5) (hl2 : l.length ≤ 1000) (n1 E1 : Int) (q1 : uintV l at_ = (n1, E1, 0)) (n2 E2 : Int) (q2 : intV l at_ = (n2, E2, 0)) (x : Vl) (E3 : Int) (q3 : valueV l at_ = .ok x E3) (S : List UInt8) (E4 k4 : Int) (q4 : unframeV l at_ = (S, E4, k4)) (z4 : (k4 == 0) = false) :
    Calls Tryd.prog 7 #[.slice ao l.length cap, .int .i64 at_] w (RwC w true) := by
  have HA := Lib.hid HLV
  have HG := Lib.hid G
  have HI := Lib.hid h
  have H1 := Lib.hid (uint_is ao l cap at_ h0 h1 w h _ _ _ q1)
  have H2 := Lib.hid (int_is ao l cap at_ h0 h1 w h _ _ _ q2)
  have H3 := Lib.hid (value_ok h q3)
  have H4 := Lib.hid (fun w' (hf : Fuw w w') => unframe_is ao l cap at_ h0 h1 w' (h.on hf) (G.on hf) _ _ _ q4)
  obtain ⟨b1, m1, m2, g0, g1, g2⟩ := uint_only q1
  have K1 := Lib.hid (fun w' a2 c2 (hf : Fuw w w') (h2 : IsB w' a2 (putU n1) c2) => holds_yes ao l cap a2 _ c2 at_ E1 w' (h.on hf) h2 g0 (by omega) g2 (b1.trans (show Lib.uvarint n1.toNat = putU n1 by unfold putU; rw [if_neg (by omega)])))
  have P1 := Lib.hid (fun w' => put_uint n1 (by omega) m2 w')
  clear b1 m1 m2 g0 g1 g2
  obtain ⟨b2, m2, g0, g1, g2⟩ := int_only q2
  have K2 := Lib.hid (fun w' a2 c2 (hf : Fuw w w') (h2 : IsB w' a2 (putI n2) c2) => holds_yes ao l cap a2 _ c2 at_ E2 w' (h.on hf) h2 g0 (by omega) g2 b2)
  have P2 := Lib.hid (fun w' => put_int n2 m2.1 m2.2 w')
  clear b2 m2 g0 g1 g2
  obtain ⟨hX, b3, g0, g1, g2⟩ := value_only q3
  have hV : Vin x := by
    have hq := q3
    unfold valueV at hq
    rw [if_neg (by omega)] at hq
    exact (val_rd (Nat.le_trans h.le h.max) 8 at_ x E3 g0 (by omega) hq).1
  have hpl : (putX x).length ≤ 1000 := by
    rw [← b3]
    unfold cutL
    rw [List.length_take, List.length_drop]
    omega
  have K3 := Lib.hid (fun w' a2 c2 (hf : Fuw w w') (h2 : IsB w' a2 (putVal x) c2) => holds_yes ao l cap a2 _ c2 at_ E3 w' (h.on hf) h2 g0 g1 g2 (b3.trans (show putX x = putVal x by unfold putVal; rw [if_pos hX])))
  have P3 := Lib.hid (fun w' a2 c2 (hs : SlV w' a2 x.ll c2) => put_value x a2 c2 w' hV hs (fun _ => by omega))
  unfold vlv at P3
  clear hX b3 g0 g1 g2 hV hpl
  have hl3 : (l.length : Int) ≤ 1000 := by omega
  clear q1 q2 q3 q4 h G h0 h1 HLV
  go_enter Tryd.func7, Tryd.ntmps7
  go_wp2_with fail
  go_at_call 27; refine H1.out.mono ?_; rintro e1 w1 ⟨rfl, rfl⟩
  clear H1
  go_wp2_with fail
  go_at_call 29; refine H2.out.mono ?_; rintro e1 w1 ⟨rfl, rfl⟩
  clear H2
  go_wp2_with fail
  go_at_call 18; refine H3.out.mono ?_; rintro e1 w3 ⟨a3, c3, rfl, hk, f3⟩
  clear H3
  have HK := Lib.hid hk
  clear hk
  obtain ⟨p0, q0⟩ := bx1 w3 x a3 c3
  have f4 := q0.b
  clear q0
  go_upto_region 6 with fail
  obtain ⟨W4, hW⟩ : ∃ W4, w3.alloc (.cells #[.int .i64 x.kd, .int .i64 x.nn, .int .i64 x.dd, .string (bs x.ss), .slice a3 x.ll.length c3] 24) = W4 := ⟨_, rfl⟩
  rw [hW] at p0 f4
  rw [hW]
  clear hW
  have ff := Fuw.trans f3 f4
  go_wp2_with fail
  go_at_call 21; refine (H4.out _ ff).mono ?_; rintro e1 w5 ⟨a5, c5, rfl, i5, f5⟩
  clear H4
  have FF := Lib.hid (Fuw.trans ff f5)
  have PB := Lib.hid (p0.onw f5)
  have F4 := Lib.hid (Fuw.trans f4 f5)
  clear p0
  clear ff f3 f4 f5 i5
  have g5 := Lib.hid (Fuw.refl w5)
  go_wp2_with fail
  go_at_call 10; refine (P1.out _).mono ?_; rintro e1 w6 ⟨a6, c6, rfl, i6, f6⟩
  have g6 := Lib.hid (Fuw.trans g5.out f6)
  clear f6
  go_wp2_with fail
  go_at_call 32; refine (K1.out _ _ _ (Fuw.trans FF.out g6.out) i6).mono ?_; rintro e1 w7 ⟨rfl, f7⟩
  have g7 := Lib.hid (Fuw.trans g6.out f7)
  clear f7 i6
  go_wp2_with fail
  go_at_call 12; refine (P2.out _).mono ?_; rintro e1 w8 ⟨a8, c8, rfl, i8, f8⟩
  have g8 := Lib.hid (Fuw.trans g7.out f8)
  clear f8
  go_wp2_with fail
  go_at_call 32; refine (K2.out _ _ _ (Fuw.trans FF.out g8.out) i8).mono ?_; rintro e1 w9 ⟨rfl, f9⟩
  have g9 := Lib.hid (Fuw.trans g8.out f9)
  clear f9 i8
  obtain ⟨d0, d1, d2, d3, d4⟩ : _ ∧ _ ∧ _ ∧ _ ∧ _ := ⟨(PB.out.onw g9.out).c0, (PB.out.onw g9.out).c1, (PB.out.onw g9.out).c2, (PB.out.onw g9.out).c3, (PB.out.onw g9.out).c4⟩
  have SL := Lib.hid (HK.out _ (Fuw.trans F4.out g9.out))
  go_wp2_with fail
  go_at_call 16; refine (P3.out _ _ _ SL.out).mono ?_; rintro e1 w10 ⟨a10, c10, rfl, i10, f10⟩
  have g10 := Lib.hid (Fuw.trans g9.out f10)
  clear f10
  go_wp2_with fail
  go_at_call 32; refine (K3.out _ _ _ (Fuw.trans FF.out g10.out) i10).mono ?_; rintro e1 w11 ⟨rfl, f11⟩
  have g11 := Lib.hid (Fuw.trans g10.out f11)
  clear f11 i10
  clear d0 d1 d2 d3 d4 SL
  go_wp2_with fail
  go_at_call 9; refine (HA.out _ (HG.out.on (Fuw.trans FF.out g11.out))).mono ?_; rintro e9 w99 ⟨rfl, f99⟩
  go_wp2
  go_ret
  exact ⟨rfl, Fuw.trans FF.out (Fuw.trans g11.out f99)⟩

set_option maxHeartbeats 8000000 in
set_option maxRecDepth 4000000 in
theorem only_1101 (ao : Option Addr) (l : List UInt8) (cap : Nat) (at_ : Int) (h0 : -9223372036854775808 ≤ at_) (h1 : at_ ≤ 9223372036854775807) (w : World) (h : IsB w ao l cap) (G : Good5 w) (HLV : Alive5) (hl2 : l.length ≤ 1000) (n1 E1 : Int) (q1 : uintV l at_ = (n1, E1, 0)) (n2 E2 : Int) (q2 : intV l at_ = (n2, E2, 0)) (k3 : Int) (q3 : valueV l at_ = .er k3) (S : List UInt8) (E4 : Int) (q4 : unframeV l at_ = (S, E4, 0)) :
    Calls Tryd.prog 7 #[.slice ao l.length cap, .int .i64 at_] w (RwC w true) := by
  have HA := Lib.hid HLV
  have HG := Lib.hid G
  have HI := Lib.hid h
  have H1 := Lib.hid (uint_is ao l cap at_ h0 h1 w h _ _ _ q1)
  have H2 := Lib.hid (int_is ao l cap at_ h0 h1 w h _ _ _ q2)
  have H3 := Lib.hid (value_er h q3)
  have H4 := Lib.hid (fun w' (hf : Fuw w w') => unframe_is ao l cap at_ h0 h1 w' (h.on hf) (G.on hf) _ _ _ q4)
  obtain ⟨b1, m1, m2, g0, g1, g2⟩ := uint_only q1
  have K1 := Lib.hid (fun w' a2 c2 (hf : Fuw w w') (h2 : IsB w' a2 (putU n1) c2) => holds_yes ao l cap a2 _ c2 at_ E1 w' (h.on hf) h2 g0 (by omega) g2 (b1.trans (show Lib.uvarint n1.toNat = putU n1 by unfold putU; rw [if_neg (by omega)])))
  have P1 := Lib.hid (fun w' => put_uint n1 (by omega) m2 w')
  clear b1 m1 m2 g0 g1 g2
  obtain ⟨b2, m2, g0, g1, g2⟩ := int_only q2
  have K2 := Lib.hid (fun w' a2 c2 (hf : Fuw w w') (h2 : IsB w' a2 (putI n2) c2) => holds_yes ao l cap a2 _ c2 at_ E2 w' (h.on hf) h2 g0 (by omega) g2 b2)
  have P2 := Lib.hid (fun w' => put_int n2 m2.1 m2.2 w')
  clear b2 m2 g0 g1 g2
  obtain ⟨b4, g0, g1, g2⟩ := frame_only q4
  have hsl : S.length ≤ 1000 := by
    have e := congrArg List.length b4
    unfold cutL frameV at e
    rw [List.length_take, List.length_drop] at e
    simp at e
    omega
  have K4 := Lib.hid (fun w' a2 c2 (hf : Fuw w w') (h2 : IsB w' a2 (frameV S) c2) => holds_yes ao l cap a2 _ c2 at_ E4 w' (h.on hf) h2 g0 g1 g2 b4)
  have P4 := Lib.hid (fun w' a2 c2 (hf : Fuw w w') (h2 : IsB w' a2 S c2) => frame_is a2 S c2 w' h2 (G.on hf) (by omega))
  clear b4 g0 g1 g2 hsl
  have hl3 : (l.length : Int) ≤ 1000 := by omega
  clear q1 q2 q3 q4 h G h0 h1 HLV
  go_enter Tryd.func7, Tryd.ntmps7
  go_wp2_with fail
  go_at_call 27; refine H1.out.mono ?_; rintro e1 w1 ⟨rfl, rfl⟩
  clear H1
  go_wp2_with fail
  go_at_call 29; refine H2.out.mono ?_; rintro e1 w1 ⟨rfl, rfl⟩
  clear H2
  go_wp2_with fail
  go_at_call 18; refine H3.out.mono ?_; rintro e1 w3 ⟨rfl, z3, f3⟩
  clear H3
  go_upto_region 6 with fail
  have f4 : Fuw w3 (w3.alloc (.cells #[.int .i64 0, .int .i64 0, .int .i64 0, .string ⟨#[]⟩, .slice none 0 0] 24)) := Below.alloc (Fuw.refl w3) (Nat.le_refl _) _
  have ff := Fuw.trans f3 f4
  generalize w3.alloc _ = W4 at f4 ff ⊢
  go_wp2_with fail
  go_at_call 21; refine (H4.out _ ff).mono ?_; rintro e1 w5 ⟨a5, c5, rfl, i5, f5⟩
  clear H4
  have FF := Lib.hid (Fuw.trans ff f5)
  have I5 := Lib.hid i5
  clear ff f3 f4 f5 i5
  have g5 := Lib.hid (Fuw.refl w5)
  go_wp2_with fail
  go_at_call 10; refine (P1.out _).mono ?_; rintro e1 w6 ⟨a6, c6, rfl, i6, f6⟩
  have g6 := Lib.hid (Fuw.trans g5.out f6)
  clear f6
  go_wp2_with fail
  go_at_call 32; refine (K1.out _ _ _ (Fuw.trans FF.out g6.out) i6).mono ?_; rintro e1 w7 ⟨rfl, f7⟩
  have g7 := Lib.hid (Fuw.trans g6.out f7)
  clear f7 i6
  go_wp2_with fail
  go_at_call 12; refine (P2.out _).mono ?_; rintro e1 w8 ⟨a8, c8, rfl, i8, f8⟩
  have g8 := Lib.hid (Fuw.trans g7.out f8)
  clear f8
  go_wp2_with fail
  go_at_call 32; refine (K2.out _ _ _ (Fuw.trans FF.out g8.out) i8).mono ?_; rintro e1 w9 ⟨rfl, f9⟩
  have g9 := Lib.hid (Fuw.trans g8.out f9)
  clear f9 i8
  go_wp2_with fail
  go_at_call 25; refine (P4.out _ _ _ (Fuw.trans FF.out g9.out) (I5.out.on g9.out)).mono ?_; rintro e1 w10 ⟨a10, c10, rfl, i10, f10⟩
  have g10 := Lib.hid (Fuw.trans g9.out f10)
  clear f10
  go_wp2_with fail
  go_at_call 32; refine (K4.out _ _ _ (Fuw.trans FF.out g10.out) i10).mono ?_; rintro e1 w11 ⟨rfl, f11⟩
  have g11 := Lib.hid (Fuw.trans g10.out f11)
  clear f11 i10
  go_wp2_with fail
  go_at_call 9; refine (HA.out _ (HG.out.on (Fuw.trans FF.out g11.out))).mono ?_; rintro e9 w99 ⟨rfl, f99⟩
  go_wp2
  go_ret
  exact ⟨rfl, Fuw.trans FF.out (Fuw.trans g11.out f99)⟩

set_option maxHeartbeats 8000000 in
set_option maxRecDepth 4000000 in
theorem only_1100 (ao : Option Addr) (l : List UInt8) (cap : Nat) (at_ : Int) (h0 : -9223372036854775808 ≤ at_) (h1 : at_ ≤ 9223372036854775807) (w : World) (h : IsB w ao l cap) (G : Good5 w) (HLV : Alive5) (hl2 : l.length ≤ 1000) (n1 E1 : Int) (q1 : uintV l at_ = (n1, E1, 0)) (n2 E2 : Int) (q2 : intV l at_ = (n2, E2, 0)) (k3 : Int) (q3 : valueV l at_ = .er k3) (S : List UInt8) (E4 k4 : Int) (q4 : unframeV l at_ = (S, E4, k4)) (z4 : (k4 == 0) = false) :
    Calls Tryd.prog 7 #[.slice ao l.length cap, .int .i64 at_] w (RwC w true) := by
  have HA := Lib.hid HLV
  have HG := Lib.hid G
  have HI := Lib.hid h
  have H1 := Lib.hid (uint_is ao l cap at_ h0 h1 w h _ _ _ q1)
  have H2 := Lib.hid (int_is ao l cap at_ h0 h1 w h _ _ _ q2)
  have H3 := Lib.hid (value_er h q3)
  have H4 := Lib.hid (fun w' (hf : Fuw w w') => unframe_is ao l cap at_ h0 h1 w' (h.on hf) (G.on hf) _ _ _ q4)
  obtain ⟨b1, m1, m2, g0, g1, g2⟩ := uint_only q1
  have K1 := Lib.hid (fun w' a2 c2 (hf : Fuw w w') (h2 : IsB w' a2 (putU n1) c2) => holds_yes ao l cap a2 _ c2 at_ E1 w' (h.on hf) h2 g0 (by omega) g2 (b1.trans (show Lib.uvarint n1.toNat = putU n1 by unfold putU; rw [if_neg (by omega)])))
  have P1 := Lib.hid (fun w' => put_uint n1 (by omega) m2 w')
  clear b1 m1 m2 g0 g1 g2
  obtain ⟨b2, m2, g0, g1, g2⟩ := int_only q2
  have K2 := Lib.hid (fun w' a2 c2 (hf : Fuw w w') (h2 : IsB w' a2 (putI n2) c2) => holds_yes ao l cap a2 _ c2 at_ E2 w' (h.on hf) h2 g0 (by omega) g2 b2)
  have P2 := Lib.hid (fun w' => put_int n2 m2.1 m2.2 w')
  clear b2 m2 g0 g1 g2
  have hl3 : (l.length : Int) ≤ 1000 := by omega
  clear q1 q2 q3 q4 h G h0 h1 HLV
  go_enter Tryd.func7, Tryd.ntmps7
  go_wp2_with fail
  go_at_call 27; refine H1.out.mono ?_; rintro e1 w1 ⟨rfl, rfl⟩
  clear H1
  go_wp2_with fail
  go_at_call 29; refine H2.out.mono ?_; rintro e1 w1 ⟨rfl, rfl⟩
  clear H2
  go_wp2_with fail
  go_at_call 18; refine H3.out.mono ?_; rintro e1 w3 ⟨rfl, z3, f3⟩
  clear H3
  go_upto_region 6 with fail
  have f4 : Fuw w3 (w3.alloc (.cells #[.int .i64 0, .int .i64 0, .int .i64 0, .string ⟨#[]⟩, .slice none 0 0] 24)) := Below.alloc (Fuw.refl w3) (Nat.le_refl _) _
  have ff := Fuw.trans f3 f4
  generalize w3.alloc _ = W4 at f4 ff ⊢
  go_wp2_with fail
  go_at_call 21; refine (H4.out _ ff).mono ?_; rintro e1 w5 ⟨a5, c5, rfl, i5, f5⟩
  clear H4
  have FF := Lib.hid (Fuw.trans ff f5)
  clear ff f3 f4 f5 i5
  have g5 := Lib.hid (Fuw.refl w5)
  go_wp2_with fail
  go_at_call 10; refine (P1.out _).mono ?_; rintro e1 w6 ⟨a6, c6, rfl, i6, f6⟩
  have g6 := Lib.hid (Fuw.trans g5.out f6)
  clear f6
  go_wp2_with fail
  go_at_call 32; refine (K1.out _ _ _ (Fuw.trans FF.out g6.out) i6).mono ?_; rintro e1 w7 ⟨rfl, f7⟩
  have g7 := Lib.hid (Fuw.trans g6.out f7)
  clear f7 i6
  go_wp2_with fail
  go_at_call 12; refine (P2.out _).mono ?_; rintro e1 w8 ⟨a8, c8, rfl, i8, f8⟩
  have g8 := Lib.hid (Fuw.trans g7.out f8)
  clear f8
  go_wp2_with fail
  go_at_call 32; refine (K2.out _ _ _ (Fuw.trans FF.out g8.out) i8).mono ?_; rintro e1 w9 ⟨rfl, f9⟩
  have g9 := Lib.hid (Fuw.trans g8.out f9)
  clear f9 i8
  go_wp2_with fail
  go_at_call 9; refine (HA.out _ (HG.out.on (Fuw.trans FF.out g9.out))).mono ?_; rintro e9 w99 ⟨rfl, f99⟩
  go_wp2
  go_ret
  exact ⟨rfl, Fuw.trans FF.out (Fuw.trans g9.out f99)⟩

set_option maxHeartbeats 8000000 in
set_option maxRecDepth 4000000 in
theorem only_1011 (ao : Option Addr) (l : List UInt8) (cap : Nat) (at_ : Int) (h0 : -9223372036854775808 ≤ at_) (h1 : at_ ≤ 9223372036854775807) (w : World) (h : IsB w ao l cap) (G : Good5 w) (HLV : Alive5) (hl2 : l.length ≤ 1000) (n1 E1 : Int) (q1 : uintV l at_ = (n1, E1, 0)) (n2 E2 k2 : Int) (q2 : intV l at_ = (n2, E2, k2)) (z2 : (k2 == 0) = false) (x : Vl) (E3 : Int) (q3 : valueV l at_ = .ok x E3) (S : List UInt8) (E4 : Int) (q4 : unframeV l at_ = (S, E4, 0)) :
    Calls Tryd.prog 7 #[.slice ao l.length cap, .int .i64 at_] w (RwC w true) := by
  have HA := Lib.hid HLV
  have HG := Lib.hid G
  have HI := Lib.hid h
  have H1 := Lib.hid (uint_is ao l cap at_ h0 h1 w h _ _ _ q1)
  have H2 := Lib.hid (int_is ao l cap at_ h0 h1 w h _ _ _ q2)
  have H3 := Lib.hid (value_ok h q3)
  have H4 := Lib.hid (fun w' (hf : Fuw w w') => unframe_is ao l cap at_ h0 h1 w' (h.on hf) (G.on hf) _ _ _ q4)
  obtain ⟨b1, m1, m2, g0, g1, g2⟩ := uint_only q1
  have K1 := Lib.hid (fun w' a2 c2 (hf : Fuw w w') (h2 : IsB w' a2 (putU n1) c2) => holds_yes ao l cap a2 _ c2 at_ E1 w' (h.on hf) h2 g0 (by omega) g2 (b1.trans (show Lib.uvarint n1.toNat = putU n1 by unfold putU; rw [if_neg (by omega)])))
  have P1 := Lib.hid (fun w' => put_uint n1 (by omega) m2 w')
  clear b1 m1 m2 g0 g1 g2
  obtain ⟨hX, b3, g0, g1, g2⟩ := value_only q3
  have hV : Vin x := by
    have hq := q3
    unfold valueV at hq
    rw [if_neg (by omega)] at hq
    exact (val_rd (Nat.le_trans h.le h.max) 8 at_ x E3 g0 (by omega) hq).1
  have hpl : (putX x).length ≤ 1000 := by
    rw [← b3]
    unfold cutL
    rw [List.length_take, List.length_drop]
    omega
  have K3 := Lib.hid (fun w' a2 c2 (hf : Fuw w w') (h2 : IsB w' a2 (putVal x) c2) => holds_yes ao l cap a2 _ c2 at_ E3 w' (h.on hf) h2 g0 g1 g2 (b3.trans (show putX x = putVal x by unfold putVal; rw [if_pos hX])))
  have P3 := Lib.hid (fun w' a2 c2 (hs : SlV w' a2 x.ll c2) => put_value x a2 c2 w' hV hs (fun _ => by omega))
  unfold vlv at P3
  clear hX b3 g0 g1 g2 hV hpl
  obtain ⟨b4, g0, g1, g2⟩ := frame_only q4
  have hsl : S.length ≤ 1000 := by
    have e := congrArg List.length b4
    unfold cutL frameV at e
    rw [List.length_take, List.length_drop] at e
    simp at e
    omega
  have K4 := Lib.hid (fun w' a2 c2 (hf : Fuw w w') (h2 : IsB w' a2 (frameV S) c2) => holds_yes ao l cap a2 _ c2 at_ E4 w' (h.on hf) h2 g0 g1 g2 b4)
  have P4 := Lib.hid (fun w' a2 c2 (hf : Fuw w w') (h2 : IsB w' a2 S c2) => frame_is a2 S c2 w' h2 (G.on hf) (by omega))
  clear b4 g0 g1 g2 hsl
  have hl3 : (l.length : Int) ≤ 1000 := by omega
  clear q1 q2 q3 q4 h G h0 h1 HLV
  go_enter Tryd.func7, Tryd.ntmps7
  go_wp2_with fail
  go_at_call 27; refine H1.out.mono ?_; rintro e1 w1 ⟨rfl, rfl⟩
  clear H1
  go_wp2_with fail
  go_at_call 29; refine H2.out.mono ?_; rintro e1 w1 ⟨rfl, rfl⟩
  clear H2
  go_wp2_with fail
  go_at_call 18; refine H3.out.mono ?_; rintro e1 w3 ⟨a3, c3, rfl, hk, f3⟩
  clear H3
  have HK := Lib.hid hk
  clear hk
  obtain ⟨p0, q0⟩ := bx1 w3 x a3 c3
  have f4 := q0.b
  clear q0
  go_upto_region 6 with fail
  obtain ⟨W4, hW⟩ : ∃ W4, w3.alloc (.cells #[.int .i64 x.kd, .int .i64 x.nn, .int .i64 x.dd, .string (bs x.ss), .slice a3 x.ll.length c3] 24) = W4 := ⟨_, rfl⟩
  rw [hW] at p0 f4
  rw [hW]
  clear hW
  have ff := Fuw.trans f3 f4
  go_wp2_with fail
  go_at_call 21; refine (H4.out _ ff).mono ?_; rintro e1 w5 ⟨a5, c5, rfl, i5, f5⟩
  clear H4
  have FF := Lib.hid (Fuw.trans ff f5)
  have PB := Lib.hid (p0.onw f5)
  have F4 := Lib.hid (Fuw.trans f4 f5)
  clear p0
  have I5 := Lib.hid i5
  clear ff f3 f4 f5 i5
  have g5 := Lib.hid (Fuw.refl w5)
  go_wp2_with fail
  go_at_call 10; refine (P1.out _).mono ?_; rintro e1 w6 ⟨a6, c6, rfl, i6, f6⟩
  have g6 := Lib.hid (Fuw.trans g5.out f6)
  clear f6
  go_wp2_with fail
  go_at_call 32; refine (K1.out _ _ _ (Fuw.trans FF.out g6.out) i6).mono ?_; rintro e1 w7 ⟨rfl, f7⟩
  have g7 := Lib.hid (Fuw.trans g6.out f7)
  clear f7 i6
  obtain ⟨d0, d1, d2, d3, d4⟩ : _ ∧ _ ∧ _ ∧ _ ∧ _ := ⟨(PB.out.onw g7.out).c0, (PB.out.onw g7.out).c1, (PB.out.onw g7.out).c2, (PB.out.onw g7.out).c3, (PB.out.onw g7.out).c4⟩
  have SL := Lib.hid (HK.out _ (Fuw.trans F4.out g7.out))
  go_wp2_with fail
  go_at_call 16; refine (P3.out _ _ _ SL.out).mono ?_; rintro e1 w8 ⟨a8, c8, rfl, i8, f8⟩
  have g8 := Lib.hid (Fuw.trans g7.out f8)
  clear f8
  go_wp2_with fail
  go_at_call 32; refine (K3.out _ _ _ (Fuw.trans FF.out g8.out) i8).mono ?_; rintro e1 w9 ⟨rfl, f9⟩
  have g9 := Lib.hid (Fuw.trans g8.out f9)
  clear f9 i8
  clear d0 d1 d2 d3 d4 SL
  go_wp2_with fail
  go_at_call 25; refine (P4.out _ _ _ (Fuw.trans FF.out g9.out) (I5.out.on g9.out)).mono ?_; rintro e1 w10 ⟨a10, c10, rfl, i10, f10⟩
  have g10 := Lib.hid (Fuw.trans g9.out f10)
  clear f10
  go_wp2_with fail
  go_at_call 32; refine (K4.out _ _ _ (Fuw.trans FF.out g10.out) i10).mono ?_; rintro e1 w11 ⟨rfl, f11⟩
  have g11 := Lib.hid (Fuw.trans g10.out f11)
  clear f11 i10
  go_wp2_with fail
  go_at_call 9; refine (HA.out _ (HG.out.on (Fuw.trans FF.out g11.out))).mono ?_; rintro e9 w99 ⟨rfl, f99⟩
  go_wp2
  go_ret
  exact ⟨rfl, Fuw.trans FF.out (Fuw.trans g11.out f99)⟩

set_option maxHeartbeats 8000000 in
set_option maxRecDepth 4000000 in
theorem only_1010 (ao : Option Addr) (l : List UInt8) (cap : Nat) (at_ : Int) (h0 : -9223372036854775808 ≤ at_) (h1 : at_ ≤ 9223372036854775807) (w : World) (h : IsB w ao l cap) (G : Good5 w) (HLV : Alive5) (hl2 : l.length ≤ 1000) (n1 E1 : Int) (q1 : uintV l at_ = (n1, E1, 0)) (n2 E2 k2 : Int) (q2 : intV l at_ = (n2, E2, k2)) (z2 : (k2 == 0) = false) (x : Vl) (E3 : Int) (q3 : valueV l at_ = .ok x E3) (S : List UInt8) (E4 k4 : Int) (q4 : unframeV l at_ = (S, E4, k4)) (z4 : (k4 == 0) = false) :
    Calls Tryd.prog 7 #[.slice ao l.length cap, .int .i64 at_] w (RwC w true) := by
  have HA := Lib.hid HLV
  have HG := Lib.hid G
  have HI := Lib.hid h
  have H1 := Lib.hid (uint_is ao l cap at_ h0 h1 w h _ _ _ q1)
  have H2 := Lib.hid (int_is ao l cap at_ h0 h1 w h _ _ _ q2)
  have H3 := Lib.hid (value_ok h q3)
  have H4 := Lib.hid (fun w' (hf : Fuw w w') => unframe_is ao l cap at_ h0 h1 w' (h.on hf) (G.on hf) _ _ _ q4)
  obtain ⟨b1, m1, m2, g0, g1, g2⟩ := uint_only q1
  have K1 := Lib.hid (fun w' a2 c2 (hf : Fuw w w') (h2 : IsB w' a2 (putU n1) c2) => holds_yes ao l cap a2 _ c2 at_ E1 w' (h.on hf) h2 g0 (by omega) g2 (b1.trans (show Lib.uvarint n1.toNat = putU n1 by unfold putU; rw [if_neg (by omega)])))
  have P1 := Lib.hid (fun w' => put_uint n1 (by omega) m2 w')
  clear b1 m1 m2 g0 g1 g2
  obtain ⟨hX, b3, g0, g1, g2⟩ := value_only q3
  have hV : Vin x := by
    have hq := q3
    unfold valueV at hq
    rw [if_neg (by omega)] at hq
    exact (val_rd (Nat.le_trans h.le h.max) 8 at_ x E3 g0 (by omega) hq).1
  have hpl : (putX x).length ≤ 1000 := by
    rw [← b3]
    unfold cutL
    rw [List.length_take, List.length_drop]
    omega
  have K3 := Lib.hid (fun w' a2 c2 (hf : Fuw w w') (h2 : IsB w' a2 (putVal x) c2) => holds_yes ao l cap a2 _ c2 at_ E3 w' (h.on hf) h2 g0 g1 g2 (b3.trans (show putX x = putVal x by unfold putVal; rw [if_pos hX])))
  have P3 := Lib.hid (fun w' a2 c2 (hs : SlV w' a2 x.ll c2) => put_value x a2 c2 w' hV hs (fun _ => by omega))
  unfold vlv at P3
  clear hX b3 g0 g1 g2 hV hpl
  have hl3 : (l.length : Int) ≤ 1000 := by omega
  clear q1 q2 q3 q4 h G h0 h1 HLV
  go_enter Tryd.func7, Tryd.ntmps7
  go_wp2_with fail
  go_at_call 27; refine H1.out.mono ?_; rintro e1 w1 ⟨rfl, rfl⟩
  clear H1
  go_wp2_with fail
  go_at_call 29; refine H2.out.mono ?_; rintro e1 w1 ⟨rfl, rfl⟩
  clear H2
  go_wp2_with fail
  go_at_call 18; refine H3.out.mono ?_; rintro e1 w3 ⟨a3, c3, rfl, hk, f3⟩
  clear H3
  have HK := Lib.hid hk
  clear hk
  obtain ⟨p0, q0⟩ := bx1 w3 x a3 c3
  have f4 := q0.b
  clear q0
  go_upto_region 6 with fail
  obtain ⟨W4, hW⟩ : ∃ W4, w3.alloc (.cells #[.int .i64 x.kd, .int .i64 x.nn, .int .i64 x.dd, .string (bs x.ss), .slice a3 x.ll.length c3] 24) = W4 := ⟨_, rfl⟩
  rw [hW] at p0 f4
  rw [hW]
  clear hW
  have ff := Fuw.trans f3 f4
  go_wp2_with fail
  go_at_call 21; refine (H4.out _ ff).mono ?_; rintro e1 w5 ⟨a5, c5, rfl, i5, f5⟩
  clear H4
  have FF := Lib.hid (Fuw.trans ff f5)
  have PB := Lib.hid (p0.onw f5)
  have F4 := Lib.hid (Fuw.trans f4 f5)
  clear p0
  clear ff f3 f4 f5 i5
  have g5 := Lib.hid (Fuw.refl w5)
  go_wp2_with fail
  go_at_call 10; refine (P1.out _).mono ?_; rintro e1 w6 ⟨a6, c6, rfl, i6, f6⟩
  have g6 := Lib.hid (Fuw.trans g5.out f6)
  clear f6
  go_wp2_with fail
  go_at_call 32; refine (K1.out _ _ _ (Fuw.trans FF.out g6.out) i6).mono ?_; rintro e1 w7 ⟨rfl, f7⟩
  have g7 := Lib.hid (Fuw.trans g6.out f7)
  clear f7 i6
  obtain ⟨d0, d1, d2, d3, d4⟩ : _ ∧ _ ∧ _ ∧ _ ∧ _ := ⟨(PB.out.onw g7.out).c0, (PB.out.onw g7.out).c1, (PB.out.onw g7.out).c2, (PB.out.onw g7.out).c3, (PB.out.onw g7.out).c4⟩
  have SL := Lib.hid (HK.out _ (Fuw.trans F4.out g7.out))
  go_wp2_with fail
  go_at_call 16; refine (P3.out _ _ _ SL.out).mono ?_; rintro e1 w8 ⟨a8, c8, rfl, i8, f8⟩
  have g8 := Lib.hid (Fuw.trans g7.out f8)
  clear f8
  go_wp2_with fail
  go_at_call 32; refine (K3.out _ _ _ (Fuw.trans FF.out g8.out) i8).mono ?_; rintro e1 w9 ⟨rfl, f9⟩
  have g9 := Lib.hid (Fuw.trans g8.out f9)
  clear f9 i8
  clear d0 d1 d2 d3 d4 SL
  go_wp2_with fail
  go_at_call 9; refine (HA.out _ (HG.out.on (Fuw.trans FF.out g9.out))).mono ?_; rintro e9 w99 ⟨rfl, f99⟩
  go_wp2
  go_ret
  exact ⟨rfl, Fuw.trans FF.out (Fuw.trans g9.out f99)⟩

set_option maxHeartbeats 8000000 in
set_option maxRecDepth 4000000 in
theorem only_1001 (ao : Option Addr) (l : List UInt8) (cap : Nat) (at_ : Int) (h0 : -9223372036854775808 ≤ at_) (h1 : at_ ≤ 9223372036854775807) (w : World) (h : IsB w ao l cap) (G : Good5 w) (HLV : Alive5) (hl2 : l.length ≤ 1000) (n1 E1 : Int) (q1 : uintV l at_ = (n1, E1, 0)) (n2 E2 k2 : Int) (q2 : intV l at_ = (n2, E2, k2)) (z2 : (k2 == 0) = false) (k3 : Int) (q3 : valueV l at_ = .er k3) (S : List UInt8) (E4 : Int) (q4 : unframeV l at_ = (S, E4, 0)) :
    Calls Tryd.prog 7 #[.slice ao l.length cap, .int .i64 at_] w (RwC w true) := by
  have HA := Lib.hid HLV
  have HG := Lib.hid G
  have HI := Lib.hid h
  have H1 := Lib.hid (uint_is ao l cap at_ h0 h1 w h _ _ _ q1)
  have H2 := Lib.hid (int_is ao l cap at_ h0 h1 w h _ _ _ q2)
  have H3 := Lib.hid (value_er h q3)
  have H4 := Lib.hid (fun w' (hf : Fuw w w') => unframe_is ao l cap at_ h0 h1 w' (h.on hf) (G.on hf) _ _ _ q4)
  obtain ⟨b1, m1, m2, g0, g1, g2⟩ := uint_only q1
  have K1 := Lib.hid (fun w' a2 c2 (hf : Fuw w w') (h2 : IsB w' a2 (putU n1) c2) => holds_yes ao l cap a2 _ c2 at_ E1 w' (h.on hf) h2 g0 (by omega) g2 (b1.trans (show Lib.uvarint n1.toNat = putU n1 by unfold putU; rw [if_neg (by omega)])))
  have P1 := Lib.hid (fun w' => put_uint n1 (by omega) m2 w')
  clear b1 m1 m2 g0 g1 g2
  obtain ⟨b4, g0, g1, g2⟩ := frame_only q4
  have hsl : S.length ≤ 1000 := by
    have e := congrArg List.length b4
    unfold cutL frameV at e
    rw [List.length_take, List.length_drop] at e
    simp at e
    omega
  have K4 := Lib.hid (fun w' a2 c2 (hf : Fuw w w') (h2 : IsB w' a2 (frameV S) c2) => holds_yes ao l cap a2 _ c2 at_ E4 w' (h.on hf) h2 g0 g1 g2 b4)
  have P4 := Lib.hid (fun w' a2 c2 (hf : Fuw w w') (h2 : IsB w' a2 S c2) => frame_is a2 S c2 w' h2 (G.on hf) (by omega))
  clear b4 g0 g1 g2 hsl
  have hl3 : (l.length : Int) ≤ 1000 := by omega
  clear q1 q2 q3 q4 h G h0 h1 HLV
  go_enter Tryd.func7, Tryd.ntmps7
  go_wp2_with fail
  go_at_call 27; refine H1.out.mono ?_; rintro e1 w1 ⟨rfl, rfl⟩
  clear H1
  go_wp2_with fail
  go_at_call 29; refine H2.out.mono ?_; rintro e1 w1 ⟨rfl, rfl⟩
  clear H2
  go_wp2_with fail
  go_at_call 18; refine H3.out.mono ?_; rintro e1 w3 ⟨rfl, z3, f3⟩
  clear H3
  go_upto_region 6 with fail
  have f4 : Fuw w3 (w3.alloc (.cells #[.int .i64 0, .int .i64 0, .int .i64 0, .string ⟨#[]⟩, .slice none 0 0] 24)) := Below.alloc (Fuw.refl w3) (Nat.le_refl _) _
  have ff := Fuw.trans f3 f4
  generalize w3.alloc _ = W4 at f4 ff ⊢
  go_wp2_with fail
  go_at_call 21; refine (H4.out _ ff).mono ?_; rintro e1 w5 ⟨a5, c5, rfl, i5, f5⟩
  clear H4
  have FF := Lib.hid (Fuw.trans ff f5)
  have I5 := Lib.hid i5
  clear ff f3 f4 f5 i5
  have g5 := Lib.hid (Fuw.refl w5)
  go_wp2_with fail
  go_at_call 10; refine (P1.out _).mono ?_; rintro e1 w6 ⟨a6, c6, rfl, i6, f6⟩
  have g6 := Lib.hid (Fuw.trans g5.out f6)
  clear f6
  go_wp2_with fail
  go_at_call 32; refine (K1.out _ _ _ (Fuw.trans FF.out g6.out) i6).mono ?_; rintro e1 w7 ⟨rfl, f7⟩
  have g7 := Lib.hid (Fuw.trans g6.out f7)
  clear f7 i6
  go_wp2_with fail
  go_at_call 25; refine (P4.out _ _ _ (Fuw.trans FF.out g7.out) (I5.out.on g7.out)).mono ?_; rintro e1 w8 ⟨a8, c8, rfl, i8, f8⟩
  have g8 := Lib.hid (Fuw.trans g7.out f8)
  clear f8
  go_wp2_with fail
  go_at_call 32; refine (K4.out _ _ _ (Fuw.trans FF.out g8.out) i8).mono ?_; rintro e1 w9 ⟨rfl, f9⟩
  have g9 := Lib.hid (Fuw.trans g8.out f9)
  clear f9 i8
  go_wp2_with fail
  go_at_call 9; refine (HA.out _ (HG.out.on (Fuw.trans FF.out g9.out))).mono ?_; rintro e9 w99 ⟨rfl, f99⟩
  go_wp2
  go_ret
  exact ⟨rfl, Fuw.trans FF.out (Fuw.trans g9.out f99)⟩

set_option maxHeartbeats 8000000 in
set_option maxRecDepth 4000000 in
theorem only_1000 (ao : Option Addr) (l : List UInt8) (cap : Nat) (at_ : Int) (h0 : -9223372036854775808 ≤ at_) (h1 : at_ ≤ 9223372036854775807) (w : World) (h : IsB w ao l cap) (G : Good5 w) (HLV : Alive5) (hl2 : l.length ≤ 1000) (n1 E1 : Int) (q1 : uintV l at_ = (n1, E1, 0)) (n2 E2 k2 : Int) (q2 : intV l at_ = (n2, E2, k2)) (z2 : (k2 == 0) = false) (k3 : Int) (q3 : valueV l at_ = .er k3) (S : List UInt8) (E4 k4 : Int) (q4 : unframeV l at_ = (S, E4, k4)) (z4 : (k4 == 0) = false) :
    Calls Tryd.prog 7 #[.slice ao l.length cap, .int .i64 at_] w (RwC w true) := by
  have HA := Lib.hid HLV
  have HG := Lib.hid G
  have HI := Lib.hid h
  have H1 := Lib.hid (uint_is ao l cap at_ h0 h1 w h _ _ _ q1)
  have H2 := Lib.hid (int_is ao l cap at_ h0 h1 w h _ _ _ q2)
  have H3 := Lib.hid (value_er h q3)
  have H4 := Lib.hid (fun w' (hf : Fuw w w') => unframe_is ao l cap at_ h0 h1 w' (h.on hf) (G.on hf) _ _ _ q4)
  obtain ⟨b1, m1, m2, g0, g1, g2⟩ := uint_only q1
  have K1 := Lib.hid (fun w' a2 c2 (hf : Fuw w w') (h2 : IsB w' a2 (putU n1) c2) => holds_yes ao l cap a2 _ c2 at_ E1 w' (h.on hf) h2 g0 (by omega) g2 (b1.trans (show Lib.uvarint n1.toNat = putU n1 by unfold putU; rw [if_neg (by omega)])))
  have P1 := Lib.hid (fun w' => put_uint n1 (by omega) m2 w')
  clear b1 m1 m2 g0 g1 g2
  have hl3 : (l.length : Int) ≤ 1000 := by omega
  clear q1 q2 q3 q4 h G h0 h1 HLV
  go_enter Tryd.func7, Tryd.ntmps7
  go_wp2_with fail
  go_at_call 27; refine H1.out.mono ?_; rintro e1 w1 ⟨rfl, rfl⟩
  clear H1
  go_wp2_with fail
  go_at_call 29; refine H2.out.mono ?_; rintro e1 w1 ⟨rfl, rfl⟩
  clear H2
  go_wp2_with fail
  go_at_call 18; refine H3.out.mono ?_; rintro e1 w3 ⟨rfl, z3, f3⟩
  clear H3
  go_upto_region 6 with fail
  have f4 : Fuw w3 (w3.alloc (.cells #[.int .i64 0, .int .i64 0, .int .i64 0, .string ⟨#[]⟩, .slice none 0 0] 24)) := Below.alloc (Fuw.refl w3) (Nat.le_refl _) _
  have ff := Fuw.trans f3 f4
  generalize w3.alloc _ = W4 at f4 ff ⊢
  go_wp2_with fail
  go_at_call 21; refine (H4.out _ ff).mono ?_; rintro e1 w5 ⟨a5, c5, rfl, i5, f5⟩
  clear H4
  have FF := Lib.hid (Fuw.trans ff f5)
  clear ff f3 f4 f5 i5
  have g5 := Lib.hid (Fuw.refl w5)
  go_wp2_with fail
  go_at_call 10; refine (P1.out _).mono ?_; rintro e1 w6 ⟨a6, c6, rfl, i6, f6⟩
  have g6 := Lib.hid (Fuw.trans g5.out f6)
  clear f6
  go_wp2_with fail
  go_at_call 32; refine (K1.out _ _ _ (Fuw.trans FF.out g6.out) i6).mono ?_; rintro e1 w7 ⟨rfl, f7⟩
  have g7 := Lib.hid (Fuw.trans g6.out f7)
  clear f7 i6
  go_wp2_with fail
  go_at_call 9; refine (HA.out _ (HG.out.on (Fuw.trans FF.out g7.out))).mono ?_; rintro e9 w99 ⟨rfl, f99⟩
  go_wp2
  go_ret
  exact ⟨rfl, Fuw.trans FF.out (Fuw.trans g7.out f99)⟩

set_option maxHeartbeats 8000000 in
set_option maxRecDepth 4000000 in
theorem only_0111 (ao : Option Addr) (l : List UInt8) (cap : Nat) (at_ : Int) (h0 : -9223372036854775808 ≤ at_) (h1 : at_ ≤ 9223372036854775807) (w : World) (h : IsB w ao l cap) (G : Good5 w) (HLV : Alive5) (hl2 : l.length ≤ 1000) (n1 E1 k1 : Int) (q1 : uintV l at_ = (n1, E1, k1)) (z1 : (k1 == 0) = false) (n2 E2 : Int) (q2 : intV l at_ = (n2, E2, 0)) (x : Vl) (E3 : Int) (q3 : valueV l at_ = .ok x E3) (S : List UInt8) (E4 : Int) (q4 : unframeV l at_ = (S, E4, 0)) :
    Calls Tryd.prog 7 #[.slice ao l.length cap, .int .i64 at_] w (RwC w true) := by
  have HA := Lib.hid HLV
  have HG := Lib.hid G
  have HI := Lib.hid h
  have H1 := Lib.hid (uint_is ao l cap at_ h0 h1 w h _ _ _ q1)
  have H2 := Lib.hid (int_is ao l cap at_ h0 h1 w h _ _ _ q2)
  have H3 := Lib.hid (value_ok h q3)
  have H4 := Lib.hid (fun w' (hf : Fuw w w') => unframe_is ao l cap at_ h0 h1 w' (h.on hf) (G.on hf) _ _ _ q4)
  obtain ⟨b2, m2, g0, g1, g2⟩ := int_only q2
  have K2 := Lib.hid (fun w' a2 c2 (hf : Fuw w w') (h2 : IsB w' a2 (putI n2) c2) => holds_yes ao l cap a2 _ c2 at_ E2 w' (h.on hf) h2 g0 (by omega) g2 b2)
  have P2 := Lib.hid (fun w' => put_int n2 m2.1 m2.2 w')
  clear b2 m2 g0 g1 g2
  obtain ⟨hX, b3, g0, g1, g2⟩ := value_only q3
  have hV : Vin x := by
    have hq := q3
    unfold valueV at hq
    rw [if_neg (by omega)] at hq
    exact (val_rd (Nat.le_trans h.le h.max) 8 at_ x E3 g0 (by omega) hq).1
  have hpl : (putX x).length ≤ 1000 := by
    rw [← b3]
    unfold cutL
    rw [List.length_take, List.length_drop]
    omega
  have K3 := Lib.hid (fun w' a2 c2 (hf : Fuw w w') (h2 : IsB w' a2 (putVal x) c2) => holds_yes ao l cap a2 _ c2 at_ E3 w' (h.on hf) h2 g0 g1 g2 (b3.trans (show putX x = putVal x by unfold putVal; rw [if_pos hX])))
  have P3 := Lib.hid (fun w' a2 c2 (hs : SlV w' a2 x.ll c2) => put_value x a2 c2 w' hV hs (fun _ => by omega))
  unfold vlv at P3
  clear hX b3 g0 g1 g2 hV hpl
  obtain ⟨b4, g0, g1, g2⟩ := frame_only q4
  have hsl : S.length ≤ 1000 := by
    have e := congrArg List.length b4
    unfold cutL frameV at e
    rw [List.length_take, List.length_drop] at e
    simp at e
    omega
  have K4 := Lib.hid (fun w' a2 c2 (hf : Fuw w w') (h2 : IsB w' a2 (frameV S) c2) => holds_yes ao l cap a2 _ c2 at_ E4 w' (h.on hf) h2 g0 g1 g2 b4)
  have P4 := Lib.hid (fun w' a2 c2 (hf : Fuw w w') (h2 : IsB w' a2 S c2) => frame_is a2 S c2 w' h2 (G.on hf) (by omega))
  clear b4 g0 g1 g2 hsl
  have hl3 : (l.length : Int) ≤ 1000 := by omega
  clear q1 q2 q3 q4 h G h0 h1 HLV
  go_enter Tryd.func7, Tryd.ntmps7
  go_wp2_with fail
  go_at_call 27; refine H1.out.mono ?_; rintro e1 w1 ⟨rfl, rfl⟩
  clear H1
  go_wp2_with fail
  go_at_call 29; refine H2.out.mono ?_; rintro e1 w1 ⟨rfl, rfl⟩
  clear H2
  go_wp2_with fail
  go_at_call 18; refine H3.out.mono ?_; rintro e1 w3 ⟨a3, c3, rfl, hk, f3⟩
  clear H3
  have HK := Lib.hid hk
  clear hk
  obtain ⟨p0, q0⟩ := bx1 w3 x a3 c3
  have f4 := q0.b
  clear q0
  go_upto_region 6 with fail
  obtain ⟨W4, hW⟩ : ∃ W4, w3.alloc (.cells #[.int .i64 x.kd, .int .i64 x.nn, .int .i64 x.dd, .string (bs x.ss), .slice a3 x.ll.length c3] 24) = W4 := ⟨_, rfl⟩
  rw [hW] at p0 f4
  rw [hW]
  clear hW
  have ff := Fuw.trans f3 f4
  go_wp2_with fail
  go_at_call 21; refine (H4.out _ ff).mono ?_; rintro e1 w5 ⟨a5, c5, rfl, i5, f5⟩
  clear H4
  have FF := Lib.hid (Fuw.trans ff f5)
  have PB := Lib.hid (p0.onw f5)
  have F4 := Lib.hid (Fuw.trans f4 f5)
  clear p0
  have I5 := Lib.hid i5
  clear ff f3 f4 f5 i5
  have g5 := Lib.hid (Fuw.refl w5)
  go_wp2_with fail
  go_at_call 12; refine (P2.out _).mono ?_; rintro e1 w6 ⟨a6, c6, rfl, i6, f6⟩
  have g6 := Lib.hid (Fuw.trans g5.out f6)
  clear f6
  go_wp2_with fail
  go_at_call 32; refine (K2.out _ _ _ (Fuw.trans FF.out g6.out) i6).mono ?_; rintro e1 w7 ⟨rfl, f7⟩
  have g7 := Lib.hid (Fuw.trans g6.out f7)
  clear f7 i6
  obtain ⟨d0, d1, d2, d3, d4⟩ : _ ∧ _ ∧ _ ∧ _ ∧ _ := ⟨(PB.out.onw g7.out).c0, (PB.out.onw g7.out).c1, (PB.out.onw g7.out).c2, (PB.out.onw g7.out).c3, (PB.out.onw g7.out).c4⟩
  have SL := Lib.hid (HK.out _ (Fuw.trans F4.out g7.out))
  go_wp2_with fail
  go_at_call 16; refine (P3.out _ _ _ SL.out).mono ?_; rintro e1 w8 ⟨a8, c8, rfl, i8, f8⟩
  have g8 := Lib.hid (Fuw.trans g7.out f8)
  clear f8
  go_wp2_with fail
  go_at_call 32; refine (K3.out _ _ _ (Fuw.trans FF.out g8.out) i8).mono ?_; rintro e1 w9 ⟨rfl, f9⟩
  have g9 := Lib.hid (Fuw.trans g8.out f9)
  clear f9 i8
  clear d0 d1 d2 d3 d4 SL
  go_wp2_with fail
  go_at_call 25; refine (P4.out _ _ _ (Fuw.trans FF.out g9.out) (I5.out.on g9.out)).mono ?_; rintro e1 w10 ⟨a10, c10, rfl, i10, f10⟩
  have g10 := Lib.hid (Fuw.trans g9.out f10)
  clear f10
  go_wp2_with fail
  go_at_call 32; refine (K4.out _ _ _ (Fuw.trans FF.out g10.out) i10).mono ?_; rintro e1 w11 ⟨rfl, f11⟩
  have g11 := Lib.hid (Fuw.trans g10.out f11)
  clear f11 i10
  go_wp2_with fail
  go_at_call 9; refine (HA.out _ (HG.out.on (Fuw.trans FF.out g11.out))).mono ?_; rintro e9 w99 ⟨rfl, f99⟩
  go_wp2
  go_ret
  exact ⟨rfl, Fuw.trans FF.out (Fuw.trans g11.out f99)⟩

set_option maxHeartbeats 8000000 in
set_option maxRecDepth 4000000 in
theorem only_0110 (ao : Option Addr) (l : List UInt8) (cap : Nat) (at_ : Int) (h0 : -9223372036854775808 ≤ at_) (h1 : at_ ≤ 9223372036854775807) (w : World) (h : IsB w ao l cap) (G : Good5 w) (HLV : Alive5) (hl2 : l.length ≤ 1000) (n1 E1 k1 : Int) (q1 : uintV l at_ = (n1, E1, k1)) (z1 : (k1 == 0) = false) (n2 E2 : Int) (q2 : intV l at_ = (n2, E2, 0)) (x : Vl) (E3 : Int) (q3 : valueV l at_ = .ok x E3) (S : List UInt8) (E4 k4 : Int) (q4 : unframeV l at_ = (S, E4, k4)) (z4 : (k4 == 0) = false) :
    Calls Tryd.prog 7 #[.slice ao l.length cap, .int .i64 at_] w (RwC w true) := by
  have HA := Lib.hid HLV
  have HG := Lib.hid G
  have HI := Lib.hid h
  have H1 := Lib.hid (uint_is ao l cap at_ h0 h1 w h _ _ _ q1)
  have H2 := Lib.hid (int_is ao l cap at_ h0 h1 w h _ _ _ q2)
  have H3 := Lib.hid (value_ok h q3)
  have H4 := Lib.hid (fun w' (hf : Fuw w w') => unframe_is ao l cap at_ h0 h1 w' (h.on hf) (G.on hf) _ _ _ q4)
  obtain ⟨b2, m2, g0, g1, g2⟩ := int_only q2
  have K2 := Lib.hid (fun w' a2 c2 (hf : Fuw w w') (h2 : IsB w' a2 (putI n2) c2) => holds_yes ao l cap a2 _ c2 at_ E2 w' (h.on hf) h2 g0 (by omega) g2 b2)
  have P2 := Lib.hid (fun w' => put_int n2 m2.1 m2.2 w')
  clear b2 m2 g0 g1 g2
  obtain ⟨hX, b3, g0, g1, g2⟩ := value_only q3
  have hV : Vin x := by
    have hq := q3
    unfold valueV at hq
    rw [if_neg (by omega)] at hq
    exact (val_rd (Nat.le_trans h.le h.max) 8 at_ x E3 g0 (by omega) hq).1
  have hpl : (putX x).length ≤ 1000 := by
    rw [← b3]
    unfold cutL
    rw [List.length_take, List.length_drop]
    omega
  have K3 := Lib.hid (fun w' a2 c2 (hf : Fuw w w') (h2 : IsB w' a2 (putVal x) c2) => holds_yes ao l cap a2 _ c2 at_ E3 w' (h.on hf) h2 g0 g1 g2 (b3.trans (show putX x = putVal x by unfold putVal; rw [if_pos hX])))
  have P3 := Lib.hid (fun w' a2 c2 (hs : SlV w' a2 x.ll c2) => put_value x a2 c2 w' hV hs (fun _ => by omega))
  unfold vlv at P3
  clear hX b3 g0 g1 g2 hV hpl
  have hl3 : (l.length : Int) ≤ 1000 := by omega
  clear q1 q2 q3 q4 h G h0 h1 HLV
  go_enter Tryd.func7, Tryd.ntmps7
  go_wp2_with fail
  go_at_call 27; refine H1.out.mono ?_; rintro e1 w1 ⟨rfl, rfl⟩
  clear H1
  go_wp2_with fail
  go_at_call 29; refine H2.out.mono ?_; rintro e1 w1 ⟨rfl, rfl⟩
  clear H2
  go_wp2_with fail
  go_at_call 18; refine H3.out.mono ?_; rintro e1 w3 ⟨a3, c3, rfl, hk, f3⟩
  clear H3
  have HK := Lib.hid hk
  clear hk
  obtain ⟨p0, q0⟩ := bx1 w3 x a3 c3
  have f4 := q0.b
  clear q0
  go_upto_region 6 with fail
  obtain ⟨W4, hW⟩ : ∃ W4, w3.alloc (.cells #[.int .i64 x.kd, .int .i64 x.nn, .int .i64 x.dd, .string (bs x.ss), .slice a3 x.ll.length c3] 24) = W4 := ⟨_, rfl⟩
  rw [hW] at p0 f4
  rw [hW]
  clear hW
  have ff := Fuw.trans f3 f4
  go_wp2_with fail
  go_at_call 21; refine (H4.out _ ff).mono ?_; rintro e1 w5 ⟨a5, c5, rfl, i5, f5⟩
  clear H4
  have FF := Lib.hid (Fuw.trans ff f5)
  have PB := Lib.hid (p0.onw f5)
  have F4 := Lib.hid (Fuw.trans f4 f5)
  clear p0
  clear ff f3 f4 f5 i5
  have g5 := Lib.hid (Fuw.refl w5)
  go_wp2_with fail
  go_at_call 12; refine (P2.out _).mono ?_; rintro e1 w6 ⟨a6, c6, rfl, i6, f6⟩
  have g6 := Lib.hid (Fuw.trans g5.out f6)
  clear f6
  go_wp2_with fail
  go_at_call 32; refine (K2.out _ _ _ (Fuw.trans FF.out g6.out) i6).mono ?_; rintro e1 w7 ⟨rfl, f7⟩
  have g7 := Lib.hid (Fuw.trans g6.out f7)
  clear f7 i6
  obtain ⟨d0, d1, d2, d3, d4⟩ : _ ∧ _ ∧ _ ∧ _ ∧ _ := ⟨(PB.out.onw g7.out).c0, (PB.out.onw g7.out).c1, (PB.out.onw g7.out).c2, (PB.out.onw g7.out).c3, (PB.out.onw g7.out).c4⟩
  have SL := Lib.hid (HK.out _ (Fuw.trans F4.out g7.out))
  go_wp2_with fail
  go_at_call 16; refine (P3.out _ _ _ SL.out).mono ?_; rintro e1 w8 ⟨a8, c8, rfl, i8, f8⟩
  have g8 := Lib.hid (Fuw.trans g7.out f8)
  clear f8
  go_wp2_with fail
  go_at_call 32; refine (K3.out _ _ _ (Fuw.trans FF.out g8.out) i8).mono ?_; rintro e1 w9 ⟨rfl, f9⟩
  have g9 := Lib.hid (Fuw.trans g8.out f9)
  clear f9 i8
  clear d0 d1 d2 d3 d4 SL
  go_wp2_with fail
  go_at_call 9; refine (HA.out _ (HG.out.on (Fuw.trans FF.out g9.out))).mono ?_; rintro e9 w99 ⟨rfl, f99⟩
  go_wp2
  go_ret
  exact ⟨rfl, Fuw.trans FF.out (Fuw.trans g9.out f99)⟩

set_option maxHeartbeats 8000000 in
set_option maxRecDepth 4000000 in
theorem only_0101 (ao : Option Addr) (l : List UInt8) (cap : Nat) (at_ : Int) (h0 : -9223372036854775808 ≤ at_) (h1 : at_ ≤ 9223372036854775807) (w : World) (h : IsB w ao l cap) (G : Good5 w) (HLV : Alive5) (hl2 : l.length ≤ 1000) (n1 E1 k1 : Int) (q1 : uintV l at_ = (n1, E1, k1)) (z1 : (k1 == 0) = false) (n2 E2 : Int) (q2 : intV l at_ = (n2, E2, 0)) (k3 : Int) (q3 : valueV l at_ = .er k3) (S : List UInt8) (E4 : Int) (q4 : unframeV l at_ = (S, E4, 0)) :
    Calls Tryd.prog 7 #[.slice ao l.length cap, .int .i64 at_] w (RwC w true) := by
  have HA := Lib.hid HLV
  have HG := Lib.hid G
  have HI := Lib.hid h
  have H1 := Lib.hid (uint_is ao l cap at_ h0 h1 w h _ _ _ q1)
  have H2 := Lib.hid (int_is ao l cap at_ h0 h1 w h _ _ _ q2)
  have H3 := Lib.hid (value_er h q3)
  have H4 := Lib.hid (fun w' (hf : Fuw w w') => unframe_is ao l cap at_ h0 h1 w' (h.on hf) (G.on hf) _ _ _ q4)
  obtain ⟨b2, m2, g0, g1, g2⟩ := int_only q2
  have K2 := Lib.hid (fun w' a2 c2 (hf : Fuw w w') (h2 : IsB w' a2 (putI n2) c2) => holds_yes ao l cap a2 _ c2 at_ E2 w' (h.on hf) h2 g0 (by omega) g2 b2)
  have P2 := Lib.hid (fun w' => put_int n2 m2.1 m2.2 w')
  clear b2 m2 g0 g1 g2
  obtain ⟨b4, g0, g1, g2⟩ := frame_only q4
  have hsl : S.length ≤ 1000 := by
    have e := congrArg List.length b4
    unfold cutL frameV at e
    rw [List.length_take, List.length_drop] at e
    simp at e
    omega
  have K4 := Lib.hid (fun w' a2 c2 (hf : Fuw w w') (h2 : IsB w' a2 (frameV S) c2) => holds_yes ao l cap a2 _ c2 at_ E4 w' (h.on hf) h2 g0 g1 g2 b4)
  have P4 := Lib.hid (fun w' a2 c2 (hf : Fuw w w') (h2 : IsB w' a2 S c2) => frame_is a2 S c2 w' h2 (G.on hf) (by omega))
  clear b4 g0 g1 g2 hsl
  have hl3 : (l.length : Int) ≤ 1000 := by omega
  clear q1 q2 q3 q4 h G h0 h1 HLV
  go_enter Tryd.func7, Tryd.ntmps7
  go_wp2_with fail
  go_at_call 27; refine H1.out.mono ?_; rintro e1 w1 ⟨rfl, rfl⟩
  clear H1
  go_wp2_with fail
  go_at_call 29; refine H2.out.mono ?_; rintro e1 w1 ⟨rfl, rfl⟩
  clear H2
  go_wp2_with fail
  go_at_call 18; refine H3.out.mono ?_; rintro e1 w3 ⟨rfl, z3, f3⟩
  clear H3
  go_upto_region 6 with fail
  have f4 : Fuw w3 (w3.alloc (.cells #[.int .i64 0, .int .i64 0, .int .i64 0, .string ⟨#[]⟩, .slice none 0 0] 24)) := Below.alloc (Fuw.refl w3) (Nat.le_refl _) _
  have ff := Fuw.trans f3 f4
  generalize w3.alloc _ = W4 at f4 ff ⊢
  go_wp2_with fail
  go_at_call 21; refine (H4.out _ ff).mono ?_; rintro e1 w5 ⟨a5, c5, rfl, i5, f5⟩
  clear H4
  have FF := Lib.hid (Fuw.trans ff f5)
  have I5 := Lib.hid i5
  clear ff f3 f4 f5 i5
  have g5 := Lib.hid (Fuw.refl w5)
  go_wp2_with fail
  go_at_call 12; refine (P2.out _).mono ?_; rintro e1 w6 ⟨a6, c6, rfl, i6, f6⟩
  have g6 := Lib.hid (Fuw.trans g5.out f6)
  clear f6
  go_wp2_with fail
  go_at_call 32; refine (K2.out _ _ _ (Fuw.trans FF.out g6.out) i6).mono ?_; rintro e1 w7 ⟨rfl, f7⟩
  have g7 := Lib.hid (Fuw.trans g6.out f7)
  clear f7 i6
  go_wp2_with fail
  go_at_call 25; refine (P4.out _ _ _ (Fuw.trans FF.out g7.out) (I5.out.on g7.out)).mono ?_; rintro e1 w8 ⟨a8, c8, rfl, i8, f8⟩
  have g8 := Lib.hid (Fuw.trans g7.out f8)
  clear f8
  go_wp2_with fail
  go_at_call 32; refine (K4.out _ _ _ (Fuw.trans FF.out g8.out) i8).mono ?_; rintro e1 w9 ⟨rfl, f9⟩
  have g9 := Lib.hid (Fuw.trans g8.out f9)
  clear f9 i8
  go_wp2_with fail
  go_at_call 9; refine (HA.out _ (HG.out.on (Fuw.trans FF.out g9.out))).mono ?_; rintro e9 w99 ⟨rfl, f99⟩
  go_wp2
  go_ret
  exact ⟨rfl, Fuw.trans FF.out (Fuw.trans g9.out f99)⟩

set_option maxHeartbeats 8000000 in
set_option maxRecDepth 4000000 in
theorem only_0100 (ao : Option Addr) (l : List UInt8) (cap : Nat) (at_ : Int) (h0 : -9223372036854775808 ≤ at_) (h1 : at_ ≤ 9223372036854775807) (w : World) (h : IsB w ao l cap) (G : Good5 w) (HLV : Alive5) (hl2 : l.length ≤ 1000) (n1 E1 k1 : Int) (q1 : uintV l at_ = (n1, E1, k1)) (z1 : (k1 == 0) = false) (n2 E2 : Int) (q2 : intV l at_ = (n2, E2, 0)) (k3 : Int) (q3 : valueV l at_ = .er k3) (S : List UInt8) (E4 k4 : Int) (q4 : unframeV l at_ = (S, E4, k4)) (z4 : (k4 == 0) = false) :
    Calls Tryd.prog 7 #[.slice ao l.length cap, .int .i64 at_] w (RwC w true) := by
  have HA := Lib.hid HLV
  have HG := Lib.hid G
  have HI := Lib.hid h
  have H1 := Lib.hid (uint_is ao l cap at_ h0 h1 w h _ _ _ q1)
  have H2 := Lib.hid (int_is ao l cap at_ h0 h1 w h _ _ _ q2)
  have H3 := Lib.hid (value_er h q3)
  have H4 := Lib.hid (fun w' (hf : Fuw w w') => unframe_is ao l cap at_ h0 h1 w' (h.on hf) (G.on hf) _ _ _ q4)
  obtain ⟨b2, m2, g0, g1, g2⟩ := int_only q2
  have K2 := Lib.hid (fun w' a2 c2 (hf : Fuw w w') (h2 : IsB w' a2 (putI n2) c2) => holds_yes ao l cap a2 _ c2 at_ E2 w' (h.on hf) h2 g0 (by omega) g2 b2)
  have P2 := Lib.hid (fun w' => put_int n2 m2.1 m2.2 w')
  clear b2 m2 g0 g1 g2
  have hl3 : (l.length : Int) ≤ 1000 := by omega
  clear q1 q2 q3 q4 h G h0 h1 HLV
  go_enter Tryd.func7, Tryd.ntmps7
  go_wp2_with fail
  go_at_call 27; refine H1.out.mono ?_; rintro e1 w1 ⟨rfl, rfl⟩
  clear H1
  go_wp2_with fail
  go_at_call 29; refine H2.out.mono ?_; rintro e1 w1 ⟨rfl, rfl⟩
  clear H2
  go_wp2_with fail
  go_at_call 18; refine H3.out.mono ?_; rintro e1 w3 ⟨rfl, z3, f3⟩
  clear H3
  go_upto_region 6 with fail
  have f4 : Fuw w3 (w3.alloc (.cells #[.int .i64 0, .int .i64 0, .int .i64 0, .string ⟨#[]⟩, .slice none 0 0] 24)) := Below.alloc (Fuw.refl w3) (Nat.le_refl _) _
  have ff := Fuw.trans f3 f4
  generalize w3.alloc _ = W4 at f4 ff ⊢
  go_wp2_with fail
  go_at_call 21; refine (H4.out _ ff).mono ?_; rintro e1 w5 ⟨a5, c5, rfl, i5, f5⟩
  clear H4
  have FF := Lib.hid (Fuw.trans ff f5)
  clear ff f3 f4 f5 i5
  have g5 := Lib.hid (Fuw.refl w5)
  go_wp2_with fail
  go_at_call 12; refine (P2.out _).mono ?_; rintro e1 w6 ⟨a6, c6, rfl, i6, f6⟩
  have g6 := Lib.hid (Fuw.trans g5.out f6)
  clear f6
  go_wp2_with fail
  go_at_call 32; refine (K2.out _ _ _ (Fuw.trans FF.out g6.out) i6).mono ?_; rintro e1 w7 ⟨rfl, f7⟩
  have g7 := Lib.hid (Fuw.trans g6.out f7)
  clear f7 i6
  go_wp2_with fail
  go_at_call 9; refine (HA.out _ (HG.out.on (Fuw.trans FF.out g7.out))).mono ?_; rintro e9 w99 ⟨rfl, f99⟩
  go_wp2
  go_ret
  exact ⟨rfl, Fuw.trans FF.out (Fuw.trans g7.out f99)⟩

set_option maxHeartbeats 8000000 in
set_option maxRecDepth 4000000 in
theorem only_0011 (ao : Option Addr) (l : List UInt8) (cap : Nat) (at_ : Int) (h0 : -9223372036854775808 ≤ at_) (h1 : at_ ≤ 9223372036854775807) (w : World) (h : IsB w ao l cap) (G : Good5 w) (HLV : Alive5) (hl2 : l.length ≤ 1000) (n1 E1 k1 : Int) (q1 : uintV l at_ = (n1, E1, k1)) (z1 : (k1 == 0) = false) (n2 E2 k2 : Int) (q2 : intV l at_ = (n2, E2, k2)) (z2 : (k2 == 0) = false) (x : Vl) (E3 : Int) (q3 : valueV l at_ = .ok x E3) (S : List UInt8) (E4 : Int) (q4 : unframeV l at_ = (S, E4, 0)) :
    Calls Tryd.prog 7 #[.slice ao l.length cap, .int .i64 at_] w (RwC w true) := by
  have HA := Lib.hid HLV
  have HG := Lib.hid G
  have HI := Lib.hid h
  have H1 := Lib.hid (uint_is ao l cap at_ h0 h1 w h _ _ _ q1)
  have H2 := Lib.hid (int_is ao l cap at_ h0 h1 w h _ _ _ q2)
  have H3 := Lib.hid (value_ok h q3)
  have H4 := Lib.hid (fun w' (hf : Fuw w w') => unframe_is ao l cap at_ h0 h1 w' (h.on hf) (G.on hf) _ _ _ q4)
  obtain ⟨hX, b3, g0, g1, g2⟩ := value_only q3
  have hV : Vin x := by
    have hq := q3
    unfold valueV at hq
    rw [if_neg (by omega)] at hq
    exact (val_rd (Nat.le_trans h.le h.max) 8 at_ x E3 g0 (by omega) hq).1
  have hpl : (putX x).length ≤ 1000 := by
    rw [← b3]
    unfold cutL
    rw [List.length_take, List.length_drop]
    omega
  have K3 := Lib.hid (fun w' a2 c2 (hf : Fuw w w') (h2 : IsB w' a2 (putVal x) c2) => holds_yes ao l cap a2 _ c2 at_ E3 w' (h.on hf) h2 g0 g1 g2 (b3.trans (show putX x = putVal x by unfold putVal; rw [if_pos hX])))
  have P3 := Lib.hid (fun w' a2 c2 (hs : SlV w' a2 x.ll c2) => put_value x a2 c2 w' hV hs (fun _ => by omega))
  unfold vlv at P3
  clear hX b3 g0 g1 g2 hV hpl
  obtain ⟨b4, g0, g1, g2⟩ := frame_only q4
  have hsl : S.length ≤ 1000 := by
    have e := congrArg List.length b4
    unfold cutL frameV at e
    rw [List.length_take, List.length_drop] at e
    simp at e
    omega
  have K4 := Lib.hid (fun w' a2 c2 (hf : Fuw w w') (h2 : IsB w' a2 (frameV S) c2) => holds_yes ao l cap a2 _ c2 at_ E4 w' (h.on hf) h2 g0 g1 g2 b4)
  have P4 := Lib.hid (fun w' a2 c2 (hf : Fuw w w') (h2 : IsB w' a2 S c2) => frame_is a2 S c2 w' h2 (G.on hf) (by omega))
  clear b4 g0 g1 g2 hsl
  have hl3 : (l.length : Int) ≤ 1000 := by omega
  clear q1 q2 q3 q4 h G h0 h1 HLV
  go_enter Tryd.func7, Tryd.ntmps7
  go_wp2_with fail
  go_at_call 27; refine H1.out.mono ?_; rintro e1 w1 ⟨rfl, rfl⟩
  clear H1
  go_wp2_with fail
  go_at_call 29; refine H2.out.mono ?_; rintro e1 w1 ⟨rfl, rfl⟩
  clear H2
  go_wp2_with fail
  go_at_call 18; refine H3.out.mono ?_; rintro e1 w3 ⟨a3, c3, rfl, hk, f3⟩
  clear H3
  have HK := Lib.hid hk
  clear hk
  obtain ⟨p0, q0⟩ := bx1 w3 x a3 c3
  have f4 := q0.b
  clear q0
  go_upto_region 6 with fail
  obtain ⟨W4, hW⟩ : ∃ W4, w3.alloc (.cells #[.int .i64 x.kd, .int .i64 x.nn, .int .i64 x.dd, .string (bs x.ss), .slice a3 x.ll.length c3] 24) = W4 := ⟨_, rfl⟩
  rw [hW] at p0 f4
  rw [hW]
  clear hW
  have ff := Fuw.trans f3 f4
  go_wp2_with fail
  go_at_call 21; refine (H4.out _ ff).mono ?_; rintro e1 w5 ⟨a5, c5, rfl, i5, f5⟩
  clear H4
  have FF := Lib.hid (Fuw.trans ff f5)
  have PB := Lib.hid (p0.onw f5)
  have F4 := Lib.hid (Fuw.trans f4 f5)
  clear p0
  have I5 := Lib.hid i5
  clear ff f3 f4 f5 i5
  have g5 := Lib.hid (Fuw.refl w5)
  obtain ⟨d0, d1, d2, d3, d4⟩ : _ ∧ _ ∧ _ ∧ _ ∧ _ := ⟨(PB.out.onw g5.out).c0, (PB.out.onw g5.out).c1, (PB.out.onw g5.out).c2, (PB.out.onw g5.out).c3, (PB.out.onw g5.out).c4⟩
  have SL := Lib.hid (HK.out _ (Fuw.trans F4.out g5.out))
  go_wp2_with fail
  go_at_call 16; refine (P3.out _ _ _ SL.out).mono ?_; rintro e1 w6 ⟨a6, c6, rfl, i6, f6⟩
  have g6 := Lib.hid (Fuw.trans g5.out f6)
  clear f6
  go_wp2_with fail
  go_at_call 32; refine (K3.out _ _ _ (Fuw.trans FF.out g6.out) i6).mono ?_; rintro e1 w7 ⟨rfl, f7⟩
  have g7 := Lib.hid (Fuw.trans g6.out f7)
  clear f7 i6
  clear d0 d1 d2 d3 d4 SL
  go_wp2_with fail
  go_at_call 25; refine (P4.out _ _ _ (Fuw.trans FF.out g7.out) (I5.out.on g7.out)).mono ?_; rintro e1 w8 ⟨a8, c8, rfl, i8, f8⟩
  have g8 := Lib.hid (Fuw.trans g7.out f8)
  clear f8
  go_wp2_with fail
  go_at_call 32; refine (K4.out _ _ _ (Fuw.trans FF.out g8.out) i8).mono ?_; rintro e1 w9 ⟨rfl, f9⟩
  have g9 := Lib.hid (Fuw.trans g8.out f9)
  clear f9 i8
  go_wp2_with fail
  go_at_call 9; refine (HA.out _ (HG.out.on (Fuw.trans FF.out g9.out))).mono ?_; rintro e9 w99 ⟨rfl, f99⟩
  go_wp2
  go_ret
  exact ⟨rfl, Fuw.trans FF.out (Fuw.trans g9.out f99)⟩

set_option maxHeartbeats 8000000 in
set_option maxRecDepth 4000000 in
theorem only_0010 (ao : Option Addr) (l : List UInt8) (cap : Nat) (at_ : Int) (h0 : -9223372036854775808 ≤ at_) (h1 : at_ ≤ 9223372036854775807) (w : World) (h : IsB w ao l cap) (G : Good5 w) (HLV : Alive5) (hl2 : l.length ≤ 1000) (n1 E1 k1 : Int) (q1 : uintV l at_ = (n1, E1, k1)) (z1 : (k1 == 0) = false) (n2 E2 k2 : Int) (q2 : intV l at_ = (n2, E2, k2)) (z2 : (k2 == 0) = false) (x : Vl) (E3 : Int) (q3 : valueV l at_ = .ok x E3) (S : List UInt8) (E4 k4 : Int) (q4 : unframeV l at_ = (S, E4, k4)) (z4 : (k4 == 0) = false) :
    Calls Tryd.prog 7 #[.slice ao l.length cap, .int .i64 at_] w (RwC w true) := by
  have HA := Lib.hid HLV
  have HG := Lib.hid G
  have HI := Lib.hid h
  have H1 := Lib.hid (uint_is ao l cap at_ h0 h1 w h _ _ _ q1)
  have H2 := Lib.hid (int_is ao l cap at_ h0 h1 w h _ _ _ q2)
  have H3 := Lib.hid (value_ok h q3)
  have H4 := Lib.hid (fun w' (hf : Fuw w w') => unframe_is ao l cap at_ h0 h1 w' (h.on hf) (G.on hf) _ _ _ q4)
  obtain ⟨hX, b3, g0, g1, g2⟩ := value_only q3
  have hV : Vin x := by
    have hq := q3
    unfold valueV at hq
    rw [if_neg (by omega)] at hq
    exact (val_rd (Nat.le_trans h.le h.max) 8 at_ x E3 g0 (by omega) hq).1
  have hpl : (putX x).length ≤ 1000 := by
    rw [← b3]
    unfold cutL
    rw [List.length_take, List.length_drop]
    omega
  have K3 := Lib.hid (fun w' a2 c2 (hf : Fuw w w') (h2 : IsB w' a2 (putVal x) c2) => holds_yes ao l cap a2 _ c2 at_ E3 w' (h.on hf) h2 g0 g1 g2 (b3.trans (show putX x = putVal x by unfold putVal; rw [if_pos hX])))
  have P3 := Lib.hid (fun w' a2 c2 (hs : SlV w' a2 x.ll c2) => put_value x a2 c2 w' hV hs (fun _ => by omega))
  unfold vlv at P3
  clear hX b3 g0 g1 g2 hV hpl
  have hl3 : (l.length : Int) ≤ 1000 := by omega
  clear q1 q2 q3 q4 h G h0 h1 HLV
  go_enter Tryd.func7, Tryd.ntmps7
  go_wp2_with fail
  go_at_call 27; refine H1.out.mono ?_; rintro e1 w1 ⟨rfl, rfl⟩
  clear H1
  go_wp2_with fail
  go_at_call 29; refine H2.out.mono ?_; rintro e1 w1 ⟨rfl, rfl⟩
  clear H2
  go_wp2_with fail
  go_at_call 18; refine H3.out.mono ?_; rintro e1 w3 ⟨a3, c3, rfl, hk, f3⟩
  clear H3
  have HK := Lib.hid hk
  clear hk
  obtain ⟨p0, q0⟩ := bx1 w3 x a3 c3
  have f4 := q0.b
  clear q0
  go_upto_region 6 with fail
  obtain ⟨W4, hW⟩ : ∃ W4, w3.alloc (.cells #[.int .i64 x.kd, .int .i64 x.nn, .int .i64 x.dd, .string (bs x.ss), .slice a3 x.ll.length c3] 24) = W4 := ⟨_, rfl⟩
  rw [hW] at p0 f4
  rw [hW]
  clear hW
  have ff := Fuw.trans f3 f4
  go_wp2_with fail
  go_at_call 21; refine (H4.out _ ff).mono ?_; rintro e1 w5 ⟨a5, c5, rfl, i5, f5⟩
  clear H4
  have FF := Lib.hid (Fuw.trans ff f5)
  have PB := Lib.hid (p0.onw f5)
  have F4 := Lib.hid (Fuw.trans f4 f5)
  clear p0
  clear ff f3 f4 f5 i5
  have g5 := Lib.hid (Fuw.refl w5)
  obtain ⟨d0, d1, d2, d3, d4⟩ : _ ∧ _ ∧ _ ∧ _ ∧ _ := ⟨(PB.out.onw g5.out).c0, (PB.out.onw g5.out).c1, (PB.out.onw g5.out).c2, (PB.out.onw g5.out).c3, (PB.out.onw g5.out).c4⟩
  have SL := Lib.hid (HK.out _ (Fuw.trans F4.out g5.out))
  go_wp2_with fail
  go_at_call 16; refine (P3.out _ _ _ SL.out).mono ?_; rintro e1 w6 ⟨a6, c6, rfl, i6, f6⟩
  have g6 := Lib.hid (Fuw.trans g5.out f6)
  clear f6
  go_wp2_with fail
  go_at_call 32; refine (K3.out _ _ _ (Fuw.trans FF.out g6.out) i6).mono ?_; rintro e1 w7 ⟨rfl, f7⟩
  have g7 := Lib.hid (Fuw.trans g6.out f7)
  clear f7 i6
  clear d0 d1 d2 d3 d4 SL
  go_wp2_with fail
  go_at_call 9; refine (HA.out _ (HG.out.on (Fuw.trans FF.out g7.out))).mono ?_; rintro e9 w99 ⟨rfl, f99⟩
  go_wp2
  go_ret
  exact ⟨rfl, Fuw.trans FF.out (Fuw.trans g7.out f99)⟩

set_option maxHeartbeats 8000000 in
set_option maxRecDepth 4000000 in
theorem only_0001 (ao : Option Addr) (l : List UInt8) (cap : Nat) (at_ : Int) (h0 : -9223372036854775808 ≤ at_) (h1 : at_ ≤ 9223372036854775807) (w : World) (h : IsB w ao l cap) (G : Good5 w) (HLV : Alive5) (hl2 : l.length ≤ 1000) (n1 E1 k1 : Int) (q1 : uintV l at_ = (n1, E1, k1)) (z1 : (k1 == 0) = false) (n2 E2 k2 : Int) (q2 : intV l at_ = (n2, E2, k2)) (z2 : (k2 == 0) = false) (k3 : Int) (q3 : valueV l at_ = .er k3) (S : List UInt8) (E4 : Int) (q4 : unframeV l at_ = (S, E4, 0)) :
    Calls Tryd.prog 7 #[.slice ao l.length cap, .int .i64 at_] w (RwC w true) := by
  have HA := Lib.hid HLV
  have HG := Lib.hid G
  have HI := Lib.hid h
  have H1 := Lib.hid (uint_is ao l cap at_ h0 h1 w h _ _ _ q1)
  have H2 := Lib.hid (int_is ao l cap at_ h0 h1 w h _ _ _ q2)
  have H3 := Lib.hid (value_er h q3)
  have H4 := Lib.hid (fun w' (hf : Fuw w w') => unframe_is ao l cap at_ h0 h1 w' (h.on hf) (G.on hf) _ _ _ q4)
  obtain ⟨b4, g0, g1, g2⟩ := frame_only q4
  have hsl : S.length ≤ 1000 := by
    have e := congrArg List.length b4
    unfold cutL frameV at e
    rw [List.length_take, List.length_drop] at e
    simp at e
    omega
  have K4 := Lib.hid (fun w' a2 c2 (hf : Fuw w w') (h2 : IsB w' a2 (frameV S) c2) => holds_yes ao l cap a2 _ c2 at_ E4 w' (h.on hf) h2 g0 g1 g2 b4)
  have P4 := Lib.hid (fun w' a2 c2 (hf : Fuw w w') (h2 : IsB w' a2 S c2) => frame_is a2 S c2 w' h2 (G.on hf) (by omega))
  clear b4 g0 g1 g2 hsl
  have hl3 : (l.length : Int) ≤ 1000 := by omega
  clear q1 q2 q3 q4 h G h0 h1 HLV
  go_enter Tryd.func7, Tryd.ntmps7
  go_wp2_with fail
  go_at_call 27; refine H1.out.mono ?_; rintro e1 w1 ⟨rfl, rfl⟩
  clear H1
  go_wp2_with fail
  go_at_call 29; refine H2.out.mono ?_; rintro e1 w1 ⟨rfl, rfl⟩
  clear H2
  go_wp2_with fail
  go_at_call 18; refine H3.out.mono ?_; rintro e1 w3 ⟨rfl, z3, f3⟩
  clear H3
  go_upto_region 6 with fail
  have f4 : Fuw w3 (w3.alloc (.cells #[.int .i64 0, .int .i64 0, .int .i64 0, .string ⟨#[]⟩, .slice none 0 0] 24)) := Below.alloc (Fuw.refl w3) (Nat.le_refl _) _
  have ff := Fuw.trans f3 f4
  generalize w3.alloc _ = W4 at f4 ff ⊢
  go_wp2_with fail
  go_at_call 21; refine (H4.out _ ff).mono ?_; rintro e1 w5 ⟨a5, c5, rfl, i5, f5⟩
  clear H4
  have FF := Lib.hid (Fuw.trans ff f5)
  have I5 := Lib.hid i5
  clear ff f3 f4 f5 i5
  have g5 := Lib.hid (Fuw.refl w5)
  go_wp2_with fail
  go_at_call 25; refine (P4.out _ _ _ (Fuw.trans FF.out g5.out) (I5.out.on g5.out)).mono ?_; rintro e1 w6 ⟨a6, c6, rfl, i6, f6⟩
  have g6 := Lib.hid (Fuw.trans g5.out f6)
  clear f6
  go_wp2_with fail
  go_at_call 32; refine (K4.out _ _ _ (Fuw.trans FF.out g6.out) i6).mono ?_; rintro e1 w7 ⟨rfl, f7⟩
  have g7 := Lib.hid (Fuw.trans g6.out f7)
  clear f7 i6
  go_wp2_with fail
  go_at_call 9; refine (HA.out _ (HG.out.on (Fuw.trans FF.out g7.out))).mono ?_; rintro e9 w99 ⟨rfl, f99⟩
  go_wp2
  go_ret
  exact ⟨rfl, Fuw.trans FF.out (Fuw.trans g7.out f99)⟩

set_option maxHeartbeats 8000000 in
set_option maxRecDepth 4000000 in
theorem only_0000 (ao : Option Addr) (l : List UInt8) (cap : Nat) (at_ : Int) (h0 : -9223372036854775808 ≤ at_) (h1 : at_ ≤ 9223372036854775807) (w : World) (h : IsB w ao l cap) (G : Good5 w) (HLV : Alive5) (hl2 : l.length ≤ 1000) (n1 E1 k1 : Int) (q1 : uintV l at_ = (n1, E1, k1)) (z1 : (k1 == 0) = false) (n2 E2 k2 : Int) (q2 : intV l at_ = (n2, E2, k2)) (z2 : (k2 == 0) = false) (k3 : Int) (q3 : valueV l at_ = .er k3) (S : List UInt8) (E4 k4 : Int) (q4 : unframeV l at_ = (S, E4, k4)) (z4 : (k4 == 0) = false) :
    Calls Tryd.prog 7 #[.slice ao l.length cap, .int .i64 at_] w (RwC w true) := by
  have HA := Lib.hid HLV
  have HG := Lib.hid G
  have HI := Lib.hid h
  have H1 := Lib.hid (uint_is ao l cap at_ h0 h1 w h _ _ _ q1)
  have H2 := Lib.hid (int_is ao l cap at_ h0 h1 w h _ _ _ q2)
  have H3 := Lib.hid (value_er h q3)
  have H4 := Lib.hid (fun w' (hf : Fuw w w') => unframe_is ao l cap at_ h0 h1 w' (h.on hf) (G.on hf) _ _ _ q4)
  have hl3 : (l.length : Int) ≤ 1000 := by omega
  clear q1 q2 q3 q4 h G h0 h1 HLV
  go_enter Tryd.func7, Tryd.ntmps7
  go_wp2_with fail
  go_at_call 27; refine H1.out.mono ?_; rintro e1 w1 ⟨rfl, rfl⟩
  clear H1
  go_wp2_with fail
  go_at_call 29; refine H2.out.mono ?_; rintro e1 w1 ⟨rfl, rfl⟩
  clear H2
  go_wp2_with fail
  go_at_call 18; refine H3.out.mono ?_; rintro e1 w3 ⟨rfl, z3, f3⟩
  clear H3
  go_upto_region 6 with fail
  have f4 : Fuw w3 (w3.alloc (.cells #[.int .i64 0, .int .i64 0, .int .i64 0, .string ⟨#[]⟩, .slice none 0 0] 24)) := Below.alloc (Fuw.refl w3) (Nat.le_refl _) _
  have ff := Fuw.trans f3 f4
  generalize w3.alloc _ = W4 at f4 ff ⊢
  go_wp2_with fail
  go_at_call 21; refine (H4.out _ ff).mono ?_; rintro e1 w5 ⟨a5, c5, rfl, i5, f5⟩
  clear H4
  have FF := Lib.hid (Fuw.trans ff f5)
  clear ff f3 f4 f5 i5
  have g5 := Lib.hid (Fuw.refl w5)
  go_wp2_with fail
  go_at_call 9; refine (HA.out _ (HG.out.on (Fuw.trans FF.out g5.out))).mono ?_; rintro e9 w99 ⟨rfl, f99⟩
  go_wp2
  go_ret
  exact ⟨rfl, Fuw.trans FF.out (Fuw.trans g5.out f99)⟩

set_option maxHeartbeats 8000000 in
set_option maxRecDepth 4000000 in
theorem only_any (ao : Option Addr) (l : List UInt8) (cap : Nat) (at_ : Int) (h0 : -9223372036854775808 ≤ at_) (h1 : at_ ≤ 9223372036854775807) (w : World) (h : IsB w ao l cap) (G : Good5 w) (HLV : Alive5) :
    Calls Tryd.prog 7 #[.slice ao l.length cap, .int .i64 at_] w (RwC w true) := by
  have hlen := h.len.1
  by_cases hl : 1000 < l.length
  · have HA := Lib.hid HLV
    have HG := Lib.hid G
    clear h G HLV
    go_enter Tryd.func7, Tryd.ntmps7
    go_wp2_with fail
    go_at_call 9; refine (HA.out _ HG.out).mono ?_; rintro e9 w9 ⟨rfl, f9⟩
    go_wp2
    go_ret
    exact ⟨rfl, f9⟩
  have hl2 : l.length ≤ 1000 := by omega
  obtain ⟨n1, E1, k1, q1⟩ : ∃ u n c, uintV l at_ = (u, n, c) := ⟨_, _, _, rfl⟩
  obtain ⟨n2, E2, k2, q2⟩ : ∃ u n c, intV l at_ = (u, n, c) := ⟨_, _, _, rfl⟩
  obtain ⟨S, E4, k4, q4⟩ : ∃ u n c, unframeV l at_ = (u, n, c) := ⟨_, _, _, rfl⟩
  have nz : ∀ k : Int, k ≠ 0 → (k == 0) = false := fun k h => by rw [beq_eq_false_iff_ne]; exact h
  cases q3 : valueV l at_ with
  | ok x E3 =>
    by_cases z1 : k1 = 0
    · subst z1; by_cases z2 : k2 = 0
      · subst z2; by_cases z4 : k4 = 0
        · subst z4; exact only_1111 ao l cap at_ h0 h1 w h G HLV hl2 n1 E1 q1 n2 E2 q2 x E3 q3 S E4 q4
        · exact only_1110 ao l cap at_ h0 h1 w h G HLV hl2 n1 E1 q1 n2 E2 q2 x E3 q3 S E4 k4 q4 (nz _ z4)
      · by_cases z4 : k4 = 0
        · subst z4; exact only_1011 ao l cap at_ h0 h1 w h G HLV hl2 n1 E1 q1 n2 E2 k2 q2 (nz _ z2) x E3 q3 S E4 q4
        · exact only_1010 ao l cap at_ h0 h1 w h G HLV hl2 n1 E1 q1 n2 E2 k2 q2 (nz _ z2) x E3 q3 S E4 k4 q4 (nz _ z4)
    · by_cases z2 : k2 = 0
      · subst z2; by_cases z4 : k4 = 0
        · subst z4; exact only_0111 ao l cap at_ h0 h1 w h G HLV hl2 n1 E1 k1 q1 (nz _ z1) n2 E2 q2 x E3 q3 S E4 q4
        · exact only_0110 ao l cap at_ h0 h1 w h G HLV hl2 n1 E1 k1 q1 (nz _ z1) n2 E2 q2 x E3 q3 S E4 k4 q4 (nz _ z4)
      · by_cases z4 : k4 = 0
        · subst z4; exact only_0011 ao l cap at_ h0 h1 w h G HLV hl2 n1 E1 k1 q1 (nz _ z1) n2 E2 k2 q2 (nz _ z2) x E3 q3 S E4 q4
        · exact only_0010 ao l cap at_ h0 h1 w h G HLV hl2 n1 E1 k1 q1 (nz _ z1) n2 E2 k2 q2 (nz _ z2) x E3 q3 S E4 k4 q4 (nz _ z4)
  | er k3 =>
    by_cases z1 : k1 = 0
    · subst z1; by_cases z2 : k2 = 0
      · subst z2; by_cases z4 : k4 = 0
        · subst z4; exact only_1101 ao l cap at_ h0 h1 w h G HLV hl2 n1 E1 q1 n2 E2 q2 k3 q3 S E4 q4
        · exact only_1100 ao l cap at_ h0 h1 w h G HLV hl2 n1 E1 q1 n2 E2 q2 k3 q3 S E4 k4 q4 (nz _ z4)
      · by_cases z4 : k4 = 0
        · subst z4; exact only_1001 ao l cap at_ h0 h1 w h G HLV hl2 n1 E1 q1 n2 E2 k2 q2 (nz _ z2) k3 q3 S E4 q4
        · exact only_1000 ao l cap at_ h0 h1 w h G HLV hl2 n1 E1 q1 n2 E2 k2 q2 (nz _ z2) k3 q3 S E4 k4 q4 (nz _ z4)
    · by_cases z2 : k2 = 0
      · subst z2; by_cases z4 : k4 = 0
        · subst z4; exact only_0101 ao l cap at_ h0 h1 w h G HLV hl2 n1 E1 k1 q1 (nz _ z1) n2 E2 q2 k3 q3 S E4 q4
        · exact only_0100 ao l cap at_ h0 h1 w h G HLV hl2 n1 E1 k1 q1 (nz _ z1) n2 E2 q2 k3 q3 S E4 k4 q4 (nz _ z4)
      · by_cases z4 : k4 = 0
        · subst z4; exact only_0001 ao l cap at_ h0 h1 w h G HLV hl2 n1 E1 k1 q1 (nz _ z1) n2 E2 k2 q2 (nz _ z2) k3 q3 S E4 q4
        · exact only_0000 ao l cap at_ h0 h1 w h G HLV hl2 n1 E1 k1 q1 (nz _ z1) n2 E2 k2 q2 (nz _ z2) k3 q3 S E4 k4 q4 (nz _ z4)
end Go.Proofs.YtolkdmhjomampaaDoor
