/-
  CodecFrames gives true by the contracts of package codec and its reference.
-/
import Derived.Test.YtolkdmhjomampaaDoorCdW
import Derived.Test.YtolkdmhjomampaaDoorCeD
import Derived.Test.YtolkdmhjomampaaDoorDagA
namespace Go.Proofs.YtolkdmhjomampaaDoor
open Go.RowKit


/-- What a slot of the last statement holds once it is written, by the slot's class. -/
def PF (ao : Option Addr) (l : List UInt8) (cap : Nat) (a1 a2 : Option Addr) (S : List UInt8) (c1 c2 : Nat) (n c : Int) : Nat → World → Value → Prop
  | 1, _, v => v = .slice ao l.length cap
  | 2, _, v => v = .int .i64 (crc l : Nat)
  | 3, _, v => v = .bool true
  | 4, w, v => ∃ a k, v = .slice a (frameV l).length k ∧ IsB w a (frameV l) k
  | 5, _, v => v = .string (yb (frameV l))
  | 6, w, v => v = .slice a1 S.length c1 ∧ IsB w a1 S c1
  | 7, w, v => v = .slice a2 S.length c2 ∧ IsB w a2 S c2
  | 8, _, v => v = .string (yb S)
  | 9, _, v => v = .int .i64 n
  | 10, _, v => v = .int .i64 c
  | _, _, _ => True
def kF : List Nat := [1, 0, 0, 0, 3, 6, 9, 10, 7, 9, 10, 0, 0, 0, 0, 0, 0, 0, 0, 0, 0, 0, 0, 0, 0, 0, 0, 0, 0, 1, 2, 1, 2, 3, 3, 1, 4, 5, 1, 4, 5, 3, 3, 3, 6, 8, 7, 8, 3, 3, 3, 9, 9, 3, 3, 3, 10, 10, 3, 3, 3, 3, 3]
theorem pf_on {ao : Option Addr} {l : List UInt8} {cap : Nat} {a1 a2 : Option Addr} {S : List UInt8} {c1 c2 : Nat} {n c : Int} {w w' : World} (hf : Fuw w w') :
    ∀ (t : Nat) (u : Value), PF ao l cap a1 a2 S c1 c2 n c (kF.getD t 0) w u → PF ao l cap a1 a2 S c1 c2 n c (kF.getD t 0) w' u := by
  intro t u
  generalize kF.getD t 0 = k
  intro h
  match k, h with
  | 0, h => exact h
  | 1, h => exact h
  | 2, h => exact h
  | 3, h => exact h
  | 4, ⟨a, k, h1, h2⟩ => exact ⟨a, k, h1, h2.on hf⟩
  | 5, h => exact h
  | 6, ⟨h1, h2⟩ => exact ⟨h1, h2.on hf⟩
  | 7, ⟨h1, h2⟩ => exact ⟨h1, h2.on hf⟩
  | 8, h => exact h
  | 9, h => exact h
  | 10, h => exact h
  | _ + 11, h => exact h
theorem frameD63 (x : Nat → Value) : frameD 63 x = ⟨#[x 0, x 1, x 2, x 3, x 4, x 5, x 6, x 7, x 8, x 9, x 10, x 11, x 12, x 13, x 14, x 15, x 16, x 17, x 18, x 19, x 20, x 21, x 22, x 23, x 24, x 25, x 26, x 27, x 28, x 29, x 30, x 31, x 32, x 33, x 34, x 35, x 36, x 37, x 38, x 39, x 40, x 41, x 42, x 43, x 44, x 45, x 46, x 47, x 48, x 49, x 50, x 51, x 52, x 53, x 54, x 55, x 56, x 57, x 58, x 59, x 60, x 61, x 62], []⟩ := rfl

set_option maxHeartbeats 8000000 in
set_option maxRecDepth 4000000 in
theorem frames_any (ao : Option Addr) (l : List UInt8) (cap : Nat) (at_ : Int) (h0 : -9223372036854775808 ≤ at_) (h1 : at_ ≤ 9223372036854775807) (w : World) (h : IsB w ao l cap) (G : Good5 w) (HLV : Alive5) :
    Calls Tryd.prog 5 #[.slice ao l.length cap, .int .i64 at_] w (RwC w true) := by
  have HA := Lib.hid HLV
  have HG := Lib.hid G
  have hlen := h.len.1
  by_cases hl : 1000 < l.length
  · clear h G HLV
    go_enter Tryd.func5, Tryd.ntmps5
    go_wp2_with fail
    go_at_call 9; refine (HA.out _ HG.out).mono ?_; rintro e9 w9 ⟨rfl, f9⟩
    go_wp2
    go_ret
    exact ⟨rfl, f9⟩
  have hl2 : l.length ≤ 1000 := by omega
  obtain ⟨S, n, c, hu⟩ : ∃ u n c, unframeV l at_ = (u, n, c) := ⟨_, _, _, rfl⟩
  have HI := Lib.hid h
  have H1 := Lib.hid (unframe_is ao l cap at_ h0 h1 w h G S n c hu)
  have H2 := Lib.hid (fun w' (hf : Fuw w w') => runframe_is ao l cap at_ h0 h1 w' (h.on hf) (by omega) S n c hu)
  have H3 := Lib.hid (fun w' (hf : Fuw w w') => sum_is ao l cap w' (h.on hf) (G.on hf))
  have H4 := Lib.hid (fun w' (hf : Fuw w w') => rsum_is ao l cap w' (h.on hf))
  have H5 := Lib.hid (fun w' (hf : Fuw w w') => frame_is ao l cap w' (h.on hf) (G.on hf) (by omega))
  have H6 := Lib.hid (fun w' (hf : Fuw w w') => rframe_is ao l cap w' (h.on hf) (by omega))
  have hS : ((yb S).toList == (yb S).toList) = true := beq_self_eq_true _
  have hT : ((yb (frameV l)).toList == (yb (frameV l)).toList) = true := beq_self_eq_true _
  clear hu h G h0 h1 hl HLV
  go_enter Tryd.func5, Tryd.ntmps5
  go_wp2_with fail
  go_at_call 21; refine H1.out.mono ?_; rintro e1 w1 ⟨a1, c1, rfl, i1, f1⟩
  clear H1
  go_wp2_with fail
  go_at_call 22; refine (H2.out w1 f1).mono ?_; rintro e1 w2 ⟨a2, c2, rfl, i2, f2⟩
  clear H2
  have ff := Fuw.trans f1 f2
  have HU1 := Lib.hid (fun w' (hf : Fuw w2 w') => conv_bytes ((i1.on f2).on hf))
  have HU2 := Lib.hid (fun w' (hf : Fuw w2 w') => conv_bytes (i2.on hf))
  have FF := Lib.hid ff
  have I1 := Lib.hid (i1.on f2)
  have I2 := Lib.hid i2
  clear i1 i2 f1 f2 ff
  go_upto_region 5 with fail
  have F0 := Lib.hid (Fuw.refl w2)
  refine region_mid (N := 63) (S := fun w => Hid (Fuw w2 w)) (U := fun t => PF ao l cap a1 a2 S c1 c2 n c (kF.getD t 0)) (by kernel_rfl) (by kernel_rfl) ?base (upto_succ (n := 34) (upto_succ (n := 33) (upto_succ (n := 32) (upto_succ (n := 31) (upto_succ (n := 30) (upto_succ (n := 29) (upto_succ (n := 28) (upto_succ (n := 27) (upto_succ (n := 26) (upto_succ (n := 25) (upto_succ (n := 24) (upto_succ (n := 23) (upto_succ (n := 22) (upto_succ (n := 21) (upto_succ (n := 20) (upto_succ (n := 19) (upto_succ (n := 18) (upto_succ (n := 17) (upto_succ (n := 16) (upto_succ (n := 15) (upto_succ (n := 14) (upto_succ (n := 13) (upto_succ (n := 12) (upto_succ (n := 11) (upto_succ (n := 10) (upto_succ (n := 9) (upto_succ (n := 8) (upto_succ (n := 7) (upto_succ (n := 6) (upto_succ (n := 5) (upto_succ (n := 4) (upto_succ (n := 3) (upto_succ (n := 2) (upto_succ (n := 1) (upto_succ (n := 0) (upto_nil) ?s0) ?s1) ?s2) ?s3) ?s4) ?s5) ?s6) ?s7) ?s8) ?s9) ?s10) ?s11) ?s12) ?s13) ?s14) ?s15) ?s16) ?s17) ?s18) ?s19) ?s20) ?s21) ?s22) ?s23) ?s24) ?s25) ?s26) ?s27) ?s28) ?s29) ?s30) ?s31) ?s32) ?s33) ?s34) ?fin
  case s0 =>
    refine step_of [0] (by kernel_rfl) rfl rfl (by kernel_rfl) ?_
    intro x w hS hU K hK
    have u0 : x 0 = .slice ao l.length cap := hU 0 (by simp)
    clear hU
    rw [frameD63] at hK ⊢
    simp only [u0] at hK ⊢
    refine wpOp_step rfl (fun K' hK' => ?_)
    go_simp
    exact hK' _ _ (hK _ _ hS (fun _ _ h => h) rfl)
  case s1 =>
    refine step_of [29] (by kernel_rfl) rfl rfl (by kernel_rfl) ?_
    intro x w hS hU K hK
    have u29 : x 29 = .slice ao l.length cap := hU 29 (by simp)
    clear hU
    rw [frameD63] at hK ⊢
    simp only [u29] at hK ⊢
    refine wpOp_step rfl (fun K' hK' => ?_)
    go_simp
    go_wp2_with (go_at_call 23; refine (H3.out _ (Fuw.trans FF.out hS.out)).mono ?_; rintro e5 w5 ⟨rfl, rfl⟩)
    exact hK _ _ hS (fun _ _ h => h) rfl
  case s2 =>
    refine step_of [0] (by kernel_rfl) rfl rfl (by kernel_rfl) ?_
    intro x w hS hU K hK
    have u0 : x 0 = .slice ao l.length cap := hU 0 (by simp)
    clear hU
    rw [frameD63] at hK ⊢
    simp only [u0] at hK ⊢
    refine wpOp_step rfl (fun K' hK' => ?_)
    go_simp
    exact hK' _ _ (hK _ _ hS (fun _ _ h => h) rfl)
  case s3 =>
    refine step_of [31] (by kernel_rfl) rfl rfl (by kernel_rfl) ?_
    intro x w hS hU K hK
    have u31 : x 31 = .slice ao l.length cap := hU 31 (by simp)
    clear hU
    rw [frameD63] at hK ⊢
    simp only [u31] at hK ⊢
    refine wpOp_step rfl (fun K' hK' => ?_)
    go_simp
    go_wp2_with (go_at_call 24; refine (H4.out _ (Fuw.trans FF.out hS.out)).mono ?_; rintro e5 w5 ⟨rfl, rfl⟩)
    exact hK _ _ hS (fun _ _ h => h) rfl
  case s4 =>
    refine step_of [30, 32] (by kernel_rfl) rfl rfl (by kernel_rfl) ?_
    intro x w hS hU K hK
    have u30 : x 30 = .int .i64 (crc l : Nat) := hU 30 (by simp)
    have u32 : x 32 = .int .i64 (crc l : Nat) := hU 32 (by simp)
    clear hU
    rw [frameD63] at hK ⊢
    simp only [u30, u32] at hK ⊢
    refine wpOp_step rfl (fun K' hK' => ?_)
    go_simp
    exact hK' _ _ (hK _ _ hS (fun _ _ h => h) rfl)
  case s5 =>
    refine step_of [33] (by kernel_rfl) rfl rfl (by kernel_rfl) ?_
    intro x w hS hU K hK
    have u33 : x 33 = .bool true := hU 33 (by simp)
    clear hU
    rw [frameD63] at hK ⊢
    simp only [u33] at hK ⊢
    refine wpOp_step rfl (fun K' hK' => ?_)
    go_simp
    exact hK' _ _ (hK _ _ hS (fun _ _ h => h) rfl)
  case s6 =>
    refine step_of [0, 34] (by kernel_rfl) rfl rfl (by kernel_rfl) ?_
    intro x w hS hU K hK
    have u0 : x 0 = .slice ao l.length cap := hU 0 (by simp)
    have u34 : x 34 = .bool true := hU 34 (by simp)
    clear hU
    rw [frameD63] at hK ⊢
    simp only [u0, u34] at hK ⊢
    refine wpOp_step rfl (fun K' hK' => ?_)
    go_simp
    exact hK' _ _ (hK _ _ hS (fun _ _ h => h) rfl)
  case s7 =>
    refine step_of [35, 34] (by kernel_rfl) rfl rfl (by kernel_rfl) ?_
    intro x w hS hU K hK
    have u35 : x 35 = .slice ao l.length cap := hU 35 (by simp)
    have u34 : x 34 = .bool true := hU 34 (by simp)
    clear hU
    rw [frameD63] at hK ⊢
    simp only [u35, u34] at hK ⊢
    refine wpOp_step rfl (fun K' hK' => ?_)
    go_simp
    go_wp2_with (go_at_call 25; refine (H5.out _ (Fuw.trans FF.out hS.out)).mono ?_; rintro e5 w5 ⟨a6, c6, rfl, i6, f6⟩)
    exact hK _ _ (Lib.hid (Fuw.trans hS.out f6)) (pf_on f6) ⟨a6, c6, rfl, i6⟩
  case s8 =>
    refine step_of [36, 34] (by kernel_rfl) rfl rfl (by kernel_rfl) ?_
    intro x w hS hU K hK
    obtain ⟨q36, k36, u36, i36⟩ : ∃ a k, x 36 = .slice a (frameV l).length k ∧ IsB w a (frameV l) k := hU 36 (by simp)
    have u34 : x 34 = .bool true := hU 34 (by simp)
    clear hU
    rw [frameD63] at hK ⊢
    simp only [u36, u34] at hK ⊢
    refine wpOp_step rfl (fun K' hK' => ?_)
    have hcv := conv_bytes i36
    go_simp
    exact hK' _ _ (hK _ _ hS (fun _ _ h => h) rfl)
  case s9 =>
    refine step_of [0, 34] (by kernel_rfl) rfl rfl (by kernel_rfl) ?_
    intro x w hS hU K hK
    have u0 : x 0 = .slice ao l.length cap := hU 0 (by simp)
    have u34 : x 34 = .bool true := hU 34 (by simp)
    clear hU
    rw [frameD63] at hK ⊢
    simp only [u0, u34] at hK ⊢
    refine wpOp_step rfl (fun K' hK' => ?_)
    go_simp
    exact hK' _ _ (hK _ _ hS (fun _ _ h => h) rfl)
  case s10 =>
    refine step_of [38, 34] (by kernel_rfl) rfl rfl (by kernel_rfl) ?_
    intro x w hS hU K hK
    have u38 : x 38 = .slice ao l.length cap := hU 38 (by simp)
    have u34 : x 34 = .bool true := hU 34 (by simp)
    clear hU
    rw [frameD63] at hK ⊢
    simp only [u38, u34] at hK ⊢
    refine wpOp_step rfl (fun K' hK' => ?_)
    go_simp
    go_wp2_with (go_at_call 26; refine (H6.out _ (Fuw.trans FF.out hS.out)).mono ?_; rintro e5 w5 ⟨a6, c6, rfl, i6, f6⟩)
    exact hK _ _ (Lib.hid (Fuw.trans hS.out f6)) (pf_on f6) ⟨a6, c6, rfl, i6⟩
  case s11 =>
    refine step_of [39, 34] (by kernel_rfl) rfl rfl (by kernel_rfl) ?_
    intro x w hS hU K hK
    obtain ⟨q39, k39, u39, i39⟩ : ∃ a k, x 39 = .slice a (frameV l).length k ∧ IsB w a (frameV l) k := hU 39 (by simp)
    have u34 : x 34 = .bool true := hU 34 (by simp)
    clear hU
    rw [frameD63] at hK ⊢
    simp only [u39, u34] at hK ⊢
    refine wpOp_step rfl (fun K' hK' => ?_)
    have hcv := conv_bytes i39
    go_simp
    exact hK' _ _ (hK _ _ hS (fun _ _ h => h) rfl)
  case s12 =>
    refine step_of [37, 40, 34] (by kernel_rfl) rfl rfl (by kernel_rfl) ?_
    intro x w hS hU K hK
    have u37 : x 37 = .string (yb (frameV l)) := hU 37 (by simp)
    have u40 : x 40 = .string (yb (frameV l)) := hU 40 (by simp)
    have u34 : x 34 = .bool true := hU 34 (by simp)
    clear hU
    rw [frameD63] at hK ⊢
    simp only [u37, u40, u34] at hK ⊢
    refine wpOp_step rfl (fun K' hK' => ?_)
    go_simp
    exact hK' _ _ (hK _ _ hS (fun _ _ h => h) rfl)
  case s13 =>
    refine step_of [34, 41] (by kernel_rfl) rfl rfl (by kernel_rfl) ?_
    intro x w hS hU K hK
    have u34 : x 34 = .bool true := hU 34 (by simp)
    have u41 : x 41 = .bool true := hU 41 (by simp)
    clear hU
    rw [frameD63] at hK ⊢
    simp only [u34, u41] at hK ⊢
    refine wpOp_step rfl (fun K' hK' => ?_)
    go_simp
    exact hK' _ _ (hK _ _ hS (fun _ _ h => h) rfl)
  case s14 =>
    refine step_of [42] (by kernel_rfl) rfl rfl (by kernel_rfl) ?_
    intro x w hS hU K hK
    have u42 : x 42 = .bool true := hU 42 (by simp)
    clear hU
    rw [frameD63] at hK ⊢
    simp only [u42] at hK ⊢
    refine wpOp_step rfl (fun K' hK' => ?_)
    go_simp
    exact hK' _ _ (hK _ _ hS (fun _ _ h => h) rfl)
  case s15 =>
    refine step_of [5, 43] (by kernel_rfl) rfl rfl (by kernel_rfl) ?_
    intro x w hS hU K hK
    obtain ⟨u5, i5⟩ : x 5 = .slice a1 S.length c1 ∧ IsB w a1 S c1 := hU 5 (by simp)
    have u43 : x 43 = .bool true := hU 43 (by simp)
    clear hU
    rw [frameD63] at hK ⊢
    simp only [u5, u43] at hK ⊢
    refine wpOp_step rfl (fun K' hK' => ?_)
    go_simp
    exact hK' _ _ (hK _ _ hS (fun _ _ h => h) ⟨rfl, i5⟩)
  case s16 =>
    refine step_of [44, 43] (by kernel_rfl) rfl rfl (by kernel_rfl) ?_
    intro x w hS hU K hK
    obtain ⟨u44, i44⟩ : x 44 = .slice a1 S.length c1 ∧ IsB w a1 S c1 := hU 44 (by simp)
    have u43 : x 43 = .bool true := hU 43 (by simp)
    clear hU
    rw [frameD63] at hK ⊢
    simp only [u44, u43] at hK ⊢
    refine wpOp_step rfl (fun K' hK' => ?_)
    have hcv := conv_bytes i44
    go_simp
    exact hK' _ _ (hK _ _ hS (fun _ _ h => h) rfl)
  case s17 =>
    refine step_of [8, 43] (by kernel_rfl) rfl rfl (by kernel_rfl) ?_
    intro x w hS hU K hK
    obtain ⟨u8, i8⟩ : x 8 = .slice a2 S.length c2 ∧ IsB w a2 S c2 := hU 8 (by simp)
    have u43 : x 43 = .bool true := hU 43 (by simp)
    clear hU
    rw [frameD63] at hK ⊢
    simp only [u8, u43] at hK ⊢
    refine wpOp_step rfl (fun K' hK' => ?_)
    go_simp
    exact hK' _ _ (hK _ _ hS (fun _ _ h => h) ⟨rfl, i8⟩)
  case s18 =>
    refine step_of [46, 43] (by kernel_rfl) rfl rfl (by kernel_rfl) ?_
    intro x w hS hU K hK
    obtain ⟨u46, i46⟩ : x 46 = .slice a2 S.length c2 ∧ IsB w a2 S c2 := hU 46 (by simp)
    have u43 : x 43 = .bool true := hU 43 (by simp)
    clear hU
    rw [frameD63] at hK ⊢
    simp only [u46, u43] at hK ⊢
    refine wpOp_step rfl (fun K' hK' => ?_)
    have hcv := conv_bytes i46
    go_simp
    exact hK' _ _ (hK _ _ hS (fun _ _ h => h) rfl)
  case s19 =>
    refine step_of [45, 47, 43] (by kernel_rfl) rfl rfl (by kernel_rfl) ?_
    intro x w hS hU K hK
    have u45 : x 45 = .string (yb S) := hU 45 (by simp)
    have u47 : x 47 = .string (yb S) := hU 47 (by simp)
    have u43 : x 43 = .bool true := hU 43 (by simp)
    clear hU
    rw [frameD63] at hK ⊢
    simp only [u45, u47, u43] at hK ⊢
    refine wpOp_step rfl (fun K' hK' => ?_)
    go_simp
    exact hK' _ _ (hK _ _ hS (fun _ _ h => h) rfl)
  case s20 =>
    refine step_of [43, 48] (by kernel_rfl) rfl rfl (by kernel_rfl) ?_
    intro x w hS hU K hK
    have u43 : x 43 = .bool true := hU 43 (by simp)
    have u48 : x 48 = .bool true := hU 48 (by simp)
    clear hU
    rw [frameD63] at hK ⊢
    simp only [u43, u48] at hK ⊢
    refine wpOp_step rfl (fun K' hK' => ?_)
    go_simp
    exact hK' _ _ (hK _ _ hS (fun _ _ h => h) rfl)
  case s21 =>
    refine step_of [49] (by kernel_rfl) rfl rfl (by kernel_rfl) ?_
    intro x w hS hU K hK
    have u49 : x 49 = .bool true := hU 49 (by simp)
    clear hU
    rw [frameD63] at hK ⊢
    simp only [u49] at hK ⊢
    refine wpOp_step rfl (fun K' hK' => ?_)
    go_simp
    exact hK' _ _ (hK _ _ hS (fun _ _ h => h) rfl)
  case s22 =>
    refine step_of [6, 50] (by kernel_rfl) rfl rfl (by kernel_rfl) ?_
    intro x w hS hU K hK
    have u6 : x 6 = .int .i64 n := hU 6 (by simp)
    have u50 : x 50 = .bool true := hU 50 (by simp)
    clear hU
    rw [frameD63] at hK ⊢
    simp only [u6, u50] at hK ⊢
    refine wpOp_step rfl (fun K' hK' => ?_)
    go_simp
    exact hK' _ _ (hK _ _ hS (fun _ _ h => h) rfl)
  case s23 =>
    refine step_of [9, 50] (by kernel_rfl) rfl rfl (by kernel_rfl) ?_
    intro x w hS hU K hK
    have u9 : x 9 = .int .i64 n := hU 9 (by simp)
    have u50 : x 50 = .bool true := hU 50 (by simp)
    clear hU
    rw [frameD63] at hK ⊢
    simp only [u9, u50] at hK ⊢
    refine wpOp_step rfl (fun K' hK' => ?_)
    go_simp
    exact hK' _ _ (hK _ _ hS (fun _ _ h => h) rfl)
  case s24 =>
    refine step_of [51, 52, 50] (by kernel_rfl) rfl rfl (by kernel_rfl) ?_
    intro x w hS hU K hK
    have u51 : x 51 = .int .i64 n := hU 51 (by simp)
    have u52 : x 52 = .int .i64 n := hU 52 (by simp)
    have u50 : x 50 = .bool true := hU 50 (by simp)
    clear hU
    rw [frameD63] at hK ⊢
    simp only [u51, u52, u50] at hK ⊢
    refine wpOp_step rfl (fun K' hK' => ?_)
    go_simp
    exact hK' _ _ (hK _ _ hS (fun _ _ h => h) rfl)
  case s25 =>
    refine step_of [50, 53] (by kernel_rfl) rfl rfl (by kernel_rfl) ?_
    intro x w hS hU K hK
    have u50 : x 50 = .bool true := hU 50 (by simp)
    have u53 : x 53 = .bool true := hU 53 (by simp)
    clear hU
    rw [frameD63] at hK ⊢
    simp only [u50, u53] at hK ⊢
    refine wpOp_step rfl (fun K' hK' => ?_)
    go_simp
    exact hK' _ _ (hK _ _ hS (fun _ _ h => h) rfl)
  case s26 =>
    refine step_of [54] (by kernel_rfl) rfl rfl (by kernel_rfl) ?_
    intro x w hS hU K hK
    have u54 : x 54 = .bool true := hU 54 (by simp)
    clear hU
    rw [frameD63] at hK ⊢
    simp only [u54] at hK ⊢
    refine wpOp_step rfl (fun K' hK' => ?_)
    go_simp
    exact hK' _ _ (hK _ _ hS (fun _ _ h => h) rfl)
  case s27 =>
    refine step_of [7, 55] (by kernel_rfl) rfl rfl (by kernel_rfl) ?_
    intro x w hS hU K hK
    have u7 : x 7 = .int .i64 c := hU 7 (by simp)
    have u55 : x 55 = .bool true := hU 55 (by simp)
    clear hU
    rw [frameD63] at hK ⊢
    simp only [u7, u55] at hK ⊢
    refine wpOp_step rfl (fun K' hK' => ?_)
    go_simp
    exact hK' _ _ (hK _ _ hS (fun _ _ h => h) rfl)
  case s28 =>
    refine step_of [10, 55] (by kernel_rfl) rfl rfl (by kernel_rfl) ?_
    intro x w hS hU K hK
    have u10 : x 10 = .int .i64 c := hU 10 (by simp)
    have u55 : x 55 = .bool true := hU 55 (by simp)
    clear hU
    rw [frameD63] at hK ⊢
    simp only [u10, u55] at hK ⊢
    refine wpOp_step rfl (fun K' hK' => ?_)
    go_simp
    exact hK' _ _ (hK _ _ hS (fun _ _ h => h) rfl)
  case s29 =>
    refine step_of [56, 57, 55] (by kernel_rfl) rfl rfl (by kernel_rfl) ?_
    intro x w hS hU K hK
    have u56 : x 56 = .int .i64 c := hU 56 (by simp)
    have u57 : x 57 = .int .i64 c := hU 57 (by simp)
    have u55 : x 55 = .bool true := hU 55 (by simp)
    clear hU
    rw [frameD63] at hK ⊢
    simp only [u56, u57, u55] at hK ⊢
    refine wpOp_step rfl (fun K' hK' => ?_)
    go_simp
    exact hK' _ _ (hK _ _ hS (fun _ _ h => h) rfl)
  case s30 =>
    refine step_of [55, 58] (by kernel_rfl) rfl rfl (by kernel_rfl) ?_
    intro x w hS hU K hK
    have u55 : x 55 = .bool true := hU 55 (by simp)
    have u58 : x 58 = .bool true := hU 58 (by simp)
    clear hU
    rw [frameD63] at hK ⊢
    simp only [u55, u58] at hK ⊢
    refine wpOp_step rfl (fun K' hK' => ?_)
    go_simp
    exact hK' _ _ (hK _ _ hS (fun _ _ h => h) rfl)
  case s31 =>
    refine step_of [59] (by kernel_rfl) rfl rfl (by kernel_rfl) ?_
    intro x w hS hU K hK
    have u59 : x 59 = .bool true := hU 59 (by simp)
    clear hU
    rw [frameD63] at hK ⊢
    simp only [u59] at hK ⊢
    refine wpOp_step rfl (fun K' hK' => ?_)
    go_simp
    exact hK' _ _ (hK _ _ hS (fun _ _ h => h) rfl)
  case s32 =>
    refine step_of [60] (by kernel_rfl) rfl rfl (by kernel_rfl) ?_
    intro x w hS hU K hK
    have u60 : x 60 = .bool true := hU 60 (by simp)
    clear hU
    rw [frameD63] at hK ⊢
    simp only [u60] at hK ⊢
    refine wpOp_step rfl (fun K' hK' => ?_)
    go_simp
    go_wp2_with (go_at_call 9; refine (HA.out _ (HG.out.on (Fuw.trans FF.out hS.out))).mono ?_; rintro e5 w5 ⟨rfl, f6⟩)
    exact hK _ _ (Lib.hid (Fuw.trans hS.out f6)) (pf_on f6) rfl
  case s33 =>
    refine step_of [60, 61] (by kernel_rfl) rfl rfl (by kernel_rfl) ?_
    intro x w hS hU K hK
    have u60 : x 60 = .bool true := hU 60 (by simp)
    have u61 : x 61 = .bool true := hU 61 (by simp)
    clear hU
    rw [frameD63] at hK ⊢
    simp only [u60, u61] at hK ⊢
    refine wpOp_step rfl (fun K' hK' => ?_)
    go_simp
    exact hK' _ _ (hK _ _ hS (fun _ _ h => h) rfl)
  case s34 =>
    refine step_of [62] (by kernel_rfl) rfl rfl (by kernel_rfl) ?_
    intro x w hS hU K hK
    have u62 : x 62 = .bool true := hU 62 (by simp)
    clear hU
    rw [frameD63] at hK ⊢
    simp only [u62] at hK ⊢
    refine wpOp_step rfl (fun K' hK' => ?_)
    go_simp
    exact hK' _ _ (hK _ _ hS (fun _ _ h => h) rfl)
  case base =>
    refine ⟨by simp, rfl, rfl, Lib.hid (Fuw.drew F0.out), fun t ht hh => ?_⟩
    have hk : kF.getD t 0 = 0 ∨ t ∈ [0, 5, 6, 7, 8, 9, 10] := start_of (by kernel_rfl) t ht hh
    rcases hk with hk | hk
    · rw [hk]; trivial
    · simp only [List.mem_cons, List.not_mem_nil, or_false] at hk
      rcases hk with rfl | rfl | rfl | rfl | rfl | rfl | rfl
      · exact rfl
      · exact ⟨rfl, I1.out.on (Fuw.drew (Fuw.refl _))⟩
      · exact rfl
      · exact rfl
      · exact ⟨rfl, I2.out.on (Fuw.drew (Fuw.refl _))⟩
      · exact rfl
      · exact rfl
  case fin =>
    intro a' w' hN hD hS hU
    have u4 : a'.tmps.getD 4 undef = .bool true := hU 4 (by omega)
    rename_i hk
    refine hk _ _ (wp_ret (bodyPost_ret (results_tmp rfl _ _ _) hD ?_))
    rw [u4]
    exact ⟨rfl, Fuw.trans FF.out hS.out⟩
end Go.Proofs.YtolkdmhjomampaaDoor
