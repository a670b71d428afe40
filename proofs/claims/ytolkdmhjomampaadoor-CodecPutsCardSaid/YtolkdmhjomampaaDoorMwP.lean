/-
  CodecPuts gives true by the contracts of package codec and its reference.
-/
import Derived.Test.YtolkdmhjomampaaDoorCdW
import Derived.Test.YtolkdmhjomampaaDoorMpO
import Derived.Test.YtolkdmhjomampaaDoorMpv
import Derived.Test.YtolkdmhjomampaaDoorMrp
import Derived.Test.YtolkdmhjomampaaDoorDagA
namespace Go.Proofs.YtolkdmhjomampaaDoor
open Go.RowKit

/-- What a slot of the last statement holds once it is written, by the slot's class. -/
def PP (n : Int) (s : ByteArray) (v : Vl) (av : Option Addr) (cv B : Nat) (B1 B2 B3 B4 : List UInt8) : Nat → World → Value → Prop
  | 1, _, u => u = .int .i64 n
  | 2, _, u => u = .string s
  | 3, _, u => u = .pointer (some ⟨B, 0, none⟩)
  | 4, _, u => u = .bool true
  | 5, _, u => u = .agg #[.int .i64 v.kd, .int .i64 v.nn, .int .i64 v.dd, .string (bs v.ss), .slice av v.ll.length cv]
  | 6, w, u => ∃ a k, u = .slice a B1.length k ∧ IsB w a B1 k
  | 7, w, u => ∃ a k, u = .slice a B2.length k ∧ IsB w a B2 k
  | 8, w, u => ∃ a k, u = .slice a B3.length k ∧ IsB w a B3 k
  | 9, w, u => ∃ a k, u = .slice a B4.length k ∧ IsB w a B4 k
  | 10, _, u => u = .string (yb B1)
  | 11, _, u => u = .string (yb B2)
  | 12, _, u => u = .string (yb B3)
  | 13, _, u => u = .string (yb B4)
  | _, _, _ => True
def kP : List Nat := [1, 2, 0, 0, 0, 3, 4, 0, 0, 0, 0, 0, 0, 0, 0, 0, 1, 6, 10, 1, 6, 10, 4, 4, 1, 7, 11, 1, 7, 11, 4, 4, 4, 2, 8, 12, 2, 8, 12, 4, 4, 4, 5, 9, 13, 5, 9, 13, 4, 4, 4, 4, 4]
theorem pp_on {n : Int} {s : ByteArray} {v : Vl} {av : Option Addr} {cv B : Nat} {B1 B2 B3 B4 : List UInt8} {w w' : World} (hf : Fuw w w') :
    ∀ (t : Nat) (u : Value), PP n s v av cv B B1 B2 B3 B4 (kP.getD t 0) w u → PP n s v av cv B B1 B2 B3 B4 (kP.getD t 0) w' u := by
  intro t u
  generalize kP.getD t 0 = k
  intro h
  match k, h with
  | 0, h => exact h
  | 1, h => exact h
  | 2, h => exact h
  | 3, h => exact h
  | 4, h => exact h
  | 5, h => exact h
  | 6, ⟨a, k, h1, h2⟩ => exact ⟨a, k, h1, h2.on hf⟩
  | 7, ⟨a, k, h1, h2⟩ => exact ⟨a, k, h1, h2.on hf⟩
  | 8, ⟨a, k, h1, h2⟩ => exact ⟨a, k, h1, h2.on hf⟩
  | 9, ⟨a, k, h1, h2⟩ => exact ⟨a, k, h1, h2.on hf⟩
  | 10, h => exact h
  | 11, h => exact h
  | 12, h => exact h
  | 13, h => exact h
  | _ + 14, h => exact h
theorem frameD53 (x : Nat → Value) : frameD 53 x = ⟨#[x 0, x 1, x 2, x 3, x 4, x 5, x 6, x 7, x 8, x 9, x 10, x 11, x 12, x 13, x 14, x 15, x 16, x 17, x 18, x 19, x 20, x 21, x 22, x 23, x 24, x 25, x 26, x 27, x 28, x 29, x 30, x 31, x 32, x 33, x 34, x 35, x 36, x 37, x 38, x 39, x 40, x 41, x 42, x 43, x 44, x 45, x 46, x 47, x 48, x 49, x 50, x 51, x 52], []⟩ := rfl

set_option maxHeartbeats 8000000 in
set_option maxRecDepth 4000000 in
theorem puts_in (w : World) (n : Int) (hn0 : -9223372036854775808 ≤ n) (hn1 : n ≤ 9223372036854775807) (s : ByteArray) (v : Vl) (av : Option Addr) (cv : Nat) (hV : Vin v) (hs : SlV w av v.ll cv) (G : Good5 w) (HLV : Alive5) (hz : s.size ≤ 1000) (hsm : smV 21 v = true) :
    Calls Tryd.prog 3 #[.int .i64 n, .string s, vlv v av cv] w (RwC w true) := by
  have HA := Lib.hid HLV
  have HG := Lib.hid G
  have S0 : Hid (∀ w', Fuw w w' → Calls Tryd.prog 8 #[vlv v av cv, .int .i64 0] w' (RetB w' true)) := Lib.hid (fun w' hf => by
    have k := small_any 21 (Nat.le_refl _) v av cv w' hV (hs.onw hf)
    rw [hsm, show (21 : Int) - ((21 : Nat) : Int) = 0 by decide] at k
    exact k)
  obtain ⟨B1, hB1⟩ : ∃ B, putU n = B := ⟨_, rfl⟩
  obtain ⟨B2, hB2⟩ : ∃ B, putI n = B := ⟨_, rfl⟩
  obtain ⟨B3, hB3⟩ : ∃ B, putS s.data.toList = B := ⟨_, rfl⟩
  obtain ⟨B4, hB4⟩ : ∃ B, putVal v = B := ⟨_, rfl⟩
  have P1 := Lib.hid (fun w' => hB1 ▸ put_uint n hn0 hn1 w')
  have R1 := Lib.hid (fun w' => hB1 ▸ rput_uint n hn0 hn1 w')
  have P2 := Lib.hid (fun w' => hB2 ▸ put_int n hn0 hn1 w')
  have R2 := Lib.hid (fun w' => hB2 ▸ rput_int n hn0 hn1 w')
  have P3 := Lib.hid (fun w' => hB3 ▸ put_str s (by omega) w')
  have R3 := Lib.hid (fun w' => hB3 ▸ rput_str s (by omega) w')
  have P4 := Lib.hid (fun w' (hf : Fuw w w') => hB4 ▸ put_value v av cv w' hV (hs.onw hf) (fun hX' => put_small hsm hX'))
  have R4 := Lib.hid (fun w' (hf : Fuw w w') => hB4 ▸ rput_value v av cv w' hV (hs.onw hf) (fun hX' => put_small hsm hX'))
  have hl := hV.s
  unfold maxLen at hl
  obtain ⟨p0, q0⟩ := bx1 w v av cv
  have f0 := q0.b
  clear hB1 hB2 hB3 hB4 G HLV hsm hV hs q0 hl
  unfold vlv at *
  go_enter Tryd.func3, Tryd.ntmps3
  go_upto_region 1 with fail
  obtain ⟨W0, hW⟩ : ∃ W0, w.alloc (.cells #[.int .i64 v.kd, .int .i64 v.nn, .int .i64 v.dd, .string (bs v.ss), .slice av v.ll.length cv] 24) = W0 := ⟨_, rfl⟩
  rw [hW] at p0 f0
  rw [hW]
  clear hW
  obtain ⟨B, hB⟩ : ∃ B, w.heap.size = B := ⟨_, rfl⟩
  rw [hB] at p0
  rw [hB]
  obtain ⟨d0, d1, d2, d3, d4⟩ : _ ∧ _ ∧ _ ∧ _ ∧ _ := ⟨p0.c0, p0.c1, p0.c2, p0.c3, p0.c4⟩
  go_wp2_with fail
  go_at_call 8; refine (S0.out _ f0).mono ?_; rintro e w2 ⟨rfl, f1⟩
  have FF := Lib.hid (Fuw.trans f0 f1.b)
  have PB := Lib.hid (p0.onw f1.b)
  clear S0 d0 d1 d2 d3 d4 p0 f0 f1 hB
  go_upto_region 3 with fail
  have F0 := Lib.hid (Fuw.refl w2)
  refine region_mid (N := 53) (S := fun w => Hid (Fuw w2 w)) (U := fun t => PP n s v av cv B B1 B2 B3 B4 (kP.getD t 0)) (by kernel_rfl) (by kernel_rfl) ?base (upto_succ (n := 37) (upto_succ (n := 36) (upto_succ (n := 35) (upto_succ (n := 34) (upto_succ (n := 33) (upto_succ (n := 32) (upto_succ (n := 31) (upto_succ (n := 30) (upto_succ (n := 29) (upto_succ (n := 28) (upto_succ (n := 27) (upto_succ (n := 26) (upto_succ (n := 25) (upto_succ (n := 24) (upto_succ (n := 23) (upto_succ (n := 22) (upto_succ (n := 21) (upto_succ (n := 20) (upto_succ (n := 19) (upto_succ (n := 18) (upto_succ (n := 17) (upto_succ (n := 16) (upto_succ (n := 15) (upto_succ (n := 14) (upto_succ (n := 13) (upto_succ (n := 12) (upto_succ (n := 11) (upto_succ (n := 10) (upto_succ (n := 9) (upto_succ (n := 8) (upto_succ (n := 7) (upto_succ (n := 6) (upto_succ (n := 5) (upto_succ (n := 4) (upto_succ (n := 3) (upto_succ (n := 2) (upto_succ (n := 1) (upto_succ (n := 0) (upto_nil) ?s0) ?s1) ?s2) ?s3) ?s4) ?s5) ?s6) ?s7) ?s8) ?s9) ?s10) ?s11) ?s12) ?s13) ?s14) ?s15) ?s16) ?s17) ?s18) ?s19) ?s20) ?s21) ?s22) ?s23) ?s24) ?s25) ?s26) ?s27) ?s28) ?s29) ?s30) ?s31) ?s32) ?s33) ?s34) ?s35) ?s36) ?s37) ?fin
  case s0 =>
    refine step_of [0] (by kernel_rfl) rfl rfl (by kernel_rfl) ?_
    intro x w hS hU K hK
    have u0 : x 0 = .int .i64 n := hU 0 (by simp)
    clear hU
    rw [frameD53] at hK ⊢
    simp only [u0] at hK ⊢
    refine wpOp_step rfl (fun K' hK' => ?_)
    go_simp
    exact hK' _ _ (hK _ _ hS (fun _ _ h => h) rfl)
  case s1 =>
    refine step_of [16] (by kernel_rfl) rfl rfl (by kernel_rfl) ?_
    intro x w hS hU K hK
    have u16 : x 16 = .int .i64 n := hU 16 (by simp)
    clear hU
    rw [frameD53] at hK ⊢
    simp only [u16] at hK ⊢
    refine wpOp_step rfl (fun K' hK' => ?_)
    go_simp
    go_wp2_with (go_at_call 10; refine (P1.out _).mono ?_; rintro e5 w5 ⟨a6, c6, rfl, i6, f6⟩)
    exact hK _ _ (Lib.hid (Fuw.trans hS.out f6)) (pp_on f6) ⟨a6, c6, rfl, i6⟩
  case s2 =>
    refine step_of [17] (by kernel_rfl) rfl rfl (by kernel_rfl) ?_
    intro x w hS hU K hK
    obtain ⟨q17, k17, u17, i17⟩ : ∃ a k, x 17 = .slice a B1.length k ∧ IsB w a B1 k := hU 17 (by simp)
    clear hU
    rw [frameD53] at hK ⊢
    simp only [u17] at hK ⊢
    refine wpOp_step rfl (fun K' hK' => ?_)
    have hcv := conv_bytes i17
    go_simp
    exact hK' _ _ (hK _ _ hS (fun _ _ h => h) rfl)
  case s3 =>
    refine step_of [0] (by kernel_rfl) rfl rfl (by kernel_rfl) ?_
    intro x w hS hU K hK
    have u0 : x 0 = .int .i64 n := hU 0 (by simp)
    clear hU
    rw [frameD53] at hK ⊢
    simp only [u0] at hK ⊢
    refine wpOp_step rfl (fun K' hK' => ?_)
    go_simp
    exact hK' _ _ (hK _ _ hS (fun _ _ h => h) rfl)
  case s4 =>
    refine step_of [19] (by kernel_rfl) rfl rfl (by kernel_rfl) ?_
    intro x w hS hU K hK
    have u19 : x 19 = .int .i64 n := hU 19 (by simp)
    clear hU
    rw [frameD53] at hK ⊢
    simp only [u19] at hK ⊢
    refine wpOp_step rfl (fun K' hK' => ?_)
    go_simp
    go_wp2_with (go_at_call 11; refine (R1.out _).mono ?_; rintro e5 w5 ⟨a6, c6, rfl, i6, f6⟩)
    exact hK _ _ (Lib.hid (Fuw.trans hS.out f6)) (pp_on f6) ⟨a6, c6, rfl, i6⟩
  case s5 =>
    refine step_of [20] (by kernel_rfl) rfl rfl (by kernel_rfl) ?_
    intro x w hS hU K hK
    obtain ⟨q20, k20, u20, i20⟩ : ∃ a k, x 20 = .slice a B1.length k ∧ IsB w a B1 k := hU 20 (by simp)
    clear hU
    rw [frameD53] at hK ⊢
    simp only [u20] at hK ⊢
    refine wpOp_step rfl (fun K' hK' => ?_)
    have hcv := conv_bytes i20
    go_simp
    exact hK' _ _ (hK _ _ hS (fun _ _ h => h) rfl)
  case s6 =>
    refine step_of [18, 21] (by kernel_rfl) rfl rfl (by kernel_rfl) ?_
    intro x w hS hU K hK
    have u18 : x 18 = .string (yb B1) := hU 18 (by simp)
    have u21 : x 21 = .string (yb B1) := hU 21 (by simp)
    clear hU
    rw [frameD53] at hK ⊢
    simp only [u18, u21] at hK ⊢
    refine wpOp_step rfl (fun K' hK' => ?_)
    have hT : ((yb B1).toList == (yb B1).toList) = true := beq_self_eq_true _
    go_simp
    exact hK' _ _ (hK _ _ hS (fun _ _ h => h) rfl)
  case s7 =>
    refine step_of [22] (by kernel_rfl) rfl rfl (by kernel_rfl) ?_
    intro x w hS hU K hK
    have u22 : x 22 = .bool true := hU 22 (by simp)
    clear hU
    rw [frameD53] at hK ⊢
    simp only [u22] at hK ⊢
    refine wpOp_step rfl (fun K' hK' => ?_)
    go_simp
    exact hK' _ _ (hK _ _ hS (fun _ _ h => h) rfl)
  case s8 =>
    refine step_of [0, 23] (by kernel_rfl) rfl rfl (by kernel_rfl) ?_
    intro x w hS hU K hK
    have u0 : x 0 = .int .i64 n := hU 0 (by simp)
    have u23 : x 23 = .bool true := hU 23 (by simp)
    clear hU
    rw [frameD53] at hK ⊢
    simp only [u0, u23] at hK ⊢
    refine wpOp_step rfl (fun K' hK' => ?_)
    go_simp
    exact hK' _ _ (hK _ _ hS (fun _ _ h => h) rfl)
  case s9 =>
    refine step_of [24, 23] (by kernel_rfl) rfl rfl (by kernel_rfl) ?_
    intro x w hS hU K hK
    have u24 : x 24 = .int .i64 n := hU 24 (by simp)
    have u23 : x 23 = .bool true := hU 23 (by simp)
    clear hU
    rw [frameD53] at hK ⊢
    simp only [u24, u23] at hK ⊢
    refine wpOp_step rfl (fun K' hK' => ?_)
    go_simp
    go_wp2_with (go_at_call 12; refine (P2.out _).mono ?_; rintro e5 w5 ⟨a6, c6, rfl, i6, f6⟩)
    exact hK _ _ (Lib.hid (Fuw.trans hS.out f6)) (pp_on f6) ⟨a6, c6, rfl, i6⟩
  case s10 =>
    refine step_of [25, 23] (by kernel_rfl) rfl rfl (by kernel_rfl) ?_
    intro x w hS hU K hK
    obtain ⟨q25, k25, u25, i25⟩ : ∃ a k, x 25 = .slice a B2.length k ∧ IsB w a B2 k := hU 25 (by simp)
    have u23 : x 23 = .bool true := hU 23 (by simp)
    clear hU
    rw [frameD53] at hK ⊢
    simp only [u25, u23] at hK ⊢
    refine wpOp_step rfl (fun K' hK' => ?_)
    have hcv := conv_bytes i25
    go_simp
    exact hK' _ _ (hK _ _ hS (fun _ _ h => h) rfl)
  case s11 =>
    refine step_of [0, 23] (by kernel_rfl) rfl rfl (by kernel_rfl) ?_
    intro x w hS hU K hK
    have u0 : x 0 = .int .i64 n := hU 0 (by simp)
    have u23 : x 23 = .bool true := hU 23 (by simp)
    clear hU
    rw [frameD53] at hK ⊢
    simp only [u0, u23] at hK ⊢
    refine wpOp_step rfl (fun K' hK' => ?_)
    go_simp
    exact hK' _ _ (hK _ _ hS (fun _ _ h => h) rfl)
  case s12 =>
    refine step_of [27, 23] (by kernel_rfl) rfl rfl (by kernel_rfl) ?_
    intro x w hS hU K hK
    have u27 : x 27 = .int .i64 n := hU 27 (by simp)
    have u23 : x 23 = .bool true := hU 23 (by simp)
    clear hU
    rw [frameD53] at hK ⊢
    simp only [u27, u23] at hK ⊢
    refine wpOp_step rfl (fun K' hK' => ?_)
    go_simp
    go_wp2_with (go_at_call 13; refine (R2.out _).mono ?_; rintro e5 w5 ⟨a6, c6, rfl, i6, f6⟩)
    exact hK _ _ (Lib.hid (Fuw.trans hS.out f6)) (pp_on f6) ⟨a6, c6, rfl, i6⟩
  case s13 =>
    refine step_of [28, 23] (by kernel_rfl) rfl rfl (by kernel_rfl) ?_
    intro x w hS hU K hK
    obtain ⟨q28, k28, u28, i28⟩ : ∃ a k, x 28 = .slice a B2.length k ∧ IsB w a B2 k := hU 28 (by simp)
    have u23 : x 23 = .bool true := hU 23 (by simp)
    clear hU
    rw [frameD53] at hK ⊢
    simp only [u28, u23] at hK ⊢
    refine wpOp_step rfl (fun K' hK' => ?_)
    have hcv := conv_bytes i28
    go_simp
    exact hK' _ _ (hK _ _ hS (fun _ _ h => h) rfl)
  case s14 =>
    refine step_of [26, 29, 23] (by kernel_rfl) rfl rfl (by kernel_rfl) ?_
    intro x w hS hU K hK
    have u26 : x 26 = .string (yb B2) := hU 26 (by simp)
    have u29 : x 29 = .string (yb B2) := hU 29 (by simp)
    have u23 : x 23 = .bool true := hU 23 (by simp)
    clear hU
    rw [frameD53] at hK ⊢
    simp only [u26, u29, u23] at hK ⊢
    refine wpOp_step rfl (fun K' hK' => ?_)
    have hT : ((yb B2).toList == (yb B2).toList) = true := beq_self_eq_true _
    go_simp
    exact hK' _ _ (hK _ _ hS (fun _ _ h => h) rfl)
  case s15 =>
    refine step_of [23, 30] (by kernel_rfl) rfl rfl (by kernel_rfl) ?_
    intro x w hS hU K hK
    have u23 : x 23 = .bool true := hU 23 (by simp)
    have u30 : x 30 = .bool true := hU 30 (by simp)
    clear hU
    rw [frameD53] at hK ⊢
    simp only [u23, u30] at hK ⊢
    refine wpOp_step rfl (fun K' hK' => ?_)
    go_simp
    exact hK' _ _ (hK _ _ hS (fun _ _ h => h) rfl)
  case s16 =>
    refine step_of [31] (by kernel_rfl) rfl rfl (by kernel_rfl) ?_
    intro x w hS hU K hK
    have u31 : x 31 = .bool true := hU 31 (by simp)
    clear hU
    rw [frameD53] at hK ⊢
    simp only [u31] at hK ⊢
    refine wpOp_step rfl (fun K' hK' => ?_)
    go_simp
    exact hK' _ _ (hK _ _ hS (fun _ _ h => h) rfl)
  case s17 =>
    refine step_of [1, 32] (by kernel_rfl) rfl rfl (by kernel_rfl) ?_
    intro x w hS hU K hK
    have u1 : x 1 = .string s := hU 1 (by simp)
    have u32 : x 32 = .bool true := hU 32 (by simp)
    clear hU
    rw [frameD53] at hK ⊢
    simp only [u1, u32] at hK ⊢
    refine wpOp_step rfl (fun K' hK' => ?_)
    go_simp
    exact hK' _ _ (hK _ _ hS (fun _ _ h => h) rfl)
  case s18 =>
    refine step_of [33, 32] (by kernel_rfl) rfl rfl (by kernel_rfl) ?_
    intro x w hS hU K hK
    have u33 : x 33 = .string s := hU 33 (by simp)
    have u32 : x 32 = .bool true := hU 32 (by simp)
    clear hU
    rw [frameD53] at hK ⊢
    simp only [u33, u32] at hK ⊢
    refine wpOp_step rfl (fun K' hK' => ?_)
    go_simp
    go_wp2_with (go_at_call 14; refine (P3.out _).mono ?_; rintro e5 w5 ⟨a6, c6, rfl, i6, f6⟩)
    exact hK _ _ (Lib.hid (Fuw.trans hS.out f6)) (pp_on f6) ⟨a6, c6, rfl, i6⟩
  case s19 =>
    refine step_of [34, 32] (by kernel_rfl) rfl rfl (by kernel_rfl) ?_
    intro x w hS hU K hK
    obtain ⟨q34, k34, u34, i34⟩ : ∃ a k, x 34 = .slice a B3.length k ∧ IsB w a B3 k := hU 34 (by simp)
    have u32 : x 32 = .bool true := hU 32 (by simp)
    clear hU
    rw [frameD53] at hK ⊢
    simp only [u34, u32] at hK ⊢
    refine wpOp_step rfl (fun K' hK' => ?_)
    have hcv := conv_bytes i34
    go_simp
    exact hK' _ _ (hK _ _ hS (fun _ _ h => h) rfl)
  case s20 =>
    refine step_of [1, 32] (by kernel_rfl) rfl rfl (by kernel_rfl) ?_
    intro x w hS hU K hK
    have u1 : x 1 = .string s := hU 1 (by simp)
    have u32 : x 32 = .bool true := hU 32 (by simp)
    clear hU
    rw [frameD53] at hK ⊢
    simp only [u1, u32] at hK ⊢
    refine wpOp_step rfl (fun K' hK' => ?_)
    go_simp
    exact hK' _ _ (hK _ _ hS (fun _ _ h => h) rfl)
  case s21 =>
    refine step_of [36, 32] (by kernel_rfl) rfl rfl (by kernel_rfl) ?_
    intro x w hS hU K hK
    have u36 : x 36 = .string s := hU 36 (by simp)
    have u32 : x 32 = .bool true := hU 32 (by simp)
    clear hU
    rw [frameD53] at hK ⊢
    simp only [u36, u32] at hK ⊢
    refine wpOp_step rfl (fun K' hK' => ?_)
    go_simp
    go_wp2_with (go_at_call 15; refine (R3.out _).mono ?_; rintro e5 w5 ⟨a6, c6, rfl, i6, f6⟩)
    exact hK _ _ (Lib.hid (Fuw.trans hS.out f6)) (pp_on f6) ⟨a6, c6, rfl, i6⟩
  case s22 =>
    refine step_of [37, 32] (by kernel_rfl) rfl rfl (by kernel_rfl) ?_
    intro x w hS hU K hK
    obtain ⟨q37, k37, u37, i37⟩ : ∃ a k, x 37 = .slice a B3.length k ∧ IsB w a B3 k := hU 37 (by simp)
    have u32 : x 32 = .bool true := hU 32 (by simp)
    clear hU
    rw [frameD53] at hK ⊢
    simp only [u37, u32] at hK ⊢
    refine wpOp_step rfl (fun K' hK' => ?_)
    have hcv := conv_bytes i37
    go_simp
    exact hK' _ _ (hK _ _ hS (fun _ _ h => h) rfl)
  case s23 =>
    refine step_of [35, 38, 32] (by kernel_rfl) rfl rfl (by kernel_rfl) ?_
    intro x w hS hU K hK
    have u35 : x 35 = .string (yb B3) := hU 35 (by simp)
    have u38 : x 38 = .string (yb B3) := hU 38 (by simp)
    have u32 : x 32 = .bool true := hU 32 (by simp)
    clear hU
    rw [frameD53] at hK ⊢
    simp only [u35, u38, u32] at hK ⊢
    refine wpOp_step rfl (fun K' hK' => ?_)
    have hT : ((yb B3).toList == (yb B3).toList) = true := beq_self_eq_true _
    go_simp
    exact hK' _ _ (hK _ _ hS (fun _ _ h => h) rfl)
  case s24 =>
    refine step_of [32, 39] (by kernel_rfl) rfl rfl (by kernel_rfl) ?_
    intro x w hS hU K hK
    have u32 : x 32 = .bool true := hU 32 (by simp)
    have u39 : x 39 = .bool true := hU 39 (by simp)
    clear hU
    rw [frameD53] at hK ⊢
    simp only [u32, u39] at hK ⊢
    refine wpOp_step rfl (fun K' hK' => ?_)
    go_simp
    exact hK' _ _ (hK _ _ hS (fun _ _ h => h) rfl)
  case s25 =>
    refine step_of [40] (by kernel_rfl) rfl rfl (by kernel_rfl) ?_
    intro x w hS hU K hK
    have u40 : x 40 = .bool true := hU 40 (by simp)
    clear hU
    rw [frameD53] at hK ⊢
    simp only [u40] at hK ⊢
    refine wpOp_step rfl (fun K' hK' => ?_)
    go_simp
    exact hK' _ _ (hK _ _ hS (fun _ _ h => h) rfl)
  case s26 =>
    refine step_of [5, 41] (by kernel_rfl) rfl rfl (by kernel_rfl) ?_
    intro x w hS hU K hK
    have u5 : x 5 = .pointer (some ⟨B, 0, none⟩) := hU 5 (by simp)
    have u41 : x 41 = .bool true := hU 41 (by simp)
    clear hU
    rw [frameD53] at hK ⊢
    simp only [u5, u41] at hK ⊢
    refine wpOp_step rfl (fun K' hK' => ?_)
    have d0 := (PB.out.onw hS.out).c0
    have d1 := (PB.out.onw hS.out).c1
    have d2 := (PB.out.onw hS.out).c2
    have d3 := (PB.out.onw hS.out).c3
    have d4 := (PB.out.onw hS.out).c4
    go_simp
    exact hK' _ _ (hK _ _ hS (fun _ _ h => h) rfl)
  case s27 =>
    refine step_of [42, 41] (by kernel_rfl) rfl rfl (by kernel_rfl) ?_
    intro x w hS hU K hK
    have u42 : x 42 = .agg #[.int .i64 v.kd, .int .i64 v.nn, .int .i64 v.dd, .string (bs v.ss), .slice av v.ll.length cv] := hU 42 (by simp)
    have u41 : x 41 = .bool true := hU 41 (by simp)
    clear hU
    rw [frameD53] at hK ⊢
    simp only [u42, u41] at hK ⊢
    refine wpOp_step rfl (fun K' hK' => ?_)
    go_simp
    go_wp2_with (go_at_call 16; refine (P4.out _ (Fuw.trans FF.out hS.out)).mono ?_; rintro e5 w5 ⟨a6, c6, rfl, i6, f6⟩)
    exact hK _ _ (Lib.hid (Fuw.trans hS.out f6)) (pp_on f6) ⟨a6, c6, rfl, i6⟩
  case s28 =>
    refine step_of [43, 41] (by kernel_rfl) rfl rfl (by kernel_rfl) ?_
    intro x w hS hU K hK
    obtain ⟨q43, k43, u43, i43⟩ : ∃ a k, x 43 = .slice a B4.length k ∧ IsB w a B4 k := hU 43 (by simp)
    have u41 : x 41 = .bool true := hU 41 (by simp)
    clear hU
    rw [frameD53] at hK ⊢
    simp only [u43, u41] at hK ⊢
    refine wpOp_step rfl (fun K' hK' => ?_)
    have hcv := conv_bytes i43
    go_simp
    exact hK' _ _ (hK _ _ hS (fun _ _ h => h) rfl)
  case s29 =>
    refine step_of [5, 41] (by kernel_rfl) rfl rfl (by kernel_rfl) ?_
    intro x w hS hU K hK
    have u5 : x 5 = .pointer (some ⟨B, 0, none⟩) := hU 5 (by simp)
    have u41 : x 41 = .bool true := hU 41 (by simp)
    clear hU
    rw [frameD53] at hK ⊢
    simp only [u5, u41] at hK ⊢
    refine wpOp_step rfl (fun K' hK' => ?_)
    have d0 := (PB.out.onw hS.out).c0
    have d1 := (PB.out.onw hS.out).c1
    have d2 := (PB.out.onw hS.out).c2
    have d3 := (PB.out.onw hS.out).c3
    have d4 := (PB.out.onw hS.out).c4
    go_simp
    exact hK' _ _ (hK _ _ hS (fun _ _ h => h) rfl)
  case s30 =>
    refine step_of [45, 41] (by kernel_rfl) rfl rfl (by kernel_rfl) ?_
    intro x w hS hU K hK
    have u45 : x 45 = .agg #[.int .i64 v.kd, .int .i64 v.nn, .int .i64 v.dd, .string (bs v.ss), .slice av v.ll.length cv] := hU 45 (by simp)
    have u41 : x 41 = .bool true := hU 41 (by simp)
    clear hU
    rw [frameD53] at hK ⊢
    simp only [u45, u41] at hK ⊢
    refine wpOp_step rfl (fun K' hK' => ?_)
    go_simp
    go_wp2_with (go_at_call 17; refine (R4.out _ (Fuw.trans FF.out hS.out)).mono ?_; rintro e5 w5 ⟨a6, c6, rfl, i6, f6⟩)
    exact hK _ _ (Lib.hid (Fuw.trans hS.out f6)) (pp_on f6) ⟨a6, c6, rfl, i6⟩
  case s31 =>
    refine step_of [46, 41] (by kernel_rfl) rfl rfl (by kernel_rfl) ?_
    intro x w hS hU K hK
    obtain ⟨q46, k46, u46, i46⟩ : ∃ a k, x 46 = .slice a B4.length k ∧ IsB w a B4 k := hU 46 (by simp)
    have u41 : x 41 = .bool true := hU 41 (by simp)
    clear hU
    rw [frameD53] at hK ⊢
    simp only [u46, u41] at hK ⊢
    refine wpOp_step rfl (fun K' hK' => ?_)
    have hcv := conv_bytes i46
    go_simp
    exact hK' _ _ (hK _ _ hS (fun _ _ h => h) rfl)
  case s32 =>
    refine step_of [44, 47, 41] (by kernel_rfl) rfl rfl (by kernel_rfl) ?_
    intro x w hS hU K hK
    have u44 : x 44 = .string (yb B4) := hU 44 (by simp)
    have u47 : x 47 = .string (yb B4) := hU 47 (by simp)
    have u41 : x 41 = .bool true := hU 41 (by simp)
    clear hU
    rw [frameD53] at hK ⊢
    simp only [u44, u47, u41] at hK ⊢
    refine wpOp_step rfl (fun K' hK' => ?_)
    have hT : ((yb B4).toList == (yb B4).toList) = true := beq_self_eq_true _
    go_simp
    exact hK' _ _ (hK _ _ hS (fun _ _ h => h) rfl)
  case s33 =>
    refine step_of [41, 48] (by kernel_rfl) rfl rfl (by kernel_rfl) ?_
    intro x w hS hU K hK
    have u41 : x 41 = .bool true := hU 41 (by simp)
    have u48 : x 48 = .bool true := hU 48 (by simp)
    clear hU
    rw [frameD53] at hK ⊢
    simp only [u41, u48] at hK ⊢
    refine wpOp_step rfl (fun K' hK' => ?_)
    go_simp
    exact hK' _ _ (hK _ _ hS (fun _ _ h => h) rfl)
  case s34 =>
    refine step_of [49] (by kernel_rfl) rfl rfl (by kernel_rfl) ?_
    intro x w hS hU K hK
    have u49 : x 49 = .bool true := hU 49 (by simp)
    clear hU
    rw [frameD53] at hK ⊢
    simp only [u49] at hK ⊢
    refine wpOp_step rfl (fun K' hK' => ?_)
    go_simp
    exact hK' _ _ (hK _ _ hS (fun _ _ h => h) rfl)
  case s35 =>
    refine step_of [50] (by kernel_rfl) rfl rfl (by kernel_rfl) ?_
    intro x w hS hU K hK
    have u50 : x 50 = .bool true := hU 50 (by simp)
    clear hU
    rw [frameD53] at hK ⊢
    simp only [u50] at hK ⊢
    refine wpOp_step rfl (fun K' hK' => ?_)
    go_simp
    go_wp2_with (go_at_call 9; refine (HA.out _ (HG.out.on (Fuw.trans FF.out hS.out))).mono ?_; rintro e5 w5 ⟨rfl, f6⟩)
    exact hK _ _ (Lib.hid (Fuw.trans hS.out f6)) (pp_on f6) rfl
  case s36 =>
    refine step_of [50, 51] (by kernel_rfl) rfl rfl (by kernel_rfl) ?_
    intro x w hS hU K hK
    have u50 : x 50 = .bool true := hU 50 (by simp)
    have u51 : x 51 = .bool true := hU 51 (by simp)
    clear hU
    rw [frameD53] at hK ⊢
    simp only [u50, u51] at hK ⊢
    refine wpOp_step rfl (fun K' hK' => ?_)
    go_simp
    exact hK' _ _ (hK _ _ hS (fun _ _ h => h) rfl)
  case s37 =>
    refine step_of [52] (by kernel_rfl) rfl rfl (by kernel_rfl) ?_
    intro x w hS hU K hK
    have u52 : x 52 = .bool true := hU 52 (by simp)
    clear hU
    rw [frameD53] at hK ⊢
    simp only [u52] at hK ⊢
    refine wpOp_step rfl (fun K' hK' => ?_)
    go_simp
    exact hK' _ _ (hK _ _ hS (fun _ _ h => h) rfl)
  case base =>
    refine ⟨by simp, rfl, rfl, Lib.hid (Fuw.drew F0.out), fun t ht hh => ?_⟩
    have hk : kP.getD t 0 = 0 ∨ t ∈ [0, 1, 5] := start_of (by kernel_rfl) t ht hh
    rcases hk with hk | hk
    · rw [hk]; trivial
    · simp only [List.mem_cons, List.not_mem_nil, or_false] at hk
      rcases hk with rfl | rfl | rfl
      · exact rfl
      · exact rfl
      · exact rfl
  case fin =>
    intro a' w' hN hD hS hU
    have u6 : a'.tmps.getD 6 undef = .bool true := hU 6 (by omega)
    rename_i hk
    refine hk _ _ (wp_ret (bodyPost_ret (results_tmp rfl _ _ _) hD ?_))
    rw [u6]
    exact ⟨rfl, Fuw.trans FF.out hS.out⟩

set_option maxHeartbeats 8000000 in
set_option maxRecDepth 4000000 in
theorem puts_any (w : World) (n : Int) (hn0 : -9223372036854775808 ≤ n) (hn1 : n ≤ 9223372036854775807) (s : ByteArray) (v : Vl) (av : Option Addr) (cv : Nat) (hV : Vin v) (hs : SlV w av v.ll cv) (G : Good5 w) (HLV : Alive5) (hmax : s.size ≤ 9223372036854775807) :
    Calls Tryd.prog 3 #[.int .i64 n, .string s, vlv v av cv] w (RwC w true) := by
  by_cases hz : 1000 < s.size
  · have HA := Lib.hid HLV
    have HG := Lib.hid G
    obtain ⟨p0, q0⟩ := bx1 w v av cv
    have f0 := q0.b
    clear G HLV hV hs q0
    unfold vlv at *
    go_enter Tryd.func3, Tryd.ntmps3
    go_upto_region 1 with fail
    obtain ⟨W0, hW⟩ : ∃ W0, w.alloc (.cells #[.int .i64 v.kd, .int .i64 v.nn, .int .i64 v.dd, .string (bs v.ss), .slice av v.ll.length cv] 24) = W0 := ⟨_, rfl⟩
    rw [hW] at p0 f0
    rw [hW]
    clear hW
    obtain ⟨d0, d1, d2, d3, d4⟩ : _ ∧ _ ∧ _ ∧ _ ∧ _ := ⟨p0.c0, p0.c1, p0.c2, p0.c3, p0.c4⟩
    clear d0 d1 d2 d3 d4 p0
    have F1 := Lib.hid f0
    clear f0
    go_wp2_with fail
    go_at_call 9; refine (HA.out _ (HG.out.on F1.out)).mono ?_; rintro e w9 ⟨rfl, f9⟩
    go_wp2
    go_ret
    exact ⟨rfl, Fuw.trans F1.out f9⟩
  cases hsm : smV 21 v
  · have S0 : Hid (∀ w', Fuw w w' → Calls Tryd.prog 8 #[vlv v av cv, .int .i64 0] w' (RetB w' false)) := Lib.hid (fun w' hf => by
      have k := small_any 21 (Nat.le_refl _) v av cv w' hV (hs.onw hf)
      rw [hsm, show (21 : Int) - ((21 : Nat) : Int) = 0 by decide] at k
      exact k)
    have HA := Lib.hid HLV
    have HG := Lib.hid G
    obtain ⟨p0, q0⟩ := bx1 w v av cv
    have f0 := q0.b
    clear G HLV hsm hV hs q0
    unfold vlv at *
    go_enter Tryd.func3, Tryd.ntmps3
    go_upto_region 1 with fail
    obtain ⟨W0, hW⟩ : ∃ W0, w.alloc (.cells #[.int .i64 v.kd, .int .i64 v.nn, .int .i64 v.dd, .string (bs v.ss), .slice av v.ll.length cv] 24) = W0 := ⟨_, rfl⟩
    rw [hW] at p0 f0
    rw [hW]
    clear hW
    obtain ⟨d0, d1, d2, d3, d4⟩ : _ ∧ _ ∧ _ ∧ _ ∧ _ := ⟨p0.c0, p0.c1, p0.c2, p0.c3, p0.c4⟩
    go_wp2_with fail
    go_at_call 8; refine (S0.out _ f0).mono ?_; rintro e w1 ⟨rfl, f1⟩
    clear d0 d1 d2 d3 d4 p0
    have F1 := Lib.hid (Fuw.trans f0 f1.b)
    clear f0 f1
    go_wp2_with fail
    go_at_call 9; refine (HA.out _ (HG.out.on F1.out)).mono ?_; rintro e w9 ⟨rfl, f9⟩
    go_wp2
    go_ret
    exact ⟨rfl, Fuw.trans F1.out f9⟩
  · exact puts_in w n hn0 hn1 s v av cv hV hs G HLV (by omega) hsm
end Go.Proofs.YtolkdmhjomampaaDoor
