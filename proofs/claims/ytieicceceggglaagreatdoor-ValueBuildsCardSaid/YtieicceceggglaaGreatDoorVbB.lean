/-
  ValueBuilds gives true by the contracts of package value and its reference.
-/
import Derived.Test.YtieicceceggglaaGreatDoorVbA
import Derived.Test.YtieicceceggglaaGreatDoorLvP
namespace Go.Proofs.YtieicceceggglaaGreatDoor
open Go.RowKit

theorem sl_nil (w : World) : SlV w none [] 0 := ⟨Nat.le_refl _, Nat.zero_le _, fun _ => rfl, fun h => absurd h (by decide)⟩
theorem lsame_self (x : Vl) (ao bo : Option Addr) (ca cb : Nat) (w : World) (hs : SlV w ao x.ll ca) (hs' : SlV w bo x.ll cb) : Calls Tryz.prog 26 #[vlv x ao ca, vlv x bo cb] w (RetB w true) := by
  have k := lsame_by x x (fun u _ v _ => lsame_all u v) ao bo ca cb w hs hs'
  rwa [samB_t.2 rfl] at k
/-- What a slot of the last test holds once it is written, by the slot's class. -/
def VbU (n c : Int) (s : List UInt8) (l : List Vl) (ao : Option Addr) (cap : Nat) : Nat → World → Value → Prop
  | 1, _, v => v = .bool false
  | 2, _, v => v = .bool true
  | 3, _, v => v = .int .i64 n
  | 4, _, v => v = .bool (decide (0 < n))
  | 5, _, v => v = .agg #[.int .i64 n, .int .i64 l.length]
  | 6, _, v => v = .string (bs s)
  | 7, _, v => v = .slice ao l.length cap
  | 10, _, v => v = vlv (.mk 0 0 0 [] []) none 0
  | 11, _, v => v = vlv (.mk 1 c 0 [] []) none 0
  | 12, _, v => v = vlv (.mk 2 n 0 [] []) none 0
  | 13, _, v => v = vlv (.mk (ratK l.length) n (ratD l.length) [] []) none 0
  | 14, _, v => v = vlv (.mk 4 0 0 s []) none 0
  | 15, _, v => v = vlv (.mk 5 n 0 [] []) none 0
  | 16, _, v => v = vlv (.mk 6 n 0 [] []) none 0
  | 17, _, v => v = vlv (.mk 8 0 0 [] l) ao cap
  | 18, w, v => ∃ a k, v = vlv (.mk 8 0 0 [] l) a k ∧ SlV w a l k
  | 19, _, v => v = vlv (.mk 7 0 0 [] l) ao cap
  | 20, w, v => ∃ a k, v = vlv (.mk 7 0 0 [] l) a k ∧ SlV w a l k
  | _, _, _ => True
def kVb : List Nat := [0, 0, 0, 0, 0, 0, 0, 0, 0, 0, 0, 0, 0, 0, 0, 0, 0, 0, 0, 0, 0, 10, 10, 2, 1, 1, 3, 4, 11, 3, 4, 11, 2, 1, 1, 1, 3, 12, 3, 12, 2, 1, 1, 1, 5, 13, 5, 13, 2, 1, 1, 1, 6, 14, 6, 14, 2, 1, 1, 1, 3, 15, 3, 15, 2, 1, 1, 1, 3, 16, 3, 16, 2, 1, 1, 1, 7, 17, 7, 18, 2, 1, 1, 1, 7, 19, 7, 20, 2, 1, 1, 0]
theorem vbu_on {n c : Int} {s : List UInt8} {l : List Vl} {ao : Option Addr} {cap : Nat} {w w' : World} (hf : Fuw w w') :
    ∀ (k : Nat) (u : Value), VbU n c s l ao cap k w u → VbU n c s l ao cap k w' u := by
  intro k u h
  match k, h with
  | 0, h => exact h
  | 1, h => exact h
  | 2, h => exact h
  | 3, h => exact h
  | 4, h => exact h
  | 5, h => exact h
  | 6, h => exact h
  | 7, h => exact h
  | 8, h => exact h
  | 9, h => exact h
  | 10, h => exact h
  | 11, h => exact h
  | 12, h => exact h
  | 13, h => exact h
  | 14, h => exact h
  | 15, h => exact h
  | 16, h => exact h
  | 17, h => exact h
  | 18, ⟨a, k, h1, h2⟩ => exact ⟨a, k, h1, h2.onw hf⟩
  | 19, h => exact h
  | 20, ⟨a, k, h1, h2⟩ => exact ⟨a, k, h1, h2.onw hf⟩
  | _ + 21, h => exact h
theorem frameD92 (x : Nat → Value) : frameD 92 x = ⟨#[x 0, x 1, x 2, x 3, x 4, x 5, x 6, x 7, x 8, x 9, x 10, x 11, x 12, x 13, x 14, x 15, x 16, x 17, x 18, x 19, x 20, x 21, x 22, x 23, x 24, x 25, x 26, x 27, x 28, x 29, x 30, x 31, x 32, x 33, x 34, x 35, x 36, x 37, x 38, x 39, x 40, x 41, x 42, x 43, x 44, x 45, x 46, x 47, x 48, x 49, x 50, x 51, x 52, x 53, x 54, x 55, x 56, x 57, x 58, x 59, x 60, x 61, x 62, x 63, x 64, x 65, x 66, x 67, x 68, x 69, x 70, x 71, x 72, x 73, x 74, x 75, x 76, x 77, x 78, x 79, x 80, x 81, x 82, x 83, x 84, x 85, x 86, x 87, x 88, x 89, x 90, x 91], []⟩ := rfl
set_option maxHeartbeats 12800000 in
set_option maxRecDepth 100000 in
theorem builds_any (n : Int) (s : ByteArray) (l : List Vl) (ao : Option Addr) (cap : Nat) (w : World) (hn : I64 n) (hz : s.size ≤ 9223372036854775807) (hs : SlV w ao l cap) (hin : ∀ x ∈ l, Vin x) (G : Good w) :
    Calls Tryz.prog 5 #[.int .i64 n, .string s, .slice ao l.length cap] w (RwB w true) := by
  have l1 := hs.le
  have l2 := hs.max
  unfold maxLen at l2
  have hn1 := hn.1
  have hn2 := hn.2
  obtain ⟨S, rfl⟩ : ∃ S, s = bs S := ⟨s.data.toList, by simp [bs]⟩
  obtain ⟨w0, hw0⟩ : ∃ w0, w0 = w.alloc (.cells #[.int .i64 n, .int .i64 l.length] 28) := ⟨_, rfl⟩
  have F0 := Lib.hid (show Fuw w w0 from by rw [hw0]; exact fuwA _ _)
  have P0 := Lib.hid (show Bk w0 w.heap.size #[.int .i64 n, .int .i64 l.length] 28 from by rw [hw0]; exact Bk.new _ _ _)
  have HW0 := Lib.hid hw0
  have HS := Lib.hid hs
  have HG := Lib.hid G
  have HN := Lib.hid hn
  have HI := Lib.hid hin
  have HSM := Lib.hid (lsmall_any l ao cap w0 (hs.onw F0.out))
  have HL := Lib.hid (fun h => lite_sizL (l := l) h)
  clear hs G hn hin hw0
  cases hq : lite l with
  | false =>
    rw [hq] at HSM
    clear hq
    go_enter Tryz.func5, Tryz.ntmps5
    go_upto_region 2 with fail
    rw [← HW0.out]
    go_wp2_with fail
    go_at_call 6; refine HSM.out.mono ?_; rintro e1 w1 ⟨rfl, f1⟩
    have F1 := Lib.hid (F0.out.trans f1.b)
    clear f1
    go_wp2_with fail
    go_at_call 7; refine (alive_any _ (HG.out.onw F1.out)).mono ?_; rintro e2 w2 ⟨rfl, f2⟩
    have F2 := Lib.hid (F1.out.trans f2)
    clear f2
    go_wp2
    go_ret
    exact ⟨rfl, F2.out⟩
  | true =>
    rw [hq] at HSM
    have HZ := Lib.hid (HL.out hq)
    clear hq
    by_cases hbig : 1000 < (bs S).size
    · have hbig' : (1000 : Int) < ((bs S).size : Int) := by omega
      go_enter Tryz.func5, Tryz.ntmps5
      go_upto_region 2 with fail
      rw [← HW0.out]
      go_wp2_with fail
      go_at_call 6; refine HSM.out.mono ?_; rintro e1 w1 ⟨rfl, f1⟩
      have F1 := Lib.hid (F0.out.trans f1.b)
      clear f1
      go_wp2_with fail
      go_at_call 7; refine (alive_any _ (HG.out.onw F1.out)).mono ?_; rintro e2 w2 ⟨rfl, f2⟩
      have F2 := Lib.hid (F1.out.trans f2)
      clear f2
      go_wp2
      go_ret
      exact ⟨rfl, F2.out⟩
    · have hbig' : (((bs S).size : Int)) ≤ 1000 := by omega
      go_enter Tryz.func5, Tryz.ntmps5
      go_upto_region 2 with fail
      rw [← HW0.out]
      go_wp2_with fail
      go_at_call 6; refine HSM.out.mono ?_; rintro e1 w1 ⟨rfl, f1⟩
      have F1 := Lib.hid (F0.out.trans f1.b)
      have P1 := Lib.hid (P0.out.on f1.b)
      clear f1 hbig
      go_upto_region 4 with fail
      clear hbig' l1 l2 hn1 hn2 hz
      obtain ⟨c, hc⟩ : ∃ c : Int, c = if decide (0 < n) = true then 1 else 0 := ⟨_, rfl⟩
      have HB1 := Lib.hid (fun w => lbool_any (decide (0 < n)) w)
      have HB2 := Lib.hid (fun w => rcbool_any (decide (0 < n)) w)
      rw [← hc] at HB1 HB2
      clear hc
      refine region_midB (N := 92) (S := fun _ => Fuw w1) (U := fun _ t => VbU n c S l ao cap (kVb.getD t 0)) (V := fun _ _ => True) (by kernel_rfl) (by kernel_rfl) (by kernel_rfl) ?base (fun H1 => upto_succ (n := 69) (upto_succ (n := 68) (upto_succ (n := 67) (upto_succ (n := 66) (upto_succ (n := 65) (upto_succ (n := 64) (upto_succ (n := 63) (upto_succ (n := 62) (upto_succ (n := 61) (upto_succ (n := 60) (upto_succ (n := 59) (upto_succ (n := 58) (upto_succ (n := 57) (upto_succ (n := 56) (upto_succ (n := 55) (upto_succ (n := 54) (upto_succ (n := 53) (upto_succ (n := 52) (upto_succ (n := 51) (upto_succ (n := 50) (upto_succ (n := 49) (upto_succ (n := 48) (upto_succ (n := 47) (upto_succ (n := 46) (upto_succ (n := 45) (upto_succ (n := 44) (upto_succ (n := 43) (upto_succ (n := 42) (upto_succ (n := 41) (upto_succ (n := 40) (upto_succ (n := 39) (upto_succ (n := 38) (upto_succ (n := 37) (upto_succ (n := 36) (upto_succ (n := 35) (upto_succ (n := 34) (upto_succ (n := 33) (upto_succ (n := 32) (upto_succ (n := 31) (upto_succ (n := 30) (upto_succ (n := 29) (upto_succ (n := 28) (upto_succ (n := 27) (upto_succ (n := 26) (upto_succ (n := 25) (upto_succ (n := 24) (upto_succ (n := 23) (upto_succ (n := 22) (upto_succ (n := 21) (upto_succ (n := 20) (upto_succ (n := 19) (upto_succ (n := 18) (upto_succ (n := 17) (upto_succ (n := 16) (upto_succ (n := 15) (upto_succ (n := 14) (upto_succ (n := 13) (upto_succ (n := 12) (upto_succ (n := 11) (upto_succ (n := 10) (upto_succ (n := 9) (upto_succ (n := 8) (upto_succ (n := 7) (upto_succ (n := 6) (upto_succ (n := 5) (upto_succ (n := 4) (upto_succ (n := 3) (upto_succ (n := 2) (upto_succ (n := 1) (upto_succ (n := 0) (upto_nil) ?s0) ?s1) ?s2) ?s3) ?s4) ?s5) ?s6) ?s7) ?s8) ?s9) ?s10) ?s11) ?s12) ?s13) ?s14) ?s15) ?s16) ?s17) ?s18) ?s19) ?s20) ?s21) ?s22) ?s23) ?s24) ?s25) ?s26) ?s27) ?s28) ?s29) ?s30) ?s31) ?s32) ?s33) ?s34) ?s35) ?s36) ?s37) ?s38) ?s39) ?s40) ?s41) ?s42) ?s43) ?s44) ?s45) ?s46) ?s47) ?s48) ?s49) ?s50) ?s51) ?s52) ?s53) ?s54) ?s55) ?s56) ?s57) ?s58) ?s59) ?s60) ?s61) ?s62) ?s63) ?s64) ?s65) ?s66) ?s67) ?s68) ?s69) ?fin
      case s0 =>
        refine stepB_of [] [] [] [] H1 rfl rfl (by kernel_rfl) (by kernel_rfl) (by kernel_rfl) (by kernel_rfl) ?_
        intro σ hp hq x w5 hS hU hV hA Lv hLv K hK
        clear hp hq
        clear hU hV hA H1 hLv
        rw [frameD92] at hK ⊢
        refine wpOp_step rfl (fun K' hK' => ?_)
        have hf5 : Fuw w1 w5 := hS
        have hfw := F1.out.trans hf5
        go_simp
        go_wp2_with (go_at_call 27; refine (lnull_any _).mono ?_; rintro e5 w6 ⟨rfl, f5⟩)
        exact hK _ _ (show Fuw w1 _ from hf5.trans f5.b) (fun _ _ _ h => vbu_on f5.b _ _ h) (fun e he => by cases he; exact rfl)
      case s1 =>
        refine stepB_of [] [] [] [] H1 rfl rfl (by kernel_rfl) (by kernel_rfl) (by kernel_rfl) (by kernel_rfl) ?_
        intro σ hp hq x w5 hS hU hV hA Lv hLv K hK
        clear hp hq
        clear hU hV hA H1 hLv
        rw [frameD92] at hK ⊢
        refine wpOp_step rfl (fun K' hK' => ?_)
        have hf5 : Fuw w1 w5 := hS
        have hfw := F1.out.trans hf5
        go_simp
        go_wp2_with (go_at_call 28; refine (rcnull_any _).mono ?_; rintro e5 w6 ⟨rfl, f5⟩)
        exact hK _ _ (show Fuw w1 _ from hf5.trans f5.b) (fun _ _ _ h => vbu_on f5.b _ _ h) (fun e he => by cases he; exact rfl)
      case s2 =>
        refine stepB_of [] [] [21, 22] [] H1 rfl rfl (by kernel_rfl) (by kernel_rfl) (by kernel_rfl) (by kernel_rfl) ?_
        intro σ hp hq x w5 hS hU hV hA Lv hLv K hK
        clear hp hq
        have u21 : x 21 = vlv (.mk 0 0 0 [] []) none 0 := hU 21 (by simp)
        have u22 : x 22 = vlv (.mk 0 0 0 [] []) none 0 := hU 22 (by simp)
        clear hU hV hA H1 hLv
        rw [frameD92] at hK ⊢
        simp only [u21, u22] at hK ⊢
        refine wpOp_step rfl (fun K' hK' => ?_)
        have hf5 : Fuw w1 w5 := hS
        have hfw := F1.out.trans hf5
        go_simp
        go_wp2_with (go_at_call 26; refine (lsame_self (.mk 0 0 0 [] []) _ _ _ _ w5 (sl_nil w5) (sl_nil w5)).mono ?_; rintro e5 w6 ⟨rfl, f5⟩)
        exact hK _ _ (show Fuw w1 _ from hf5.trans f5.b) (fun _ _ _ h => vbu_on f5.b _ _ h) (fun e he => by cases he; exact rfl)
      case s3 =>
        refine stepB_of [] [] [23] [] H1 rfl rfl (by kernel_rfl) (by kernel_rfl) (by kernel_rfl) (by kernel_rfl) ?_
        intro σ hp hq x w5 hS hU hV hA Lv hLv K hK
        clear hp hq
        have u23 : x 23 = .bool true := hU 23 (by simp)
        clear hU hV hA H1 hLv
        rw [frameD92] at hK ⊢
        simp only [u23] at hK ⊢
        refine wpOp_step rfl (fun K' hK' => ?_)
        go_simp
        exact hK' _ _ (hK _ _ hS (fun _ _ _ h => h) (fun e he => by cases he; exact rfl))
      case s4 =>
        refine stepB_of [] [] [24] [] H1 rfl rfl (by kernel_rfl) (by kernel_rfl) (by kernel_rfl) (by kernel_rfl) ?_
        intro σ hp hq x w5 hS hU hV hA Lv hLv K hK
        clear hp hq
        have u24 : x 24 = .bool false := hU 24 (by simp)
        clear hU hV hA H1 hLv
        rw [frameD92] at hK ⊢
        simp only [u24] at hK ⊢
        refine wpOp_step rfl (fun K' hK' => ?_)
        go_simp
        exact hK' _ _ (hK _ _ hS (fun _ _ _ h => h) (fun e he => by cases he; exact rfl))
      case s5 =>
        refine stepB_of [] [] [25] [] H1 rfl rfl (by kernel_rfl) (by kernel_rfl) (by kernel_rfl) (by kernel_rfl) ?_
        intro σ hp hq x w5 hS hU hV hA Lv hLv K hK
        clear hp hq
        have u25 : x 25 = .bool false := hU 25 (by simp)
        have u0 : x 0 = .int .i64 n := hA 0 (by kernel_rfl)
        clear hU hV hA H1 hLv
        rw [frameD92] at hK ⊢
        simp only [u25, u0] at hK ⊢
        refine wpOp_step rfl (fun K' hK' => ?_)
        go_simp
        exact hK' _ _ (hK _ _ hS (fun _ _ _ h => h) (fun e he => by cases he; exact rfl))
      case s6 =>
        refine stepB_of [] [] [26, 25] [] H1 rfl rfl (by kernel_rfl) (by kernel_rfl) (by kernel_rfl) (by kernel_rfl) ?_
        intro σ hp hq x w5 hS hU hV hA Lv hLv K hK
        clear hp hq
        have u26 : x 26 = .int .i64 n := hU 26 (by simp)
        have u25 : x 25 = .bool false := hU 25 (by simp)
        clear hU hV hA H1 hLv
        rw [frameD92] at hK ⊢
        simp only [u26, u25] at hK ⊢
        refine wpOp_step rfl (fun K' hK' => ?_)
        go_simp
        exact hK' _ _ (hK _ _ hS (fun _ _ _ h => h) (fun e he => by cases he; exact rfl))
      case s7 =>
        refine stepB_of [] [] [27, 25] [] H1 rfl rfl (by kernel_rfl) (by kernel_rfl) (by kernel_rfl) (by kernel_rfl) ?_
        intro σ hp hq x w5 hS hU hV hA Lv hLv K hK
        clear hp hq
        have u27 : x 27 = .bool (decide (0 < n)) := hU 27 (by simp)
        have u25 : x 25 = .bool false := hU 25 (by simp)
        clear hU hV hA H1 hLv
        rw [frameD92] at hK ⊢
        simp only [u27, u25] at hK ⊢
        refine wpOp_step rfl (fun K' hK' => ?_)
        have hf5 : Fuw w1 w5 := hS
        have hfw := F1.out.trans hf5
        go_simp
        go_wp2_with (go_at_call 29; refine (HB1.out _).mono ?_; rintro e5 w6 ⟨rfl, f5⟩)
        exact hK _ _ (show Fuw w1 _ from hf5.trans f5.b) (fun _ _ _ h => vbu_on f5.b _ _ h) (fun e he => by cases he; exact rfl)
      case s8 =>
        refine stepB_of [] [] [25] [] H1 rfl rfl (by kernel_rfl) (by kernel_rfl) (by kernel_rfl) (by kernel_rfl) ?_
        intro σ hp hq x w5 hS hU hV hA Lv hLv K hK
        clear hp hq
        have u25 : x 25 = .bool false := hU 25 (by simp)
        have u0 : x 0 = .int .i64 n := hA 0 (by kernel_rfl)
        clear hU hV hA H1 hLv
        rw [frameD92] at hK ⊢
        simp only [u25, u0] at hK ⊢
        refine wpOp_step rfl (fun K' hK' => ?_)
        go_simp
        exact hK' _ _ (hK _ _ hS (fun _ _ _ h => h) (fun e he => by cases he; exact rfl))
      case s9 =>
        refine stepB_of [] [] [29, 25] [] H1 rfl rfl (by kernel_rfl) (by kernel_rfl) (by kernel_rfl) (by kernel_rfl) ?_
        intro σ hp hq x w5 hS hU hV hA Lv hLv K hK
        clear hp hq
        have u29 : x 29 = .int .i64 n := hU 29 (by simp)
        have u25 : x 25 = .bool false := hU 25 (by simp)
        clear hU hV hA H1 hLv
        rw [frameD92] at hK ⊢
        simp only [u29, u25] at hK ⊢
        refine wpOp_step rfl (fun K' hK' => ?_)
        go_simp
        exact hK' _ _ (hK _ _ hS (fun _ _ _ h => h) (fun e he => by cases he; exact rfl))
      case s10 =>
        refine stepB_of [] [] [30, 25] [] H1 rfl rfl (by kernel_rfl) (by kernel_rfl) (by kernel_rfl) (by kernel_rfl) ?_
        intro σ hp hq x w5 hS hU hV hA Lv hLv K hK
        clear hp hq
        have u30 : x 30 = .bool (decide (0 < n)) := hU 30 (by simp)
        have u25 : x 25 = .bool false := hU 25 (by simp)
        clear hU hV hA H1 hLv
        rw [frameD92] at hK ⊢
        simp only [u30, u25] at hK ⊢
        refine wpOp_step rfl (fun K' hK' => ?_)
        have hf5 : Fuw w1 w5 := hS
        have hfw := F1.out.trans hf5
        go_simp
        go_wp2_with (go_at_call 30; refine (HB2.out _).mono ?_; rintro e5 w6 ⟨rfl, f5⟩)
        exact hK _ _ (show Fuw w1 _ from hf5.trans f5.b) (fun _ _ _ h => vbu_on f5.b _ _ h) (fun e he => by cases he; exact rfl)
      case s11 =>
        refine stepB_of [] [] [28, 31, 25] [] H1 rfl rfl (by kernel_rfl) (by kernel_rfl) (by kernel_rfl) (by kernel_rfl) ?_
        intro σ hp hq x w5 hS hU hV hA Lv hLv K hK
        clear hp hq
        have u28 : x 28 = vlv (.mk 1 c 0 [] []) none 0 := hU 28 (by simp)
        have u31 : x 31 = vlv (.mk 1 c 0 [] []) none 0 := hU 31 (by simp)
        have u25 : x 25 = .bool false := hU 25 (by simp)
        clear hU hV hA H1 hLv
        rw [frameD92] at hK ⊢
        simp only [u28, u31, u25] at hK ⊢
        refine wpOp_step rfl (fun K' hK' => ?_)
        have hf5 : Fuw w1 w5 := hS
        have hfw := F1.out.trans hf5
        go_simp
        go_wp2_with (go_at_call 26; refine (lsame_self (.mk 1 c 0 [] []) _ _ _ _ w5 (sl_nil w5) (sl_nil w5)).mono ?_; rintro e5 w6 ⟨rfl, f5⟩)
        exact hK _ _ (show Fuw w1 _ from hf5.trans f5.b) (fun _ _ _ h => vbu_on f5.b _ _ h) (fun e he => by cases he; exact rfl)
      case s12 =>
        refine stepB_of [] [] [32, 25] [] H1 rfl rfl (by kernel_rfl) (by kernel_rfl) (by kernel_rfl) (by kernel_rfl) ?_
        intro σ hp hq x w5 hS hU hV hA Lv hLv K hK
        clear hp hq
        have u32 : x 32 = .bool true := hU 32 (by simp)
        have u25 : x 25 = .bool false := hU 25 (by simp)
        clear hU hV hA H1 hLv
        rw [frameD92] at hK ⊢
        simp only [u32, u25] at hK ⊢
        refine wpOp_step rfl (fun K' hK' => ?_)
        go_simp
        exact hK' _ _ (hK _ _ hS (fun _ _ _ h => h) (fun e he => by cases he; exact rfl))
      case s13 =>
        refine stepB_of [] [] [25, 33] [] H1 rfl rfl (by kernel_rfl) (by kernel_rfl) (by kernel_rfl) (by kernel_rfl) ?_
        intro σ hp hq x w5 hS hU hV hA Lv hLv K hK
        clear hp hq
        have u25 : x 25 = .bool false := hU 25 (by simp)
        have u33 : x 33 = .bool false := hU 33 (by simp)
        clear hU hV hA H1 hLv
        rw [frameD92] at hK ⊢
        simp only [u25, u33] at hK ⊢
        refine wpOp_step rfl (fun K' hK' => ?_)
        go_simp
        exact hK' _ _ (hK _ _ hS (fun _ _ _ h => h) (fun e he => by cases he; exact rfl))
      case s14 =>
        refine stepB_of [] [] [34] [] H1 rfl rfl (by kernel_rfl) (by kernel_rfl) (by kernel_rfl) (by kernel_rfl) ?_
        intro σ hp hq x w5 hS hU hV hA Lv hLv K hK
        clear hp hq
        have u34 : x 34 = .bool false := hU 34 (by simp)
        clear hU hV hA H1 hLv
        rw [frameD92] at hK ⊢
        simp only [u34] at hK ⊢
        refine wpOp_step rfl (fun K' hK' => ?_)
        go_simp
        exact hK' _ _ (hK _ _ hS (fun _ _ _ h => h) (fun e he => by cases he; exact rfl))
      case s15 =>
        refine stepB_of [] [] [35] [] H1 rfl rfl (by kernel_rfl) (by kernel_rfl) (by kernel_rfl) (by kernel_rfl) ?_
        intro σ hp hq x w5 hS hU hV hA Lv hLv K hK
        clear hp hq
        have u35 : x 35 = .bool false := hU 35 (by simp)
        have u0 : x 0 = .int .i64 n := hA 0 (by kernel_rfl)
        clear hU hV hA H1 hLv
        rw [frameD92] at hK ⊢
        simp only [u35, u0] at hK ⊢
        refine wpOp_step rfl (fun K' hK' => ?_)
        go_simp
        exact hK' _ _ (hK _ _ hS (fun _ _ _ h => h) (fun e he => by cases he; exact rfl))
      case s16 =>
        refine stepB_of [] [] [36, 35] [] H1 rfl rfl (by kernel_rfl) (by kernel_rfl) (by kernel_rfl) (by kernel_rfl) ?_
        intro σ hp hq x w5 hS hU hV hA Lv hLv K hK
        clear hp hq
        have u36 : x 36 = .int .i64 n := hU 36 (by simp)
        have u35 : x 35 = .bool false := hU 35 (by simp)
        clear hU hV hA H1 hLv
        rw [frameD92] at hK ⊢
        simp only [u36, u35] at hK ⊢
        refine wpOp_step rfl (fun K' hK' => ?_)
        have hf5 : Fuw w1 w5 := hS
        have hfw := F1.out.trans hf5
        go_simp
        go_wp2_with (go_at_call 31; refine (lint_any n _).mono ?_; rintro e5 w6 ⟨rfl, f5⟩)
        exact hK _ _ (show Fuw w1 _ from hf5.trans f5.b) (fun _ _ _ h => vbu_on f5.b _ _ h) (fun e he => by cases he; exact rfl)
      case s17 =>
        refine stepB_of [] [] [35] [] H1 rfl rfl (by kernel_rfl) (by kernel_rfl) (by kernel_rfl) (by kernel_rfl) ?_
        intro σ hp hq x w5 hS hU hV hA Lv hLv K hK
        clear hp hq
        have u35 : x 35 = .bool false := hU 35 (by simp)
        have u0 : x 0 = .int .i64 n := hA 0 (by kernel_rfl)
        clear hU hV hA H1 hLv
        rw [frameD92] at hK ⊢
        simp only [u35, u0] at hK ⊢
        refine wpOp_step rfl (fun K' hK' => ?_)
        go_simp
        exact hK' _ _ (hK _ _ hS (fun _ _ _ h => h) (fun e he => by cases he; exact rfl))
      case s18 =>
        refine stepB_of [] [] [38, 35] [] H1 rfl rfl (by kernel_rfl) (by kernel_rfl) (by kernel_rfl) (by kernel_rfl) ?_
        intro σ hp hq x w5 hS hU hV hA Lv hLv K hK
        clear hp hq
        have u38 : x 38 = .int .i64 n := hU 38 (by simp)
        have u35 : x 35 = .bool false := hU 35 (by simp)
        clear hU hV hA H1 hLv
        rw [frameD92] at hK ⊢
        simp only [u38, u35] at hK ⊢
        refine wpOp_step rfl (fun K' hK' => ?_)
        have hf5 : Fuw w1 w5 := hS
        have hfw := F1.out.trans hf5
        go_simp
        go_wp2_with (go_at_call 32; refine (rcint_any n _).mono ?_; rintro e5 w6 ⟨rfl, f5⟩)
        exact hK _ _ (show Fuw w1 _ from hf5.trans f5.b) (fun _ _ _ h => vbu_on f5.b _ _ h) (fun e he => by cases he; exact rfl)
      case s19 =>
        refine stepB_of [] [] [37, 39, 35] [] H1 rfl rfl (by kernel_rfl) (by kernel_rfl) (by kernel_rfl) (by kernel_rfl) ?_
        intro σ hp hq x w5 hS hU hV hA Lv hLv K hK
        clear hp hq
        have u37 : x 37 = vlv (.mk 2 n 0 [] []) none 0 := hU 37 (by simp)
        have u39 : x 39 = vlv (.mk 2 n 0 [] []) none 0 := hU 39 (by simp)
        have u35 : x 35 = .bool false := hU 35 (by simp)
        clear hU hV hA H1 hLv
        rw [frameD92] at hK ⊢
        simp only [u37, u39, u35] at hK ⊢
        refine wpOp_step rfl (fun K' hK' => ?_)
        have hf5 : Fuw w1 w5 := hS
        have hfw := F1.out.trans hf5
        go_simp
        go_wp2_with (go_at_call 26; refine (lsame_self (.mk 2 n 0 [] []) _ _ _ _ w5 (sl_nil w5) (sl_nil w5)).mono ?_; rintro e5 w6 ⟨rfl, f5⟩)
        exact hK _ _ (show Fuw w1 _ from hf5.trans f5.b) (fun _ _ _ h => vbu_on f5.b _ _ h) (fun e he => by cases he; exact rfl)
      case s20 =>
        refine stepB_of [] [] [40, 35] [] H1 rfl rfl (by kernel_rfl) (by kernel_rfl) (by kernel_rfl) (by kernel_rfl) ?_
        intro σ hp hq x w5 hS hU hV hA Lv hLv K hK
        clear hp hq
        have u40 : x 40 = .bool true := hU 40 (by simp)
        have u35 : x 35 = .bool false := hU 35 (by simp)
        clear hU hV hA H1 hLv
        rw [frameD92] at hK ⊢
        simp only [u40, u35] at hK ⊢
        refine wpOp_step rfl (fun K' hK' => ?_)
        go_simp
        exact hK' _ _ (hK _ _ hS (fun _ _ _ h => h) (fun e he => by cases he; exact rfl))
      case s21 =>
        refine stepB_of [] [] [35, 41] [] H1 rfl rfl (by kernel_rfl) (by kernel_rfl) (by kernel_rfl) (by kernel_rfl) ?_
        intro σ hp hq x w5 hS hU hV hA Lv hLv K hK
        clear hp hq
        have u35 : x 35 = .bool false := hU 35 (by simp)
        have u41 : x 41 = .bool false := hU 41 (by simp)
        clear hU hV hA H1 hLv
        rw [frameD92] at hK ⊢
        simp only [u35, u41] at hK ⊢
        refine wpOp_step rfl (fun K' hK' => ?_)
        go_simp
        exact hK' _ _ (hK _ _ hS (fun _ _ _ h => h) (fun e he => by cases he; exact rfl))
      case s22 =>
        refine stepB_of [] [] [42] [] H1 rfl rfl (by kernel_rfl) (by kernel_rfl) (by kernel_rfl) (by kernel_rfl) ?_
        intro σ hp hq x w5 hS hU hV hA Lv hLv K hK
        clear hp hq
        have u42 : x 42 = .bool false := hU 42 (by simp)
        clear hU hV hA H1 hLv
        rw [frameD92] at hK ⊢
        simp only [u42] at hK ⊢
        refine wpOp_step rfl (fun K' hK' => ?_)
        go_simp
        exact hK' _ _ (hK _ _ hS (fun _ _ _ h => h) (fun e he => by cases he; exact rfl))
      case s23 =>
        refine stepB_of [] [] [43] [] H1 rfl rfl (by kernel_rfl) (by kernel_rfl) (by kernel_rfl) (by kernel_rfl) ?_
        intro σ hp hq x w5 hS hU hV hA Lv hLv K hK
        clear hp hq
        have u43 : x 43 = .bool false := hU 43 (by simp)
        have u7 : x 7 = .pointer (some ⟨w.heap.size, 0, none⟩) := hA 7 (by kernel_rfl)
        clear hU hV hA H1 hLv
        rw [frameD92] at hK ⊢
        simp only [u43, u7] at hK ⊢
        refine wpOp_step rfl (fun K' hK' => ?_)
        have hf5 : Fuw w1 w5 := hS
        have hfw := F1.out.trans hf5
        have q0 := (P1.out.on hf5).c 0
        have q1 := (P1.out.on hf5).c 1
        go_simp
        exact hK' _ _ (hK _ _ hS (fun _ _ _ h => h) (fun e he => by cases he; exact rfl))
      case s24 =>
        refine stepB_of [] [] [44, 43] [] H1 rfl rfl (by kernel_rfl) (by kernel_rfl) (by kernel_rfl) (by kernel_rfl) ?_
        intro σ hp hq x w5 hS hU hV hA Lv hLv K hK
        clear hp hq
        have u44 : x 44 = .agg #[.int .i64 n, .int .i64 l.length] := hU 44 (by simp)
        have u43 : x 43 = .bool false := hU 43 (by simp)
        clear hU hV hA H1 hLv
        rw [frameD92] at hK ⊢
        simp only [u44, u43] at hK ⊢
        refine wpOp_step rfl (fun K' hK' => ?_)
        have hf5 : Fuw w1 w5 := hS
        have hfw := F1.out.trans hf5
        go_simp
        go_wp2_with (go_at_call 33; refine (lrat_any n l.length _).mono ?_; rintro e5 w6 ⟨rfl, f5⟩)
        exact hK _ _ (show Fuw w1 _ from hf5.trans f5.b) (fun _ _ _ h => vbu_on f5.b _ _ h) (fun e he => by cases he; exact rfl)
      case s25 =>
        refine stepB_of [] [] [43] [] H1 rfl rfl (by kernel_rfl) (by kernel_rfl) (by kernel_rfl) (by kernel_rfl) ?_
        intro σ hp hq x w5 hS hU hV hA Lv hLv K hK
        clear hp hq
        have u43 : x 43 = .bool false := hU 43 (by simp)
        have u7 : x 7 = .pointer (some ⟨w.heap.size, 0, none⟩) := hA 7 (by kernel_rfl)
        clear hU hV hA H1 hLv
        rw [frameD92] at hK ⊢
        simp only [u43, u7] at hK ⊢
        refine wpOp_step rfl (fun K' hK' => ?_)
        have hf5 : Fuw w1 w5 := hS
        have hfw := F1.out.trans hf5
        have q0 := (P1.out.on hf5).c 0
        have q1 := (P1.out.on hf5).c 1
        go_simp
        exact hK' _ _ (hK _ _ hS (fun _ _ _ h => h) (fun e he => by cases he; exact rfl))
      case s26 =>
        refine stepB_of [] [] [46, 43] [] H1 rfl rfl (by kernel_rfl) (by kernel_rfl) (by kernel_rfl) (by kernel_rfl) ?_
        intro σ hp hq x w5 hS hU hV hA Lv hLv K hK
        clear hp hq
        have u46 : x 46 = .agg #[.int .i64 n, .int .i64 l.length] := hU 46 (by simp)
        have u43 : x 43 = .bool false := hU 43 (by simp)
        clear hU hV hA H1 hLv
        rw [frameD92] at hK ⊢
        simp only [u46, u43] at hK ⊢
        refine wpOp_step rfl (fun K' hK' => ?_)
        have hf5 : Fuw w1 w5 := hS
        have hfw := F1.out.trans hf5
        go_simp
        go_wp2_with (go_at_call 34; refine (rcrat_any n l.length _).mono ?_; rintro e5 w6 ⟨rfl, f5⟩)
        exact hK _ _ (show Fuw w1 _ from hf5.trans f5.b) (fun _ _ _ h => vbu_on f5.b _ _ h) (fun e he => by cases he; exact rfl)
      case s27 =>
        refine stepB_of [] [] [45, 47, 43] [] H1 rfl rfl (by kernel_rfl) (by kernel_rfl) (by kernel_rfl) (by kernel_rfl) ?_
        intro σ hp hq x w5 hS hU hV hA Lv hLv K hK
        clear hp hq
        have u45 : x 45 = vlv (.mk (ratK l.length) n (ratD l.length) [] []) none 0 := hU 45 (by simp)
        have u47 : x 47 = vlv (.mk (ratK l.length) n (ratD l.length) [] []) none 0 := hU 47 (by simp)
        have u43 : x 43 = .bool false := hU 43 (by simp)
        clear hU hV hA H1 hLv
        rw [frameD92] at hK ⊢
        simp only [u45, u47, u43] at hK ⊢
        refine wpOp_step rfl (fun K' hK' => ?_)
        have hf5 : Fuw w1 w5 := hS
        have hfw := F1.out.trans hf5
        go_simp
        go_wp2_with (go_at_call 26; refine (lsame_self (.mk (ratK l.length) n (ratD l.length) [] []) _ _ _ _ w5 (sl_nil w5) (sl_nil w5)).mono ?_; rintro e5 w6 ⟨rfl, f5⟩)
        exact hK _ _ (show Fuw w1 _ from hf5.trans f5.b) (fun _ _ _ h => vbu_on f5.b _ _ h) (fun e he => by cases he; exact rfl)
      case s28 =>
        refine stepB_of [] [] [48, 43] [] H1 rfl rfl (by kernel_rfl) (by kernel_rfl) (by kernel_rfl) (by kernel_rfl) ?_
        intro σ hp hq x w5 hS hU hV hA Lv hLv K hK
        clear hp hq
        have u48 : x 48 = .bool true := hU 48 (by simp)
        have u43 : x 43 = .bool false := hU 43 (by simp)
        clear hU hV hA H1 hLv
        rw [frameD92] at hK ⊢
        simp only [u48, u43] at hK ⊢
        refine wpOp_step rfl (fun K' hK' => ?_)
        go_simp
        exact hK' _ _ (hK _ _ hS (fun _ _ _ h => h) (fun e he => by cases he; exact rfl))
      case s29 =>
        refine stepB_of [] [] [43, 49] [] H1 rfl rfl (by kernel_rfl) (by kernel_rfl) (by kernel_rfl) (by kernel_rfl) ?_
        intro σ hp hq x w5 hS hU hV hA Lv hLv K hK
        clear hp hq
        have u43 : x 43 = .bool false := hU 43 (by simp)
        have u49 : x 49 = .bool false := hU 49 (by simp)
        clear hU hV hA H1 hLv
        rw [frameD92] at hK ⊢
        simp only [u43, u49] at hK ⊢
        refine wpOp_step rfl (fun K' hK' => ?_)
        go_simp
        exact hK' _ _ (hK _ _ hS (fun _ _ _ h => h) (fun e he => by cases he; exact rfl))
      case s30 =>
        refine stepB_of [] [] [50] [] H1 rfl rfl (by kernel_rfl) (by kernel_rfl) (by kernel_rfl) (by kernel_rfl) ?_
        intro σ hp hq x w5 hS hU hV hA Lv hLv K hK
        clear hp hq
        have u50 : x 50 = .bool false := hU 50 (by simp)
        clear hU hV hA H1 hLv
        rw [frameD92] at hK ⊢
        simp only [u50] at hK ⊢
        refine wpOp_step rfl (fun K' hK' => ?_)
        go_simp
        exact hK' _ _ (hK _ _ hS (fun _ _ _ h => h) (fun e he => by cases he; exact rfl))
      case s31 =>
        refine stepB_of [] [] [51] [] H1 rfl rfl (by kernel_rfl) (by kernel_rfl) (by kernel_rfl) (by kernel_rfl) ?_
        intro σ hp hq x w5 hS hU hV hA Lv hLv K hK
        clear hp hq
        have u51 : x 51 = .bool false := hU 51 (by simp)
        have u1 : x 1 = .string (bs S) := hA 1 (by kernel_rfl)
        clear hU hV hA H1 hLv
        rw [frameD92] at hK ⊢
        simp only [u51, u1] at hK ⊢
        refine wpOp_step rfl (fun K' hK' => ?_)
        go_simp
        exact hK' _ _ (hK _ _ hS (fun _ _ _ h => h) (fun e he => by cases he; exact rfl))
      case s32 =>
        refine stepB_of [] [] [52, 51] [] H1 rfl rfl (by kernel_rfl) (by kernel_rfl) (by kernel_rfl) (by kernel_rfl) ?_
        intro σ hp hq x w5 hS hU hV hA Lv hLv K hK
        clear hp hq
        have u52 : x 52 = .string (bs S) := hU 52 (by simp)
        have u51 : x 51 = .bool false := hU 51 (by simp)
        clear hU hV hA H1 hLv
        rw [frameD92] at hK ⊢
        simp only [u52, u51] at hK ⊢
        refine wpOp_step rfl (fun K' hK' => ?_)
        have hf5 : Fuw w1 w5 := hS
        have hfw := F1.out.trans hf5
        go_simp
        go_wp2_with (go_at_call 35; refine (lstr_any (bs S) _).mono ?_; rintro e5 w6 ⟨rfl, f5⟩)
        exact hK _ _ (show Fuw w1 _ from hf5.trans f5.b) (fun _ _ _ h => vbu_on f5.b _ _ h) (fun e he => by cases he; exact rfl)
      case s33 =>
        refine stepB_of [] [] [51] [] H1 rfl rfl (by kernel_rfl) (by kernel_rfl) (by kernel_rfl) (by kernel_rfl) ?_
        intro σ hp hq x w5 hS hU hV hA Lv hLv K hK
        clear hp hq
        have u51 : x 51 = .bool false := hU 51 (by simp)
        have u1 : x 1 = .string (bs S) := hA 1 (by kernel_rfl)
        clear hU hV hA H1 hLv
        rw [frameD92] at hK ⊢
        simp only [u51, u1] at hK ⊢
        refine wpOp_step rfl (fun K' hK' => ?_)
        go_simp
        exact hK' _ _ (hK _ _ hS (fun _ _ _ h => h) (fun e he => by cases he; exact rfl))
      case s34 =>
        refine stepB_of [] [] [54, 51] [] H1 rfl rfl (by kernel_rfl) (by kernel_rfl) (by kernel_rfl) (by kernel_rfl) ?_
        intro σ hp hq x w5 hS hU hV hA Lv hLv K hK
        clear hp hq
        have u54 : x 54 = .string (bs S) := hU 54 (by simp)
        have u51 : x 51 = .bool false := hU 51 (by simp)
        clear hU hV hA H1 hLv
        rw [frameD92] at hK ⊢
        simp only [u54, u51] at hK ⊢
        refine wpOp_step rfl (fun K' hK' => ?_)
        have hf5 : Fuw w1 w5 := hS
        have hfw := F1.out.trans hf5
        go_simp
        go_wp2_with (go_at_call 36; refine (rcstr_any (bs S) _).mono ?_; rintro e5 w6 ⟨rfl, f5⟩)
        exact hK _ _ (show Fuw w1 _ from hf5.trans f5.b) (fun _ _ _ h => vbu_on f5.b _ _ h) (fun e he => by cases he; exact rfl)
      case s35 =>
        refine stepB_of [] [] [53, 55, 51] [] H1 rfl rfl (by kernel_rfl) (by kernel_rfl) (by kernel_rfl) (by kernel_rfl) ?_
        intro σ hp hq x w5 hS hU hV hA Lv hLv K hK
        clear hp hq
        have u53 : x 53 = vlv (.mk 4 0 0 S []) none 0 := hU 53 (by simp)
        have u55 : x 55 = vlv (.mk 4 0 0 S []) none 0 := hU 55 (by simp)
        have u51 : x 51 = .bool false := hU 51 (by simp)
        clear hU hV hA H1 hLv
        rw [frameD92] at hK ⊢
        simp only [u53, u55, u51] at hK ⊢
        refine wpOp_step rfl (fun K' hK' => ?_)
        have hf5 : Fuw w1 w5 := hS
        have hfw := F1.out.trans hf5
        go_simp
        go_wp2_with (go_at_call 26; refine (lsame_self (.mk 4 0 0 S []) _ _ _ _ w5 (sl_nil w5) (sl_nil w5)).mono ?_; rintro e5 w6 ⟨rfl, f5⟩)
        exact hK _ _ (show Fuw w1 _ from hf5.trans f5.b) (fun _ _ _ h => vbu_on f5.b _ _ h) (fun e he => by cases he; exact rfl)
      case s36 =>
        refine stepB_of [] [] [56, 51] [] H1 rfl rfl (by kernel_rfl) (by kernel_rfl) (by kernel_rfl) (by kernel_rfl) ?_
        intro σ hp hq x w5 hS hU hV hA Lv hLv K hK
        clear hp hq
        have u56 : x 56 = .bool true := hU 56 (by simp)
        have u51 : x 51 = .bool false := hU 51 (by simp)
        clear hU hV hA H1 hLv
        rw [frameD92] at hK ⊢
        simp only [u56, u51] at hK ⊢
        refine wpOp_step rfl (fun K' hK' => ?_)
        go_simp
        exact hK' _ _ (hK _ _ hS (fun _ _ _ h => h) (fun e he => by cases he; exact rfl))
      case s37 =>
        refine stepB_of [] [] [51, 57] [] H1 rfl rfl (by kernel_rfl) (by kernel_rfl) (by kernel_rfl) (by kernel_rfl) ?_
        intro σ hp hq x w5 hS hU hV hA Lv hLv K hK
        clear hp hq
        have u51 : x 51 = .bool false := hU 51 (by simp)
        have u57 : x 57 = .bool false := hU 57 (by simp)
        clear hU hV hA H1 hLv
        rw [frameD92] at hK ⊢
        simp only [u51, u57] at hK ⊢
        refine wpOp_step rfl (fun K' hK' => ?_)
        go_simp
        exact hK' _ _ (hK _ _ hS (fun _ _ _ h => h) (fun e he => by cases he; exact rfl))
      case s38 =>
        refine stepB_of [] [] [58] [] H1 rfl rfl (by kernel_rfl) (by kernel_rfl) (by kernel_rfl) (by kernel_rfl) ?_
        intro σ hp hq x w5 hS hU hV hA Lv hLv K hK
        clear hp hq
        have u58 : x 58 = .bool false := hU 58 (by simp)
        clear hU hV hA H1 hLv
        rw [frameD92] at hK ⊢
        simp only [u58] at hK ⊢
        refine wpOp_step rfl (fun K' hK' => ?_)
        go_simp
        exact hK' _ _ (hK _ _ hS (fun _ _ _ h => h) (fun e he => by cases he; exact rfl))
      case s39 =>
        refine stepB_of [] [] [59] [] H1 rfl rfl (by kernel_rfl) (by kernel_rfl) (by kernel_rfl) (by kernel_rfl) ?_
        intro σ hp hq x w5 hS hU hV hA Lv hLv K hK
        clear hp hq
        have u59 : x 59 = .bool false := hU 59 (by simp)
        have u0 : x 0 = .int .i64 n := hA 0 (by kernel_rfl)
        clear hU hV hA H1 hLv
        rw [frameD92] at hK ⊢
        simp only [u59, u0] at hK ⊢
        refine wpOp_step rfl (fun K' hK' => ?_)
        go_simp
        exact hK' _ _ (hK _ _ hS (fun _ _ _ h => h) (fun e he => by cases he; exact rfl))
      case s40 =>
        refine stepB_of [] [] [60, 59] [] H1 rfl rfl (by kernel_rfl) (by kernel_rfl) (by kernel_rfl) (by kernel_rfl) ?_
        intro σ hp hq x w5 hS hU hV hA Lv hLv K hK
        clear hp hq
        have u60 : x 60 = .int .i64 n := hU 60 (by simp)
        have u59 : x 59 = .bool false := hU 59 (by simp)
        clear hU hV hA H1 hLv
        rw [frameD92] at hK ⊢
        simp only [u60, u59] at hK ⊢
        refine wpOp_step rfl (fun K' hK' => ?_)
        have hf5 : Fuw w1 w5 := hS
        have hfw := F1.out.trans hf5
        go_simp
        go_wp2_with (go_at_call 37; refine (lnode_any n _).mono ?_; rintro e5 w6 ⟨rfl, f5⟩)
        exact hK _ _ (show Fuw w1 _ from hf5.trans f5.b) (fun _ _ _ h => vbu_on f5.b _ _ h) (fun e he => by cases he; exact rfl)
      case s41 =>
        refine stepB_of [] [] [59] [] H1 rfl rfl (by kernel_rfl) (by kernel_rfl) (by kernel_rfl) (by kernel_rfl) ?_
        intro σ hp hq x w5 hS hU hV hA Lv hLv K hK
        clear hp hq
        have u59 : x 59 = .bool false := hU 59 (by simp)
        have u0 : x 0 = .int .i64 n := hA 0 (by kernel_rfl)
        clear hU hV hA H1 hLv
        rw [frameD92] at hK ⊢
        simp only [u59, u0] at hK ⊢
        refine wpOp_step rfl (fun K' hK' => ?_)
        go_simp
        exact hK' _ _ (hK _ _ hS (fun _ _ _ h => h) (fun e he => by cases he; exact rfl))
      case s42 =>
        refine stepB_of [] [] [62, 59] [] H1 rfl rfl (by kernel_rfl) (by kernel_rfl) (by kernel_rfl) (by kernel_rfl) ?_
        intro σ hp hq x w5 hS hU hV hA Lv hLv K hK
        clear hp hq
        have u62 : x 62 = .int .i64 n := hU 62 (by simp)
        have u59 : x 59 = .bool false := hU 59 (by simp)
        clear hU hV hA H1 hLv
        rw [frameD92] at hK ⊢
        simp only [u62, u59] at hK ⊢
        refine wpOp_step rfl (fun K' hK' => ?_)
        have hf5 : Fuw w1 w5 := hS
        have hfw := F1.out.trans hf5
        go_simp
        go_wp2_with (go_at_call 38; refine (rcnode_any n _).mono ?_; rintro e5 w6 ⟨rfl, f5⟩)
        exact hK _ _ (show Fuw w1 _ from hf5.trans f5.b) (fun _ _ _ h => vbu_on f5.b _ _ h) (fun e he => by cases he; exact rfl)
      case s43 =>
        refine stepB_of [] [] [61, 63, 59] [] H1 rfl rfl (by kernel_rfl) (by kernel_rfl) (by kernel_rfl) (by kernel_rfl) ?_
        intro σ hp hq x w5 hS hU hV hA Lv hLv K hK
        clear hp hq
        have u61 : x 61 = vlv (.mk 5 n 0 [] []) none 0 := hU 61 (by simp)
        have u63 : x 63 = vlv (.mk 5 n 0 [] []) none 0 := hU 63 (by simp)
        have u59 : x 59 = .bool false := hU 59 (by simp)
        clear hU hV hA H1 hLv
        rw [frameD92] at hK ⊢
        simp only [u61, u63, u59] at hK ⊢
        refine wpOp_step rfl (fun K' hK' => ?_)
        have hf5 : Fuw w1 w5 := hS
        have hfw := F1.out.trans hf5
        go_simp
        go_wp2_with (go_at_call 26; refine (lsame_self (.mk 5 n 0 [] []) _ _ _ _ w5 (sl_nil w5) (sl_nil w5)).mono ?_; rintro e5 w6 ⟨rfl, f5⟩)
        exact hK _ _ (show Fuw w1 _ from hf5.trans f5.b) (fun _ _ _ h => vbu_on f5.b _ _ h) (fun e he => by cases he; exact rfl)
      case s44 =>
        refine stepB_of [] [] [64, 59] [] H1 rfl rfl (by kernel_rfl) (by kernel_rfl) (by kernel_rfl) (by kernel_rfl) ?_
        intro σ hp hq x w5 hS hU hV hA Lv hLv K hK
        clear hp hq
        have u64 : x 64 = .bool true := hU 64 (by simp)
        have u59 : x 59 = .bool false := hU 59 (by simp)
        clear hU hV hA H1 hLv
        rw [frameD92] at hK ⊢
        simp only [u64, u59] at hK ⊢
        refine wpOp_step rfl (fun K' hK' => ?_)
        go_simp
        exact hK' _ _ (hK _ _ hS (fun _ _ _ h => h) (fun e he => by cases he; exact rfl))
      case s45 =>
        refine stepB_of [] [] [59, 65] [] H1 rfl rfl (by kernel_rfl) (by kernel_rfl) (by kernel_rfl) (by kernel_rfl) ?_
        intro σ hp hq x w5 hS hU hV hA Lv hLv K hK
        clear hp hq
        have u59 : x 59 = .bool false := hU 59 (by simp)
        have u65 : x 65 = .bool false := hU 65 (by simp)
        clear hU hV hA H1 hLv
        rw [frameD92] at hK ⊢
        simp only [u59, u65] at hK ⊢
        refine wpOp_step rfl (fun K' hK' => ?_)
        go_simp
        exact hK' _ _ (hK _ _ hS (fun _ _ _ h => h) (fun e he => by cases he; exact rfl))
      case s46 =>
        refine stepB_of [] [] [66] [] H1 rfl rfl (by kernel_rfl) (by kernel_rfl) (by kernel_rfl) (by kernel_rfl) ?_
        intro σ hp hq x w5 hS hU hV hA Lv hLv K hK
        clear hp hq
        have u66 : x 66 = .bool false := hU 66 (by simp)
        clear hU hV hA H1 hLv
        rw [frameD92] at hK ⊢
        simp only [u66] at hK ⊢
        refine wpOp_step rfl (fun K' hK' => ?_)
        go_simp
        exact hK' _ _ (hK _ _ hS (fun _ _ _ h => h) (fun e he => by cases he; exact rfl))
      case s47 =>
        refine stepB_of [] [] [67] [] H1 rfl rfl (by kernel_rfl) (by kernel_rfl) (by kernel_rfl) (by kernel_rfl) ?_
        intro σ hp hq x w5 hS hU hV hA Lv hLv K hK
        clear hp hq
        have u67 : x 67 = .bool false := hU 67 (by simp)
        have u0 : x 0 = .int .i64 n := hA 0 (by kernel_rfl)
        clear hU hV hA H1 hLv
        rw [frameD92] at hK ⊢
        simp only [u67, u0] at hK ⊢
        refine wpOp_step rfl (fun K' hK' => ?_)
        go_simp
        exact hK' _ _ (hK _ _ hS (fun _ _ _ h => h) (fun e he => by cases he; exact rfl))
      case s48 =>
        refine stepB_of [] [] [68, 67] [] H1 rfl rfl (by kernel_rfl) (by kernel_rfl) (by kernel_rfl) (by kernel_rfl) ?_
        intro σ hp hq x w5 hS hU hV hA Lv hLv K hK
        clear hp hq
        have u68 : x 68 = .int .i64 n := hU 68 (by simp)
        have u67 : x 67 = .bool false := hU 67 (by simp)
        clear hU hV hA H1 hLv
        rw [frameD92] at hK ⊢
        simp only [u68, u67] at hK ⊢
        refine wpOp_step rfl (fun K' hK' => ?_)
        have hf5 : Fuw w1 w5 := hS
        have hfw := F1.out.trans hf5
        go_simp
        go_wp2_with (go_at_call 39; refine (ledge_any n _).mono ?_; rintro e5 w6 ⟨rfl, f5⟩)
        exact hK _ _ (show Fuw w1 _ from hf5.trans f5.b) (fun _ _ _ h => vbu_on f5.b _ _ h) (fun e he => by cases he; exact rfl)
      case s49 =>
        refine stepB_of [] [] [67] [] H1 rfl rfl (by kernel_rfl) (by kernel_rfl) (by kernel_rfl) (by kernel_rfl) ?_
        intro σ hp hq x w5 hS hU hV hA Lv hLv K hK
        clear hp hq
        have u67 : x 67 = .bool false := hU 67 (by simp)
        have u0 : x 0 = .int .i64 n := hA 0 (by kernel_rfl)
        clear hU hV hA H1 hLv
        rw [frameD92] at hK ⊢
        simp only [u67, u0] at hK ⊢
        refine wpOp_step rfl (fun K' hK' => ?_)
        go_simp
        exact hK' _ _ (hK _ _ hS (fun _ _ _ h => h) (fun e he => by cases he; exact rfl))
      case s50 =>
        refine stepB_of [] [] [70, 67] [] H1 rfl rfl (by kernel_rfl) (by kernel_rfl) (by kernel_rfl) (by kernel_rfl) ?_
        intro σ hp hq x w5 hS hU hV hA Lv hLv K hK
        clear hp hq
        have u70 : x 70 = .int .i64 n := hU 70 (by simp)
        have u67 : x 67 = .bool false := hU 67 (by simp)
        clear hU hV hA H1 hLv
        rw [frameD92] at hK ⊢
        simp only [u70, u67] at hK ⊢
        refine wpOp_step rfl (fun K' hK' => ?_)
        have hf5 : Fuw w1 w5 := hS
        have hfw := F1.out.trans hf5
        go_simp
        go_wp2_with (go_at_call 40; refine (rcedge_any n _).mono ?_; rintro e5 w6 ⟨rfl, f5⟩)
        exact hK _ _ (show Fuw w1 _ from hf5.trans f5.b) (fun _ _ _ h => vbu_on f5.b _ _ h) (fun e he => by cases he; exact rfl)
      case s51 =>
        refine stepB_of [] [] [69, 71, 67] [] H1 rfl rfl (by kernel_rfl) (by kernel_rfl) (by kernel_rfl) (by kernel_rfl) ?_
        intro σ hp hq x w5 hS hU hV hA Lv hLv K hK
        clear hp hq
        have u69 : x 69 = vlv (.mk 6 n 0 [] []) none 0 := hU 69 (by simp)
        have u71 : x 71 = vlv (.mk 6 n 0 [] []) none 0 := hU 71 (by simp)
        have u67 : x 67 = .bool false := hU 67 (by simp)
        clear hU hV hA H1 hLv
        rw [frameD92] at hK ⊢
        simp only [u69, u71, u67] at hK ⊢
        refine wpOp_step rfl (fun K' hK' => ?_)
        have hf5 : Fuw w1 w5 := hS
        have hfw := F1.out.trans hf5
        go_simp
        go_wp2_with (go_at_call 26; refine (lsame_self (.mk 6 n 0 [] []) _ _ _ _ w5 (sl_nil w5) (sl_nil w5)).mono ?_; rintro e5 w6 ⟨rfl, f5⟩)
        exact hK _ _ (show Fuw w1 _ from hf5.trans f5.b) (fun _ _ _ h => vbu_on f5.b _ _ h) (fun e he => by cases he; exact rfl)
      case s52 =>
        refine stepB_of [] [] [72, 67] [] H1 rfl rfl (by kernel_rfl) (by kernel_rfl) (by kernel_rfl) (by kernel_rfl) ?_
        intro σ hp hq x w5 hS hU hV hA Lv hLv K hK
        clear hp hq
        have u72 : x 72 = .bool true := hU 72 (by simp)
        have u67 : x 67 = .bool false := hU 67 (by simp)
        clear hU hV hA H1 hLv
        rw [frameD92] at hK ⊢
        simp only [u72, u67] at hK ⊢
        refine wpOp_step rfl (fun K' hK' => ?_)
        go_simp
        exact hK' _ _ (hK _ _ hS (fun _ _ _ h => h) (fun e he => by cases he; exact rfl))
      case s53 =>
        refine stepB_of [] [] [67, 73] [] H1 rfl rfl (by kernel_rfl) (by kernel_rfl) (by kernel_rfl) (by kernel_rfl) ?_
        intro σ hp hq x w5 hS hU hV hA Lv hLv K hK
        clear hp hq
        have u67 : x 67 = .bool false := hU 67 (by simp)
        have u73 : x 73 = .bool false := hU 73 (by simp)
        clear hU hV hA H1 hLv
        rw [frameD92] at hK ⊢
        simp only [u67, u73] at hK ⊢
        refine wpOp_step rfl (fun K' hK' => ?_)
        go_simp
        exact hK' _ _ (hK _ _ hS (fun _ _ _ h => h) (fun e he => by cases he; exact rfl))
      case s54 =>
        refine stepB_of [] [] [74] [] H1 rfl rfl (by kernel_rfl) (by kernel_rfl) (by kernel_rfl) (by kernel_rfl) ?_
        intro σ hp hq x w5 hS hU hV hA Lv hLv K hK
        clear hp hq
        have u74 : x 74 = .bool false := hU 74 (by simp)
        clear hU hV hA H1 hLv
        rw [frameD92] at hK ⊢
        simp only [u74] at hK ⊢
        refine wpOp_step rfl (fun K' hK' => ?_)
        go_simp
        exact hK' _ _ (hK _ _ hS (fun _ _ _ h => h) (fun e he => by cases he; exact rfl))
      case s55 =>
        refine stepB_of [] [] [75] [] H1 rfl rfl (by kernel_rfl) (by kernel_rfl) (by kernel_rfl) (by kernel_rfl) ?_
        intro σ hp hq x w5 hS hU hV hA Lv hLv K hK
        clear hp hq
        have u75 : x 75 = .bool false := hU 75 (by simp)
        have u2 : x 2 = .slice ao l.length cap := hA 2 (by kernel_rfl)
        clear hU hV hA H1 hLv
        rw [frameD92] at hK ⊢
        simp only [u75, u2] at hK ⊢
        refine wpOp_step rfl (fun K' hK' => ?_)
        go_simp
        exact hK' _ _ (hK _ _ hS (fun _ _ _ h => h) (fun e he => by cases he; exact rfl))
      case s56 =>
        refine stepB_of [] [] [76, 75] [] H1 rfl rfl (by kernel_rfl) (by kernel_rfl) (by kernel_rfl) (by kernel_rfl) ?_
        intro σ hp hq x w5 hS hU hV hA Lv hLv K hK
        clear hp hq
        have u76 : x 76 = .slice ao l.length cap := hU 76 (by simp)
        have u75 : x 75 = .bool false := hU 75 (by simp)
        clear hU hV hA H1 hLv
        rw [frameD92] at hK ⊢
        simp only [u76, u75] at hK ⊢
        refine wpOp_step rfl (fun K' hK' => ?_)
        have hf5 : Fuw w1 w5 := hS
        have hfw := F1.out.trans hf5
        go_simp
        go_wp2_with (go_at_call 41; refine (llist_any ao l.length cap _).mono ?_; rintro e5 w6 ⟨rfl, f5⟩)
        exact hK _ _ (show Fuw w1 _ from hf5.trans f5.b) (fun _ _ _ h => vbu_on f5.b _ _ h) (fun e he => by cases he; exact rfl)
      case s57 =>
        refine stepB_of [] [] [75] [] H1 rfl rfl (by kernel_rfl) (by kernel_rfl) (by kernel_rfl) (by kernel_rfl) ?_
        intro σ hp hq x w5 hS hU hV hA Lv hLv K hK
        clear hp hq
        have u75 : x 75 = .bool false := hU 75 (by simp)
        have u2 : x 2 = .slice ao l.length cap := hA 2 (by kernel_rfl)
        clear hU hV hA H1 hLv
        rw [frameD92] at hK ⊢
        simp only [u75, u2] at hK ⊢
        refine wpOp_step rfl (fun K' hK' => ?_)
        go_simp
        exact hK' _ _ (hK _ _ hS (fun _ _ _ h => h) (fun e he => by cases he; exact rfl))
      case s58 =>
        refine stepB_of [] [] [78, 75] [] H1 rfl rfl (by kernel_rfl) (by kernel_rfl) (by kernel_rfl) (by kernel_rfl) ?_
        intro σ hp hq x w5 hS hU hV hA Lv hLv K hK
        clear hp hq
        have u78 : x 78 = .slice ao l.length cap := hU 78 (by simp)
        have u75 : x 75 = .bool false := hU 75 (by simp)
        clear hU hV hA H1 hLv
        rw [frameD92] at hK ⊢
        simp only [u78, u75] at hK ⊢
        refine wpOp_step rfl (fun K' hK' => ?_)
        have hf5 : Fuw w1 w5 := hS
        have hfw := F1.out.trans hf5
        go_simp
        go_wp2_with (go_at_call 42; refine (rclist_any l ao cap _ (HS.out.onw hfw) HZ.out).mono ?_; rintro e5 w6 ⟨a6, k6, rfl, hs6, f5⟩)
        exact hK _ _ (show Fuw w1 _ from hf5.trans f5) (fun _ _ _ h => vbu_on f5 _ _ h) (fun e he => by cases he; exact ⟨_, _, rfl, hs6⟩)
      case s59 =>
        refine stepB_of [] [] [77, 79, 75] [] H1 rfl rfl (by kernel_rfl) (by kernel_rfl) (by kernel_rfl) (by kernel_rfl) ?_
        intro σ hp hq x w5 hS hU hV hA Lv hLv K hK
        clear hp hq
        have u77 : x 77 = vlv (.mk 8 0 0 [] l) ao cap := hU 77 (by simp)
        obtain ⟨a2, k2, u79, hB⟩ : ∃ a k, x 79 = vlv (.mk 8 0 0 [] l) a k ∧ SlV w5 a l k := hU 79 (by simp)
        have u75 : x 75 = .bool false := hU 75 (by simp)
        clear hU hV hA H1 hLv
        rw [frameD92] at hK ⊢
        simp only [u77, u79, u75] at hK ⊢
        refine wpOp_step rfl (fun K' hK' => ?_)
        have hf5 : Fuw w1 w5 := hS
        have hfw := F1.out.trans hf5
        go_simp
        go_wp2_with (go_at_call 26; refine (lsame_self (.mk 8 0 0 [] l) _ _ _ _ w5 (HS.out.onw hfw) hB).mono ?_; rintro e5 w6 ⟨rfl, f5⟩)
        exact hK _ _ (show Fuw w1 _ from hf5.trans f5.b) (fun _ _ _ h => vbu_on f5.b _ _ h) (fun e he => by cases he; exact rfl)
      case s60 =>
        refine stepB_of [] [] [80, 75] [] H1 rfl rfl (by kernel_rfl) (by kernel_rfl) (by kernel_rfl) (by kernel_rfl) ?_
        intro σ hp hq x w5 hS hU hV hA Lv hLv K hK
        clear hp hq
        have u80 : x 80 = .bool true := hU 80 (by simp)
        have u75 : x 75 = .bool false := hU 75 (by simp)
        clear hU hV hA H1 hLv
        rw [frameD92] at hK ⊢
        simp only [u80, u75] at hK ⊢
        refine wpOp_step rfl (fun K' hK' => ?_)
        go_simp
        exact hK' _ _ (hK _ _ hS (fun _ _ _ h => h) (fun e he => by cases he; exact rfl))
      case s61 =>
        refine stepB_of [] [] [75, 81] [] H1 rfl rfl (by kernel_rfl) (by kernel_rfl) (by kernel_rfl) (by kernel_rfl) ?_
        intro σ hp hq x w5 hS hU hV hA Lv hLv K hK
        clear hp hq
        have u75 : x 75 = .bool false := hU 75 (by simp)
        have u81 : x 81 = .bool false := hU 81 (by simp)
        clear hU hV hA H1 hLv
        rw [frameD92] at hK ⊢
        simp only [u75, u81] at hK ⊢
        refine wpOp_step rfl (fun K' hK' => ?_)
        go_simp
        exact hK' _ _ (hK _ _ hS (fun _ _ _ h => h) (fun e he => by cases he; exact rfl))
      case s62 =>
        refine stepB_of [] [] [82] [] H1 rfl rfl (by kernel_rfl) (by kernel_rfl) (by kernel_rfl) (by kernel_rfl) ?_
        intro σ hp hq x w5 hS hU hV hA Lv hLv K hK
        clear hp hq
        have u82 : x 82 = .bool false := hU 82 (by simp)
        clear hU hV hA H1 hLv
        rw [frameD92] at hK ⊢
        simp only [u82] at hK ⊢
        refine wpOp_step rfl (fun K' hK' => ?_)
        go_simp
        exact hK' _ _ (hK _ _ hS (fun _ _ _ h => h) (fun e he => by cases he; exact rfl))
      case s63 =>
        refine stepB_of [] [] [83] [] H1 rfl rfl (by kernel_rfl) (by kernel_rfl) (by kernel_rfl) (by kernel_rfl) ?_
        intro σ hp hq x w5 hS hU hV hA Lv hLv K hK
        clear hp hq
        have u83 : x 83 = .bool false := hU 83 (by simp)
        have u2 : x 2 = .slice ao l.length cap := hA 2 (by kernel_rfl)
        clear hU hV hA H1 hLv
        rw [frameD92] at hK ⊢
        simp only [u83, u2] at hK ⊢
        refine wpOp_step rfl (fun K' hK' => ?_)
        go_simp
        exact hK' _ _ (hK _ _ hS (fun _ _ _ h => h) (fun e he => by cases he; exact rfl))
      case s64 =>
        refine stepB_of [] [] [84, 83] [] H1 rfl rfl (by kernel_rfl) (by kernel_rfl) (by kernel_rfl) (by kernel_rfl) ?_
        intro σ hp hq x w5 hS hU hV hA Lv hLv K hK
        clear hp hq
        have u84 : x 84 = .slice ao l.length cap := hU 84 (by simp)
        have u83 : x 83 = .bool false := hU 83 (by simp)
        clear hU hV hA H1 hLv
        rw [frameD92] at hK ⊢
        simp only [u84, u83] at hK ⊢
        refine wpOp_step rfl (fun K' hK' => ?_)
        have hf5 : Fuw w1 w5 := hS
        have hfw := F1.out.trans hf5
        go_simp
        go_wp2_with (go_at_call 43; refine (lpathc_any ao l.length cap _).mono ?_; rintro e5 w6 ⟨rfl, f5⟩)
        exact hK _ _ (show Fuw w1 _ from hf5.trans f5.b) (fun _ _ _ h => vbu_on f5.b _ _ h) (fun e he => by cases he; exact rfl)
      case s65 =>
        refine stepB_of [] [] [83] [] H1 rfl rfl (by kernel_rfl) (by kernel_rfl) (by kernel_rfl) (by kernel_rfl) ?_
        intro σ hp hq x w5 hS hU hV hA Lv hLv K hK
        clear hp hq
        have u83 : x 83 = .bool false := hU 83 (by simp)
        have u2 : x 2 = .slice ao l.length cap := hA 2 (by kernel_rfl)
        clear hU hV hA H1 hLv
        rw [frameD92] at hK ⊢
        simp only [u83, u2] at hK ⊢
        refine wpOp_step rfl (fun K' hK' => ?_)
        go_simp
        exact hK' _ _ (hK _ _ hS (fun _ _ _ h => h) (fun e he => by cases he; exact rfl))
      case s66 =>
        refine stepB_of [] [] [86, 83] [] H1 rfl rfl (by kernel_rfl) (by kernel_rfl) (by kernel_rfl) (by kernel_rfl) ?_
        intro σ hp hq x w5 hS hU hV hA Lv hLv K hK
        clear hp hq
        have u86 : x 86 = .slice ao l.length cap := hU 86 (by simp)
        have u83 : x 83 = .bool false := hU 83 (by simp)
        clear hU hV hA H1 hLv
        rw [frameD92] at hK ⊢
        simp only [u86, u83] at hK ⊢
        refine wpOp_step rfl (fun K' hK' => ?_)
        have hf5 : Fuw w1 w5 := hS
        have hfw := F1.out.trans hf5
        go_simp
        go_wp2_with (go_at_call 44; refine (rcpath_any l ao cap _ (HS.out.onw hfw) HZ.out).mono ?_; rintro e5 w6 ⟨a6, k6, rfl, hs6, f5⟩)
        exact hK _ _ (show Fuw w1 _ from hf5.trans f5) (fun _ _ _ h => vbu_on f5 _ _ h) (fun e he => by cases he; exact ⟨_, _, rfl, hs6⟩)
      case s67 =>
        refine stepB_of [] [] [85, 87, 83] [] H1 rfl rfl (by kernel_rfl) (by kernel_rfl) (by kernel_rfl) (by kernel_rfl) ?_
        intro σ hp hq x w5 hS hU hV hA Lv hLv K hK
        clear hp hq
        have u85 : x 85 = vlv (.mk 7 0 0 [] l) ao cap := hU 85 (by simp)
        obtain ⟨a2, k2, u87, hB⟩ : ∃ a k, x 87 = vlv (.mk 7 0 0 [] l) a k ∧ SlV w5 a l k := hU 87 (by simp)
        have u83 : x 83 = .bool false := hU 83 (by simp)
        clear hU hV hA H1 hLv
        rw [frameD92] at hK ⊢
        simp only [u85, u87, u83] at hK ⊢
        refine wpOp_step rfl (fun K' hK' => ?_)
        have hf5 : Fuw w1 w5 := hS
        have hfw := F1.out.trans hf5
        go_simp
        go_wp2_with (go_at_call 26; refine (lsame_self (.mk 7 0 0 [] l) _ _ _ _ w5 (HS.out.onw hfw) hB).mono ?_; rintro e5 w6 ⟨rfl, f5⟩)
        exact hK _ _ (show Fuw w1 _ from hf5.trans f5.b) (fun _ _ _ h => vbu_on f5.b _ _ h) (fun e he => by cases he; exact rfl)
      case s68 =>
        refine stepB_of [] [] [88, 83] [] H1 rfl rfl (by kernel_rfl) (by kernel_rfl) (by kernel_rfl) (by kernel_rfl) ?_
        intro σ hp hq x w5 hS hU hV hA Lv hLv K hK
        clear hp hq
        have u88 : x 88 = .bool true := hU 88 (by simp)
        have u83 : x 83 = .bool false := hU 83 (by simp)
        clear hU hV hA H1 hLv
        rw [frameD92] at hK ⊢
        simp only [u88, u83] at hK ⊢
        refine wpOp_step rfl (fun K' hK' => ?_)
        go_simp
        exact hK' _ _ (hK _ _ hS (fun _ _ _ h => h) (fun e he => by cases he; exact rfl))
      case s69 =>
        refine stepB_of [] [] [83, 89] [] H1 rfl rfl (by kernel_rfl) (by kernel_rfl) (by kernel_rfl) (by kernel_rfl) ?_
        intro σ hp hq x w5 hS hU hV hA Lv hLv K hK
        clear hp hq
        have u83 : x 83 = .bool false := hU 83 (by simp)
        have u89 : x 89 = .bool false := hU 89 (by simp)
        clear hU hV hA H1 hLv
        rw [frameD92] at hK ⊢
        simp only [u83, u89] at hK ⊢
        refine wpOp_step rfl (fun K' hK' => ?_)
        go_simp
        exact hK' _ _ (hK _ _ hS (fun _ _ _ h => h) (fun e he => by cases he; exact rfl))
      case base =>
        refine midB_start rfl rfl (show Fuw w1 w1.drew from Fuw.drew (Fuw.refl _)) (fun t ht hh => ?_) (fun t => trivial)
        rcases start_of (ks := kVb) (L := []) (by kernel_rfl) t ht hh with e | e
        · show VbU _ _ _ _ _ _ (kVb.getD t 0) _ _
          rw [e]; trivial
        · cases e
      case fin =>
        intro x w5 hS hU hA
        rename_i hk
        refine hk _ _ ?_
        have F5 := Lib.hid (F1.out.trans (show Fuw w1 w5 from hS))
        have u90 : x 90 = .bool false := hU 90 (by simp)
        clear hU hA hS
        rw [frameD92]
        simp only [u90]
        clear u90
        go_wp2_with fail
        go_at_call 7; refine (alive_any _ (HG.out.onw F5.out)).mono ?_; rintro e2 w2 ⟨rfl, f2⟩
        have F2 := Lib.hid (F5.out.trans f2)
        clear f2
        go_wp2
        go_ret
        exact ⟨rfl, F2.out⟩
end Go.Proofs.YtieicceceggglaaGreatDoor
