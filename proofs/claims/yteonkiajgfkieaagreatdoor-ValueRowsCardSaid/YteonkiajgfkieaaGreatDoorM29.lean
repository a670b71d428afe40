/-
  RvD; RvE: texts of one kind in one file; each part says what it holds.
-/
import Derived.Test.YteonkiajgfkieaaGreatDoorM28

/-! The reference of package value: valid, kind by kind; of kinds that hold values as path and list say. Nothing that was there turns. -/
namespace Go.Proofs.YteonkiajgfkieaaGreatDoor
open Go.RowKit

set_option maxHeartbeats 1600000 in
theorem rvk0 (n d : Int) (s : List UInt8) (l : List Vl) (ao : Option Addr) (cap : Nat) (m : Int) (w : World) : Calls Tryz.prog 94 #[vlv (.mk 0 n d s l) ao cap, .int .i64 m] w (RetB w (okFlat 0 n d s l)) := by
  obtain ⟨p0, f0⟩ := bx1 w (.mk 0 n d s l) ao cap
  have B := Lib.hid (fun w => rbare_any (.mk 0 n d s l) ao cap w false false false false)
  have e : okFlat 0 n d s l = bareV n d s l false false false false := by simp [okFlat]
  rw [e]; clear e
  simp only [vlv, Vl.kd, Vl.nn, Vl.dd, Vl.ss, Vl.ll] at B f0 ⊢
  generalize bareV n d s l false false false false = q at B
  go_enter Tryz.func94, Tryz.ntmps94
  go_wp2_with fail
  go_at_call 112; refine (B.out _).mono ?_; rintro e1 w1 ⟨rfl, f1⟩
  go_wp2
  go_ret
  exact ⟨rfl, f0.trans f1⟩
set_option maxHeartbeats 1600000 in
theorem rvk1 (n d : Int) (s : List UInt8) (l : List Vl) (ao : Option Addr) (cap : Nat) (m : Int) (w : World) : Calls Tryz.prog 94 #[vlv (.mk 1 n d s l) ao cap, .int .i64 m] w (RetB w (okFlat 1 n d s l)) := by
  obtain ⟨p0, f0⟩ := bx1 w (.mk 1 n d s l) ao cap
  have B := Lib.hid (fun w => rbare_any (.mk 1 n d s l) ao cap w true false false false)
  have e : okFlat 1 n d s l = (bareV n d s l true false false false && (n == 0 || n == 1)) := by simp [okFlat]
  rw [e]; clear e
  simp only [vlv, Vl.kd, Vl.nn, Vl.dd, Vl.ss, Vl.ll] at B f0 ⊢
  generalize bareV n d s l true false false false = q at B
  cases q
  · go_enter Tryz.func94, Tryz.ntmps94
    go_wp2_with fail
    go_at_call 112; refine (B.out _).mono ?_; rintro e1 w1 ⟨rfl, f1⟩
    go_wp2
    go_ret
    exact ⟨rfl, f0.trans f1⟩
  · go_enter Tryz.func94, Tryz.ntmps94
    go_wp2_with fail
    go_at_call 112; refine (B.out _).mono ?_; rintro e1 w1 ⟨rfl, f1⟩
    have c1 := (p0.on f1).c1
    simp only [Vl.nn] at c1
    go_wp2
    all_goals
      go_ret
      exact ⟨ret_bool (by first | (simp_all; done) | (rw [Bool.eq_iff_iff]; simp; omega)), f0.trans f1⟩
set_option maxHeartbeats 1600000 in
theorem rvk2 (n d : Int) (s : List UInt8) (l : List Vl) (ao : Option Addr) (cap : Nat) (m : Int) (w : World) : Calls Tryz.prog 94 #[vlv (.mk 2 n d s l) ao cap, .int .i64 m] w (RetB w (okFlat 2 n d s l)) := by
  obtain ⟨p0, f0⟩ := bx1 w (.mk 2 n d s l) ao cap
  have B := Lib.hid (fun w => rbare_any (.mk 2 n d s l) ao cap w true false false false)
  have e : okFlat 2 n d s l = (bareV n d s l true false false false && inV n) := by simp [okFlat, inV]
  rw [e]; clear e
  simp only [vlv, Vl.kd, Vl.nn, Vl.dd, Vl.ss, Vl.ll] at B f0 ⊢
  have IN := Lib.hid (fun w => rin_any n w)
  generalize bareV n d s l true false false false = q at B
  cases q
  · go_enter Tryz.func94, Tryz.ntmps94
    go_wp2_with fail
    go_at_call 112; refine (B.out _).mono ?_; rintro e1 w1 ⟨rfl, f1⟩
    go_wp2
    go_ret
    exact ⟨rfl, f0.trans f1⟩
  · go_enter Tryz.func94, Tryz.ntmps94
    go_wp2_with fail
    go_at_call 112; refine (B.out _).mono ?_; rintro e1 w1 ⟨rfl, f1⟩
    have c1 := (p0.on f1).c1
    simp only [Vl.nn] at c1
    go_wp2_with fail
    go_at_call 113; refine (IN.out _).mono ?_; rintro e2 w2 ⟨rfl, rfl⟩
    go_wp2
    go_ret
    exact ⟨ret_bool (by simp), f0.trans f1⟩
set_option maxHeartbeats 1600000 in
theorem rvk3 (n d : Int) (s : List UInt8) (l : List Vl) (ao : Option Addr) (cap : Nat) (m : Int) (w : World) : Calls Tryz.prog 94 #[vlv (.mk 3 n d s l) ao cap, .int .i64 m] w (RetB w (okFlat 3 n d s l)) := by
  obtain ⟨p0, f0⟩ := bx1 w (.mk 3 n d s l) ao cap
  have B := Lib.hid (fun w => rbare_any (.mk 3 n d s l) ao cap w true true false false)
  have e : okFlat 3 n d s l = (bareV n d s l true true false false && decide (2 ≤ d) && okF n d) := by simp [okFlat]
  rw [e]; clear e
  simp only [vlv, Vl.kd, Vl.nn, Vl.dd, Vl.ss, Vl.ll] at B f0 ⊢
  have VA := Lib.hid (fun w => rvalid_any n d w)
  generalize bareV n d s l true true false false = q at B
  cases q
  · go_enter Tryz.func94, Tryz.ntmps94
    go_wp2_with fail
    go_at_call 112; refine (B.out _).mono ?_; rintro e1 w1 ⟨rfl, f1⟩
    go_wp2
    go_ret
    exact ⟨rfl, f0.trans f1⟩
  · go_enter Tryz.func94, Tryz.ntmps94
    go_wp2_with fail
    go_at_call 112; refine (B.out _).mono ?_; rintro e1 w1 ⟨rfl, f1⟩
    have c1 := (p0.on f1).c1
    simp only [Vl.nn] at c1
    have c2 := (p0.on f1).c2
    simp only [Vl.dd] at c2
    by_cases hd : 2 ≤ d
    · have g : decide (2 ≤ d) = true := decide_eq_true hd
      go_wp2_with fail
      go_at_call 96; refine (VA.out _).mono ?_; rintro e2 w2 ⟨rfl, f2⟩
      go_wp2
      go_ret
      exact ⟨ret_bool (by rw [g]; simp), (f0.trans f1).trans f2⟩
    · have g : decide (2 ≤ d) = false := decide_eq_false hd
      go_wp2
      go_ret
      exact ⟨ret_bool (by rw [g]; simp), f0.trans f1⟩
set_option maxHeartbeats 1600000 in
theorem rvk4 (n d : Int) (s : List UInt8) (l : List Vl) (ao : Option Addr) (cap : Nat) (m : Int) (w : World) (hs : s.length ≤ maxLen) : Calls Tryz.prog 94 #[vlv (.mk 4 n d s l) ao cap, .int .i64 m] w (RetB w (okFlat 4 n d s l)) := by
  obtain ⟨p0, f0⟩ := bx1 w (.mk 4 n d s l) ao cap
  have B := Lib.hid (fun w => rbare_any (.mk 4 n d s l) ao cap w false false true false)
  have e : okFlat 4 n d s l = (bareV n d s l false false true false && okStr s) := by simp [okFlat]
  rw [e]; clear e
  simp only [vlv, Vl.kd, Vl.nn, Vl.dd, Vl.ss, Vl.ll] at B f0 ⊢
  have ST := Lib.hid (fun w => rstr_any (bs s) (by simpa [bs, ByteArray.size] using hs) w)
  rw [show (bs s).data.toList = s from rfl] at ST
  generalize bareV n d s l false false true false = q at B
  cases q
  · go_enter Tryz.func94, Tryz.ntmps94
    go_wp2_with fail
    go_at_call 112; refine (B.out _).mono ?_; rintro e1 w1 ⟨rfl, f1⟩
    go_wp2
    go_ret
    exact ⟨rfl, f0.trans f1⟩
  · go_enter Tryz.func94, Tryz.ntmps94
    go_wp2_with fail
    go_at_call 112; refine (B.out _).mono ?_; rintro e1 w1 ⟨rfl, f1⟩
    have c3 := (p0.on f1).c3
    simp only [Vl.ss] at c3
    go_wp2_with fail
    go_at_call 114; refine (ST.out _).mono ?_; rintro e2 w2 ⟨rfl, rfl⟩
    go_wp2
    go_ret
    exact ⟨ret_bool (by simp), f0.trans f1⟩
set_option maxHeartbeats 1600000 in
theorem rvk5 (n d : Int) (s : List UInt8) (l : List Vl) (ao : Option Addr) (cap : Nat) (m : Int) (w : World) : Calls Tryz.prog 94 #[vlv (.mk 5 n d s l) ao cap, .int .i64 m] w (RetB w (okFlat 5 n d s l)) := by
  obtain ⟨p0, f0⟩ := bx1 w (.mk 5 n d s l) ao cap
  have B := Lib.hid (fun w => rbare_any (.mk 5 n d s l) ao cap w true false false false)
  have e : okFlat 5 n d s l = (bareV n d s l true false false false && decide (1 ≤ n) && decide (n ≤ 1000000)) := by simp [okFlat]
  rw [e]; clear e
  simp only [vlv, Vl.kd, Vl.nn, Vl.dd, Vl.ss, Vl.ll] at B f0 ⊢
  generalize bareV n d s l true false false false = q at B
  cases q
  · go_enter Tryz.func94, Tryz.ntmps94
    go_wp2_with fail
    go_at_call 112; refine (B.out _).mono ?_; rintro e1 w1 ⟨rfl, f1⟩
    go_wp2
    go_ret
    exact ⟨rfl, f0.trans f1⟩
  · go_enter Tryz.func94, Tryz.ntmps94
    go_wp2_with fail
    go_at_call 112; refine (B.out _).mono ?_; rintro e1 w1 ⟨rfl, f1⟩
    have c1 := (p0.on f1).c1
    simp only [Vl.nn] at c1
    go_wp2
    all_goals
      go_ret
      exact ⟨ret_bool (by first | (simp_all; done) | (rw [Bool.eq_iff_iff]; simp; omega)), f0.trans f1⟩
set_option maxHeartbeats 1600000 in
theorem rvk6 (n d : Int) (s : List UInt8) (l : List Vl) (ao : Option Addr) (cap : Nat) (m : Int) (w : World) : Calls Tryz.prog 94 #[vlv (.mk 6 n d s l) ao cap, .int .i64 m] w (RetB w (okFlat 6 n d s l)) := by
  obtain ⟨p0, f0⟩ := bx1 w (.mk 6 n d s l) ao cap
  have B := Lib.hid (fun w => rbare_any (.mk 6 n d s l) ao cap w true false false false)
  have e : okFlat 6 n d s l = (bareV n d s l true false false false && decide (1 ≤ n) && decide (n ≤ 1000000)) := by simp [okFlat]
  rw [e]; clear e
  simp only [vlv, Vl.kd, Vl.nn, Vl.dd, Vl.ss, Vl.ll] at B f0 ⊢
  generalize bareV n d s l true false false false = q at B
  cases q
  · go_enter Tryz.func94, Tryz.ntmps94
    go_wp2_with fail
    go_at_call 112; refine (B.out _).mono ?_; rintro e1 w1 ⟨rfl, f1⟩
    go_wp2
    go_ret
    exact ⟨rfl, f0.trans f1⟩
  · go_enter Tryz.func94, Tryz.ntmps94
    go_wp2_with fail
    go_at_call 112; refine (B.out _).mono ?_; rintro e1 w1 ⟨rfl, f1⟩
    have c1 := (p0.on f1).c1
    simp only [Vl.nn] at c1
    go_wp2
    all_goals
      go_ret
      exact ⟨ret_bool (by first | (simp_all; done) | (rw [Bool.eq_iff_iff]; simp; omega)), f0.trans f1⟩
set_option maxHeartbeats 1600000 in
theorem rvk7 (n d : Int) (s : List UInt8) (l : List Vl) (ao : Option Addr) (cap : Nat) (m : Int) (w : World) (p : Bool) (HP : Hid (∀ w', Fur w w' → Calls Tryz.prog 115 #[.slice ao l.length cap] w' (RetB w' p))) : Calls Tryz.prog 94 #[vlv (.mk 7 n d s l) ao cap, .int .i64 m] w (RetB w (bareV n d s l false false false true && p)) := by
  obtain ⟨p0, f0⟩ := bx1 w (.mk 7 n d s l) ao cap
  have B := Lib.hid (fun w => rbare_any (.mk 7 n d s l) ao cap w false false false true)
  simp only [vlv, Vl.kd, Vl.nn, Vl.dd, Vl.ss, Vl.ll] at B f0 ⊢
  generalize bareV n d s l false false false true = q at B
  cases q
  · go_enter Tryz.func94, Tryz.ntmps94
    go_wp2_with fail
    go_at_call 112; refine (B.out _).mono ?_; rintro e1 w1 ⟨rfl, f1⟩
    go_wp2
    go_ret
    exact ⟨rfl, f0.trans f1⟩
  · go_enter Tryz.func94, Tryz.ntmps94
    go_wp2_with fail
    go_at_call 112; refine (B.out _).mono ?_; rintro e1 w1 ⟨rfl, f1⟩
    have c4 := (p0.on f1).c4
    simp only [Vl.ll] at c4
    go_wp2_with fail
    go_at_call 115; refine (HP.out _ (f0.trans f1)).mono ?_; rintro e2 w2 ⟨rfl, f2⟩
    go_wp2
    go_ret
    exact ⟨ret_bool (by simp), (f0.trans f1).trans f2⟩
set_option maxHeartbeats 1600000 in
theorem rvk8 (n d : Int) (s : List UInt8) (l : List Vl) (ao : Option Addr) (cap : Nat) (m : Int) (w : World) (p : Bool) (HP : Hid (∀ w', Fur w w' → Calls Tryz.prog 116 #[.slice ao l.length cap, .int .i64 m] w' (RetB w' p))) : Calls Tryz.prog 94 #[vlv (.mk 8 n d s l) ao cap, .int .i64 m] w (RetB w (bareV n d s l false false false true && p)) := by
  obtain ⟨p0, f0⟩ := bx1 w (.mk 8 n d s l) ao cap
  have B := Lib.hid (fun w => rbare_any (.mk 8 n d s l) ao cap w false false false true)
  simp only [vlv, Vl.kd, Vl.nn, Vl.dd, Vl.ss, Vl.ll] at B f0 ⊢
  generalize bareV n d s l false false false true = q at B
  cases q
  · go_enter Tryz.func94, Tryz.ntmps94
    go_wp2_with fail
    go_at_call 112; refine (B.out _).mono ?_; rintro e1 w1 ⟨rfl, f1⟩
    go_wp2
    go_ret
    exact ⟨rfl, f0.trans f1⟩
  · go_enter Tryz.func94, Tryz.ntmps94
    go_wp2_with fail
    go_at_call 112; refine (B.out _).mono ?_; rintro e1 w1 ⟨rfl, f1⟩
    have c4 := (p0.on f1).c4
    simp only [Vl.ll] at c4
    go_wp2_with fail
    go_at_call 116; refine (HP.out _ (f0.trans f1)).mono ?_; rintro e2 w2 ⟨rfl, f2⟩
    go_wp2
    go_ret
    exact ⟨ret_bool (by simp), (f0.trans f1).trans f2⟩
set_option maxHeartbeats 1600000 in
theorem rvk_no (x : Vl) (ao : Option Addr) (cap : Nat) (m : Int) (w : World) (h : ∀ j : Nat, j < 9 → x.kd ≠ j) : Calls Tryz.prog 94 #[vlv x ao cap, .int .i64 m] w (RetB w false) := by
  obtain ⟨p0, f0⟩ := bx1 w x ao cap
  have g0 : (x.kd == 0) = false := beq_eq_false_iff_ne.2 (h 0 (by decide))
  have g1 : (x.kd == 1) = false := beq_eq_false_iff_ne.2 (h 1 (by decide))
  have g2 : (x.kd == 2) = false := beq_eq_false_iff_ne.2 (h 2 (by decide))
  have g3 : (x.kd == 3) = false := beq_eq_false_iff_ne.2 (h 3 (by decide))
  have g4 : (x.kd == 4) = false := beq_eq_false_iff_ne.2 (h 4 (by decide))
  have g5 : (x.kd == 5) = false := beq_eq_false_iff_ne.2 (h 5 (by decide))
  have g6 : (x.kd == 6) = false := beq_eq_false_iff_ne.2 (h 6 (by decide))
  have g7 : (x.kd == 7) = false := beq_eq_false_iff_ne.2 (h 7 (by decide))
  have g8 : (x.kd == 8) = false := beq_eq_false_iff_ne.2 (h 8 (by decide))
  clear h
  unfold vlv
  go_enter Tryz.func94, Tryz.ntmps94
  go_wp2
  go_ret
  exact ⟨rfl, f0⟩
end Go.Proofs.YteonkiajgfkieaaGreatDoor

/-! The reference of package value: list: which values may be the elements of a list, given what valid answers of each. Nothing that was there turns. -/
namespace Go.Proofs.YteonkiajgfkieaaGreatDoor
open Go.RowKit

/-- What valid answers where so many more lists may be nested. -/
def VP (m : Nat) : Prop := ∀ (x : Vl) (ao : Option Addr) (cap : Nat) (w : World), Vin x → SlV w ao x.ll cap → Calls Tryz.prog 94 #[vlv x ao cap, .int .i64 (m : Int)] w (RetB w (okV m x))

set_option maxHeartbeats 3200000 in
theorem rlist_any (m : Nat) (hm : m < 1000) (hv : VP m) (l : List Vl) (ao : Option Addr) (cap : Nat) (w : World) (hs : SlV w ao l cap) :
    Calls Tryz.prog 116 #[.slice ao l.length cap, .int .i64 ((m + 1 : Nat) : Int)] w (RetB w (decide (l.length ≤ 64) && okVs m l)) := by
  have HV := Lib.hid hv
  have HS := Lib.hid hs
  have hl := hs.le
  have hx := hs.max
  unfold maxLen at hx
  clear hv hs
  by_cases h64 : l.length ≤ 64
  rotate_left
  · have h64' : 64 < l.length := by omega
    rw [decide_eq_false h64]
    clear h64
    go_enter Tryz.func116, Tryz.ntmps116
    go_wp2
    go_ret
    exact ⟨rfl, Fur.refl _⟩
  · rw [decide_eq_true h64, Bool.true_and]
    go_enter Tryz.func116, Tryz.ntmps116
    go_wp2
    go_loopw [5] (fun iv wr => ∃ i : Nat, iv = .int .i64 i ∧ i ≤ l.length ∧ Hid (okVs m l = okVs m (l.drop i)) ∧ Fur w wr) (fun iv _ => l.length - (RowKit.intOf iv).toNat)
    case atStart => exact ⟨0, rfl, Nat.zero_le _, rfl, Fur.refl _⟩
    case round =>
      obtain ⟨i, rfl, hi, HN, hf⟩ := hrel
      by_cases hlt : i < l.length
      · obtain ⟨b, o, rfl, hc⟩ := (HS.out.on hf).get hlt
        have hA := okVs_drop m l i hlt
        obtain ⟨hy, c0, c1, c2, c3, ao', cap', c4, hs2⟩ := VC_of hc
        have HC := Lib.hid (HV.out l[i] ao' cap' wr hy hs2)
        unfold vlv at HC
        have HA := Lib.hid hA
        clear hc hs2 hy hA
        generalize l[i] = y at *
        generalize okV m y = q at *
        go_wp2_with fail
        go_at_call 94
        refine (HC.out).mono ?_; rintro e1 w1 ⟨rfl, f1⟩
        cases q
        · have HE := Lib.hid (show okVs m l = false by rw [HN.out, HA.out]; rfl)
          go_wp2
          go_ret
          exact ⟨ret_bool HE.out.symm, hf.trans f1⟩
        · have HE := Lib.hid (show okVs m l = okVs m (l.drop (i + 1)) by rw [HN.out, HA.out, Bool.true_and])
          go_wp2
          go_roundw
          case rel => exact ⟨i + 1, by go_num, by omega, HE.out, hf.trans f1⟩
          case measure => simp [RowKit.intOf]; omega
      · have HE := Lib.hid (show okVs m l = true by rw [HN.out, List.drop_of_length_le (by omega)]; rfl)
        go_wp2
        go_ret
        exact ⟨ret_bool HE.out.symm, hf⟩
end Go.Proofs.YteonkiajgfkieaaGreatDoor
