/-
  RvA; RvB; RvC; RvD; RvE; RvF; RvG: texts of one kind in one file; each part says what it holds.
-/
import Derived.Test.YtieicceceggglaaGreatDoorLvO
import Derived.Test.YtieicceceggglaaGreatDoorFrB

/-! The reference of package value: tri, Not, And, Or, yes, ints, class: of ints. Nothing that was there turns. -/
namespace Go.Proofs.YtieicceceggglaaGreatDoor
open Go.RowKit

theorem ryes_any (b : Bool) (w : World) : Calls Tryz.prog 112 #[.bool b] w fun e w' => e = .returned (.int .i64 (if b = true then 2 else 0)) ∧ w' = w := by
  cases b
  · go_enter Tryz.func112, Tryz.ntmps112
    go_wp2
    go_ret
    exact ⟨rfl, rfl⟩
  · go_enter Tryz.func112, Tryz.ntmps112
    go_wp2
    go_ret
    exact ⟨rfl, rfl⟩
theorem rints_any (a b : Int) (w : World) : Calls Tryz.prog 87 #[.int .i64 a, .int .i64 b] w fun e w' => e = .returned (.int .i64 (intc a b)) ∧ w' = w := by
  by_cases h1 : a < b
  · rw [show intc a b = -1 by unfold intc; rw [if_pos h1]]
    go_enter Tryz.func87, Tryz.ntmps87
    go_wp2
    go_ret
    exact ⟨rfl, rfl⟩
  · by_cases h2 : b < a
    · rw [show intc a b = 1 by unfold intc; rw [if_neg h1, if_pos h2]]
      go_enter Tryz.func87, Tryz.ntmps87
      go_wp2
      go_ret
      exact ⟨rfl, rfl⟩
    · rw [show intc a b = 0 by unfold intc; rw [if_neg h1, if_neg h2]]
      go_enter Tryz.func87, Tryz.ntmps87
      go_wp2
      go_ret
      exact ⟨rfl, rfl⟩
end Go.Proofs.YtieicceceggglaaGreatDoor

/-! The reference of package value: class, bare (which fields are zero). Nothing that was there turns. -/
namespace Go.Proofs.YtieicceceggglaaGreatDoor
open Go.RowKit

theorem rclass_any (k : Int) (w : World) : Calls Tryz.prog 114 #[.int .i64 k] w fun e w' => e = .returned (.int .i64 (classV k)) ∧ w' = w := by
  by_cases h0 : k = 0
  · subst h0
    go_enter Tryz.func114, Tryz.ntmps114
    go_wp2
    go_ret
    exact ⟨rfl, rfl⟩
  by_cases h1 : k = 1
  · subst h1
    go_enter Tryz.func114, Tryz.ntmps114
    go_wp2
    go_ret
    exact ⟨rfl, rfl⟩
  by_cases h2 : k = 2
  · subst h2
    go_enter Tryz.func114, Tryz.ntmps114
    go_wp2
    go_ret
    exact ⟨rfl, rfl⟩
  by_cases h3 : k = 3
  · subst h3
    go_enter Tryz.func114, Tryz.ntmps114
    go_wp2
    go_ret
    exact ⟨rfl, rfl⟩
  by_cases h4 : k = 4
  · subst h4
    go_enter Tryz.func114, Tryz.ntmps114
    go_wp2
    go_ret
    exact ⟨rfl, rfl⟩
  by_cases h5 : k = 5
  · subst h5
    go_enter Tryz.func114, Tryz.ntmps114
    go_wp2
    go_ret
    exact ⟨rfl, rfl⟩
  by_cases h6 : k = 6
  · subst h6
    go_enter Tryz.func114, Tryz.ntmps114
    go_wp2
    go_ret
    exact ⟨rfl, rfl⟩
  by_cases h8 : k = 8
  · subst h8
    go_enter Tryz.func114, Tryz.ntmps114
    go_wp2
    go_ret
    exact ⟨rfl, rfl⟩
  have g0 : (k == 0) = false := beq_eq_false_iff_ne.2 h0
  have g1 : (k == 1) = false := beq_eq_false_iff_ne.2 h1
  have g2 : (k == 2) = false := beq_eq_false_iff_ne.2 h2
  have g3 : (k == 3) = false := beq_eq_false_iff_ne.2 h3
  have g4 : (k == 4) = false := beq_eq_false_iff_ne.2 h4
  have g5 : (k == 5) = false := beq_eq_false_iff_ne.2 h5
  have g6 : (k == 6) = false := beq_eq_false_iff_ne.2 h6
  have g8 : (k == 8) = false := beq_eq_false_iff_ne.2 h8
  rw [show classV k = 7 by unfold classV; rw [if_neg h0, if_neg h1, if_neg (by omega), if_neg h4, if_neg h5, if_neg h6, if_neg h8]]
  clear h0 h1 h2 h3 h4 h5 h6 h8
  go_enter Tryz.func114, Tryz.ntmps114
  go_wp2
  go_ret
  exact ⟨rfl, rfl⟩

set_option maxHeartbeats 6400000 in
theorem rbare_any (x : Vl) (ao : Option Addr) (cap : Nat) (w : World) (bn bd b2 bl : Bool) : Calls Tryz.prog 73 #[vlv x ao cap, .bool bn, .bool bd, .bool b2, .bool bl] w (RetB w (bareV x.nn x.dd x.ss x.ll bn bd b2 bl)) := by
  unfold vlv
  cases bn <;> cases bd <;> cases b2 <;> cases bl
  all_goals
    go_enter Tryz.func73, Tryz.ntmps73
    go_wp2
    all_goals
      go_ret
      refine ⟨ret_bool ?_, (Fur.refl _).alloc _⟩
      unfold bareV
      (try rw [len0])
      simp_all [bs_list]
end Go.Proofs.YtieicceceggglaaGreatDoor

/-! The reference of package value: In (of the numbers), str: which strings may be values. Nothing turns. -/
namespace Go.Proofs.YtieicceceggglaaGreatDoor
open Go.RowKit

def inV (n : Int) : Bool := decide (-1000000000000000 ≤ n) && decide (n ≤ 1000000000000000)
theorem rin_any (n : Int) (w : World) : Calls Tryz.prog 74 #[.int .i64 n] w fun e w' => e = .returned (.bool (inV n)) ∧ w' = w := by
  unfold inV
  go_enter Tryz.func74, Tryz.ntmps74
  go_wp2
  all_goals
    go_ret
    exact ⟨ret_bool (by rw [Bool.eq_iff_iff]; simp; omega), rfl⟩

theorem rbyte (s : ByteArray) (k : Nat) (h : k < s.size) : s.data.toList.drop k = s[k] :: s.data.toList.drop (k + 1) := by
  rw [List.drop_eq_getElem_cons (by simpa using h)]
  rfl
set_option maxHeartbeats 1600000 in
theorem rstr_any (s : ByteArray) (hs : s.size ≤ maxLen) (w : World) :
    Calls Tryz.prog 76 #[.string s] w fun e w' => e = .returned (.bool (okStr s.data.toList)) ∧ w' = w := by
  unfold maxLen at hs
  have HLN := Lib.hid (show s.data.toList.length = s.size from Array.length_toList)
  go_enter Tryz.func76, Tryz.ntmps76
  go_wp2
  go_loop [3] (fun iv => ∃ i : Nat, iv = .int .i64 i ∧ i ≤ s.size ∧ Hid (s.data.toList.all okC = (s.data.toList.drop i).all okC)) (fun iv => s.size - (RowKit.intOf iv).toNat)
  case atStart => exact ⟨0, rfl, Nat.zero_le _, rfl⟩
  case round =>
    obtain ⟨i, rfl, hi, HN⟩ := hrel
    by_cases hlt : i < s.size
    · have hb := rbyte s i hlt
      have hA : s.data.toList.all okC = (okC s[i] && (s.data.toList.drop (i + 1)).all okC) := by
        rw [HN.out, hb]; rfl
      clear hb HN
      rcases (show (s[i].toNat : Int) < 32 ∨ 126 < (s[i].toNat : Int) ∨ (32 ≤ (s[i].toNat : Int) ∧ (s[i].toNat : Int) ≤ 126) by omega) with g | g | ⟨g1, g2⟩
      · have HE := Lib.hid (show okStr s.data.toList = false by
          rw [okStr_eq, hA]
          have : okC s[i] = false := by unfold okC; rw [decide_eq_false (by omega)]; rfl
          rw [this]; rfl)
        clear hA
        go_wp2
        go_ret
        exact ⟨ret_bool HE.out.symm, rfl⟩
      · have HE := Lib.hid (show okStr s.data.toList = false by
          rw [okStr_eq, hA]
          have : okC s[i] = false := by unfold okC; rw [decide_eq_false (show ¬ s[i].toNat ≤ 126 by omega), Bool.and_false]
          rw [this]; rfl)
        have g' : 32 ≤ (s[i].toNat : Int) := by omega
        clear hA
        go_wp2
        go_ret
        exact ⟨ret_bool HE.out.symm, rfl⟩
      · have HE := Lib.hid (show s.data.toList.all okC = (s.data.toList.drop (i + 1)).all okC by
          rw [hA]
          have : okC s[i] = true := by unfold okC; rw [decide_eq_true (show 32 ≤ s[i].toNat by omega), decide_eq_true (show s[i].toNat ≤ 126 by omega)]; rfl
          rw [this]; rfl)
        clear hA
        go_wp2
        go_round
        case rel => exact ⟨i + 1, by go_num, by omega, HE.out⟩
        case measure => simp [RowKit.intOf]; omega
    · have HE := Lib.hid (show okStr s.data.toList = decide ((s.size : Int) ≤ 100) by
        rw [okStr_eq, HN.out, List.drop_of_length_le (by rw [HLN.out]; omega), HLN.out]
        by_cases h : s.size ≤ 100
        · rw [decide_eq_true h, decide_eq_true (by omega)]; rfl
        · rw [decide_eq_false h, decide_eq_false (by omega)]; rfl)
      have hge : s.size ≤ i := by omega
      clear hlt HN
      go_wp2
      go_ret
      exact ⟨ret_bool HE.out.symm, rfl⟩
end Go.Proofs.YtieicceceggglaaGreatDoor

/-! The reference of package value: valid, kind by kind; of kinds that hold values as path and list say. Nothing that was there turns. -/
namespace Go.Proofs.YtieicceceggglaaGreatDoor
open Go.RowKit

set_option maxHeartbeats 1600000 in
theorem rvk0 (n d : Int) (s : List UInt8) (l : List Vl) (ao : Option Addr) (cap : Nat) (m : Int) (w : World) : Calls Tryz.prog 51 #[vlv (.mk 0 n d s l) ao cap, .int .i64 m] w (RetB w (okFlat 0 n d s l)) := by
  obtain ⟨p0, f0⟩ := bx1 w (.mk 0 n d s l) ao cap
  have B := Lib.hid (fun w => rbare_any (.mk 0 n d s l) ao cap w false false false false)
  have e : okFlat 0 n d s l = bareV n d s l false false false false := by simp [okFlat]
  rw [e]; clear e
  simp only [vlv, Vl.kd, Vl.nn, Vl.dd, Vl.ss, Vl.ll] at B f0 ⊢
  generalize bareV n d s l false false false false = q at B
  go_enter Tryz.func51, Tryz.ntmps51
  go_wp2_with fail
  go_at_call 73; refine (B.out _).mono ?_; rintro e1 w1 ⟨rfl, f1⟩
  go_wp2
  go_ret
  exact ⟨rfl, f0.trans f1⟩
set_option maxHeartbeats 1600000 in
theorem rvk1 (n d : Int) (s : List UInt8) (l : List Vl) (ao : Option Addr) (cap : Nat) (m : Int) (w : World) : Calls Tryz.prog 51 #[vlv (.mk 1 n d s l) ao cap, .int .i64 m] w (RetB w (okFlat 1 n d s l)) := by
  obtain ⟨p0, f0⟩ := bx1 w (.mk 1 n d s l) ao cap
  have B := Lib.hid (fun w => rbare_any (.mk 1 n d s l) ao cap w true false false false)
  have e : okFlat 1 n d s l = (bareV n d s l true false false false && (n == 0 || n == 1)) := by simp [okFlat]
  rw [e]; clear e
  simp only [vlv, Vl.kd, Vl.nn, Vl.dd, Vl.ss, Vl.ll] at B f0 ⊢
  generalize bareV n d s l true false false false = q at B
  cases q
  · go_enter Tryz.func51, Tryz.ntmps51
    go_wp2_with fail
    go_at_call 73; refine (B.out _).mono ?_; rintro e1 w1 ⟨rfl, f1⟩
    go_wp2
    go_ret
    exact ⟨rfl, f0.trans f1⟩
  · go_enter Tryz.func51, Tryz.ntmps51
    go_wp2_with fail
    go_at_call 73; refine (B.out _).mono ?_; rintro e1 w1 ⟨rfl, f1⟩
    have c1 := (p0.on f1).c1
    simp only [Vl.nn] at c1
    go_wp2
    all_goals
      go_ret
      exact ⟨ret_bool (by first | (simp_all; done) | (rw [Bool.eq_iff_iff]; simp; omega)), f0.trans f1⟩
set_option maxHeartbeats 1600000 in
theorem rvk2 (n d : Int) (s : List UInt8) (l : List Vl) (ao : Option Addr) (cap : Nat) (m : Int) (w : World) : Calls Tryz.prog 51 #[vlv (.mk 2 n d s l) ao cap, .int .i64 m] w (RetB w (okFlat 2 n d s l)) := by
  obtain ⟨p0, f0⟩ := bx1 w (.mk 2 n d s l) ao cap
  have B := Lib.hid (fun w => rbare_any (.mk 2 n d s l) ao cap w true false false false)
  have e : okFlat 2 n d s l = (bareV n d s l true false false false && inV n) := by simp [okFlat, inV]
  rw [e]; clear e
  simp only [vlv, Vl.kd, Vl.nn, Vl.dd, Vl.ss, Vl.ll] at B f0 ⊢
  have IN := Lib.hid (fun w => rin_any n w)
  generalize bareV n d s l true false false false = q at B
  cases q
  · go_enter Tryz.func51, Tryz.ntmps51
    go_wp2_with fail
    go_at_call 73; refine (B.out _).mono ?_; rintro e1 w1 ⟨rfl, f1⟩
    go_wp2
    go_ret
    exact ⟨rfl, f0.trans f1⟩
  · go_enter Tryz.func51, Tryz.ntmps51
    go_wp2_with fail
    go_at_call 73; refine (B.out _).mono ?_; rintro e1 w1 ⟨rfl, f1⟩
    have c1 := (p0.on f1).c1
    simp only [Vl.nn] at c1
    go_wp2_with fail
    go_at_call 74; refine (IN.out _).mono ?_; rintro e2 w2 ⟨rfl, rfl⟩
    go_wp2
    go_ret
    exact ⟨ret_bool (by simp), f0.trans f1⟩
set_option maxHeartbeats 1600000 in
theorem rvk3 (n d : Int) (s : List UInt8) (l : List Vl) (ao : Option Addr) (cap : Nat) (m : Int) (w : World) : Calls Tryz.prog 51 #[vlv (.mk 3 n d s l) ao cap, .int .i64 m] w (RetB w (okFlat 3 n d s l)) := by
  obtain ⟨p0, f0⟩ := bx1 w (.mk 3 n d s l) ao cap
  have B := Lib.hid (fun w => rbare_any (.mk 3 n d s l) ao cap w true true false false)
  have e : okFlat 3 n d s l = (bareV n d s l true true false false && decide (2 ≤ d) && okF n d) := by simp [okFlat]
  rw [e]; clear e
  simp only [vlv, Vl.kd, Vl.nn, Vl.dd, Vl.ss, Vl.ll] at B f0 ⊢
  have VA := Lib.hid (fun w => rvalid_any n d w)
  generalize bareV n d s l true true false false = q at B
  cases q
  · go_enter Tryz.func51, Tryz.ntmps51
    go_wp2_with fail
    go_at_call 73; refine (B.out _).mono ?_; rintro e1 w1 ⟨rfl, f1⟩
    go_wp2
    go_ret
    exact ⟨rfl, f0.trans f1⟩
  · go_enter Tryz.func51, Tryz.ntmps51
    go_wp2_with fail
    go_at_call 73; refine (B.out _).mono ?_; rintro e1 w1 ⟨rfl, f1⟩
    have c1 := (p0.on f1).c1
    simp only [Vl.nn] at c1
    have c2 := (p0.on f1).c2
    simp only [Vl.dd] at c2
    by_cases hd : 2 ≤ d
    · have g : decide (2 ≤ d) = true := decide_eq_true hd
      go_wp2_with fail
      go_at_call 75; refine (VA.out _).mono ?_; rintro e2 w2 ⟨rfl, f2⟩
      go_wp2
      go_ret
      exact ⟨ret_bool (by rw [g]; simp), (f0.trans f1).trans f2⟩
    · have g : decide (2 ≤ d) = false := decide_eq_false hd
      go_wp2
      go_ret
      exact ⟨ret_bool (by rw [g]; simp), f0.trans f1⟩
set_option maxHeartbeats 1600000 in
theorem rvk4 (n d : Int) (s : List UInt8) (l : List Vl) (ao : Option Addr) (cap : Nat) (m : Int) (w : World) (hs : s.length ≤ maxLen) : Calls Tryz.prog 51 #[vlv (.mk 4 n d s l) ao cap, .int .i64 m] w (RetB w (okFlat 4 n d s l)) := by
  obtain ⟨p0, f0⟩ := bx1 w (.mk 4 n d s l) ao cap
  have B := Lib.hid (fun w => rbare_any (.mk 4 n d s l) ao cap w false false true false)
  have e : okFlat 4 n d s l = (bareV n d s l false false true false && okStr s) := by simp [okFlat]
  rw [e]; clear e
  simp only [vlv, Vl.kd, Vl.nn, Vl.dd, Vl.ss, Vl.ll] at B f0 ⊢
  have ST := Lib.hid (fun w => rstr_any (bs s) (by simpa [bs, ByteArray.size] using hs) w)
  rw [show (bs s).data.toList = s from rfl] at ST
  generalize bareV n d s l false false true false = q at B
  cases q
  · go_enter Tryz.func51, Tryz.ntmps51
    go_wp2_with fail
    go_at_call 73; refine (B.out _).mono ?_; rintro e1 w1 ⟨rfl, f1⟩
    go_wp2
    go_ret
    exact ⟨rfl, f0.trans f1⟩
  · go_enter Tryz.func51, Tryz.ntmps51
    go_wp2_with fail
    go_at_call 73; refine (B.out _).mono ?_; rintro e1 w1 ⟨rfl, f1⟩
    have c3 := (p0.on f1).c3
    simp only [Vl.ss] at c3
    go_wp2_with fail
    go_at_call 76; refine (ST.out _).mono ?_; rintro e2 w2 ⟨rfl, rfl⟩
    go_wp2
    go_ret
    exact ⟨ret_bool (by simp), f0.trans f1⟩
set_option maxHeartbeats 1600000 in
theorem rvk5 (n d : Int) (s : List UInt8) (l : List Vl) (ao : Option Addr) (cap : Nat) (m : Int) (w : World) : Calls Tryz.prog 51 #[vlv (.mk 5 n d s l) ao cap, .int .i64 m] w (RetB w (okFlat 5 n d s l)) := by
  obtain ⟨p0, f0⟩ := bx1 w (.mk 5 n d s l) ao cap
  have B := Lib.hid (fun w => rbare_any (.mk 5 n d s l) ao cap w true false false false)
  have e : okFlat 5 n d s l = (bareV n d s l true false false false && decide (1 ≤ n) && decide (n ≤ 1000000)) := by simp [okFlat]
  rw [e]; clear e
  simp only [vlv, Vl.kd, Vl.nn, Vl.dd, Vl.ss, Vl.ll] at B f0 ⊢
  generalize bareV n d s l true false false false = q at B
  cases q
  · go_enter Tryz.func51, Tryz.ntmps51
    go_wp2_with fail
    go_at_call 73; refine (B.out _).mono ?_; rintro e1 w1 ⟨rfl, f1⟩
    go_wp2
    go_ret
    exact ⟨rfl, f0.trans f1⟩
  · go_enter Tryz.func51, Tryz.ntmps51
    go_wp2_with fail
    go_at_call 73; refine (B.out _).mono ?_; rintro e1 w1 ⟨rfl, f1⟩
    have c1 := (p0.on f1).c1
    simp only [Vl.nn] at c1
    go_wp2
    all_goals
      go_ret
      exact ⟨ret_bool (by first | (simp_all; done) | (rw [Bool.eq_iff_iff]; simp; omega)), f0.trans f1⟩
set_option maxHeartbeats 1600000 in
theorem rvk6 (n d : Int) (s : List UInt8) (l : List Vl) (ao : Option Addr) (cap : Nat) (m : Int) (w : World) : Calls Tryz.prog 51 #[vlv (.mk 6 n d s l) ao cap, .int .i64 m] w (RetB w (okFlat 6 n d s l)) := by
  obtain ⟨p0, f0⟩ := bx1 w (.mk 6 n d s l) ao cap
  have B := Lib.hid (fun w => rbare_any (.mk 6 n d s l) ao cap w true false false false)
  have e : okFlat 6 n d s l = (bareV n d s l true false false false && decide (1 ≤ n) && decide (n ≤ 1000000)) := by simp [okFlat]
  rw [e]; clear e
  simp only [vlv, Vl.kd, Vl.nn, Vl.dd, Vl.ss, Vl.ll] at B f0 ⊢
  generalize bareV n d s l true false false false = q at B
  cases q
  · go_enter Tryz.func51, Tryz.ntmps51
    go_wp2_with fail
    go_at_call 73; refine (B.out _).mono ?_; rintro e1 w1 ⟨rfl, f1⟩
    go_wp2
    go_ret
    exact ⟨rfl, f0.trans f1⟩
  · go_enter Tryz.func51, Tryz.ntmps51
    go_wp2_with fail
    go_at_call 73; refine (B.out _).mono ?_; rintro e1 w1 ⟨rfl, f1⟩
    have c1 := (p0.on f1).c1
    simp only [Vl.nn] at c1
    go_wp2
    all_goals
      go_ret
      exact ⟨ret_bool (by first | (simp_all; done) | (rw [Bool.eq_iff_iff]; simp; omega)), f0.trans f1⟩
set_option maxHeartbeats 1600000 in
theorem rvk7 (n d : Int) (s : List UInt8) (l : List Vl) (ao : Option Addr) (cap : Nat) (m : Int) (w : World) (p : Bool) (HP : Hid (∀ w', Fur w w' → Calls Tryz.prog 77 #[.slice ao l.length cap] w' (RetB w' p))) : Calls Tryz.prog 51 #[vlv (.mk 7 n d s l) ao cap, .int .i64 m] w (RetB w (bareV n d s l false false false true && p)) := by
  obtain ⟨p0, f0⟩ := bx1 w (.mk 7 n d s l) ao cap
  have B := Lib.hid (fun w => rbare_any (.mk 7 n d s l) ao cap w false false false true)
  simp only [vlv, Vl.kd, Vl.nn, Vl.dd, Vl.ss, Vl.ll] at B f0 ⊢
  generalize bareV n d s l false false false true = q at B
  cases q
  · go_enter Tryz.func51, Tryz.ntmps51
    go_wp2_with fail
    go_at_call 73; refine (B.out _).mono ?_; rintro e1 w1 ⟨rfl, f1⟩
    go_wp2
    go_ret
    exact ⟨rfl, f0.trans f1⟩
  · go_enter Tryz.func51, Tryz.ntmps51
    go_wp2_with fail
    go_at_call 73; refine (B.out _).mono ?_; rintro e1 w1 ⟨rfl, f1⟩
    have c4 := (p0.on f1).c4
    simp only [Vl.ll] at c4
    go_wp2_with fail
    go_at_call 77; refine (HP.out _ (f0.trans f1)).mono ?_; rintro e2 w2 ⟨rfl, f2⟩
    go_wp2
    go_ret
    exact ⟨ret_bool (by simp), (f0.trans f1).trans f2⟩
set_option maxHeartbeats 1600000 in
theorem rvk8 (n d : Int) (s : List UInt8) (l : List Vl) (ao : Option Addr) (cap : Nat) (m : Int) (w : World) (p : Bool) (HP : Hid (∀ w', Fur w w' → Calls Tryz.prog 78 #[.slice ao l.length cap, .int .i64 m] w' (RetB w' p))) : Calls Tryz.prog 51 #[vlv (.mk 8 n d s l) ao cap, .int .i64 m] w (RetB w (bareV n d s l false false false true && p)) := by
  obtain ⟨p0, f0⟩ := bx1 w (.mk 8 n d s l) ao cap
  have B := Lib.hid (fun w => rbare_any (.mk 8 n d s l) ao cap w false false false true)
  simp only [vlv, Vl.kd, Vl.nn, Vl.dd, Vl.ss, Vl.ll] at B f0 ⊢
  generalize bareV n d s l false false false true = q at B
  cases q
  · go_enter Tryz.func51, Tryz.ntmps51
    go_wp2_with fail
    go_at_call 73; refine (B.out _).mono ?_; rintro e1 w1 ⟨rfl, f1⟩
    go_wp2
    go_ret
    exact ⟨rfl, f0.trans f1⟩
  · go_enter Tryz.func51, Tryz.ntmps51
    go_wp2_with fail
    go_at_call 73; refine (B.out _).mono ?_; rintro e1 w1 ⟨rfl, f1⟩
    have c4 := (p0.on f1).c4
    simp only [Vl.ll] at c4
    go_wp2_with fail
    go_at_call 78; refine (HP.out _ (f0.trans f1)).mono ?_; rintro e2 w2 ⟨rfl, f2⟩
    go_wp2
    go_ret
    exact ⟨ret_bool (by simp), (f0.trans f1).trans f2⟩
set_option maxHeartbeats 1600000 in
theorem rvk_no (x : Vl) (ao : Option Addr) (cap : Nat) (m : Int) (w : World) (h : ∀ j : Nat, j < 9 → x.kd ≠ j) : Calls Tryz.prog 51 #[vlv x ao cap, .int .i64 m] w (RetB w false) := by
  obtain ⟨p0, f0⟩ := bx1 w x ao cap
  have g0 : (x.kd == 0) = false := beq_eq_false_iff_ne.2 (h 0 (by decide))
  have g1 : (x.kd == 1) = false := beq_eq_false_iff_ne.2 (h 1 (by decide))
  have g2 : (x.kd == 2) = false := beq_eq_false_iff_ne.2 (h 2 (by decide))
  have g3 : (x.kd == 3) = false := beq_eq_false_iff_ne.2 (h 3 (by decide))
  have g4 : (x.kd == 4) = false := beq_eq_false_iff_ne.2 (h 4 (by decide))
  have g5 : (x.kd == 5) = false := beq_eq_false_iff_ne.2 (h 5 (by decide))
  have g6 : (x.kd == 6) = false := beq_eq_false_iff_ne.2 (h 6 (by decide))
  have g7 : (x.kd == 7) = false := beq_eq_false_iff_ne.2 (h 7 (by decide))
  have g8 : (x.kd == 8) = false := beq_eq_false_iff_ne.2 (h 8 (by decide))
  clear h
  unfold vlv
  go_enter Tryz.func51, Tryz.ntmps51
  go_wp2
  go_ret
  exact ⟨rfl, f0⟩
end Go.Proofs.YtieicceceggglaaGreatDoor

/-! The reference of package value: list: which values may be the elements of a list, given what valid answers of each. Nothing that was there turns. -/
namespace Go.Proofs.YtieicceceggglaaGreatDoor
open Go.RowKit

/-- What valid answers where so many more lists may be nested. -/
def VP (m : Nat) : Prop := ∀ (x : Vl) (ao : Option Addr) (cap : Nat) (w : World), Vin x → SlV w ao x.ll cap → Calls Tryz.prog 51 #[vlv x ao cap, .int .i64 (m : Int)] w (RetB w (okV m x))

set_option maxHeartbeats 3200000 in
theorem rlist_any (m : Nat) (hm : m < 1000) (hv : VP m) (l : List Vl) (ao : Option Addr) (cap : Nat) (w : World) (hs : SlV w ao l cap) :
    Calls Tryz.prog 78 #[.slice ao l.length cap, .int .i64 ((m + 1 : Nat) : Int)] w (RetB w (decide (l.length ≤ 64) && okVs m l)) := by
  have HV := Lib.hid hv
  have HS := Lib.hid hs
  have hl := hs.le
  have hx := hs.max
  unfold maxLen at hx
  clear hv hs
  by_cases h64 : l.length ≤ 64
  rotate_left
  · have h64' : 64 < l.length := by omega
    rw [decide_eq_false h64]
    clear h64
    go_enter Tryz.func78, Tryz.ntmps78
    go_wp2
    go_ret
    exact ⟨rfl, Fur.refl _⟩
  · rw [decide_eq_true h64, Bool.true_and]
    go_enter Tryz.func78, Tryz.ntmps78
    go_wp2
    go_loopw [5] (fun iv wr => ∃ i : Nat, iv = .int .i64 i ∧ i ≤ l.length ∧ Hid (okVs m l = okVs m (l.drop i)) ∧ Fur w wr) (fun iv _ => l.length - (RowKit.intOf iv).toNat)
    case atStart => exact ⟨0, rfl, Nat.zero_le _, rfl, Fur.refl _⟩
    case round =>
      obtain ⟨i, rfl, hi, HN, hf⟩ := hrel
      by_cases hlt : i < l.length
      · obtain ⟨b, o, rfl, hc⟩ := (HS.out.on hf).get hlt
        have hA := okVs_drop m l i hlt
        obtain ⟨hy, c0, c1, c2, c3, ao', cap', c4, hs2⟩ := VC_of hc
        have HC := Lib.hid (HV.out l[i] ao' cap' wr hy hs2)
        unfold vlv at HC
        have HA := Lib.hid hA
        clear hc hs2 hy hA
        generalize l[i] = y at *
        generalize okV m y = q at *
        go_wp2_with fail
        go_at_call 51
        refine (HC.out).mono ?_; rintro e1 w1 ⟨rfl, f1⟩
        cases q
        · have HE := Lib.hid (show okVs m l = false by rw [HN.out, HA.out]; rfl)
          go_wp2
          go_ret
          exact ⟨ret_bool HE.out.symm, hf.trans f1⟩
        · have HE := Lib.hid (show okVs m l = okVs m (l.drop (i + 1)) by rw [HN.out, HA.out, Bool.true_and])
          go_wp2
          go_roundw
          case rel => exact ⟨i + 1, by go_num, by omega, HE.out, hf.trans f1⟩
          case measure => simp [RowKit.intOf]; omega
      · have HE := Lib.hid (show okVs m l = true by rw [HN.out, List.drop_of_length_le (by omega)]; rfl)
        go_wp2
        go_ret
        exact ⟨ret_bool HE.out.symm, hf⟩
end Go.Proofs.YtieicceceggglaaGreatDoor

/-! The reference of package value: path: which values are nodes and edges in turn. Nothing that was there turns. -/
namespace Go.Proofs.YtieicceceggglaaGreatDoor
open Go.RowKit

/-- valid of a node or an edge. -/
theorem rvalid_id (x : Vl) (ao : Option Addr) (cap : Nat) (w : World) (h : x.kd = 5 ∨ x.kd = 6) : Calls Tryz.prog 51 #[vlv x ao cap, .int .i64 0] w (RetB w (okV 0 x)) := by
  obtain ⟨k, n, d, s, l⟩ := x
  simp only [Vl.kd] at h
  rcases h with rfl | rfl
  · have e : okV 0 (.mk 5 n d s l) = okFlat 5 n d s l := by simp [okV]
    rw [e]; exact rvk5 n d s l ao cap 0 w
  · have e : okV 0 (.mk 6 n d s l) = okFlat 6 n d s l := by simp [okV]
    rw [e]; exact rvk6 n d s l ao cap 0 w
set_option maxHeartbeats 3200000 in
set_option maxRecDepth 100000 in
theorem rpath_any (l : List Vl) (ao : Option Addr) (cap : Nat) (w : World) (hs : SlV w ao l cap) :
    Calls Tryz.prog 77 #[.slice ao l.length cap] w (RetB w (okP l)) := by
  have HS := Lib.hid hs
  have hl := hs.le
  have hx := hs.max
  unfold maxLen at hx
  clear hs
  by_cases h2 : l.length % 2 = 1
  rotate_left
  · have g : (l.length : Int) % 2 = 0 := by omega
    rw [show okP l = false by unfold okP; rw [decide_eq_false h2]; rfl]
    clear h2
    go_enter Tryz.func77, Tryz.ntmps77
    go_wp2
    go_ret
    exact ⟨rfl, Fur.refl _⟩
  have g2 : (l.length : Int) % 2 = 1 := by omega
  by_cases h25 : l.length ≤ 25
  rotate_left
  · have g : 25 < l.length := by omega
    rw [show okP l = false by unfold okP; rw [decide_eq_false h25, Bool.and_false]; rfl]
    clear h25 h2
    go_enter Tryz.func77, Tryz.ntmps77
    go_wp2
    go_ret
    exact ⟨rfl, Fur.refl _⟩
  rw [show okP l = okVp true l by unfold okP; rw [decide_eq_true h2, decide_eq_true h25]; rfl]
  clear h2
  go_enter Tryz.func77, Tryz.ntmps77
  go_wp2
  go_loopw [3] (fun iv wr => ∃ i : Nat, iv = .int .i64 i ∧ i ≤ l.length ∧ Hid (okVp true l = okVp (i % 2 == 0) (l.drop i)) ∧ Fur w wr) (fun iv _ => l.length - (RowKit.intOf iv).toNat)
  case atStart => exact ⟨0, rfl, Nat.zero_le _, rfl, Fur.refl _⟩
  case round =>
    clear g2
    obtain ⟨i, rfl, hi, HN, hf⟩ := hrel
    by_cases hlt : i < l.length
    · obtain ⟨b, o, rfl, hc⟩ := (HS.out.on hf).get hlt
      have hA := okVp_drop (i % 2 == 0) l i hlt
      obtain ⟨hy, c0, c1, c2, c3, ao', cap', c4, hs2⟩ := VC_of hc
      have hV := rvalid_id l[i] ao' cap' wr
      unfold vlv at hV
      clear hc hs2 hy
      generalize l[i] = y at *
      generalize okV 0 y = q at *
      rcases (show (i : Int) % 2 = 0 ∨ (i : Int) % 2 = 1 by omega) with hp | hp
      · have e : (i % 2 == 0) = true := beq_iff_eq.2 (by omega)
        have e' : ((i + 1) % 2 == 0) = false := beq_eq_false_iff_ne.2 (by omega)
        rw [e] at hA HN
        by_cases hk : y.kd = 5
        · rw [hk] at c0 hV
          have HC := Lib.hid (hV (.inl rfl))
          have HE := Lib.hid (show okVp true l = (q && okVp false (l.drop (i + 1))) by rw [HN.out, hA, hk]; rfl)
          clear hA HN hV e hk
          go_wp2_with fail
          go_at_call 51
          refine (HC.out).mono ?_; rintro e1 w1 ⟨rfl, f1⟩
          cases q
          · go_wp2
            go_ret
            exact ⟨ret_bool HE.out.symm, hf.trans f1⟩
          · go_wp2
            go_roundw
            case rel => exact ⟨i + 1, by go_num, by omega, by rw [e', HE.out, Bool.true_and]; exact rfl, hf.trans f1⟩
            case measure => simp [RowKit.intOf]; omega
        · have hk' : (y.kd != 5) = true := by rw [bne_iff_ne]; exact hk
          have HE := Lib.hid (show okVp true l = false by rw [HN.out, hA]; simp [hk])
          clear hA HN hV e hk
          go_wp2
          go_ret
          exact ⟨ret_bool HE.out.symm, hf⟩
      · have e : (i % 2 == 0) = false := beq_eq_false_iff_ne.2 (by omega)
        have e' : ((i + 1) % 2 == 0) = true := beq_iff_eq.2 (by omega)
        rw [e] at hA HN
        by_cases hk : y.kd = 6
        · rw [hk] at c0 hV
          have HC := Lib.hid (hV (.inr rfl))
          have HE := Lib.hid (show okVp true l = (q && okVp true (l.drop (i + 1))) by rw [HN.out, hA, hk]; rfl)
          clear hA HN hV e hk
          go_wp2_with fail
          go_at_call 51
          refine (HC.out).mono ?_; rintro e1 w1 ⟨rfl, f1⟩
          cases q
          · go_wp2
            go_ret
            exact ⟨ret_bool HE.out.symm, hf.trans f1⟩
          · go_wp2
            go_roundw
            case rel => exact ⟨i + 1, by go_num, by omega, by rw [e', HE.out, Bool.true_and]; exact rfl, hf.trans f1⟩
            case measure => simp [RowKit.intOf]; omega
        · have hk' : (y.kd != 6) = true := by rw [bne_iff_ne]; exact hk
          have HE := Lib.hid (show okVp true l = false by rw [HN.out, hA]; simp [hk])
          clear hA HN hV e hk
          go_wp2
          go_ret
          exact ⟨ret_bool HE.out.symm, hf⟩
    · have HE := Lib.hid (show okVp true l = true by rw [HN.out, List.drop_of_length_le (by omega)]; rfl)
      go_wp2
      go_ret
      exact ⟨ret_bool HE.out.symm, hf⟩
end Go.Proofs.YtieicceceggglaaGreatDoor

/-! The reference of package value: valid and Valid tell the valid values, for every value in memory. Nothing that was there turns. -/
namespace Go.Proofs.YtieicceceggglaaGreatDoor
open Go.RowKit

theorem rlist_0 (l : List Vl) (ao : Option Addr) (cap : Nat) (w : World) : Calls Tryz.prog 78 #[.slice ao l.length cap, .int .i64 0] w (RetB w false) := by
  go_enter Tryz.func78, Tryz.ntmps78
  go_wp2
  go_ret
  exact ⟨rfl, Fur.refl _⟩
/-- valid, given what list answers. -/
theorem rvalid_by (m : Nat) (p : Bool) (k n d : Int) (s : List UInt8) (l : List Vl) (ao : Option Addr) (cap : Nat) (w : World) (hi : Vin (.mk k n d s l)) (hs : SlV w ao l cap)
    (hp : p = (decide (1 ≤ m) && decide (l.length ≤ 64) && okVs (m - 1) l))
    (HL : ∀ w', Fur w w' → Calls Tryz.prog 78 #[.slice ao l.length cap, .int .i64 (m : Int)] w' (RetB w' p)) :
    Calls Tryz.prog 51 #[vlv (.mk k n d s l) ao cap, .int .i64 (m : Int)] w (RetB w (okV m (.mk k n d s l))) := by
  by_cases h7 : k = 7
  · subst h7
    have e : okV m (.mk 7 n d s l) = (bareV n d s l false false false true && okP l) := by
      unfold okV okP
      rw [if_pos rfl, Bool.and_assoc, Bool.and_assoc, Bool.and_assoc]
    rw [e]
    exact rvk7 n d s l ao cap m w (okP l) (Lib.hid fun w' hf => rpath_any l ao cap w' (hs.on hf))
  by_cases h8 : k = 8
  · subst h8
    have e : okV m (.mk 8 n d s l) = (bareV n d s l false false false true && p) := by
      unfold okV
      rw [if_neg (by decide), if_pos rfl, hp, Bool.and_assoc, Bool.and_assoc, Bool.and_assoc]
    rw [e]
    exact rvk8 n d s l ao cap m w p (Lib.hid HL)
  have e : okV m (.mk k n d s l) = okFlat k n d s l := by
    unfold okV
    rw [if_neg h7, if_neg h8]
  rw [e]
  by_cases h0 : k = 0
  · subst h0; exact rvk0 n d s l ao cap m w
  by_cases h1 : k = 1
  · subst h1; exact rvk1 n d s l ao cap m w
  by_cases h2 : k = 2
  · subst h2; exact rvk2 n d s l ao cap m w
  by_cases h3 : k = 3
  · subst h3; exact rvk3 n d s l ao cap m w
  by_cases h4 : k = 4
  · subst h4; exact rvk4 n d s l ao cap m w hi.s
  by_cases h5 : k = 5
  · subst h5; exact rvk5 n d s l ao cap m w
  by_cases h6 : k = 6
  · subst h6; exact rvk6 n d s l ao cap m w
  have e2 : okFlat k n d s l = false := by
    unfold okFlat
    rw [if_neg h0, if_neg h1, if_neg h2, if_neg h3, if_neg h4, if_neg (by omega)]
  rw [e2]
  refine rvk_no (.mk k n d s l) ao cap m w fun j hj => ?_
  show k ≠ (j : Int)
  omega
theorem rvalid_all : ∀ m, m < 1000 → VP m
  | 0, _ => fun x ao cap w hi hs => by
    obtain ⟨k, n, d, s, l⟩ := x
    exact rvalid_by 0 false k n d s l ao cap w hi hs rfl (fun w' _ => rlist_0 l ao cap w')
  | m + 1, h => fun x ao cap w hi hs => by
    have ih := rvalid_all m (by omega)
    obtain ⟨k, n, d, s, l⟩ := x
    refine rvalid_by (m + 1) (decide (l.length ≤ 64) && okVs m l) k n d s l ao cap w hi hs ?_ (fun w' hf => rlist_any m (by omega) ih l ao cap w' (hs.on hf))
    rw [decide_eq_true (show 1 ≤ m + 1 by omega)]; rfl
theorem rokV_any (x : Vl) (ao : Option Addr) (cap : Nat) (w : World) (hi : Vin x) (hs : SlV w ao x.ll cap) :
    Calls Tryz.prog 11 #[vlv x ao cap] w (RetB w (okX x)) := by
  have k : ∀ w', Fur w w' → Calls Tryz.prog 51 #[vlv x ao cap, .int .i64 8] w' (RetB w' (okX x)) := fun w' hf => rvalid_all 8 (by decide) x ao cap w' hi (hs.on hf)
  obtain ⟨p0, f0⟩ := bx1 w x ao cap
  have HV := Lib.hid k
  clear k hs
  unfold vlv at *
  go_enter Tryz.func11, Tryz.ntmps11
  go_wp2_with fail
  go_at_call 51; refine (HV.out _ f0).mono ?_; rintro e1 w1 ⟨rfl, f1⟩
  go_wp2
  go_ret
  exact ⟨rfl, f0.trans f1⟩
end Go.Proofs.YtieicceceggglaaGreatDoor
