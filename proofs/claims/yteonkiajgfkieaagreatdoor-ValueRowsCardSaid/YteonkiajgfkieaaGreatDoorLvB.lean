/-
  Package value: Go's cmp.Compare of strings, fraction, validString. Nothing that was there turns.
-/
import Derived.Test.YteonkiajgfkieaaGreatDoorM06
import Derived.Test.YteonkiajgfkieaaGreatDoorM07
import Derived.Laws.Cover1
namespace Go.Proofs.YteonkiajgfkieaaGreatDoor
open Go.RowKit

theorem str_less' : ∀ (a b : List UInt8), (strc a b = -1 ∧ Op.bytesLess a b = true ∧ Op.bytesLess b a = false ∧ (a == b) = false) ∨ (strc a b = 0 ∧ Op.bytesLess a b = false ∧ Op.bytesLess b a = false ∧ (a == b) = true) ∨ (strc a b = 1 ∧ Op.bytesLess a b = false ∧ Op.bytesLess b a = true ∧ (a == b) = false)
  | [], [] => .inr (.inl ⟨rfl, rfl, rfl, rfl⟩)
  | [], _ :: _ => .inl ⟨rfl, rfl, rfl, rfl⟩
  | _ :: _, [] => .inr (.inr ⟨rfl, rfl, rfl, rfl⟩)
  | x :: r, y :: t => by
    have ih := str_less' r t
    show (thn (intc x.toNat y.toNat) (strc r t) = -1 ∧ (decide (x < y) || x == y && Op.bytesLess r t) = true ∧ (decide (y < x) || y == x && Op.bytesLess t r) = false ∧ (x == y && r == t) = false) ∨ (thn (intc x.toNat y.toNat) (strc r t) = 0 ∧ (decide (x < y) || x == y && Op.bytesLess r t) = false ∧ (decide (y < x) || y == x && Op.bytesLess t r) = false ∧ (x == y && r == t) = true) ∨ (thn (intc x.toNat y.toNat) (strc r t) = 1 ∧ (decide (x < y) || x == y && Op.bytesLess r t) = false ∧ (decide (y < x) || y == x && Op.bytesLess t r) = true ∧ (x == y && r == t) = false)
    have lx : x < y ↔ x.toNat < y.toNat := UInt8.lt_iff_toNat_lt
    have ly : y < x ↔ y.toNat < x.toNat := UInt8.lt_iff_toNat_lt
    rcases Nat.lt_trichotomy x.toNat y.toNat with h | h | h
    · have ne : (x == y) = false := by rw [beq_eq_false_iff_ne]; intro e; rw [e] at h; omega
      have ne' : (y == x) = false := by rw [beq_eq_false_iff_ne]; intro e; rw [e] at h; omega
      refine .inl ⟨?_, ?_, ?_, ?_⟩
      · unfold thn intc; rw [if_pos (show (x.toNat : Int) < y.toNat by omega)]; rfl
      · rw [decide_eq_true (lx.2 h)]; rfl
      · rw [decide_eq_false (fun k => by have := ly.1 k; omega), ne']; rfl
      · rw [ne]; rfl
    · have e : x = y := UInt8.toNat_inj.1 h
      subst e
      have f : decide (x < x) = false := decide_eq_false (fun k => by have := lx.1 k; omega)
      have z : intc x.toNat x.toNat = 0 := intc_self _
      rw [f, z, thn_0, beq_self_eq_true, Bool.false_or, Bool.true_and, Bool.false_or, Bool.true_and, Bool.true_and]
      exact ih
    · have ne : (x == y) = false := by rw [beq_eq_false_iff_ne]; intro e; rw [e] at h; omega
      have ne' : (y == x) = false := by rw [beq_eq_false_iff_ne]; intro e; rw [e] at h; omega
      refine .inr (.inr ⟨?_, ?_, ?_, ?_⟩)
      · unfold thn intc; rw [if_neg (show ¬ (x.toNat : Int) < y.toNat by omega), if_pos (show (y.toNat : Int) < x.toNat by omega)]; rfl
      · rw [decide_eq_false (fun k => by have := lx.1 k; omega), ne]; rfl
      · rw [decide_eq_true (ly.2 h)]; rfl
      · rw [ne]; rfl
theorem lcmps_any (s t : ByteArray) (w : World) : Calls Tryz.prog 47 #[.string s, .string t] w fun e w' => e = .returned (.int .i64 (strc s.data.toList t.data.toList)) ∧ w' = w := by
  have k := str_less' s.data.toList t.data.toList
  rw [← ByteArray.toList_eq, ← ByteArray.toList_eq] at k ⊢
  have es : (s.toList == s.toList) = true := beq_self_eq_true _
  have et : (t.toList == t.toList) = true := beq_self_eq_true _
  rcases k with ⟨e, g1, g2, g3⟩ | ⟨e, g1, g2, g3⟩ | ⟨e, g1, g2, g3⟩
  all_goals
    rw [e]; clear e
    go_enter Tryz.func47, Tryz.ntmps47
    go_wp2
    go_ret
    exact ⟨rfl, rfl⟩

/-- The denominator of a number. -/
def frD (k d : Int) : Int := if k = 2 then 1 else d
theorem lfrac_any (x : Vl) (ao : Option Addr) (cap : Nat) (w : World) : Calls Tryz.prog 46 #[vlv x ao cap] w (RetF w x.nn (frD x.kd x.dd)) := by
  obtain ⟨p0, f0⟩ := bx1 w x ao cap
  obtain ⟨p1, f1⟩ := box1 (w.alloc (.cells #[.int .i64 x.kd, .int .i64 x.nn, .int .i64 x.dd, .string (bs x.ss), .slice ao x.ll.length cap] 34)) 0 0
  have s0 : (w.alloc (.cells #[.int .i64 x.kd, .int .i64 x.nn, .int .i64 x.dd, .string (bs x.ss), .slice ao x.ll.length cap] 34)).heap.size = w.heap.size + 1 := by simp
  rw [s0] at p1
  have q0 := p0.on f1
  replace f0 := f0.trans f1
  clear s0 p0 f1
  obtain ⟨W, hW⟩ : ∃ W, ((w.alloc (.cells #[.int .i64 x.kd, .int .i64 x.nn, .int .i64 x.dd, .string (bs x.ss), .slice ao x.ll.length cap] 34)).alloc (.cells #[.int .i64 0, .int .i64 0] 37)) = W := ⟨_, rfl⟩
  rw [hW] at p1 q0 f0
  have c0 := q0.c0; have c1 := q0.c1; have c2 := q0.c2
  have z0 := p1.f0 0; have z1 := p1.f0 1
  have k0 := p1.c0; have k1 := p1.c1
  have hlt := p1.lt
  clear q0
  unfold vlv frD
  generalize x.kd = k at *
  generalize x.nn = n at *
  generalize x.dd = d at *
  by_cases h : k = 2
  · subst h
    rw [if_pos rfl]
    go_enter Tryz.func46, Tryz.ntmps46
    go_upto_region 1 with fail
    clear hW
    go_wp2
    try simp only [Exit.inBlock, Exit.then]
    exact f_ret rfl rfl (frac_put W _ _ _ _ _ _ _ p1).1 (frac_put W _ _ _ _ _ _ _ p1).2 (fur_put f0 (by omega) _ _)
  · have g : (k == 2) = false := beq_eq_false_iff_ne.2 h
    rw [if_neg h]
    clear h
    go_enter Tryz.func46, Tryz.ntmps46
    go_upto_region 1 with fail
    clear hW
    go_wp2
    try simp only [Exit.inBlock, Exit.then]
    exact f_ret rfl rfl (frac_put W _ _ _ _ _ _ _ p1).1 (frac_put W _ _ _ _ _ _ _ p1).2 (fur_put f0 (by omega) _ _)

theorem lbyte (s : ByteArray) (k : Nat) (h : k < s.size) : s.data.toList.drop k = s[k] :: s.data.toList.drop (k + 1) := by
  rw [List.drop_eq_getElem_cons (by simpa using h)]
  rfl
def okC (c : UInt8) : Bool := decide (32 ≤ c.toNat) && decide (c.toNat ≤ 126)
theorem okStr_eq (s : List UInt8) : okStr s = (s.all okC && decide (s.length ≤ 100)) := rfl
set_option maxHeartbeats 1600000 in
theorem lvstr_any (s : ByteArray) (hs : s.size ≤ maxLen) (w : World) :
    Calls Tryz.prog 57 #[.string s] w fun e w' => e = .returned (.bool (okStr s.data.toList)) ∧ w' = w := by
  unfold maxLen at hs
  have HLN := Lib.hid (show s.data.toList.length = s.size from Array.length_toList)
  by_cases h100 : s.size ≤ 100
  rotate_left
  · have g : (100 : Int) < s.size := by omega
    rw [show okStr s.data.toList = false by rw [okStr_eq, HLN.out, decide_eq_false h100, Bool.and_false]]
    clear h100 HLN
    go_enter Tryz.func57, Tryz.ntmps57
    go_wp2
    go_ret
    exact ⟨rfl, rfl⟩
  rw [show okStr s.data.toList = s.data.toList.all okC by rw [okStr_eq, HLN.out, decide_eq_true h100, Bool.and_true]]
  obtain ⟨R, hR⟩ : ∃ R, R = s.data.toList.all okC := ⟨_, rfl⟩
  rw [← hR]
  have HR := Lib.hid hR
  clear hR
  go_enter Tryz.func57, Tryz.ntmps57
  go_wp2
  go_loop [9] (fun iv => ∃ i : Nat, iv = .int .i64 i ∧ i ≤ s.size ∧ Hid (R = (s.data.toList.drop i).all okC)) (fun iv => s.size - (RowKit.intOf iv).toNat)
  case atStart => exact ⟨0, rfl, Nat.zero_le _, HR⟩
  case round =>
    obtain ⟨i, rfl, hi, HN⟩ := hrel
    by_cases hlt : i < s.size
    · have hb := lbyte s i hlt
      have hA : R = (okC s[i] && (s.data.toList.drop (i + 1)).all okC) := by
        rw [HN.out, hb]; rfl
      clear hb HN
      rcases (show (s[i].toNat : Int) < 32 ∨ 126 < (s[i].toNat : Int) ∨ (32 ≤ (s[i].toNat : Int) ∧ (s[i].toNat : Int) ≤ 126) by omega) with g | g | ⟨g1, g2⟩
      · have HE := Lib.hid (show R = false by
          rw [hA]
          have : okC s[i] = false := by unfold okC; rw [decide_eq_false (by omega)]; rfl
          rw [this]; rfl)
        clear hA
        go_wp2
        go_ret
        exact ⟨ret_bool HE.out.symm, rfl⟩
      · have HE := Lib.hid (show R = false by
          rw [hA]
          have : okC s[i] = false := by unfold okC; rw [decide_eq_false (show ¬ s[i].toNat ≤ 126 by omega), Bool.and_false]
          rw [this]; rfl)
        have g' : 32 ≤ (s[i].toNat : Int) := by omega
        clear hA
        go_wp2
        go_ret
        exact ⟨ret_bool HE.out.symm, rfl⟩
      · have HE := Lib.hid (show R = (s.data.toList.drop (i + 1)).all okC by
          rw [hA]
          have : okC s[i] = true := by unfold okC; rw [decide_eq_true (show 32 ≤ s[i].toNat by omega), decide_eq_true (show s[i].toNat ≤ 126 by omega)]; rfl
          rw [this]; rfl)
        clear hA
        go_wp2
        go_round
        case rel => exact ⟨i + 1, by go_num, by omega, HE.out⟩
        case measure => simp [RowKit.intOf]; omega
    · have HE := Lib.hid (show R = true by
        rw [HN.out, List.drop_of_length_le (by rw [HLN.out]; omega)]; rfl)
      have hge : s.size ≤ i := by omega
      clear hlt HN
      go_wp2
      go_ret
      exact ⟨ret_bool HE.out.symm, rfl⟩
end Go.Proofs.YteonkiajgfkieaaGreatDoor
