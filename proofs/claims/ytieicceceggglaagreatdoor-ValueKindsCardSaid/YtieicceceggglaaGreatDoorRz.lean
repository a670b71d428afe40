/-
  RvK; RvH; RvI; VkN; Rtx; VkA; VkB; VkC; VkD: texts of one kind in one file; each part says what it holds.
-/
import Derived.Test.YtieicceceggglaaGreatDoorRa
import Derived.Test.YtieicceceggglaaGreatDoorRe
import Derived.Laws.Cover1
import Derived.Test.YtieicceceggglaaGreatDoorRb
import Derived.Test.YtieicceceggglaaGreatDoorLvO
import Derived.Test.YtieicceceggglaaGreatDoorNumT
import Derived.Laws.IdiomStrings
import Derived.Lib.ItoaLen
import Derived.Test.YtieicceceggglaaGreatDoorLvM
import Derived.Test.YtieicceceggglaaGreatDoorCq
import Derived.Test.YtieicceceggglaaGreatDoorLvP

/-! The reference of package value: Plain of every value in memory. Nothing that was there turns. -/
namespace Go.Proofs.YtieicceceggglaaGreatDoor
open Go.RowKit

def plaV (x : Vl) : Bool := okX x && (x.kd == 1 || x.kd == 2 || x.kd == 4)
set_option maxHeartbeats 1600000 in
theorem rplain_v (x : Vl) (ao : Option Addr) (cap : Nat) (w : World) (hi : Vin x) (hs : SlV w ao x.ll cap) :
    Calls Tryz.prog 13 #[vlv x ao cap] w (RetB w (plaV x)) := by
  obtain ⟨p0, f0⟩ := bx1 w x ao cap
  have HV := Lib.hid (fun w' hf => rokV_any x ao cap w' hi (hs.on (w' := w') hf))
  clear hs hi
  unfold plaV
  cases va : okX x
  · rw [va] at HV
    clear va
    unfold vlv at *
    go_enter Tryz.func13, Tryz.ntmps13
    go_wp2_with fail
    go_at_call 11; refine (HV.out _ f0).mono ?_; rintro e1 w1 ⟨rfl, f1⟩
    go_wp2
    go_ret
    exact ⟨rfl, f0.trans f1⟩
  · rw [va] at HV
    clear va
    unfold vlv at *
    go_enter Tryz.func13, Tryz.ntmps13
    go_wp2_with fail
    go_at_call 11; refine (HV.out _ f0).mono ?_; rintro e1 w1 ⟨rfl, f1⟩
    have c0 := (p0.on f1).c0
    generalize x.kd = k at *
    go_wp2
    all_goals
      go_ret
      exact ⟨ret_bool (by simp_all), f0.trans f1⟩
theorem str_less : ∀ (a b : List UInt8), (strc a b = -1 ∧ Op.bytesLess a b = true ∧ Op.bytesLess b a = false ∧ (a == b) = false) ∨ (strc a b = 0 ∧ Op.bytesLess a b = false ∧ Op.bytesLess b a = false ∧ (a == b) = true) ∨ (strc a b = 1 ∧ Op.bytesLess a b = false ∧ Op.bytesLess b a = true ∧ (a == b) = false)
  | [], [] => .inr (.inl ⟨rfl, rfl, rfl, rfl⟩)
  | [], _ :: _ => .inl ⟨rfl, rfl, rfl, rfl⟩
  | _ :: _, [] => .inr (.inr ⟨rfl, rfl, rfl, rfl⟩)
  | x :: r, y :: t => by
    have ih := str_less r t
    show (thn (intc x.toNat y.toNat) (strc r t) = -1 ∧ (decide (x < y) || x == y && Op.bytesLess r t) = true ∧ (decide (y < x) || y == x && Op.bytesLess t r) = false ∧ (x == y && r == t) = false) ∨ (thn (intc x.toNat y.toNat) (strc r t) = 0 ∧ (decide (x < y) || x == y && Op.bytesLess r t) = false ∧ (decide (y < x) || y == x && Op.bytesLess t r) = false ∧ (x == y && r == t) = true) ∨ (thn (intc x.toNat y.toNat) (strc r t) = 1 ∧ (decide (x < y) || x == y && Op.bytesLess r t) = false ∧ (decide (y < x) || y == x && Op.bytesLess t r) = true ∧ (x == y && r == t) = false)
    have lx : x < y ↔ x.toNat < y.toNat := UInt8.lt_iff_toNat_lt
    have ly : y < x ↔ y.toNat < x.toNat := UInt8.lt_iff_toNat_lt
    rcases Nat.lt_trichotomy x.toNat y.toNat with h | h | h
    · have ne : (x == y) = false := by rw [beq_eq_false_iff_ne]; intro e; rw [e] at h; omega
      have ne' : (y == x) = false := by rw [beq_eq_false_iff_ne]; intro e; rw [e] at h; omega
      refine .inl ⟨?_, ?_, ?_, ?_⟩
      · unfold thn intc; rw [if_pos (show (x.toNat : Int) < y.toNat by omega)]; rfl
      · rw [decide_eq_true (lx.2 h)]; rfl
      · rw [decide_eq_false (fun k => by have := ly.1 k; omega), ne']; rfl
      · rw [ne]; rfl
    · have e : x = y := UInt8.toNat_inj.1 h
      subst e
      have f : decide (x < x) = false := decide_eq_false (fun k => by have := lx.1 k; omega)
      have z : intc x.toNat x.toNat = 0 := intc_self _
      rw [f, z, thn_0, beq_self_eq_true, Bool.false_or, Bool.true_and, Bool.false_or, Bool.true_and, Bool.true_and]
      exact ih
    · have ne : (x == y) = false := by rw [beq_eq_false_iff_ne]; intro e; rw [e] at h; omega
      have ne' : (y == x) = false := by rw [beq_eq_false_iff_ne]; intro e; rw [e] at h; omega
      refine .inr (.inr ⟨?_, ?_, ?_, ?_⟩)
      · unfold thn intc; rw [if_neg (show ¬ (x.toNat : Int) < y.toNat by omega), if_pos (show (y.toNat : Int) < x.toNat by omega)]; rfl
      · rw [decide_eq_false (fun k => by have := lx.1 k; omega), ne]; rfl
      · rw [decide_eq_true (ly.2 h)]; rfl
      · rw [ne]; rfl
theorem rstrs_any (s t : ByteArray) (w : World) : Calls Tryz.prog 135 #[.string s, .string t] w fun e w' => e = .returned (.int .i64 (strc s.data.toList t.data.toList)) ∧ w' = w := by
  have k := str_less s.data.toList t.data.toList
  rw [← ByteArray.toList_eq, ← ByteArray.toList_eq] at k ⊢
  rcases k with ⟨e, g1, g2, g3⟩ | ⟨e, g1, g2, g3⟩ | ⟨e, g1, g2, g3⟩
  all_goals
    rw [e]; clear e
    go_enter Tryz.func135, Tryz.ntmps135
    go_wp2
    go_ret
    exact ⟨rfl, rfl⟩
end Go.Proofs.YtieicceceggglaaGreatDoor

/-! The reference of package value: Number, Plain, Truth of every value in memory. Nothing that was there turns. -/
namespace Go.Proofs.YtieicceceggglaaGreatDoor
open Go.RowKit

/-- A value boxed, a fraction's cell behind it. -/
theorem bx_box (w : World) (x : Vl) (ao : Option Addr) (cap : Nat) :
    Bx ((w.alloc (.cells #[.int .i64 x.kd, .int .i64 x.nn, .int .i64 x.dd, .string (bs x.ss), .slice ao x.ll.length cap] 24)).alloc (.cells #[.int .i64 0, .int .i64 0] 28)) w.heap.size x ao cap ∧
    Box ((w.alloc (.cells #[.int .i64 x.kd, .int .i64 x.nn, .int .i64 x.dd, .string (bs x.ss), .slice ao x.ll.length cap] 24)).alloc (.cells #[.int .i64 0, .int .i64 0] 28)) (w.heap.size + 1) 0 0 ∧
    Fur w ((w.alloc (.cells #[.int .i64 x.kd, .int .i64 x.nn, .int .i64 x.dd, .string (bs x.ss), .slice ao x.ll.length cap] 24)).alloc (.cells #[.int .i64 0, .int .i64 0] 28)) := by
  obtain ⟨p0, f0⟩ := bx1 w x ao cap
  have s0 : (w.alloc (.cells #[.int .i64 x.kd, .int .i64 x.nn, .int .i64 x.dd, .string (bs x.ss), .slice ao x.ll.length cap] 24)).heap.size = w.heap.size + 1 := by simp
  generalize w.alloc (.cells #[.int .i64 x.kd, .int .i64 x.nn, .int .i64 x.dd, .string (bs x.ss), .slice ao x.ll.length cap] 24) = w1 at *
  have f1 : Fur w1 (w1.alloc (.cells #[.int .i64 0, .int .i64 0] 28)) := (Fur.refl w1).alloc _
  refine ⟨p0.on f1, ?_, f0.trans f1⟩
  show (w1.heap.push _)[w.heap.size + 1]? = _
  rw [← s0, Array.getElem?_push, if_pos rfl]

set_option maxHeartbeats 3200000 in
set_option maxRecDepth 100000 in
theorem rnum_v (x : Vl) (ao : Option Addr) (cap : Nat) (w : World) (hi : Vin x) (hs : SlV w ao x.ll cap) :
    Calls Tryz.prog 9 #[vlv x ao cap] w (RetFB w (nmN x) (nmD x) (isNum x)) := by
  obtain ⟨p0, p1, f0⟩ := bx_box w x ao cap
  have HV := Lib.hid (fun w' hf => rokV_any x ao cap w' hi (hs.on (w' := w') hf))
  clear hs hi
  have hne : ¬ (w.heap.size + 1 = w.heap.size) := by omega
  cases va : okX x
  · have e : isNum x = false := by unfold isNum; rw [va]; rfl
    rw [show nmN x = 0 by unfold nmN; rw [e]; rfl, show nmD x = 0 by unfold nmD; rw [e]; rfl, e]
    rw [va] at HV
    clear va e
    unfold vlv at *
    go_enter Tryz.func9, Tryz.ntmps9
    go_wp2_with fail
    go_at_call 11; refine (HV.out _ f0).mono ?_; rintro e1 w1 ⟨rfl, f1⟩
    replace p1 := p1.on f1
    have z0 := p1.f0 0
    have z1 := p1.f0 1
    have d0 := p1.c0
    have d1 := p1.c1
    go_wp2
    try simp only [Exit.inBlock, Exit.then]
    exact fr_ret_put rfl rfl rfl p1 (f0.trans f1) (by omega)
  rw [va] at HV
  by_cases h2 : x.kd = 2
  · have e : isNum x = true := by unfold isNum; rw [va, h2]; rfl
    rw [show nmN x = x.nn by unfold nmN; rw [e]; rfl, show nmD x = 1 by unfold nmD; rw [if_pos e, if_pos h2], e]
    have H2 := Lib.hid h2
    clear va e h2
    unfold vlv at *
    go_enter Tryz.func9, Tryz.ntmps9
    go_wp2_with fail
    go_at_call 11; refine (HV.out _ f0).mono ?_; rintro e1 w1 ⟨rfl, f1⟩
    replace p0 := p0.on f1
    replace p1 := p1.on f1
    have z0 := p1.f0 0
    have z1 := p1.f0 1
    have d0 := p1.c0
    have d1 := p1.c1
    have c0 := p0.c0
    have c1 := p0.c1
    rw [H2.out] at c0
    go_wp2
    try simp only [Exit.inBlock, Exit.then]
    exact fr_ret_put rfl rfl rfl p1 (f0.trans f1) (by omega)
  by_cases h3 : x.kd = 3
  · have e : isNum x = true := by unfold isNum; rw [va, h3]; rfl
    rw [show nmN x = x.nn by unfold nmN; rw [e]; rfl, show nmD x = x.dd by unfold nmD; rw [if_pos e, if_neg h2], e]
    have H3 := Lib.hid h3
    clear va e h2 h3
    unfold vlv at *
    go_enter Tryz.func9, Tryz.ntmps9
    go_wp2_with fail
    go_at_call 11; refine (HV.out _ f0).mono ?_; rintro e1 w1 ⟨rfl, f1⟩
    replace p0 := p0.on f1
    replace p1 := p1.on f1
    have z0 := p1.f0 0
    have z1 := p1.f0 1
    have d0 := p1.c0
    have d1 := p1.c1
    have c0 := p0.c0
    have c1 := p0.c1
    have c2 := p0.c2
    rw [H3.out] at c0
    go_wp2
    try simp only [Exit.inBlock, Exit.then]
    exact fr_ret_put rfl rfl rfl p1 (f0.trans f1) (by omega)
  · have e : isNum x = false := by unfold isNum; rw [va, beq_eq_false_iff_ne.2 h2, beq_eq_false_iff_ne.2 h3]; rfl
    rw [show nmN x = 0 by unfold nmN; rw [e]; rfl, show nmD x = 0 by unfold nmD; rw [e]; rfl, e]
    have G2 := Lib.hid (show (x.kd == 2) = false from beq_eq_false_iff_ne.2 h2)
    have G3 := Lib.hid (show (x.kd == 3) = false from beq_eq_false_iff_ne.2 h3)
    clear va e h2 h3
    unfold vlv at *
    go_enter Tryz.func9, Tryz.ntmps9
    go_wp2_with fail
    go_at_call 11; refine (HV.out _ f0).mono ?_; rintro e1 w1 ⟨rfl, f1⟩
    replace p0 := p0.on f1
    replace p1 := p1.on f1
    have z0 := p1.f0 0
    have z1 := p1.f0 1
    have d0 := p1.c0
    have d1 := p1.c1
    have c0 := p0.c0
    have g2 := G2.out
    have g3 := G3.out
    go_wp2
    try simp only [Exit.inBlock, Exit.then]
    exact fr_ret_put rfl rfl rfl p1 (f0.trans f1) (by omega)
end Go.Proofs.YtieicceceggglaaGreatDoor

/-! The reference of package value: Truth of every value in memory. Nothing that was there turns. -/
namespace Go.Proofs.YtieicceceggglaaGreatDoor
open Go.RowKit

/-- A value's truth. -/
def trvR (x : Vl) : Int := if x.kd = 1 ∧ okX x = true then 2 * x.nn else 1
theorem ok_bool {x : Vl} (h : okX x = true) (hk : x.kd = 1) : x.nn = 0 ∨ x.nn = 1 := by
  obtain ⟨k, n, d, s, l⟩ := x
  simp only [Vl.kd] at hk
  subst hk
  have e : okX (.mk 1 n d s l) = okFlat 1 n d s l := by simp [okX, okV]
  rw [e] at h
  have e2 : okFlat 1 n d s l = (bareV n d s l true false false false && (n == 0 || n == 1)) := by simp [okFlat]
  rw [e2] at h
  simp only [Bool.and_eq_true, Bool.or_eq_true, beq_iff_eq] at h
  exact h.2

set_option maxHeartbeats 1600000 in
theorem rtruth_v (x : Vl) (ao : Option Addr) (cap : Nat) (w : World) (hi : Vin x) (hs : SlV w ao x.ll cap) :
    Calls Tryz.prog 15 #[vlv x ao cap] w (RetI w (trvR x)) := by
  obtain ⟨p0, f0⟩ := bx1 w x ao cap
  have HV := Lib.hid (fun w' hf => rokV_any x ao cap w' hi (hs.on (w' := w') hf))
  clear hs hi
  by_cases hk : x.kd = 1
  rotate_left
  · rw [show trvR x = 1 by unfold trvR; rw [if_neg (fun h => hk h.1)]]
    have g : (x.kd != 1) = true := by rw [bne_iff_ne]; exact hk
    clear hk
    unfold vlv at *
    go_enter Tryz.func15, Tryz.ntmps15
    go_wp2
    go_ret
    exact ⟨rfl, f0⟩
  have g : (x.kd != 1) = false := by rw [hk]; rfl
  cases va : okX x
  · rw [show trvR x = 1 by unfold trvR; rw [if_neg (fun h => by rw [va] at h; exact absurd h.2 (by decide))]]
    rw [va] at HV
    clear hk va
    unfold vlv at *
    go_enter Tryz.func15, Tryz.ntmps15
    go_wp2_with fail
    go_at_call 11; refine (HV.out _ f0).mono ?_; rintro e1 w1 ⟨rfl, f1⟩
    go_wp2
    go_ret
    exact ⟨rfl, f0.trans f1⟩
  · have HT := Lib.hid (show trvR x = 2 * x.nn by unfold trvR; rw [if_pos ⟨hk, va⟩])
    have hn := ok_bool va hk
    rw [va] at HV
    clear hk va
    unfold vlv at *
    go_enter Tryz.func15, Tryz.ntmps15
    go_wp2_with fail
    go_at_call 11; refine (HV.out _ f0).mono ?_; rintro e1 w1 ⟨rfl, f1⟩
    have c1 := (p0.on f1).c1
    generalize x.nn = n at *
    go_wp2
    go_ret
    exact ⟨ret_int HT.out.symm, f0.trans f1⟩
end Go.Proofs.YtieicceceggglaaGreatDoor

/-! Package value: Plain and Number, of every value in memory. Nothing that was there turns. -/
namespace Go.Proofs.YtieicceceggglaaGreatDoor
open Go.RowKit

set_option maxHeartbeats 1600000 in
theorem lplain_any (x : Vl) (ao : Option Addr) (cap : Nat) (w : World) (hi : Vin x) (hs : SlV w ao x.ll cap) :
    Calls Tryz.prog 12 #[vlv x ao cap] w (RwB w (plaV x)) := by
  obtain ⟨p0, f0⟩ := bx1 w x ao cap
  have HV := Lib.hid (fun w' (hf : Fur w w') => lvalid_any x ao cap w' hi (hs.on (w' := w') hf))
  have c0 := p0.c0
  have HP := Lib.hid (show plaV x = (okX x && (x.kd == 1 || x.kd == 2 || x.kd == 4)) from rfl)
  clear hs hi p0
  unfold vlv at *
  generalize okX x = r at *
  generalize plaV x = R at *
  generalize x.kd = k at *
  have HK : k = 1 ∨ k = 2 ∨ k = 4 ∨ ((k == 1) = false ∧ (k == 2) = false ∧ (k == 4) = false) := by
    by_cases h1 : k = 1
    · exact .inl h1
    · by_cases h2 : k = 2
      · exact .inr (.inl h2)
      · by_cases h4 : k = 4
        · exact .inr (.inr (.inl h4))
        · exact .inr (.inr (.inr ⟨by simpa using h1, by simpa using h2, by simpa using h4⟩))
  rcases HK with rfl | rfl | rfl | ⟨k1, k2, k4⟩
  · have HE := Lib.hid (show R = r by rw [HP.out]; simp)
    go_enter Tryz.func12, Tryz.ntmps12
    go_wp2_with (go_at_call 10; refine (HV.out _ f0).mono ?_; rintro e1 w1 ⟨rfl, f1⟩)
    go_ret
    exact ⟨ret_bool HE.out.symm, (f0.trans f1).b⟩
  · have HE := Lib.hid (show R = r by rw [HP.out]; simp)
    go_enter Tryz.func12, Tryz.ntmps12
    go_wp2_with (go_at_call 10; refine (HV.out _ f0).mono ?_; rintro e1 w1 ⟨rfl, f1⟩)
    go_ret
    exact ⟨ret_bool HE.out.symm, (f0.trans f1).b⟩
  · have HE := Lib.hid (show R = r by rw [HP.out]; simp)
    go_enter Tryz.func12, Tryz.ntmps12
    go_wp2_with (go_at_call 10; refine (HV.out _ f0).mono ?_; rintro e1 w1 ⟨rfl, f1⟩)
    go_ret
    exact ⟨ret_bool HE.out.symm, (f0.trans f1).b⟩
  · have HE := Lib.hid (show R = false by rw [HP.out, k1, k2, k4]; simp)
    go_enter Tryz.func12, Tryz.ntmps12
    go_wp2
    go_ret
    exact ⟨ret_bool HE.out.symm, f0.w⟩


set_option maxHeartbeats 1600000 in
theorem lisnum_any (x : Vl) (ao : Option Addr) (cap : Nat) (w : World) : Calls Tryz.prog 48 #[vlv x ao cap] w (RetB w (x.kd == 2 || x.kd == 3)) := by
  obtain ⟨p0, f0⟩ := bx1 w x ao cap
  have c0 := p0.c0
  clear p0
  unfold vlv at *
  generalize x.kd = k at *
  have HK : k = 2 ∨ k = 3 ∨ ((k == 2) = false ∧ (k == 3) = false) := by
    by_cases h1 : k = 2
    · exact .inl h1
    · by_cases h2 : k = 3
      · exact .inr (.inl h2)
      · exact .inr (.inr ⟨by simpa using h1, by simpa using h2⟩)
  rcases HK with rfl | rfl | ⟨k1, k2⟩
  · go_enter Tryz.func48, Tryz.ntmps48
    go_wp2
    go_ret
    exact ⟨rfl, f0⟩
  · go_enter Tryz.func48, Tryz.ntmps48
    go_wp2
    go_ret
    exact ⟨rfl, f0⟩
  · go_enter Tryz.func48, Tryz.ntmps48
    go_wp2
    go_ret
    exact ⟨by rw [k1, k2]; rfl, f0⟩
set_option maxHeartbeats 3200000 in
set_option maxRecDepth 100000 in
theorem lnum_v (x : Vl) (ao : Option Addr) (cap : Nat) (w : World) (hi : Vin x) (hs : SlV w ao x.ll cap) :
    Calls Tryz.prog 8 #[vlv x ao cap] w (RetFB w (nmN x) (nmD x) (isNum x)) := by
  obtain ⟨p0, p1, f0⟩ := bx_box w x ao cap
  have HV := Lib.hid (fun w' (hf : Fur w w') => lvalid_any x ao cap w' hi (hs.on (w' := w') hf))
  have HN := Lib.hid (fun w' => lisnum_any x ao cap w')
  have HFR := Lib.hid (fun w' => lfrac_any x ao cap w')
  clear hs hi
  have hne : ¬ (w.heap.size + 1 = w.heap.size) := by omega
  have c0 := p0.c0; have c1 := p0.c1; have c2 := p0.c2; have c3 := p0.c3; have c4 := p0.c4
  have HP1 := Lib.hid p1
  have HP0 := Lib.hid p0
  have HF0 := Lib.hid f0
  clear p1 p0 f0
  cases hk : (x.kd == 2 || x.kd == 3) with
  | false =>
    have e : isNum x = false := by unfold isNum; rw [hk, Bool.and_false]
    rw [show nmN x = 0 by unfold nmN; rw [e]; rfl, show nmD x = 0 by unfold nmD; rw [e]; rfl, e]
    rw [hk] at HN
    clear hk e
    unfold vlv at *
    go_enter Tryz.func8, Tryz.ntmps8
    go_wp2_with fail
    go_at_call 48; refine (HN.out _).mono ?_; rintro e1 w1 ⟨rfl, f1⟩
    have p1 := HP1.out.on f1
    have z0 := p1.f0 0
    have z1 := p1.f0 1
    have d0 := p1.c0
    have d1 := p1.c1
    clear c0 c1 c2 c3 c4
    go_wp2
    try simp only [Exit.inBlock, Exit.then]
    exact fr_ret_put rfl rfl rfl p1 (HF0.out.trans f1) (by omega)
  | true =>
    rw [hk] at HN
    cases va : okX x with
    | false =>
      have e : isNum x = false := by unfold isNum; rw [va]; rfl
      rw [show nmN x = 0 by unfold nmN; rw [e]; rfl, show nmD x = 0 by unfold nmD; rw [e]; rfl, e]
      rw [va] at HV
      clear va hk e
      unfold vlv at *
      go_enter Tryz.func8, Tryz.ntmps8
      go_wp2_with fail
      go_at_call 48; refine (HN.out _).mono ?_; rintro e1 w1 ⟨rfl, f1⟩
      replace c0 := cellOn f1 c0; replace c1 := cellOn f1 c1; replace c2 := cellOn f1 c2; replace c3 := cellOn f1 c3; replace c4 := cellOn f1 c4
      have F1 := Lib.hid (HF0.out.trans f1)
      have p1 := HP1.out.on f1
      have HP2 := Lib.hid p1
      clear f1 p1
      go_wp2_with fail
      go_at_call 10; refine (HV.out _ F1.out).mono ?_; rintro e2 w2 ⟨rfl, f2⟩
      have p1 := HP2.out.on f2
      have z0 := p1.f0 0
      have z1 := p1.f0 1
      have d0 := p1.c0
      have d1 := p1.c1
      clear c0 c1 c2 c3 c4
      go_wp2
      try simp only [Exit.inBlock, Exit.then]
      exact fr_ret_put rfl rfl rfl p1 (F1.out.trans f2) (by omega)
    | true =>
      have e : isNum x = true := by unfold isNum; rw [va, hk]; rfl
      rw [show nmN x = x.nn by unfold nmN; rw [if_pos e], show nmD x = frD x.kd x.dd by unfold nmD frD; rw [if_pos e], e]
      rw [va] at HV
      clear va hk e
      unfold vlv at *
      go_enter Tryz.func8, Tryz.ntmps8
      go_wp2_with fail
      go_at_call 48; refine (HN.out _).mono ?_; rintro e1 w1 ⟨rfl, f1⟩
      replace c0 := cellOn f1 c0; replace c1 := cellOn f1 c1; replace c2 := cellOn f1 c2; replace c3 := cellOn f1 c3; replace c4 := cellOn f1 c4
      have F1 := Lib.hid (HF0.out.trans f1)
      have p1 := HP1.out.on f1
      have HP2 := Lib.hid p1
      clear f1 p1
      go_wp2_with fail
      go_at_call 10; refine (HV.out _ F1.out).mono ?_; rintro e2 w2 ⟨rfl, f2⟩
      replace c0 := cellOn f2 c0; replace c1 := cellOn f2 c1; replace c2 := cellOn f2 c2; replace c3 := cellOn f2 c3; replace c4 := cellOn f2 c4
      have F2 := Lib.hid (F1.out.trans f2)
      have p1 := HP2.out.on f2
      have HP3 := Lib.hid p1
      clear f2 p1
      go_wp2_with fail
      go_at_call 49; refine (HFR.out _).mono ?_; rintro e3 w3 ⟨rfl, f3⟩
      have p1 := HP3.out.on f3
      have z0 := p1.f0 0
      have z1 := p1.f0 1
      have d0 := p1.c0
      have d1 := p1.c1
      clear c0 c1 c2 c3 c4
      go_wp2
      try simp only [Exit.inBlock, Exit.then]
      exact fr_ret_put rfl rfl rfl p1 (F2.out.trans f3) (by omega)
end Go.Proofs.YtieicceceggglaaGreatDoor

/-! Text of the reference of package num returns the decimal numeral of every int value. Nothing that was there turns. -/
namespace Go.Proofs.YtieicceceggglaaGreatDoor
open Go.RowKit Go.Lib
namespace Rtx

theorem digit_nat {u : Nat} (h : u < 10) : (UInt8.ofNat (48 + u)).toNat = 48 + u := by
  rw [UInt8.toNat_ofNat']; omega

/-- The digits that are not written yet. -/
def pre (u : Nat) : List UInt8 := if u = 0 then [] else decDigits u
theorem pre_step {u : Nat} (h : u ≠ 0) (s : List UInt8) : pre (u / 10) ++ (UInt8.ofNat (48 + u % 10) :: s) = pre u ++ s := by
  unfold pre
  rw [if_neg h]
  by_cases h1 : u < 10
  · rw [if_pos (by omega), decDigits_one h1, Nat.mod_eq_of_lt h1]; rfl
  · rw [if_neg (by omega), show decDigits u = decDigits (u / 10) ++ [UInt8.ofNat (48 + u % 10)] from by rw [decDigits, dif_neg h1]]; simp

def Todo (n m : Int) (s : ByteArray) : Prop := pre m.natAbs ++ s.data.toList = decDigits n.natAbs ∧ (0 ≤ n → 0 ≤ m) ∧ (n < 0 → m ≤ 0) ∧ m.natAbs ≤ n.natAbs

theorem txt_neg {n : Int} (h : n < 0) {s : ByteArray} (hs : s.data.toList = decDigits n.natAbs) : ({ data := #[45] } ++ s : ByteArray) = txt n := by
  apply ByteArray.ext
  apply Array.toList_inj.1
  rw [ByteArray.data_append]
  unfold txt itoa
  rw [if_pos h]
  simp [hs]
theorem txt_pos {n : Int} (h : ¬ n < 0) {s : ByteArray} (hs : s.data.toList = decDigits n.natAbs) : s = txt n := by
  apply ByteArray.ext
  apply Array.toList_inj.1
  unfold txt itoa
  rw [if_neg h]
  have e : n.toNat = n.natAbs := by omega
  simp [hs, e]
theorem ret_str {a b : ByteArray} (h : a = b) : Ending.returned (.string a) = .returned (.string b) := by rw [h]
theorem todo_end {n : Int} {s : ByteArray} (h : Todo n 0 s) : s.data.toList = decDigits n.natAbs := by
  have := h.1
  simpa [pre] using this
theorem todo_step {n m q : Int} {s : ByteArray} (h : Todo n m s) (hm : m ≠ 0) (hq : q.natAbs = m.natAbs / 10) (h1 : 0 ≤ m → 0 ≤ q) (h2 : m ≤ 0 → q ≤ 0) : Todo n q ({ data := #[UInt8.ofNat (48 + m.natAbs % 10)] } ++ s) := by
  obtain ⟨t1, t2, t3, t4⟩ := h
  refine ⟨?_, fun k => h1 (t2 k), fun k => h2 (t3 k), by omega⟩
  have k := pre_step (u := m.natAbs) (by omega) s.data.toList
  rw [hq, ByteArray.data_append, ← t1, ← k]
  simp

theorem todo_size {n m : Int} {s : ByteArray} (h : Todo n m s) (h0 : -9223372036854775808 ≤ n) (h1 : n ≤ 9223372036854775807) : s.size ≤ 1000 := by
  have a := congrArg List.length h.1
  rw [decDigits_length, List.length_append] at a
  have b := nDigits_le20 n.natAbs (by omega)
  have e : s.data.toList.length = s.size := Array.length_toList
  omega

/-- 'string' of a slice of one byte that was just laid. -/
theorem one_byte (c : UInt8) (x : Int) (hx : x = (c.toNat : Int)) (w : World) :
    (convert 74 9 (.slice (some ⟨w.heap.size, 0, none⟩) 1 1)).run Tryz.prog (w.alloc (.cells #[.int .u8 x] 5)) = .ok (.string ⟨#[c]⟩) (w.alloc (.cells #[.int .u8 x] 5)) := by
  subst hx
  exact run_convert_bytes_back (P := Tryz.prog) (w.alloc (.cells #[.int .u8 (c.toNat : Int)] 5)) 74 9 5 ⟨w.heap.size, 0, none⟩ 1 [c] Tryz.underlying74 Tryz.underlying5 Tryz.underlying9 (fun j hj => by
    have e : j = 0 := by simpa using hj
    subst e
    exact (World.cell?_alloc_mark w #[.int .u8 (c.toNat : Int)] 5 (0, 0) 0).trans rfl)

set_option maxHeartbeats 1600000 in
set_option maxRecDepth 100000 in
theorem rtext_loop (n : Int) (hn : n ≠ 0) (h0 : -9223372036854775808 ≤ n) (h1 : n ≤ 9223372036854775807) (w : World) :
    Calls Tryz.prog 54 #[.int .i64 n] w fun e w' => e = .returned (.string (txt n)) ∧ Fuw w w' := by
  have n0 : (n == 0) = false := by simpa using hn
  go_enter Tryz.func54, Tryz.ntmps54
  go_wp2
  go_loopw [3, 4] (fun x y wr => ∃ (s : ByteArray) (m : Int), x = .string s ∧ y = .int .i64 m ∧ Todo n m s ∧ Fuw w wr) (fun _ y _ => (RowKit.intOf y).natAbs)
  case atStart => exact ⟨_, n, rfl, rfl, ⟨by simp [pre, hn], by omega, by omega, by omega⟩, Fuw.refl _⟩
  case round =>
    obtain ⟨s, m, rfl, rfl, ht, hf⟩ := hrel
    have hsz := todo_size ht h0 h1
    by_cases hm : m = 0
    · subst hm
      have HE := Lib.hid (todo_end ht)
      clear ht
      by_cases hneg : n < 0
      · go_wp2
        go_ret
        exact ⟨ret_str (txt_neg hneg HE.out), hf⟩
      · go_wp2
        go_ret
        exact ⟨ret_str (txt_pos (by omega) HE.out), hf⟩
    · have hne : (m != 0) = true := by simpa using hm
      have ⟨_, s1, s2, s3⟩ := ht
      have m2 : -9223372036854775808 ≤ m := by omega
      have m3 : m ≤ 9223372036854775807 := by omega
      clear s1 s2 s3
      have hd : ((UInt8.ofNat (48 + m.natAbs % 10)).toNat : Int) = 48 + (m.natAbs : Int) % 10 := by rw [digit_nat (by omega)]; omega
      have hts := fun (q : Int) => todo_step (q := q) ht hm
      obtain ⟨c, hcc⟩ : ∃ c, UInt8.ofNat (48 + m.natAbs % 10) = c := ⟨_, rfl⟩
      rw [hcc] at hd
      simp only [hcc] at hts
      clear hcc ht
      by_cases hp : 0 < m
      · have d0 : 0 ≤ m % 10 := by omega
        have d1 : m % 10 < 10 := by omega
        have hc := one_byte c (48 + m % 10) (by omega) wr
        have HT := Lib.hid (hts (m / 10) (by omega) (by omega) (by omega))
        clear hts hd
        go_wp2
        go_roundw
        case rel => exact ⟨_, _, rfl, rfl, HT.out, hf.trans ((Below.refl _ _).alloc (Nat.le_refl _) _)⟩
        case measure => simp [RowKit.intOf]; omega
      · have e : m.tmod 10 = -((-m) % 10) := by rw [← Int.tmod_eq_emod_of_nonneg (by omega), Int.neg_tmod, Int.neg_neg]
        have e' : m.tdiv 10 = -((-m) / 10) := by rw [← Int.tdiv_eq_ediv_of_nonneg (by omega), Int.neg_tdiv, Int.neg_neg]
        have HT := Lib.hid (hts (m.tdiv 10) (by omega) (by omega) (by omega))
        obtain ⟨t, he⟩ : ∃ t, m.tmod 10 = t := ⟨_, rfl⟩
        have d0 : t ≤ 0 := by omega
        have d1 : -10 < t := by omega
        have q0 : -922337203685477581 ≤ m.tdiv 10 := by omega
        have q1 : m.tdiv 10 ≤ 0 := by omega
        have q2 : (m.tdiv 10).natAbs < m.natAbs := by omega
        by_cases d2 : t < 0
        · have hc := one_byte c (48 + -t) (by omega) wr
          clear hts e e' hd
          go_wp2
          go_roundw
          case rel => exact ⟨_, _, rfl, rfl, HT.out, hf.trans ((Below.refl _ _).alloc (Nat.le_refl _) _)⟩
          case measure => exact q2
        · have d3 : t = 0 := by omega
          subst d3
          have hc := one_byte c 48 (by omega) wr
          clear hts e e' hd
          go_wp2
          go_roundw
          case rel => exact ⟨_, _, rfl, rfl, HT.out, hf.trans ((Below.refl _ _).alloc (Nat.le_refl _) _)⟩
          case measure => exact q2

set_option maxRecDepth 100000 in
theorem rtext_any (n : Int) (h0 : -9223372036854775808 ≤ n) (h1 : n ≤ 9223372036854775807) (w : World) :
    Calls Tryz.prog 54 #[.int .i64 n] w fun e w' => e = .returned (.string (txt n)) ∧ Fuw w w' := by
  by_cases hn : n = 0
  · subst hn
    have e : txt 0 = ⟨#[48]⟩ := by
      unfold txt Lib.itoa
      rw [if_neg (by decide), show (0 : Int).toNat = 0 from rfl, Lib.decDigits_one (by decide)]
      rfl
    rw [e]; clear e
    go_enter Tryz.func54, Tryz.ntmps54
    go_wp2
    go_ret
    exact ⟨rfl, Fuw.refl _⟩
  · exact rtext_loop n hn h0 h1 w
end Rtx
end Go.Proofs.YtieicceceggglaaGreatDoor

/-! The reference of package value: strings with their quotes doubled; the texts of values joined, given what Text answers of each. Nothing that was there turns. -/
namespace Go.Proofs.YtieicceceggglaaGreatDoor
open Go.RowKit

theorem dbl_app : ∀ a b : List UInt8, dbl (a ++ b) = dbl a ++ dbl b
  | [], b => rfl
  | c :: r, b => by
    show (if c = 39 then 39 :: 39 :: dbl (r ++ b) else c :: dbl (r ++ b)) = (if c = 39 then 39 :: 39 :: dbl r else c :: dbl r) ++ dbl b
    rw [dbl_app r b]
    by_cases h : c = 39
    · rw [if_pos h, if_pos h]; rfl
    · rw [if_neg h, if_neg h]; rfl
theorem dbl_take {s : List UInt8} {i : Nat} (h : i < s.length) : dbl (s.take (i + 1)) = dbl (s.take i) ++ (if s[i] = 39 then [39, 39] else [s[i]]) := by
  rw [List.take_succ_eq_append_getElem h, dbl_app]
  congr 1
theorem dbl_le : ∀ s : List UInt8, (dbl s).length ≤ 2 * s.length
  | [] => Nat.le_refl _
  | c :: r => by
    have := dbl_le r
    unfold dbl
    split <;> simp <;> omega
theorem bs_ext (s : List UInt8) (i : Nat) (h : i < s.length) : (bs s).extract i (i + 1) = bs [s[i]] := by
  apply ByteArray.ext
  apply Array.toList_inj.1
  rw [ByteArray.data_extract, Array.toList_extract]
  simp only [bs, List.extract_eq_take_drop, Nat.add_sub_cancel_left]
  rw [List.drop_eq_getElem_cons h]
  rfl
theorem run_slice_str {P : Program} {t : TypeId} (ht : P.underlying t = some .string) (s : ByteArray) (i j : Nat) (h : i ≤ j) (hj : j ≤ s.size) (w : World) :
    (Instr.slice t (.string s) (some (.int .i64 i)) (some (.int .i64 j)) none).run P w = .ok (.string (s.extract i j)) w := by
  have h1 : (i : Int) ≤ (j : Int) := by omega
  have h2 : (j : Int) ≤ (s.size : Int) := by omega
  simp [Instr.slice, Instr.sliceBounds, Instr.sliceBound, run_underlying ht, asIntOf, h, hj]
set_option maxHeartbeats 1600000 in
set_option maxRecDepth 100000 in
theorem rdbl_any (s : List UInt8) (hs : s.length ≤ 1000) (w : World) : Calls Tryz.prog 55 #[.string (bs s)] w (fun e w' => e = .returned (.string (bs (dbl s))) ∧ w = w') := by
  have hz := bs_size s
  have HS := Lib.hid hz
  go_enter Tryz.func55, Tryz.ntmps55
  go_wp2
  go_loop [3, 4] (fun ov iv => ∃ i : Nat, iv = .int .i64 i ∧ i ≤ s.length ∧ ov = .string (bs (dbl (s.take i)))) (fun _ iv => s.length - (RowKit.intOf iv).toNat)
  case atStart => exact ⟨0, rfl, Nat.zero_le _, rfl⟩
  case round =>
    obtain ⟨i, rfl, hi, rfl⟩ := hrel
    have hd := dbl_le (s.take i)
    have hd2 : (s.take i).length ≤ i := List.length_take_le _ _
    have hd3 := bs_size (dbl (s.take i))
    by_cases hlt : i < s.length
    · have HX := Lib.hid (dbl_take hlt)
      have he := bs_ext s i hlt
      have hb : (bs s)[i]'(by rw [hz]; exact hlt) = s[i] := by simp [bs]; rfl
      have hi2 : (i : Int) < ((bs s).size : Int) := by rw [hz]; omega
      have hsl := run_slice_str (P := Tryz.prog) Tryz.underlying9 (bs s) i (i + 1) (by omega) (by omega) w
      rw [he] at hsl
      have hj : ((i + 1 : Nat) : Int) = (i : Int) + 1 := by omega
      rw [hj] at hsl
      have hz1 : (bs [s[i]]).size = 1 := rfl
      clear he hj
      go_upto_region 6 with fail
      clear hsl
      by_cases h39 : s[i] = 39
      · have HY := Lib.hid (show dbl (s.take (i + 1)) = dbl (s.take i) ++ [39, 39] by rw [HX.out, if_pos h39])
        have hq : (((bs s)[i]'(by rw [hz]; exact hlt)).toNat : Int) = 39 := by rw [hb, h39]; rfl
        have hlen : (bs (dbl (s.take i)) ++ bs [s[i]]).size ≤ 3000 := by rw [bs_app, bs_size, List.length_append]; simp; omega
        have HO := Lib.hid (show bs (dbl (s.take i)) ++ bs [s[i]] ++ ⟨#[39]⟩ = bs (dbl (s.take (i + 1))) by
          rw [HY.out, show (⟨#[39]⟩ : ByteArray) = bs [39] from rfl, bs_app, bs_app, h39, List.append_assoc]; rfl)
        clear HX
        generalize bs (dbl (s.take i)) ++ bs [s[i]] = o at *
        go_wp2
        go_round
        case rel => exact ⟨i + 1, by go_num, by omega, by rw [HO.out]⟩
        case measure => simp [RowKit.intOf]; omega
      · have HY := Lib.hid (show dbl (s.take (i + 1)) = dbl (s.take i) ++ [s[i]] by rw [HX.out, if_neg h39])
        have hq : ¬ ((((bs s)[i]'(by rw [hz]; exact hlt)).toNat : Int) = 39) := by
          rw [hb]
          intro q
          exact h39 (UInt8.toNat_inj.1 (by have : s[i].toNat = 39 := by omega
                                           rw [this]; rfl))
        have hq2 := beq_eq_false_iff_ne.2 hq
        have hq3 : ¬ ((s[i].toNat : Int) = 39) := by rw [← hb]; exact hq
        have hq4 := beq_eq_false_iff_ne.2 hq3
        have hq5 : ¬ (s[i].toNat = 39) := by omega
        have hq6 : ¬ (s[i] = 39) := h39
        have HO := Lib.hid (show bs (dbl (s.take i)) ++ bs [s[i]] = bs (dbl (s.take (i + 1))) by rw [HY.out, bs_app])
        clear HX
        generalize bs (dbl (s.take i)) ++ bs [s[i]] = o at *
        go_wp2
        go_round
        case rel => exact ⟨i + 1, by go_num, by omega, by rw [HO.out]⟩
        case measure => simp [RowKit.intOf]; omega
    · have HE := Lib.hid (show dbl (s.take i) = dbl s by rw [List.take_of_length_le (by omega)])
      go_wp2
      go_ret
      exact ⟨by rw [HE.out]; rfl, rfl⟩
end Go.Proofs.YtieicceceggglaaGreatDoor

/-! The reference of package value: the texts of values joined, given what Text answers of each; Text. Nothing that was there turns. -/

namespace Go.Proofs.YtieicceceggglaaGreatDoor
open Go.RowKit

theorem texR_app (s : List UInt8) : ∀ a b : List Vl, texR s (a ++ b) = texR s a ++ texR s b
  | [], b => rfl
  | x :: r, b => by
    show s ++ (texX x ++ texR s (r ++ b)) = (s ++ (texX x ++ texR s r)) ++ texR s b
    rw [texR_app s r b, List.append_assoc, List.append_assoc]
theorem texL_app (s : List UInt8) (a b : List Vl) (h : a ≠ []) : texL s (a ++ b) = texL s a ++ texR s b := by
  cases a with
  | nil => exact absurd rfl h
  | cons x r =>
    show texX x ++ texR s (r ++ b) = (texX x ++ texR s r) ++ texR s b
    rw [texR_app, List.append_assoc]
theorem texL_snoc (s : List UInt8) (l : List Vl) (i : Nat) (h : i < l.length) (h0 : 0 < i) : texL s (l.take (i + 1)) = texL s (l.take i) ++ s ++ texX l[i] := by
  rw [List.take_succ_eq_append_getElem h, texL_app s _ _ (fun e => by have := congrArg List.length e; rw [List.length_take, Nat.min_eq_left (by omega)] at this; exact absurd this (by simp; omega))]
  show _ ++ (s ++ (texX l[i] ++ [])) = _
  rw [List.append_nil, List.append_assoc]
theorem texL_one (s : List UInt8) (l : List Vl) (h : 0 < l.length) : texL s (l.take 1) = texX l[0] := by
  rw [show l.take 1 = [l[0]] by rw [List.take_succ_eq_append_getElem h]; rfl]
  show texX l[0] ++ [] = _
  rw [List.append_nil]
theorem texLk_le (s : List UInt8) (l : List Vl) (i : Nat) : (texL s (l.take i)).length ≤ (texL s l).length := by
  by_cases h : l.take i = []
  · rw [h]; exact Nat.zero_le _
  · have e := texL_app s (l.take i) (l.drop i) h
    rw [List.take_append_drop] at e
    rw [e, List.length_append]; omega
def RtAt (x : Vl) : Prop := ∀ (ao : Option Addr) (cap : Nat) (w : World), Vin x → SlV w ao x.ll cap → (texX x).length ≤ 1000000 → Calls Tryz.prog 17 #[vlv x ao cap] w (RwT w (texX x))
set_option maxHeartbeats 3200000 in
set_option maxRecDepth 100000 in
theorem rjoin_by (s : List UInt8) (hs2 : s.length ≤ 2) (l : List Vl) (hL : ∀ x ∈ l, RtAt x) (ao : Option Addr) (cap : Nat) (w : World) (hs : SlV w ao l cap) (hb : (texL s l).length ≤ 1000000) :
    Calls Tryz.prog 56 #[.slice ao l.length cap, .string (bs s)] w (RwT w (texL s l)) := by
  have h1 := hs.le
  have h2 := hs.max
  unfold maxLen at h2
  have HS := Lib.hid hs
  have HL := Lib.hid hL
  have HLE := Lib.hid (fun i => Nat.le_trans (texLk_le s l i) hb)
  have HSN := Lib.hid (fun i h h0 => texL_snoc s l i h h0)
  have HON := Lib.hid (fun h => texL_one s l h)
  have HEN := Lib.hid (fun i (h : l.length ≤ i) => show texL s (l.take i) = texL s l by rw [List.take_of_length_le h])
  have HST := Lib.hid (show ([] : List UInt8) = texL s (l.take 0) from rfl)
  have hz0 := bs_size s
  clear hs hL hb
  go_enter Tryz.func56, Tryz.ntmps56
  go_wp2
  go_loopw [5, 6] (fun ov iv wr => ∃ (i : Nat) (o : List UInt8), iv = .int .i64 i ∧ i ≤ l.length ∧ ov = .string (bs o) ∧ o.length ≤ 1000000 ∧ Hid (o = texL s (l.take i)) ∧ Hid (Fuw w wr)) (fun _ iv _ => l.length - (RowKit.intOf iv).toNat)
  case atStart => exact ⟨0, [], rfl, Nat.zero_le _, rfl, Nat.zero_le _, HST, Fuw.refl _⟩
  case round =>
    obtain ⟨i, o, rfl, hi, rfl, ho, HO, hf⟩ := hrel
    have hz1 := bs_size o
    by_cases hlt : i < l.length
    · have hlt' : (i : Int) < (l.length : Int) := by omega
      rcases Nat.eq_zero_or_pos i with h0 | h0
      · subst h0
        obtain ⟨b, off, rfl, hv⟩ := (HS.out.onw hf.out).get hlt
        rw [Nat.zero_mul, Nat.add_zero] at hv
        obtain ⟨hy, c0, c1, c2, c3, a1, k1, c4, hs1⟩ := VC_of hv
        have hm : l[0] ∈ l := List.getElem_mem hlt
        have e1 : texL s (l.take (0 + 1)) = texX l[0] := HON.out hlt
        have hln : (texX l[0]).length ≤ 1000000 := by rw [← e1]; exact HLE.out _
        have e0 : o = [] := by rw [HO.out]; rfl
        have HC := Lib.hid (HL.out _ hm a1 k1 wr hy hs1 hln)
        have HE := Lib.hid (show ⟨#[]⟩ ++ bs (texX l[0]) = bs (texL s (l.take (0 + 1))) by rw [e1, show (⟨#[]⟩ : ByteArray) = bs [] from rfl, bs_app]; rfl)
        have HLN := Lib.hid (HLE.out (0 + 1))
        have hz2 := bs_size (texX l[0])
        unfold vlv at HC
        clear hv hs1 hy hm e1 hlt'
        have hlt' : (0 : Int) < (l.length : Int) := by omega
        generalize texX l[0] = t at *
        generalize l[0] = x at *
        subst e0
        rw [show bs [] = ⟨#[]⟩ from rfl] at *
        go_wp2_with fail
        go_at_call 17; refine HC.out.mono ?_; rintro e w1 ⟨rfl, f1⟩
        have HF := Lib.hid (hf.out.trans f1)
        clear f1 c0 c1 c2 c3 c4
        go_wp2
        go_roundw
        case rel => exact ⟨0 + 1, _, by go_num, by omega, congrArg Value.string HE.out, HLN.out, rfl, HF⟩
        case measure => simp [RowKit.intOf]; omega
      · obtain ⟨b, off, rfl, hv⟩ := (HS.out.onw hf.out).get hlt
        obtain ⟨hy, c0, c1, c2, c3, a1, k1, c4, hs1⟩ := VC_of hv
        have hm : l[i] ∈ l := List.getElem_mem hlt
        have e1 := HSN.out i hlt h0
        have hl2 : (o ++ s ++ texX l[i]).length ≤ 1000000 := by rw [HO.out, ← e1]; exact HLE.out _
        have hl3 := hl2
        rw [List.length_append, List.length_append] at hl3
        have HC := Lib.hid (HL.out _ hm a1 k1 wr hy hs1 (by omega))
        have HE := Lib.hid (show bs o ++ bs s ++ bs (texX l[i]) = bs (texL s (l.take (i + 1))) by rw [e1, bs_app, bs_app, HO.out])
        have HLN := Lib.hid (HLE.out (i + 1))
        have hz2 := bs_size (texX l[i])
        have hz3 : (bs o ++ bs s).size = o.length + s.length := by rw [bs_app, bs_size, List.length_append]
        have h0' : 0 < (i : Int) := by omega
        unfold vlv at HC
        clear hv hs1 hy hm e1 hl2
        generalize texX l[i] = t at *
        generalize l[i] = x at *
        go_wp2_with fail
        go_at_call 17; refine HC.out.mono ?_; rintro e w1 ⟨rfl, f1⟩
        have HF := Lib.hid (hf.out.trans f1)
        clear f1 c0 c1 c2 c3 c4
        generalize bs o ++ bs s = os at *
        go_wp2
        go_roundw
        case rel => exact ⟨i + 1, _, by go_num, by omega, congrArg Value.string HE.out, HLN.out, rfl, HF⟩
        case measure => simp [RowKit.intOf]; omega
    · have HZ := Lib.hid (show bs o = bs (texL s l) by rw [HO.out, HEN.out i (by omega)])
      go_wp2
      go_ret
      exact ⟨by rw [HZ.out]; rfl, hf.out⟩
end Go.Proofs.YtieicceceggglaaGreatDoor

/-! The reference of package value: Text, of every value in memory whose text is no longer than a million bytes. Nothing that was there turns. -/
namespace Go.Proofs.YtieicceceggglaaGreatDoor
open Go.RowKit

theorem bs_3 (a : UInt8) (t : List UInt8) (c : UInt8) : (⟨#[a]⟩ : ByteArray) ++ bs t ++ ⟨#[c]⟩ = bs (a :: (t ++ [c])) := by
  rw [show (⟨#[a]⟩ : ByteArray) = bs [a] from rfl, show (⟨#[c]⟩ : ByteArray) = bs [c] from rfl, bs_app, bs_app]; rfl
theorem bs_2 (a : UInt8) (t : List UInt8) : (⟨#[a]⟩ : ByteArray) ++ bs t = bs (a :: t) := by
  rw [show (⟨#[a]⟩ : ByteArray) = bs [a] from rfl, bs_app]; rfl
/-- What a slot of the fraction's text holds once it is written. -/
def VkU (n d : Int) (B : Nat) : Nat → World → Value → Prop
  | 1, _, v => v = .pointer (some ⟨B, 1, none⟩)
  | 2, _, v => v = .pointer (some ⟨B, 2, none⟩)
  | 3, _, v => v = .int .i64 n
  | 4, _, v => v = .int .i64 d
  | 5, _, v => v = .string (bs (Lib.itoa n))
  | 6, _, v => v = .string (bs (Lib.itoa d))
  | 7, _, v => v = .string (bs (Lib.itoa n ++ [47]))
  | 8, _, v => v = .string (bs (Lib.itoa n ++ 47 :: Lib.itoa d))
  | _, _, _ => True
def kVk : List Nat := [0, 0, 8, 0, 0, 0, 0, 0, 0, 0, 0, 0, 0, 0, 0, 0, 0, 0, 0, 0, 1, 3, 5, 7, 2, 4, 6, 8, 0, 0, 0, 0, 0, 0, 0, 0, 0, 0, 0, 0, 0, 0, 0, 0, 0, 0, 0, 0, 0, 0, 0, 0, 0, 0, 0, 0, 0, 0, 0, 0, 0]
theorem frameD61 (x : Nat → Value) : frameD 61 x = ⟨#[x 0, x 1, x 2, x 3, x 4, x 5, x 6, x 7, x 8, x 9, x 10, x 11, x 12, x 13, x 14, x 15, x 16, x 17, x 18, x 19, x 20, x 21, x 22, x 23, x 24, x 25, x 26, x 27, x 28, x 29, x 30, x 31, x 32, x 33, x 34, x 35, x 36, x 37, x 38, x 39, x 40, x 41, x 42, x 43, x 44, x 45, x 46, x 47, x 48, x 49, x 50, x 51, x 52, x 53, x 54, x 55, x 56, x 57, x 58, x 59, x 60], []⟩ := rfl
theorem vku_on {n d : Int} {B : Nat} {k : Nat} {w w' : World} (u : Value) (h : VkU n d B k w u) : VkU n d B k w' u := by
  match k, h with
  | 0, h => exact h
  | 1, h => exact h
  | 2, h => exact h
  | 3, h => exact h
  | 4, h => exact h
  | 5, h => exact h
  | 6, h => exact h
  | 7, h => exact h
  | 8, h => exact h
  | _ + 9, h => exact h
theorem rdbl_w (s : List UInt8) (hs : s.length ≤ 1000) (w : World) : Calls Tryz.prog 55 #[.string (bs s)] w (RwT w (dbl s)) := (rdbl_any s hs w).mono fun _ _ ⟨he, hw⟩ => ⟨he, hw ▸ Fuw.refl _⟩
theorem rt_w (n : Int) (h : I64 n) (w : World) : Calls Tryz.prog 54 #[.int .i64 n] w (RwT w (Lib.itoa n)) := Rtx.rtext_any n h.1 h.2 w
theorem itoa_le (n : Int) (h : I64 n) : (Lib.itoa n).length ≤ 100 := by
  have := Lib.itoa_length_le n h.1 h.2
  omega
set_option maxHeartbeats 12800000 in
set_option maxRecDepth 100000 in
theorem rtxt_by (x : Vl) (hJ : ∀ s : List UInt8, s.length ≤ 2 → ∀ (ao : Option Addr) (cap : Nat) (w : World), SlV w ao x.ll cap → (texL s x.ll).length ≤ 1000000 → Calls Tryz.prog 56 #[.slice ao x.ll.length cap, .string (bs s)] w (RwT w (texL s x.ll))) : RtAt x := by
  intro ao cap w hy hs hb
  obtain ⟨p0, f0⟩ := bx1 w x ao cap
  obtain ⟨W, hW⟩ : ∃ W, (w.alloc (.cells #[.int .i64 x.kd, .int .i64 x.nn, .int .i64 x.dd, .string (bs x.ss), .slice ao x.ll.length cap] 24)) = W := ⟨_, rfl⟩
  rw [hW] at p0 f0
  have HV := Lib.hid (rokV_any x ao cap W hy (hs.on f0))
  unfold vlv at HV
  have HS := Lib.hid (hs.on f0)
  have HY := Lib.hid hy
  have HP := Lib.hid p0
  have HF := Lib.hid (show Fuw w W from f0.b)
  have HJ := Lib.hid hJ
  have HB := Lib.hid hb
  have c0 := p0.c0; have c1 := p0.c1; have c2 := p0.c2; have c3 := p0.c3; have c4 := p0.c4
  clear hs hy p0 f0 hJ hb
  unfold vlv
  cases hok : okX x with
  | false =>
    rw [hok] at HV
    have HT := Lib.hid (show bs (texX x) = ⟨#[63]⟩ from by
      cases x with
      | mk k n d s l =>
        unfold texX
        rw [if_pos hok]; rfl)
    clear hok
    go_enter Tryz.func17, Tryz.ntmps17
    go_upto_region 1 with fail
    clear hW
    go_wp2_with fail
    go_at_call 11; refine HV.out.mono ?_; rintro e1 w1 ⟨rfl, f1⟩
    have F1 := Lib.hid (HF.out.trans f1.b)
    clear f1 c0 c1 c2 c3 c4
    go_wp2
    go_ret
    exact ⟨ret_str HT.out.symm, F1.out⟩
  | true =>
    rw [hok] at HV
    obtain ⟨k, n, d, s, l⟩ := x
    have hnI : I64 n := HY.out.n
    have hdI : I64 d := HY.out.d
    have HJ2 := Lib.hid (show ∀ s2 : List UInt8, s2.length ≤ 2 → ∀ (ao : Option Addr) (cap : Nat) (w : World), SlV w ao l cap → (texL s2 l).length ≤ 1000000 → Calls Tryz.prog 56 #[.slice ao l.length cap, .string (bs s2)] w (RwT w (texL s2 l)) from HJ.out)
    have HOK := Lib.hid hok
    have hk := kinds hok
    clear hok
    obtain ⟨hnI1, hnI2⟩ := hnI
    obtain ⟨hdI1, hdI2⟩ := hdI
    have HNI := Lib.hid (And.intro hnI1 hnI2)
    have HDI := Lib.hid (And.intro hdI1 hdI2)
    change W.cell? ⟨w.heap.size, 0, none⟩ = some (.int .i64 k) at c0
    change W.cell? ⟨w.heap.size, 1, none⟩ = some (.int .i64 n) at c1
    change W.cell? ⟨w.heap.size, 2, none⟩ = some (.int .i64 d) at c2
    change W.cell? ⟨w.heap.size, 3, none⟩ = some (.string (bs s)) at c3
    change W.cell? ⟨w.heap.size, 4, none⟩ = some (.slice ao l.length cap) at c4
    show Calls _ _ #[.agg #[.int .i64 k, .int .i64 n, .int .i64 d, .string (bs s), .slice ao l.length cap]] w (RwT w (texX (.mk k n d s l)))
    change Hid (Calls _ _ #[.agg #[.int .i64 k, .int .i64 n, .int .i64 d, .string (bs s), .slice ao l.length cap]] W (RetB W true)) at HV
    change (w.alloc (.cells #[.int .i64 k, .int .i64 n, .int .i64 d, .string (bs s), .slice ao l.length cap] 24)) = W at hW
    clear hnI1 hnI2 hdI1 hdI2
    rcases hk with ⟨rfl, -⟩ | ⟨rfl, hn, -⟩ | ⟨rfl, -⟩ | ⟨rfl, -⟩ | ⟨rfl, -⟩ | ⟨rfl, -⟩ | ⟨rfl, -⟩ | ⟨rfl, -⟩ | ⟨rfl, -⟩
    · have HT := Lib.hid (show bs (texX (.mk 0 n d s l)) = ⟨#[110, 117, 108, 108]⟩ from by rw [tex_of' HOK.out]; rfl)
      go_enter Tryz.func17, Tryz.ntmps17
      go_upto_region 1 with fail
      clear hW
      go_wp2_with fail
      go_at_call 11; refine HV.out.mono ?_; rintro e1 w1 ⟨rfl, f1⟩
      have F1 := Lib.hid (HF.out.trans f1.b)
      have G1 := Lib.hid (show Fuw W w1 from f1.b)
      replace c0 := cellOnw f1.b c0; replace c1 := cellOnw f1.b c1; replace c2 := cellOnw f1.b c2; replace c3 := cellOnw f1.b c3; replace c4 := cellOnw f1.b c4
      clear f1 HV
      go_wp2
      go_ret
      exact ⟨ret_str HT.out.symm, F1.out⟩
    · by_cases h1 : n = 1
      · have HT := Lib.hid (show bs (texX (.mk 1 n d s l)) = ⟨#[116, 114, 117, 101]⟩ from by rw [tex_of' HOK.out, h1]; rfl)
        subst h1
        clear hn
        go_enter Tryz.func17, Tryz.ntmps17
        go_upto_region 1 with fail
        clear hW
        go_wp2_with fail
        go_at_call 11; refine HV.out.mono ?_; rintro e1 w1 ⟨rfl, f1⟩
        have F1 := Lib.hid (HF.out.trans f1.b)
        have G1 := Lib.hid (show Fuw W w1 from f1.b)
        replace c0 := cellOnw f1.b c0; replace c1 := cellOnw f1.b c1; replace c2 := cellOnw f1.b c2; replace c3 := cellOnw f1.b c3; replace c4 := cellOnw f1.b c4
        clear f1 HV
        go_wp2
        go_ret
        exact ⟨ret_str HT.out.symm, F1.out⟩
      · have h0 : n = 0 := by omega
        have HT := Lib.hid (show bs (texX (.mk 1 n d s l)) = ⟨#[102, 97, 108, 115, 101]⟩ from by rw [tex_of' HOK.out, h0]; rfl)
        subst h0
        clear hn h1
        go_enter Tryz.func17, Tryz.ntmps17
        go_upto_region 1 with fail
        clear hW
        go_wp2_with fail
        go_at_call 11; refine HV.out.mono ?_; rintro e1 w1 ⟨rfl, f1⟩
        have F1 := Lib.hid (HF.out.trans f1.b)
        have G1 := Lib.hid (show Fuw W w1 from f1.b)
        replace c0 := cellOnw f1.b c0; replace c1 := cellOnw f1.b c1; replace c2 := cellOnw f1.b c2; replace c3 := cellOnw f1.b c3; replace c4 := cellOnw f1.b c4
        clear f1 HV
        go_wp2
        go_ret
        exact ⟨ret_str HT.out.symm, F1.out⟩
    · have HT := Lib.hid (show bs (texX (.mk 2 n d s l)) = bs (Lib.itoa n) from by rw [tex_of' HOK.out]; rfl)
      go_enter Tryz.func17, Tryz.ntmps17
      go_upto_region 1 with fail
      clear hW
      go_wp2_with fail
      go_at_call 11; refine HV.out.mono ?_; rintro e1 w1 ⟨rfl, f1⟩
      have F1 := Lib.hid (HF.out.trans f1.b)
      have G1 := Lib.hid (show Fuw W w1 from f1.b)
      replace c0 := cellOnw f1.b c0; replace c1 := cellOnw f1.b c1; replace c2 := cellOnw f1.b c2; replace c3 := cellOnw f1.b c3; replace c4 := cellOnw f1.b c4
      clear f1 HV
      go_wp2_with fail
      go_at_call 54; refine (rt_w n HNI.out w1).mono ?_; rintro e2 w2 ⟨rfl, f2⟩
      have F2 := Lib.hid (F1.out.trans f2)
      clear f2
      go_wp2
      go_ret
      exact ⟨ret_str HT.out.symm, F2.out⟩
    · have HT := Lib.hid (show bs (texX (.mk 3 n d s l)) = bs (Lib.itoa n ++ 47 :: Lib.itoa d) from by rw [tex_of' HOK.out]; rfl)
      have HLN := Lib.hid (And.intro (itoa_le n HNI.out) (itoa_le d HDI.out))
      go_enter Tryz.func17, Tryz.ntmps17
      go_upto_region 1 with fail
      clear hW
      go_wp2_with fail
      go_at_call 11; refine HV.out.mono ?_; rintro e1 w1 ⟨rfl, f1⟩
      have F1 := Lib.hid (HF.out.trans f1.b)
      have G1 := Lib.hid (show Fuw W w1 from f1.b)
      replace c0 := cellOnw f1.b c0; replace c1 := cellOnw f1.b c1; replace c2 := cellOnw f1.b c2; replace c3 := cellOnw f1.b c3; replace c4 := cellOnw f1.b c4
      clear f1 HV
      go_upto_region 11 with fail
      have C1 := Lib.hid c1
      have C2 := Lib.hid c2
      clear c0 c1 c2 c3 c4
      refine region_midB (N := 61) (S := fun _ => Fuw w1) (U := fun _ t => VkU n d w.heap.size (kVk.getD t 0)) (V := fun _ _ => True) (by kernel_rfl) (by kernel_rfl) (by kernel_rfl) ?base (fun H1 => upto_succ (n := 8) (upto_succ (n := 7) (upto_succ (n := 6) (upto_succ (n := 5) (upto_succ (n := 4) (upto_succ (n := 3) (upto_succ (n := 2) (upto_succ (n := 1) (upto_succ (n := 0) (upto_nil) ?s0) ?s1) ?s2) ?s3) ?s4) ?s5) ?s6) ?s7) ?s8) ?fin
      case s0 =>
        refine stepB_of [] [] [] [] H1 rfl rfl (by kernel_rfl) (by kernel_rfl) (by kernel_rfl) (by kernel_rfl) ?_
        intro σ hp hq x w5 hS hU hV hA Lv hLv K hK
        clear hp hq
        have u1 : x 1 = .pointer (some ⟨w.heap.size, 0, none⟩) := hA 1 (by kernel_rfl)
        clear hU hV hA H1 hLv
        rw [frameD61] at hK ⊢
        simp only [u1] at hK ⊢
        refine wpOp_step rfl (fun K' hK' => ?_)
        go_simp
        exact hK' _ _ (hK _ _ hS (fun _ _ _ h => h) (fun e he => by cases he; exact rfl))
      case s1 =>
        refine stepB_of [] [] [20] [] H1 rfl rfl (by kernel_rfl) (by kernel_rfl) (by kernel_rfl) (by kernel_rfl) ?_
        intro σ hp hq x w5 hS hU hV hA Lv hLv K hK
        clear hp hq
        have u20 : x 20 = .pointer (some ⟨w.heap.size, 1, none⟩) := hU 20 (by simp)
        clear hU hV hA H1 hLv
        rw [frameD61] at hK ⊢
        simp only [u20] at hK ⊢
        refine wpOp_step rfl (fun K' hK' => ?_)
        have hf5 : Fuw w1 w5 := hS
        have q := cellOnw hf5 C1.out
        go_simp
        exact hK' _ _ (hK _ _ hS (fun _ _ _ h => h) (fun e he => by cases he; exact rfl))
      case s2 =>
        refine stepB_of [] [] [21] [] H1 rfl rfl (by kernel_rfl) (by kernel_rfl) (by kernel_rfl) (by kernel_rfl) ?_
        intro σ hp hq x w5 hS hU hV hA Lv hLv K hK
        clear hp hq
        have u21 : x 21 = .int .i64 n := hU 21 (by simp)
        clear hU hV hA H1 hLv
        rw [frameD61] at hK ⊢
        simp only [u21] at hK ⊢
        refine wpOp_step rfl (fun K' hK' => ?_)
        have hf5 : Fuw w1 w5 := hS
        go_simp
        go_wp2_with (go_at_call 54; refine (rt_w n HNI.out w5).mono ?_; rintro e5 w6 ⟨rfl, f5⟩)
        exact hK _ _ (show Fuw w1 _ from hf5.trans f5) (fun t _ _ h => vku_on _ h) (fun e he => by cases he; exact rfl)
      case s3 =>
        refine stepB_of [] [] [22] [] H1 rfl rfl (by kernel_rfl) (by kernel_rfl) (by kernel_rfl) (by kernel_rfl) ?_
        intro σ hp hq x w5 hS hU hV hA Lv hLv K hK
        clear hp hq
        have u22 : x 22 = .string (bs (Lib.itoa n)) := hU 22 (by simp)
        clear hU hV hA H1 hLv
        rw [frameD61] at hK ⊢
        simp only [u22] at hK ⊢
        refine wpOp_step rfl (fun K' hK' => ?_)
        have hz1 := bs_size (Lib.itoa n)
        have hz2 := HLN.out.1
        have hz3 := HLN.out.2
        have hz4 := bs_size (Lib.itoa d)
        have hz5 := bs_size (Lib.itoa n ++ [47])
        rw [List.length_append, List.length_singleton] at hz5
        have hsz : ¬ (9223372036854775807 < (bs (Lib.itoa n)).size + 1) := by omega
        have hsz2 : (bs (Lib.itoa n)).size + 1 ≤ 9223372036854775807 := by omega
        clear hz1 hz2 hz3 hz4 hz5
        go_simp
        exact hK' _ _ (hK _ _ hS (fun _ _ _ h => h) (fun e he => by cases he; exact (by show Value.string (bs (Lib.itoa n) ++ ⟨#[47]⟩) = _; rw [show (⟨#[47]⟩ : ByteArray) = bs [47] from rfl, bs_app])))
      case s4 =>
        refine stepB_of [] [] [] [] H1 rfl rfl (by kernel_rfl) (by kernel_rfl) (by kernel_rfl) (by kernel_rfl) ?_
        intro σ hp hq x w5 hS hU hV hA Lv hLv K hK
        clear hp hq
        have u1 : x 1 = .pointer (some ⟨w.heap.size, 0, none⟩) := hA 1 (by kernel_rfl)
        clear hU hV hA H1 hLv
        rw [frameD61] at hK ⊢
        simp only [u1] at hK ⊢
        refine wpOp_step rfl (fun K' hK' => ?_)
        go_simp
        exact hK' _ _ (hK _ _ hS (fun _ _ _ h => h) (fun e he => by cases he; exact rfl))
      case s5 =>
        refine stepB_of [] [] [24] [] H1 rfl rfl (by kernel_rfl) (by kernel_rfl) (by kernel_rfl) (by kernel_rfl) ?_
        intro σ hp hq x w5 hS hU hV hA Lv hLv K hK
        clear hp hq
        have u24 : x 24 = .pointer (some ⟨w.heap.size, 2, none⟩) := hU 24 (by simp)
        clear hU hV hA H1 hLv
        rw [frameD61] at hK ⊢
        simp only [u24] at hK ⊢
        refine wpOp_step rfl (fun K' hK' => ?_)
        have hf5 : Fuw w1 w5 := hS
        have q := cellOnw hf5 C2.out
        go_simp
        exact hK' _ _ (hK _ _ hS (fun _ _ _ h => h) (fun e he => by cases he; exact rfl))
      case s6 =>
        refine stepB_of [] [] [25] [] H1 rfl rfl (by kernel_rfl) (by kernel_rfl) (by kernel_rfl) (by kernel_rfl) ?_
        intro σ hp hq x w5 hS hU hV hA Lv hLv K hK
        clear hp hq
        have u25 : x 25 = .int .i64 d := hU 25 (by simp)
        clear hU hV hA H1 hLv
        rw [frameD61] at hK ⊢
        simp only [u25] at hK ⊢
        refine wpOp_step rfl (fun K' hK' => ?_)
        have hf5 : Fuw w1 w5 := hS
        go_simp
        go_wp2_with (go_at_call 54; refine (rt_w d HDI.out w5).mono ?_; rintro e5 w6 ⟨rfl, f5⟩)
        exact hK _ _ (show Fuw w1 _ from hf5.trans f5) (fun t _ _ h => vku_on _ h) (fun e he => by cases he; exact rfl)
      case s7 =>
        refine stepB_of [] [] [23, 26] [] H1 rfl rfl (by kernel_rfl) (by kernel_rfl) (by kernel_rfl) (by kernel_rfl) ?_
        intro σ hp hq x w5 hS hU hV hA Lv hLv K hK
        clear hp hq
        have u23 : x 23 = .string (bs (Lib.itoa n ++ [47])) := hU 23 (by simp)
        have u26 : x 26 = .string (bs (Lib.itoa d)) := hU 26 (by simp)
        clear hU hV hA H1 hLv
        rw [frameD61] at hK ⊢
        simp only [u23, u26] at hK ⊢
        refine wpOp_step rfl (fun K' hK' => ?_)
        have hz1 := bs_size (Lib.itoa n)
        have hz2 := HLN.out.1
        have hz3 := HLN.out.2
        have hz4 := bs_size (Lib.itoa d)
        have hz5 := bs_size (Lib.itoa n ++ [47])
        rw [List.length_append, List.length_singleton] at hz5
        have hsz : ¬ (9223372036854775807 < (bs (Lib.itoa n ++ [47])).size + (bs (Lib.itoa d)).size) := by omega
        have hsz2 : (bs (Lib.itoa n ++ [47])).size + (bs (Lib.itoa d)).size ≤ 9223372036854775807 := by omega
        clear hz1 hz2 hz3 hz4 hz5
        go_simp
        exact hK' _ _ (hK _ _ hS (fun _ _ _ h => h) (fun e he => by cases he; exact (by show Value.string (bs (Lib.itoa n ++ [47]) ++ bs (Lib.itoa d)) = _; rw [bs_app, List.append_assoc]; rfl)))
      case s8 =>
        refine stepB_of [] [] [27] [] H1 rfl rfl (by kernel_rfl) (by kernel_rfl) (by kernel_rfl) (by kernel_rfl) ?_
        intro σ hp hq x w5 hS hU hV hA Lv hLv K hK
        clear hp hq
        have u27 : x 27 = .string (bs (Lib.itoa n ++ 47 :: Lib.itoa d)) := hU 27 (by simp)
        clear hU hV hA H1 hLv
        rw [frameD61] at hK ⊢
        simp only [u27] at hK ⊢
        refine wpOp_step rfl (fun K' hK' => ?_)
        go_simp
        exact hK' _ _ (hK _ _ hS (fun _ _ _ h => h) (fun e he => by cases he; exact rfl))
      case base =>
        refine midB_start rfl rfl (show Fuw w1 w1.drew from Fuw.drew (Fuw.refl _)) (fun t ht hh => ?_) (fun t => trivial)
        rcases start_of (ks := kVk) (L := []) (by kernel_rfl) t ht hh with e | e
        · show VkU _ _ _ (kVk.getD t 0) _ _
          rw [e]; trivial
        · cases e
      case fin =>
        intro x w5 hS hU hA
        rename_i hk
        refine hk _ _ ?_
        have F5 := Lib.hid (F1.out.trans (show Fuw w1 w5 from hS))
        have u2 : x 2 = .string (bs (Lib.itoa n ++ 47 :: Lib.itoa d)) := hU 2 (by simp)
        clear hU hA hS
        rw [frameD61]
        simp only [u2]
        clear u2
        go_wp2
        go_ret
        exact ⟨ret_str HT.out.symm, F5.out⟩
    · have HT := Lib.hid (show bs (texX (.mk 4 n d s l)) = ⟨#[39]⟩ ++ bs (dbl s) ++ ⟨#[39]⟩ from by rw [tex_of' HOK.out]; rw [bs_3]; rfl)
      have hz := bs_size (dbl s)
      have hz2 := dbl_le s
      have hz3 := str_len HOK.out
      have hz4 : ((⟨#[39]⟩ : ByteArray) ++ bs (dbl s)).size = 1 + (dbl s).length := by rw [bs_2, bs_size, List.length_cons]; omega
      go_enter Tryz.func17, Tryz.ntmps17
      go_upto_region 1 with fail
      clear hW
      go_wp2_with fail
      go_at_call 11; refine HV.out.mono ?_; rintro e1 w1 ⟨rfl, f1⟩
      have F1 := Lib.hid (HF.out.trans f1.b)
      have G1 := Lib.hid (show Fuw W w1 from f1.b)
      replace c0 := cellOnw f1.b c0; replace c1 := cellOnw f1.b c1; replace c2 := cellOnw f1.b c2; replace c3 := cellOnw f1.b c3; replace c4 := cellOnw f1.b c4
      clear f1 HV
      go_wp2_with fail
      go_at_call 55; refine (rdbl_w s (Nat.le_trans (str_len HOK.out) (by omega)) w1).mono ?_; rintro e2 w2 ⟨rfl, f2⟩
      have F2 := Lib.hid (F1.out.trans f2)
      clear f2
      go_wp2
      go_ret
      exact ⟨ret_str HT.out.symm, F2.out⟩
    · have HT := Lib.hid (show bs (texX (.mk 5 n d s l)) = ⟨#[35]⟩ ++ bs (Lib.itoa n) from by rw [tex_of' HOK.out]; rw [bs_2]; rfl)
      have hz := bs_size (Lib.itoa n)
      have hz2 := itoa_le n HNI.out
      go_enter Tryz.func17, Tryz.ntmps17
      go_upto_region 1 with fail
      clear hW
      go_wp2_with fail
      go_at_call 11; refine HV.out.mono ?_; rintro e1 w1 ⟨rfl, f1⟩
      have F1 := Lib.hid (HF.out.trans f1.b)
      have G1 := Lib.hid (show Fuw W w1 from f1.b)
      replace c0 := cellOnw f1.b c0; replace c1 := cellOnw f1.b c1; replace c2 := cellOnw f1.b c2; replace c3 := cellOnw f1.b c3; replace c4 := cellOnw f1.b c4
      clear f1 HV
      go_wp2_with fail
      go_at_call 54; refine (rt_w n HNI.out w1).mono ?_; rintro e2 w2 ⟨rfl, f2⟩
      have F2 := Lib.hid (F1.out.trans f2)
      clear f2
      go_wp2
      go_ret
      exact ⟨ret_str HT.out.symm, F2.out⟩
    · have HT := Lib.hid (show bs (texX (.mk 6 n d s l)) = ⟨#[64]⟩ ++ bs (Lib.itoa n) from by rw [tex_of' HOK.out]; rw [bs_2]; rfl)
      have hz := bs_size (Lib.itoa n)
      have hz2 := itoa_le n HNI.out
      go_enter Tryz.func17, Tryz.ntmps17
      go_upto_region 1 with fail
      clear hW
      go_wp2_with fail
      go_at_call 11; refine HV.out.mono ?_; rintro e1 w1 ⟨rfl, f1⟩
      have F1 := Lib.hid (HF.out.trans f1.b)
      have G1 := Lib.hid (show Fuw W w1 from f1.b)
      replace c0 := cellOnw f1.b c0; replace c1 := cellOnw f1.b c1; replace c2 := cellOnw f1.b c2; replace c3 := cellOnw f1.b c3; replace c4 := cellOnw f1.b c4
      clear f1 HV
      go_wp2_with fail
      go_at_call 54; refine (rt_w n HNI.out w1).mono ?_; rintro e2 w2 ⟨rfl, f2⟩
      have F2 := Lib.hid (F1.out.trans f2)
      clear f2
      go_wp2
      go_ret
      exact ⟨ret_str HT.out.symm, F2.out⟩
    · have HT := Lib.hid (show bs (texX (.mk 7 n d s l)) = ⟨#[60]⟩ ++ bs (texL [32] l) ++ ⟨#[62]⟩ from by rw [tex_of' HOK.out]; rw [bs_3]; rfl)
      have e9 : texX (.mk 7 n d s l) = 60 :: (texL [32] l ++ [62]) := by rw [tex_of' HOK.out]; rfl
      have hz2 : (texL [32] l).length ≤ 1000000 := by have := HB.out; rw [e9, List.length_cons, List.length_append] at this; omega
      have HZ2 := Lib.hid hz2
      clear e9
      have hz := bs_size (texL [32] l)
      have hz4 : ((⟨#[60]⟩ : ByteArray) ++ bs (texL [32] l)).size = 1 + (texL [32] l).length := by rw [bs_2, bs_size, List.length_cons]; omega
      go_enter Tryz.func17, Tryz.ntmps17
      go_upto_region 1 with fail
      clear hW
      go_wp2_with fail
      go_at_call 11; refine HV.out.mono ?_; rintro e1 w1 ⟨rfl, f1⟩
      have F1 := Lib.hid (HF.out.trans f1.b)
      have G1 := Lib.hid (show Fuw W w1 from f1.b)
      replace c0 := cellOnw f1.b c0; replace c1 := cellOnw f1.b c1; replace c2 := cellOnw f1.b c2; replace c3 := cellOnw f1.b c3; replace c4 := cellOnw f1.b c4
      clear f1 HV
      go_wp2_with fail
      go_at_call 56; refine (HJ2.out [32] (by decide) ao cap w1 (HS.out.onw G1.out) HZ2.out).mono ?_; rintro e2 w2 ⟨rfl, f2⟩
      have F2 := Lib.hid (F1.out.trans f2)
      clear f2
      go_wp2
      go_ret
      exact ⟨ret_str HT.out.symm, F2.out⟩
    · have HT := Lib.hid (show bs (texX (.mk 8 n d s l)) = ⟨#[91]⟩ ++ bs (texL [44, 32] l) ++ ⟨#[93]⟩ from by rw [tex_of' HOK.out]; rw [bs_3]; rfl)
      have e9 : texX (.mk 8 n d s l) = 91 :: (texL [44, 32] l ++ [93]) := by rw [tex_of' HOK.out]; rfl
      have hz2 : (texL [44, 32] l).length ≤ 1000000 := by have := HB.out; rw [e9, List.length_cons, List.length_append] at this; omega
      have HZ2 := Lib.hid hz2
      clear e9
      have hz := bs_size (texL [44, 32] l)
      have hz4 : ((⟨#[91]⟩ : ByteArray) ++ bs (texL [44, 32] l)).size = 1 + (texL [44, 32] l).length := by rw [bs_2, bs_size, List.length_cons]; omega
      go_enter Tryz.func17, Tryz.ntmps17
      go_upto_region 1 with fail
      clear hW
      go_wp2_with fail
      go_at_call 11; refine HV.out.mono ?_; rintro e1 w1 ⟨rfl, f1⟩
      have F1 := Lib.hid (HF.out.trans f1.b)
      have G1 := Lib.hid (show Fuw W w1 from f1.b)
      replace c0 := cellOnw f1.b c0; replace c1 := cellOnw f1.b c1; replace c2 := cellOnw f1.b c2; replace c3 := cellOnw f1.b c3; replace c4 := cellOnw f1.b c4
      clear f1 HV
      go_wp2_with fail
      go_at_call 56; refine (HJ2.out [44, 32] (by decide) ao cap w1 (HS.out.onw G1.out) HZ2.out).mono ?_; rintro e2 w2 ⟨rfl, f2⟩
      have F2 := Lib.hid (F1.out.trans f2)
      clear f2
      go_wp2
      go_ret
      exact ⟨ret_str HT.out.symm, F2.out⟩
mutual
theorem rtxt_all : ∀ x : Vl, RtAt x
  | .mk k n d s l => rtxt_by (.mk k n d s l) (fun s2 h2 ao cap w hs hb => rjoin_by s2 h2 l (rtxt_list l) ao cap w hs hb)
theorem rtxt_list : ∀ l : List Vl, ∀ x ∈ l, RtAt x
  | [], _, h => by cases h
  | v :: r, x, h => (List.mem_cons.1 h).elim (fun e => e ▸ rtxt_all v) (fun e => rtxt_list r x e)
end
end Go.Proofs.YtieicceceggglaaGreatDoor

/-! ValueKinds gives true by the contracts of package value and its reference. -/
namespace Go.Proofs.YtieicceceggglaaGreatDoor
open Go.RowKit

theorem trv_eq (x : Vl) : trvR x = truV x := by
  unfold trvR truV
  by_cases h : okX x = true
  · by_cases hk : x.kd = 1
    · rw [if_pos ⟨hk, h⟩, if_pos ⟨h, hk⟩]
      rcases ok_bool h hk with e | e <;> rw [e] <;> rfl
    · rw [if_neg (fun c => hk c.1), if_neg (fun c => hk c.2)]
  · rw [if_neg (fun c => h c.2), if_neg (fun c => h c.1)]
/-- What a slot of the last statement holds once it is written, by the slot's class. -/
def VdU (x : Vl) (ao : Option Addr) (cap : Nat) (ok pl nu : Bool) (n d tr : Int) (t : List UInt8) : Nat → World → Value → Prop
  | 1, _, v => v = .agg #[.int .i64 x.kd, .int .i64 x.nn, .int .i64 x.dd, .string (bs x.ss), .slice ao x.ll.length cap]
  | 2, _, v => v = .bool true
  | 3, _, v => v = .bool ok
  | 4, _, v => v = .bool pl
  | 5, _, v => v = .agg #[.int .i64 n, .int .i64 d]
  | 6, _, v => v = .bool nu
  | 7, _, v => v = .int .i64 tr
  | 8, _, v => v = .string (bs t)
  | _, _, _ => True
def kVd : List Nat := [0, 0, 2, 0, 0, 0, 0, 0, 0, 0, 0, 0, 0, 0, 0, 0, 0, 0, 0, 0, 0, 0, 1, 3, 1, 3, 2, 2, 1, 4, 1, 4, 2, 2, 2, 5, 5, 2, 2, 2, 6, 6, 2, 2, 2, 1, 7, 1, 7, 2, 2, 2, 1, 8, 1, 8, 2, 2, 2, 2, 2]
theorem vdu_on {x : Vl} {ao : Option Addr} {cap : Nat} {ok pl nu : Bool} {n d tr : Int} {t : List UInt8} {w w' : World} : ∀ (k : Nat) (u : Value), VdU x ao cap ok pl nu n d tr t k w u → VdU x ao cap ok pl nu n d tr t k w' u := by
  intro k u h
  match k, h with
  | 0, h => exact h
  | 1, h => exact h
  | 2, h => exact h
  | 3, h => exact h
  | 4, h => exact h
  | 5, h => exact h
  | 6, h => exact h
  | 7, h => exact h
  | 8, h => exact h
  | _ + 9, h => exact h
theorem frameD61b (x : Nat → Value) : frameD 61 x = ⟨#[x 0, x 1, x 2, x 3, x 4, x 5, x 6, x 7, x 8, x 9, x 10, x 11, x 12, x 13, x 14, x 15, x 16, x 17, x 18, x 19, x 20, x 21, x 22, x 23, x 24, x 25, x 26, x 27, x 28, x 29, x 30, x 31, x 32, x 33, x 34, x 35, x 36, x 37, x 38, x 39, x 40, x 41, x 42, x 43, x 44, x 45, x 46, x 47, x 48, x 49, x 50, x 51, x 52, x 53, x 54, x 55, x 56, x 57, x 58, x 59, x 60], []⟩ := rfl
set_option maxHeartbeats 12800000 in
set_option maxRecDepth 100000 in
theorem kinds_any (x : Vl) (ao : Option Addr) (cap : Nat) (w : World) (hi : Vin x) (hs : SlV w ao x.ll cap) (G : Good w) :
    Calls Tryz.prog 3 #[vlv x ao cap] w (RwB w true) := by
  obtain ⟨W, hW⟩ : ∃ W, W = w.alloc (.cells #[.int .i64 x.kd, .int .i64 x.nn, .int .i64 x.dd, .string (bs x.ss), .slice ao x.ll.length cap] 24) := ⟨_, rfl⟩
  have FW := Lib.hid (show Fuw w W from by rw [hW]; exact fuwA _ _)
  have PW := Lib.hid (show Bk W w.heap.size #[.int .i64 x.kd, .int .i64 x.nn, .int .i64 x.dd, .string (bs x.ss), .slice ao x.ll.length cap] 24 from by rw [hW]; exact Bk.new _ _ _)
  have HW := Lib.hid hW
  have HS := Lib.hid hs
  have HI := Lib.hid hi
  have HG := Lib.hid G
  have HSM := Lib.hid (lsmall_any [x] _ 1 _ (slv_one (Bk.new W #[.int .i64 x.kd, .int .i64 x.nn, .int .i64 x.dd, .string (bs x.ss), .slice ao x.ll.length cap] 24) hi (hs.onw (FW.out.trans (fuwA _ _)))))
  have HTX := Lib.hid (fun h => lite_tex (l := [x]) h (List.mem_singleton.2 rfl))
  clear hW hs hi G
  have c0 := PW.out.c 0; have c1 := PW.out.c 1; have c2 := PW.out.c 2; have c3 := PW.out.c 3; have c4 := PW.out.c 4
  unfold vlv
  cases hq : lite [x] with
  | false =>
    rw [hq] at HSM
    clear hq
    go_enter Tryz.func3, Tryz.ntmps3
    go_upto_region 1 with fail
    rw [← HW.out]
    go_wp2_with fail
    go_at_call 6; refine HSM.out.mono ?_; rintro e1 w1 ⟨rfl, f1⟩
    have F1 := Lib.hid ((FW.out.trans (fuwA _ _)).trans f1.b)
    clear f1 c0 c1 c2 c3 c4
    go_wp2_with fail
    go_at_call 7; refine (alive_any _ (HG.out.onw F1.out)).mono ?_; rintro e2 w2 ⟨rfl, f2⟩
    have F2 := Lib.hid (F1.out.trans f2)
    clear f2
    go_wp2
    go_ret
    exact ⟨rfl, F2.out⟩
  | true =>
    rw [hq] at HSM
    have HT := Lib.hid (HTX.out hq)
    clear hq
    go_enter Tryz.func3, Tryz.ntmps3
    go_upto_region 1 with fail
    rw [← HW.out]
    go_wp2_with fail
    go_at_call 6; refine HSM.out.mono ?_; rintro e1 w1 ⟨rfl, f1⟩
    have g1 : Fuw W w1 := (fuwA _ _).trans f1.b
    have G1 := Lib.hid g1
    replace c0 := cellOnw g1 c0; replace c1 := cellOnw g1 c1; replace c2 := cellOnw g1 c2; replace c3 := cellOnw g1 c3; replace c4 := cellOnw g1 c4
    clear f1 g1 HSM
    go_upto_region 3 with fail
    have HN := Lib.hid (lnum_v x ao cap w1 HI.out (HS.out.onw (FW.out.trans G1.out)))
    unfold vlv at HN
    go_wp2_with fail
    go_at_call 8; refine HN.out.mono ?_; rintro e2 w2 ⟨rfl, f2⟩
    have G2 := Lib.hid (G1.out.trans f2.b)
    clear f2 HN c0 c1 c2 c3 c4
    go_upto_region 4 with fail
    obtain ⟨w3, hw3⟩ : ∃ w3, w3 = w2.alloc (.cells #[.int .i64 (nmN x), .int .i64 (nmD x)] 28) := ⟨_, rfl⟩
    have P3 := Lib.hid (show Bk w3 w2.heap.size #[.int .i64 (nmN x), .int .i64 (nmD x)] 28 from by rw [hw3]; exact Bk.new _ _ _)
    have G3 := Lib.hid (show Fuw W w3 from by rw [hw3]; exact G2.out.trans (fuwA _ _))
    rw [← hw3]
    clear hw3
    have HN := Lib.hid (rnum_v x ao cap w3 HI.out (HS.out.onw (FW.out.trans G3.out)))
    unfold vlv at HN
    have c0 := (PW.out.on G3.out).c 0; have c1 := (PW.out.on G3.out).c 1; have c2 := (PW.out.on G3.out).c 2; have c3 := (PW.out.on G3.out).c 3; have c4 := (PW.out.on G3.out).c 4
    go_wp2_with fail
    go_at_call 9; refine HN.out.mono ?_; rintro e4 w4 ⟨rfl, f4⟩
    have G4 := Lib.hid (G3.out.trans f4.b)
    have P4 := Lib.hid (P3.out.on f4.b)
    clear f4 HN c0 c1 c2 c3 c4
    go_upto_region 5 with fail
    obtain ⟨w6, hw6⟩ : ∃ w6, w6 = w4.alloc (.cells #[.int .i64 (nmN x), .int .i64 (nmD x)] 28) := ⟨_, rfl⟩
    have P5 := Lib.hid (show Bk w6 w4.heap.size #[.int .i64 (nmN x), .int .i64 (nmD x)] 28 from by rw [hw6]; exact Bk.new _ _ _)
    have P6 := Lib.hid (show Bk w6 w2.heap.size #[.int .i64 (nmN x), .int .i64 (nmD x)] 28 from by rw [hw6]; exact P4.out.on (fuwA _ _))
    have G6 := Lib.hid (show Fuw w w6 from by rw [hw6]; exact FW.out.trans (G4.out.trans (fuwA _ _)))
    have PX := Lib.hid (show Bk w6 w.heap.size #[.int .i64 x.kd, .int .i64 x.nn, .int .i64 x.dd, .string (bs x.ss), .slice ao x.ll.length cap] 24 from by rw [hw6]; exact PW.out.on (G4.out.trans (fuwA _ _)))
    rw [← hw6]
    clear hw6
    have K1 := Lib.hid (fun w' (h : Fuw w w') => lvalid_any x ao cap w' HI.out (HS.out.onw h))
    have K2 := Lib.hid (fun w' (h : Fuw w w') => rokV_any x ao cap w' HI.out (HS.out.onw h))
    have K3 := Lib.hid (fun w' (h : Fuw w w') => lplain_any x ao cap w' HI.out (HS.out.onw h))
    have K4 := Lib.hid (fun w' (h : Fuw w w') => rplain_v x ao cap w' HI.out (HS.out.onw h))
    have K5 := Lib.hid (fun w' (h : Fuw w w') => ltr_any x ao cap w' HI.out (HS.out.onw h))
    have K6 := Lib.hid (fun w' (h : Fuw w w') => rtruth_v x ao cap w' HI.out (HS.out.onw h))
    have K7 := Lib.hid (fun w' (h : Fuw w w') => ltext_any x ao cap w' HI.out (HS.out.onw h) (HG.out.onw h) HT.out)
    have K8 := Lib.hid (fun w' (h : Fuw w w') => rtxt_all x ao cap w' HI.out (HS.out.onw h) HT.out)
    rw [trv_eq] at K6
    unfold vlv at K1 K2 K3 K4 K5 K6 K7 K8
    generalize okX x = ok at *
    generalize plaV x = pl at *
    generalize isNum x = nu at *
    generalize nmN x = n at *
    generalize nmD x = d at *
    generalize truV x = tr at *
    generalize texX x = tx at *
    refine region_midB (N := 61) (S := fun _ => Fuw w6) (U := fun _ t => VdU x ao cap ok pl nu n d tr tx (kVd.getD t 0)) (V := fun _ _ => True) (by kernel_rfl) (by kernel_rfl) (by kernel_rfl) ?base (fun H1 => upto_succ (n := 39) (upto_succ (n := 38) (upto_succ (n := 37) (upto_succ (n := 36) (upto_succ (n := 35) (upto_succ (n := 34) (upto_succ (n := 33) (upto_succ (n := 32) (upto_succ (n := 31) (upto_succ (n := 30) (upto_succ (n := 29) (upto_succ (n := 28) (upto_succ (n := 27) (upto_succ (n := 26) (upto_succ (n := 25) (upto_succ (n := 24) (upto_succ (n := 23) (upto_succ (n := 22) (upto_succ (n := 21) (upto_succ (n := 20) (upto_succ (n := 19) (upto_succ (n := 18) (upto_succ (n := 17) (upto_succ (n := 16) (upto_succ (n := 15) (upto_succ (n := 14) (upto_succ (n := 13) (upto_succ (n := 12) (upto_succ (n := 11) (upto_succ (n := 10) (upto_succ (n := 9) (upto_succ (n := 8) (upto_succ (n := 7) (upto_succ (n := 6) (upto_succ (n := 5) (upto_succ (n := 4) (upto_succ (n := 3) (upto_succ (n := 2) (upto_succ (n := 1) (upto_succ (n := 0) (upto_nil) ?s0) ?s1) ?s2) ?s3) ?s4) ?s5) ?s6) ?s7) ?s8) ?s9) ?s10) ?s11) ?s12) ?s13) ?s14) ?s15) ?s16) ?s17) ?s18) ?s19) ?s20) ?s21) ?s22) ?s23) ?s24) ?s25) ?s26) ?s27) ?s28) ?s29) ?s30) ?s31) ?s32) ?s33) ?s34) ?s35) ?s36) ?s37) ?s38) ?s39) ?fin
    case s0 =>
      refine stepB_of [] [] [] [] H1 rfl rfl (by kernel_rfl) (by kernel_rfl) (by kernel_rfl) (by kernel_rfl) ?_
      intro σ hp hq x1 w5 hS hU hV hA Lv hLv K hK
      clear hp hq
      have u1 : x1 1 = .pointer (some ⟨w.heap.size, 0, none⟩) := hA 1 (by kernel_rfl)
      clear hU hV hA H1 hLv
      rw [frameD61b] at hK ⊢
      simp only [u1] at hK ⊢
      refine wpOp_step rfl (fun K' hK' => ?_)
      have hf5 : Fuw w6 w5 := hS
      have p := PX.out.on hf5
      have q0 := p.c 0; have q1 := p.c 1; have q2 := p.c 2; have q3 := p.c 3; have q4 := p.c 4
      clear p
      go_simp
      exact hK' _ _ (hK _ _ hS (fun _ _ _ h => h) (fun e he => by cases he; exact rfl))
    case s1 =>
      refine stepB_of [] [] [22] [] H1 rfl rfl (by kernel_rfl) (by kernel_rfl) (by kernel_rfl) (by kernel_rfl) ?_
      intro σ hp hq x1 w5 hS hU hV hA Lv hLv K hK
      clear hp hq
      have u22 : x1 22 = .agg #[.int .i64 x.kd, .int .i64 x.nn, .int .i64 x.dd, .string (bs x.ss), .slice ao x.ll.length cap] := hU 22 (by simp)
      clear hU hV hA H1 hLv
      rw [frameD61b] at hK ⊢
      simp only [u22] at hK ⊢
      refine wpOp_step rfl (fun K' hK' => ?_)
      have hf5 : Fuw w6 w5 := hS
      have hfw := G6.out.trans hf5
      go_simp
      go_wp2_with (go_at_call 10; refine (K1.out w5 hfw).mono ?_; rintro e5 w7 ⟨rfl, f5⟩)
      exact hK _ _ (show Fuw w6 _ from hf5.trans f5.b) (fun _ _ _ h => vdu_on _ _ h) (fun e he => by cases he; exact rfl)
    case s2 =>
      refine stepB_of [] [] [] [] H1 rfl rfl (by kernel_rfl) (by kernel_rfl) (by kernel_rfl) (by kernel_rfl) ?_
      intro σ hp hq x1 w5 hS hU hV hA Lv hLv K hK
      clear hp hq
      have u1 : x1 1 = .pointer (some ⟨w.heap.size, 0, none⟩) := hA 1 (by kernel_rfl)
      clear hU hV hA H1 hLv
      rw [frameD61b] at hK ⊢
      simp only [u1] at hK ⊢
      refine wpOp_step rfl (fun K' hK' => ?_)
      have hf5 : Fuw w6 w5 := hS
      have p := PX.out.on hf5
      have q0 := p.c 0; have q1 := p.c 1; have q2 := p.c 2; have q3 := p.c 3; have q4 := p.c 4
      clear p
      go_simp
      exact hK' _ _ (hK _ _ hS (fun _ _ _ h => h) (fun e he => by cases he; exact rfl))
    case s3 =>
      refine stepB_of [] [] [24] [] H1 rfl rfl (by kernel_rfl) (by kernel_rfl) (by kernel_rfl) (by kernel_rfl) ?_
      intro σ hp hq x1 w5 hS hU hV hA Lv hLv K hK
      clear hp hq
      have u24 : x1 24 = .agg #[.int .i64 x.kd, .int .i64 x.nn, .int .i64 x.dd, .string (bs x.ss), .slice ao x.ll.length cap] := hU 24 (by simp)
      clear hU hV hA H1 hLv
      rw [frameD61b] at hK ⊢
      simp only [u24] at hK ⊢
      refine wpOp_step rfl (fun K' hK' => ?_)
      have hf5 : Fuw w6 w5 := hS
      have hfw := G6.out.trans hf5
      go_simp
      go_wp2_with (go_at_call 11; refine (K2.out w5 hfw).mono ?_; rintro e5 w7 ⟨rfl, f5⟩)
      exact hK _ _ (show Fuw w6 _ from hf5.trans f5.b) (fun _ _ _ h => vdu_on _ _ h) (fun e he => by cases he; exact rfl)
    case s4 =>
      refine stepB_of [] [] [23, 25] [] H1 rfl rfl (by kernel_rfl) (by kernel_rfl) (by kernel_rfl) (by kernel_rfl) ?_
      intro σ hp hq x1 w5 hS hU hV hA Lv hLv K hK
      clear hp hq
      have u23 : x1 23 = .bool ok := hU 23 (by simp)
      have u25 : x1 25 = .bool ok := hU 25 (by simp)
      clear hU hV hA H1 hLv
      rw [frameD61b] at hK ⊢
      simp only [u23, u25] at hK ⊢
      refine wpOp_step rfl (fun K' hK' => ?_)
      go_simp
      exact hK' _ _ (hK _ _ hS (fun _ _ _ h => h) (fun e he => by cases he; exact rfl))
    case s5 =>
      refine stepB_of [] [] [26] [] H1 rfl rfl (by kernel_rfl) (by kernel_rfl) (by kernel_rfl) (by kernel_rfl) ?_
      intro σ hp hq x1 w5 hS hU hV hA Lv hLv K hK
      clear hp hq
      have u26 : x1 26 = .bool true := hU 26 (by simp)
      clear hU hV hA H1 hLv
      rw [frameD61b] at hK ⊢
      simp only [u26] at hK ⊢
      refine wpOp_step rfl (fun K' hK' => ?_)
      go_simp
      exact hK' _ _ (hK _ _ hS (fun _ _ _ h => h) (fun e he => by cases he; exact rfl))
    case s6 =>
      refine stepB_of [] [] [27] [] H1 rfl rfl (by kernel_rfl) (by kernel_rfl) (by kernel_rfl) (by kernel_rfl) ?_
      intro σ hp hq x1 w5 hS hU hV hA Lv hLv K hK
      clear hp hq
      have u27 : x1 27 = .bool true := hU 27 (by simp)
      have u1 : x1 1 = .pointer (some ⟨w.heap.size, 0, none⟩) := hA 1 (by kernel_rfl)
      clear hU hV hA H1 hLv
      rw [frameD61b] at hK ⊢
      simp only [u27, u1] at hK ⊢
      refine wpOp_step rfl (fun K' hK' => ?_)
      have hf5 : Fuw w6 w5 := hS
      have p := PX.out.on hf5
      have q0 := p.c 0; have q1 := p.c 1; have q2 := p.c 2; have q3 := p.c 3; have q4 := p.c 4
      clear p
      go_simp
      exact hK' _ _ (hK _ _ hS (fun _ _ _ h => h) (fun e he => by cases he; exact rfl))
    case s7 =>
      refine stepB_of [] [] [28, 27] [] H1 rfl rfl (by kernel_rfl) (by kernel_rfl) (by kernel_rfl) (by kernel_rfl) ?_
      intro σ hp hq x1 w5 hS hU hV hA Lv hLv K hK
      clear hp hq
      have u28 : x1 28 = .agg #[.int .i64 x.kd, .int .i64 x.nn, .int .i64 x.dd, .string (bs x.ss), .slice ao x.ll.length cap] := hU 28 (by simp)
      have u27 : x1 27 = .bool true := hU 27 (by simp)
      clear hU hV hA H1 hLv
      rw [frameD61b] at hK ⊢
      simp only [u28, u27] at hK ⊢
      refine wpOp_step rfl (fun K' hK' => ?_)
      have hf5 : Fuw w6 w5 := hS
      have hfw := G6.out.trans hf5
      go_simp
      go_wp2_with (go_at_call 12; refine (K3.out w5 hfw).mono ?_; rintro e5 w7 ⟨rfl, f5⟩)
      exact hK _ _ (show Fuw w6 _ from hf5.trans f5) (fun _ _ _ h => vdu_on _ _ h) (fun e he => by cases he; exact rfl)
    case s8 =>
      refine stepB_of [] [] [27] [] H1 rfl rfl (by kernel_rfl) (by kernel_rfl) (by kernel_rfl) (by kernel_rfl) ?_
      intro σ hp hq x1 w5 hS hU hV hA Lv hLv K hK
      clear hp hq
      have u27 : x1 27 = .bool true := hU 27 (by simp)
      have u1 : x1 1 = .pointer (some ⟨w.heap.size, 0, none⟩) := hA 1 (by kernel_rfl)
      clear hU hV hA H1 hLv
      rw [frameD61b] at hK ⊢
      simp only [u27, u1] at hK ⊢
      refine wpOp_step rfl (fun K' hK' => ?_)
      have hf5 : Fuw w6 w5 := hS
      have p := PX.out.on hf5
      have q0 := p.c 0; have q1 := p.c 1; have q2 := p.c 2; have q3 := p.c 3; have q4 := p.c 4
      clear p
      go_simp
      exact hK' _ _ (hK _ _ hS (fun _ _ _ h => h) (fun e he => by cases he; exact rfl))
    case s9 =>
      refine stepB_of [] [] [30, 27] [] H1 rfl rfl (by kernel_rfl) (by kernel_rfl) (by kernel_rfl) (by kernel_rfl) ?_
      intro σ hp hq x1 w5 hS hU hV hA Lv hLv K hK
      clear hp hq
      have u30 : x1 30 = .agg #[.int .i64 x.kd, .int .i64 x.nn, .int .i64 x.dd, .string (bs x.ss), .slice ao x.ll.length cap] := hU 30 (by simp)
      have u27 : x1 27 = .bool true := hU 27 (by simp)
      clear hU hV hA H1 hLv
      rw [frameD61b] at hK ⊢
      simp only [u30, u27] at hK ⊢
      refine wpOp_step rfl (fun K' hK' => ?_)
      have hf5 : Fuw w6 w5 := hS
      have hfw := G6.out.trans hf5
      go_simp
      go_wp2_with (go_at_call 13; refine (K4.out w5 hfw).mono ?_; rintro e5 w7 ⟨rfl, f5⟩)
      exact hK _ _ (show Fuw w6 _ from hf5.trans f5.b) (fun _ _ _ h => vdu_on _ _ h) (fun e he => by cases he; exact rfl)
    case s10 =>
      refine stepB_of [] [] [29, 31, 27] [] H1 rfl rfl (by kernel_rfl) (by kernel_rfl) (by kernel_rfl) (by kernel_rfl) ?_
      intro σ hp hq x1 w5 hS hU hV hA Lv hLv K hK
      clear hp hq
      have u29 : x1 29 = .bool pl := hU 29 (by simp)
      have u31 : x1 31 = .bool pl := hU 31 (by simp)
      have u27 : x1 27 = .bool true := hU 27 (by simp)
      clear hU hV hA H1 hLv
      rw [frameD61b] at hK ⊢
      simp only [u29, u31, u27] at hK ⊢
      refine wpOp_step rfl (fun K' hK' => ?_)
      go_simp
      exact hK' _ _ (hK _ _ hS (fun _ _ _ h => h) (fun e he => by cases he; exact rfl))
    case s11 =>
      refine stepB_of [] [] [27, 32] [] H1 rfl rfl (by kernel_rfl) (by kernel_rfl) (by kernel_rfl) (by kernel_rfl) ?_
      intro σ hp hq x1 w5 hS hU hV hA Lv hLv K hK
      clear hp hq
      have u27 : x1 27 = .bool true := hU 27 (by simp)
      have u32 : x1 32 = .bool true := hU 32 (by simp)
      clear hU hV hA H1 hLv
      rw [frameD61b] at hK ⊢
      simp only [u27, u32] at hK ⊢
      refine wpOp_step rfl (fun K' hK' => ?_)
      go_simp
      exact hK' _ _ (hK _ _ hS (fun _ _ _ h => h) (fun e he => by cases he; exact rfl))
    case s12 =>
      refine stepB_of [] [] [33] [] H1 rfl rfl (by kernel_rfl) (by kernel_rfl) (by kernel_rfl) (by kernel_rfl) ?_
      intro σ hp hq x1 w5 hS hU hV hA Lv hLv K hK
      clear hp hq
      have u33 : x1 33 = .bool true := hU 33 (by simp)
      clear hU hV hA H1 hLv
      rw [frameD61b] at hK ⊢
      simp only [u33] at hK ⊢
      refine wpOp_step rfl (fun K' hK' => ?_)
      go_simp
      exact hK' _ _ (hK _ _ hS (fun _ _ _ h => h) (fun e he => by cases he; exact rfl))
    case s13 =>
      refine stepB_of [] [] [34] [] H1 rfl rfl (by kernel_rfl) (by kernel_rfl) (by kernel_rfl) (by kernel_rfl) ?_
      intro σ hp hq x1 w5 hS hU hV hA Lv hLv K hK
      clear hp hq
      have u34 : x1 34 = .bool true := hU 34 (by simp)
      have u3 : x1 3 = .pointer (some ⟨w2.heap.size, 0, none⟩) := hA 3 (by kernel_rfl)
      clear hU hV hA H1 hLv
      rw [frameD61b] at hK ⊢
      simp only [u34, u3] at hK ⊢
      refine wpOp_step rfl (fun K' hK' => ?_)
      have hf5 : Fuw w6 w5 := hS
      have p := P6.out.on hf5
      have q0 := p.c 0; have q1 := p.c 1
      clear p
      go_simp
      exact hK' _ _ (hK _ _ hS (fun _ _ _ h => h) (fun e he => by cases he; exact rfl))
    case s14 =>
      refine stepB_of [] [] [34] [] H1 rfl rfl (by kernel_rfl) (by kernel_rfl) (by kernel_rfl) (by kernel_rfl) ?_
      intro σ hp hq x1 w5 hS hU hV hA Lv hLv K hK
      clear hp hq
      have u34 : x1 34 = .bool true := hU 34 (by simp)
      have u5 : x1 5 = .pointer (some ⟨w4.heap.size, 0, none⟩) := hA 5 (by kernel_rfl)
      clear hU hV hA H1 hLv
      rw [frameD61b] at hK ⊢
      simp only [u34, u5] at hK ⊢
      refine wpOp_step rfl (fun K' hK' => ?_)
      have hf5 : Fuw w6 w5 := hS
      have p := P5.out.on hf5
      have q0 := p.c 0; have q1 := p.c 1
      clear p
      go_simp
      exact hK' _ _ (hK _ _ hS (fun _ _ _ h => h) (fun e he => by cases he; exact rfl))
    case s15 =>
      refine stepB_of [] [] [35, 36, 34] [] H1 rfl rfl (by kernel_rfl) (by kernel_rfl) (by kernel_rfl) (by kernel_rfl) ?_
      intro σ hp hq x1 w5 hS hU hV hA Lv hLv K hK
      clear hp hq
      have u35 : x1 35 = .agg #[.int .i64 n, .int .i64 d] := hU 35 (by simp)
      have u36 : x1 36 = .agg #[.int .i64 n, .int .i64 d] := hU 36 (by simp)
      have u34 : x1 34 = .bool true := hU 34 (by simp)
      clear hU hV hA H1 hLv
      rw [frameD61b] at hK ⊢
      simp only [u35, u36, u34] at hK ⊢
      refine wpOp_step rfl (fun K' hK' => ?_)
      go_simp
      exact hK' _ _ (hK _ _ hS (fun _ _ _ h => h) (fun e he => by cases he; exact rfl))
    case s16 =>
      refine stepB_of [] [] [34, 37] [] H1 rfl rfl (by kernel_rfl) (by kernel_rfl) (by kernel_rfl) (by kernel_rfl) ?_
      intro σ hp hq x1 w5 hS hU hV hA Lv hLv K hK
      clear hp hq
      have u34 : x1 34 = .bool true := hU 34 (by simp)
      have u37 : x1 37 = .bool true := hU 37 (by simp)
      clear hU hV hA H1 hLv
      rw [frameD61b] at hK ⊢
      simp only [u34, u37] at hK ⊢
      refine wpOp_step rfl (fun K' hK' => ?_)
      go_simp
      exact hK' _ _ (hK _ _ hS (fun _ _ _ h => h) (fun e he => by cases he; exact rfl))
    case s17 =>
      refine stepB_of [] [] [38] [] H1 rfl rfl (by kernel_rfl) (by kernel_rfl) (by kernel_rfl) (by kernel_rfl) ?_
      intro σ hp hq x1 w5 hS hU hV hA Lv hLv K hK
      clear hp hq
      have u38 : x1 38 = .bool true := hU 38 (by simp)
      clear hU hV hA H1 hLv
      rw [frameD61b] at hK ⊢
      simp only [u38] at hK ⊢
      refine wpOp_step rfl (fun K' hK' => ?_)
      go_simp
      exact hK' _ _ (hK _ _ hS (fun _ _ _ h => h) (fun e he => by cases he; exact rfl))
    case s18 =>
      refine stepB_of [] [] [39] [] H1 rfl rfl (by kernel_rfl) (by kernel_rfl) (by kernel_rfl) (by kernel_rfl) ?_
      intro σ hp hq x1 w5 hS hU hV hA Lv hLv K hK
      clear hp hq
      have u39 : x1 39 = .bool true := hU 39 (by simp)
      have u4 : x1 4 = .bool nu := hA 4 (by kernel_rfl)
      clear hU hV hA H1 hLv
      rw [frameD61b] at hK ⊢
      simp only [u39, u4] at hK ⊢
      refine wpOp_step rfl (fun K' hK' => ?_)
      go_simp
      exact hK' _ _ (hK _ _ hS (fun _ _ _ h => h) (fun e he => by cases he; exact rfl))
    case s19 =>
      refine stepB_of [] [] [39] [] H1 rfl rfl (by kernel_rfl) (by kernel_rfl) (by kernel_rfl) (by kernel_rfl) ?_
      intro σ hp hq x1 w5 hS hU hV hA Lv hLv K hK
      clear hp hq
      have u39 : x1 39 = .bool true := hU 39 (by simp)
      have u6 : x1 6 = .bool nu := hA 6 (by kernel_rfl)
      clear hU hV hA H1 hLv
      rw [frameD61b] at hK ⊢
      simp only [u39, u6] at hK ⊢
      refine wpOp_step rfl (fun K' hK' => ?_)
      go_simp
      exact hK' _ _ (hK _ _ hS (fun _ _ _ h => h) (fun e he => by cases he; exact rfl))
    case s20 =>
      refine stepB_of [] [] [40, 41, 39] [] H1 rfl rfl (by kernel_rfl) (by kernel_rfl) (by kernel_rfl) (by kernel_rfl) ?_
      intro σ hp hq x1 w5 hS hU hV hA Lv hLv K hK
      clear hp hq
      have u40 : x1 40 = .bool nu := hU 40 (by simp)
      have u41 : x1 41 = .bool nu := hU 41 (by simp)
      have u39 : x1 39 = .bool true := hU 39 (by simp)
      clear hU hV hA H1 hLv
      rw [frameD61b] at hK ⊢
      simp only [u40, u41, u39] at hK ⊢
      refine wpOp_step rfl (fun K' hK' => ?_)
      go_simp
      exact hK' _ _ (hK _ _ hS (fun _ _ _ h => h) (fun e he => by cases he; exact rfl))
    case s21 =>
      refine stepB_of [] [] [39, 42] [] H1 rfl rfl (by kernel_rfl) (by kernel_rfl) (by kernel_rfl) (by kernel_rfl) ?_
      intro σ hp hq x1 w5 hS hU hV hA Lv hLv K hK
      clear hp hq
      have u39 : x1 39 = .bool true := hU 39 (by simp)
      have u42 : x1 42 = .bool true := hU 42 (by simp)
      clear hU hV hA H1 hLv
      rw [frameD61b] at hK ⊢
      simp only [u39, u42] at hK ⊢
      refine wpOp_step rfl (fun K' hK' => ?_)
      go_simp
      exact hK' _ _ (hK _ _ hS (fun _ _ _ h => h) (fun e he => by cases he; exact rfl))
    case s22 =>
      refine stepB_of [] [] [43] [] H1 rfl rfl (by kernel_rfl) (by kernel_rfl) (by kernel_rfl) (by kernel_rfl) ?_
      intro σ hp hq x1 w5 hS hU hV hA Lv hLv K hK
      clear hp hq
      have u43 : x1 43 = .bool true := hU 43 (by simp)
      clear hU hV hA H1 hLv
      rw [frameD61b] at hK ⊢
      simp only [u43] at hK ⊢
      refine wpOp_step rfl (fun K' hK' => ?_)
      go_simp
      exact hK' _ _ (hK _ _ hS (fun _ _ _ h => h) (fun e he => by cases he; exact rfl))
    case s23 =>
      refine stepB_of [] [] [44] [] H1 rfl rfl (by kernel_rfl) (by kernel_rfl) (by kernel_rfl) (by kernel_rfl) ?_
      intro σ hp hq x1 w5 hS hU hV hA Lv hLv K hK
      clear hp hq
      have u44 : x1 44 = .bool true := hU 44 (by simp)
      have u1 : x1 1 = .pointer (some ⟨w.heap.size, 0, none⟩) := hA 1 (by kernel_rfl)
      clear hU hV hA H1 hLv
      rw [frameD61b] at hK ⊢
      simp only [u44, u1] at hK ⊢
      refine wpOp_step rfl (fun K' hK' => ?_)
      have hf5 : Fuw w6 w5 := hS
      have p := PX.out.on hf5
      have q0 := p.c 0; have q1 := p.c 1; have q2 := p.c 2; have q3 := p.c 3; have q4 := p.c 4
      clear p
      go_simp
      exact hK' _ _ (hK _ _ hS (fun _ _ _ h => h) (fun e he => by cases he; exact rfl))
    case s24 =>
      refine stepB_of [] [] [45, 44] [] H1 rfl rfl (by kernel_rfl) (by kernel_rfl) (by kernel_rfl) (by kernel_rfl) ?_
      intro σ hp hq x1 w5 hS hU hV hA Lv hLv K hK
      clear hp hq
      have u45 : x1 45 = .agg #[.int .i64 x.kd, .int .i64 x.nn, .int .i64 x.dd, .string (bs x.ss), .slice ao x.ll.length cap] := hU 45 (by simp)
      have u44 : x1 44 = .bool true := hU 44 (by simp)
      clear hU hV hA H1 hLv
      rw [frameD61b] at hK ⊢
      simp only [u45, u44] at hK ⊢
      refine wpOp_step rfl (fun K' hK' => ?_)
      have hf5 : Fuw w6 w5 := hS
      have hfw := G6.out.trans hf5
      go_simp
      go_wp2_with (go_at_call 14; refine (K5.out w5 hfw).mono ?_; rintro e5 w7 ⟨rfl, f5⟩)
      exact hK _ _ (show Fuw w6 _ from hf5.trans f5.b) (fun _ _ _ h => vdu_on _ _ h) (fun e he => by cases he; exact rfl)
    case s25 =>
      refine stepB_of [] [] [44] [] H1 rfl rfl (by kernel_rfl) (by kernel_rfl) (by kernel_rfl) (by kernel_rfl) ?_
      intro σ hp hq x1 w5 hS hU hV hA Lv hLv K hK
      clear hp hq
      have u44 : x1 44 = .bool true := hU 44 (by simp)
      have u1 : x1 1 = .pointer (some ⟨w.heap.size, 0, none⟩) := hA 1 (by kernel_rfl)
      clear hU hV hA H1 hLv
      rw [frameD61b] at hK ⊢
      simp only [u44, u1] at hK ⊢
      refine wpOp_step rfl (fun K' hK' => ?_)
      have hf5 : Fuw w6 w5 := hS
      have p := PX.out.on hf5
      have q0 := p.c 0; have q1 := p.c 1; have q2 := p.c 2; have q3 := p.c 3; have q4 := p.c 4
      clear p
      go_simp
      exact hK' _ _ (hK _ _ hS (fun _ _ _ h => h) (fun e he => by cases he; exact rfl))
    case s26 =>
      refine stepB_of [] [] [47, 44] [] H1 rfl rfl (by kernel_rfl) (by kernel_rfl) (by kernel_rfl) (by kernel_rfl) ?_
      intro σ hp hq x1 w5 hS hU hV hA Lv hLv K hK
      clear hp hq
      have u47 : x1 47 = .agg #[.int .i64 x.kd, .int .i64 x.nn, .int .i64 x.dd, .string (bs x.ss), .slice ao x.ll.length cap] := hU 47 (by simp)
      have u44 : x1 44 = .bool true := hU 44 (by simp)
      clear hU hV hA H1 hLv
      rw [frameD61b] at hK ⊢
      simp only [u47, u44] at hK ⊢
      refine wpOp_step rfl (fun K' hK' => ?_)
      have hf5 : Fuw w6 w5 := hS
      have hfw := G6.out.trans hf5
      go_simp
      go_wp2_with (go_at_call 15; refine (K6.out w5 hfw).mono ?_; rintro e5 w7 ⟨rfl, f5⟩)
      exact hK _ _ (show Fuw w6 _ from hf5.trans f5.b) (fun _ _ _ h => vdu_on _ _ h) (fun e he => by cases he; exact rfl)
    case s27 =>
      refine stepB_of [] [] [46, 48, 44] [] H1 rfl rfl (by kernel_rfl) (by kernel_rfl) (by kernel_rfl) (by kernel_rfl) ?_
      intro σ hp hq x1 w5 hS hU hV hA Lv hLv K hK
      clear hp hq
      have u46 : x1 46 = .int .i64 tr := hU 46 (by simp)
      have u48 : x1 48 = .int .i64 tr := hU 48 (by simp)
      have u44 : x1 44 = .bool true := hU 44 (by simp)
      clear hU hV hA H1 hLv
      rw [frameD61b] at hK ⊢
      simp only [u46, u48, u44] at hK ⊢
      refine wpOp_step rfl (fun K' hK' => ?_)
      go_simp
      exact hK' _ _ (hK _ _ hS (fun _ _ _ h => h) (fun e he => by cases he; exact rfl))
    case s28 =>
      refine stepB_of [] [] [44, 49] [] H1 rfl rfl (by kernel_rfl) (by kernel_rfl) (by kernel_rfl) (by kernel_rfl) ?_
      intro σ hp hq x1 w5 hS hU hV hA Lv hLv K hK
      clear hp hq
      have u44 : x1 44 = .bool true := hU 44 (by simp)
      have u49 : x1 49 = .bool true := hU 49 (by simp)
      clear hU hV hA H1 hLv
      rw [frameD61b] at hK ⊢
      simp only [u44, u49] at hK ⊢
      refine wpOp_step rfl (fun K' hK' => ?_)
      go_simp
      exact hK' _ _ (hK _ _ hS (fun _ _ _ h => h) (fun e he => by cases he; exact rfl))
    case s29 =>
      refine stepB_of [] [] [50] [] H1 rfl rfl (by kernel_rfl) (by kernel_rfl) (by kernel_rfl) (by kernel_rfl) ?_
      intro σ hp hq x1 w5 hS hU hV hA Lv hLv K hK
      clear hp hq
      have u50 : x1 50 = .bool true := hU 50 (by simp)
      clear hU hV hA H1 hLv
      rw [frameD61b] at hK ⊢
      simp only [u50] at hK ⊢
      refine wpOp_step rfl (fun K' hK' => ?_)
      go_simp
      exact hK' _ _ (hK _ _ hS (fun _ _ _ h => h) (fun e he => by cases he; exact rfl))
    case s30 =>
      refine stepB_of [] [] [51] [] H1 rfl rfl (by kernel_rfl) (by kernel_rfl) (by kernel_rfl) (by kernel_rfl) ?_
      intro σ hp hq x1 w5 hS hU hV hA Lv hLv K hK
      clear hp hq
      have u51 : x1 51 = .bool true := hU 51 (by simp)
      have u1 : x1 1 = .pointer (some ⟨w.heap.size, 0, none⟩) := hA 1 (by kernel_rfl)
      clear hU hV hA H1 hLv
      rw [frameD61b] at hK ⊢
      simp only [u51, u1] at hK ⊢
      refine wpOp_step rfl (fun K' hK' => ?_)
      have hf5 : Fuw w6 w5 := hS
      have p := PX.out.on hf5
      have q0 := p.c 0; have q1 := p.c 1; have q2 := p.c 2; have q3 := p.c 3; have q4 := p.c 4
      clear p
      go_simp
      exact hK' _ _ (hK _ _ hS (fun _ _ _ h => h) (fun e he => by cases he; exact rfl))
    case s31 =>
      refine stepB_of [] [] [52, 51] [] H1 rfl rfl (by kernel_rfl) (by kernel_rfl) (by kernel_rfl) (by kernel_rfl) ?_
      intro σ hp hq x1 w5 hS hU hV hA Lv hLv K hK
      clear hp hq
      have u52 : x1 52 = .agg #[.int .i64 x.kd, .int .i64 x.nn, .int .i64 x.dd, .string (bs x.ss), .slice ao x.ll.length cap] := hU 52 (by simp)
      have u51 : x1 51 = .bool true := hU 51 (by simp)
      clear hU hV hA H1 hLv
      rw [frameD61b] at hK ⊢
      simp only [u52, u51] at hK ⊢
      refine wpOp_step rfl (fun K' hK' => ?_)
      have hf5 : Fuw w6 w5 := hS
      have hfw := G6.out.trans hf5
      go_simp
      go_wp2_with (go_at_call 16; refine (K7.out w5 hfw).mono ?_; rintro e5 w7 ⟨rfl, f5⟩)
      exact hK _ _ (show Fuw w6 _ from hf5.trans f5) (fun _ _ _ h => vdu_on _ _ h) (fun e he => by cases he; exact rfl)
    case s32 =>
      refine stepB_of [] [] [51] [] H1 rfl rfl (by kernel_rfl) (by kernel_rfl) (by kernel_rfl) (by kernel_rfl) ?_
      intro σ hp hq x1 w5 hS hU hV hA Lv hLv K hK
      clear hp hq
      have u51 : x1 51 = .bool true := hU 51 (by simp)
      have u1 : x1 1 = .pointer (some ⟨w.heap.size, 0, none⟩) := hA 1 (by kernel_rfl)
      clear hU hV hA H1 hLv
      rw [frameD61b] at hK ⊢
      simp only [u51, u1] at hK ⊢
      refine wpOp_step rfl (fun K' hK' => ?_)
      have hf5 : Fuw w6 w5 := hS
      have p := PX.out.on hf5
      have q0 := p.c 0; have q1 := p.c 1; have q2 := p.c 2; have q3 := p.c 3; have q4 := p.c 4
      clear p
      go_simp
      exact hK' _ _ (hK _ _ hS (fun _ _ _ h => h) (fun e he => by cases he; exact rfl))
    case s33 =>
      refine stepB_of [] [] [54, 51] [] H1 rfl rfl (by kernel_rfl) (by kernel_rfl) (by kernel_rfl) (by kernel_rfl) ?_
      intro σ hp hq x1 w5 hS hU hV hA Lv hLv K hK
      clear hp hq
      have u54 : x1 54 = .agg #[.int .i64 x.kd, .int .i64 x.nn, .int .i64 x.dd, .string (bs x.ss), .slice ao x.ll.length cap] := hU 54 (by simp)
      have u51 : x1 51 = .bool true := hU 51 (by simp)
      clear hU hV hA H1 hLv
      rw [frameD61b] at hK ⊢
      simp only [u54, u51] at hK ⊢
      refine wpOp_step rfl (fun K' hK' => ?_)
      have hf5 : Fuw w6 w5 := hS
      have hfw := G6.out.trans hf5
      go_simp
      go_wp2_with (go_at_call 17; refine (K8.out w5 hfw).mono ?_; rintro e5 w7 ⟨rfl, f5⟩)
      exact hK _ _ (show Fuw w6 _ from hf5.trans f5) (fun _ _ _ h => vdu_on _ _ h) (fun e he => by cases he; exact rfl)
    case s34 =>
      refine stepB_of [] [] [53, 55, 51] [] H1 rfl rfl (by kernel_rfl) (by kernel_rfl) (by kernel_rfl) (by kernel_rfl) ?_
      intro σ hp hq x1 w5 hS hU hV hA Lv hLv K hK
      clear hp hq
      have u53 : x1 53 = .string (bs tx) := hU 53 (by simp)
      have u55 : x1 55 = .string (bs tx) := hU 55 (by simp)
      have u51 : x1 51 = .bool true := hU 51 (by simp)
      clear hU hV hA H1 hLv
      rw [frameD61b] at hK ⊢
      simp only [u53, u55, u51] at hK ⊢
      refine wpOp_step rfl (fun K' hK' => ?_)
      go_simp
      exact hK' _ _ (hK _ _ hS (fun _ _ _ h => h) (fun e he => by cases he; exact rfl))
    case s35 =>
      refine stepB_of [] [] [51, 56] [] H1 rfl rfl (by kernel_rfl) (by kernel_rfl) (by kernel_rfl) (by kernel_rfl) ?_
      intro σ hp hq x1 w5 hS hU hV hA Lv hLv K hK
      clear hp hq
      have u51 : x1 51 = .bool true := hU 51 (by simp)
      have u56 : x1 56 = .bool true := hU 56 (by simp)
      clear hU hV hA H1 hLv
      rw [frameD61b] at hK ⊢
      simp only [u51, u56] at hK ⊢
      refine wpOp_step rfl (fun K' hK' => ?_)
      go_simp
      exact hK' _ _ (hK _ _ hS (fun _ _ _ h => h) (fun e he => by cases he; exact rfl))
    case s36 =>
      refine stepB_of [] [] [57] [] H1 rfl rfl (by kernel_rfl) (by kernel_rfl) (by kernel_rfl) (by kernel_rfl) ?_
      intro σ hp hq x1 w5 hS hU hV hA Lv hLv K hK
      clear hp hq
      have u57 : x1 57 = .bool true := hU 57 (by simp)
      clear hU hV hA H1 hLv
      rw [frameD61b] at hK ⊢
      simp only [u57] at hK ⊢
      refine wpOp_step rfl (fun K' hK' => ?_)
      go_simp
      exact hK' _ _ (hK _ _ hS (fun _ _ _ h => h) (fun e he => by cases he; exact rfl))
    case s37 =>
      refine stepB_of [] [] [58] [] H1 rfl rfl (by kernel_rfl) (by kernel_rfl) (by kernel_rfl) (by kernel_rfl) ?_
      intro σ hp hq x1 w5 hS hU hV hA Lv hLv K hK
      clear hp hq
      have u58 : x1 58 = .bool true := hU 58 (by simp)
      clear hU hV hA H1 hLv
      rw [frameD61b] at hK ⊢
      simp only [u58] at hK ⊢
      refine wpOp_step rfl (fun K' hK' => ?_)
      have hf5 : Fuw w6 w5 := hS
      have hfw := G6.out.trans hf5
      go_simp
      go_wp2_with (go_at_call 7; refine (alive_any _ (HG.out.onw hfw)).mono ?_; rintro e5 w7 ⟨rfl, f5⟩)
      exact hK _ _ (show Fuw w6 _ from hf5.trans f5) (fun _ _ _ h => vdu_on _ _ h) (fun e he => by cases he; exact rfl)
    case s38 =>
      refine stepB_of [] [] [58, 59] [] H1 rfl rfl (by kernel_rfl) (by kernel_rfl) (by kernel_rfl) (by kernel_rfl) ?_
      intro σ hp hq x1 w5 hS hU hV hA Lv hLv K hK
      clear hp hq
      have u58 : x1 58 = .bool true := hU 58 (by simp)
      have u59 : x1 59 = .bool true := hU 59 (by simp)
      clear hU hV hA H1 hLv
      rw [frameD61b] at hK ⊢
      simp only [u58, u59] at hK ⊢
      refine wpOp_step rfl (fun K' hK' => ?_)
      go_simp
      exact hK' _ _ (hK _ _ hS (fun _ _ _ h => h) (fun e he => by cases he; exact rfl))
    case s39 =>
      refine stepB_of [] [] [60] [] H1 rfl rfl (by kernel_rfl) (by kernel_rfl) (by kernel_rfl) (by kernel_rfl) ?_
      intro σ hp hq x1 w5 hS hU hV hA Lv hLv K hK
      clear hp hq
      have u60 : x1 60 = .bool true := hU 60 (by simp)
      clear hU hV hA H1 hLv
      rw [frameD61b] at hK ⊢
      simp only [u60] at hK ⊢
      refine wpOp_step rfl (fun K' hK' => ?_)
      go_simp
      exact hK' _ _ (hK _ _ hS (fun _ _ _ h => h) (fun e he => by cases he; exact rfl))
    case base =>
      refine midB_start rfl rfl (show Fuw w6 w6.drew from Fuw.drew (Fuw.refl _)) (fun t ht hh => ?_) (fun t => trivial)
      rcases start_of (ks := kVd) (L := []) (by kernel_rfl) t ht hh with e | e
      · show VdU _ _ _ _ _ _ _ _ _ _ (kVd.getD t 0) _ _
        rw [e]; trivial
      · cases e
    case fin =>
      intro x1 w5 hS hU hA
      rename_i hk
      refine hk _ _ ?_
      have F5 := Lib.hid (G6.out.trans (show Fuw w6 w5 from hS))
      have u2 : x1 2 = .bool true := hU 2 (by simp)
      clear hU hA hS
      rw [frameD61b]
      simp only [u2]
      clear u2
      go_wp2
      go_ret
      exact ⟨rfl, F5.out⟩
end Go.Proofs.YtieicceceggglaaGreatDoor
