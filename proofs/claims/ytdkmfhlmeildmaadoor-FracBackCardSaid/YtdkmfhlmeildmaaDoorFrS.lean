/-
  The reference of package frac: Parse gives the fraction that it reads off a string, and true, if that fraction is valid and its text is the string; no fraction and false otherwise. For every string; nothing that was there turns.
-/
import Derived.Test.YtdkmfhlmeildmaaDoorFrP
import Derived.Test.YtdkmfhlmeildmaaDoorFrN
import Derived.Test.YtdkmfhlmeildmaaDoorFrM
namespace Go.Proofs.YtdkmfhlmeildmaaDoor
open Go.RowKit

/-- Where the digits begin. -/
def cK (l : List UInt8) : Nat := if l.head? = some 45 then 1 else 0
/-- The numerator and the denominator that are read. -/
def cN (l : List UInt8) : Int := if l.head? = some 45 then -((numF 0 (l.drop 1)).1 : Int) else ((numF 0 l).1 : Int)
def cD (l : List UInt8) : Int := match (numF 0 (l.drop (cK l))).2 with
  | 47 :: r => ((numF 0 r).1 : Int)
  | _ => 1
/-- What Parse answers, if it reads N/D. -/
def anB (N D : Int) (s : ByteArray) : Bool := okF N D && decide (fracTxt N D = s)
def anN (N D : Int) (s : ByteArray) : Int := if anB N D s = true then N else 0
def anD (N D : Int) (s : ByteArray) : Int := if anB N D s = true then D else 0
def prB (s : ByteArray) : Bool := anB (cN s.data.toList) (cD s.data.toList) s
def prN (s : ByteArray) : Int := anN (cN s.data.toList) (cD s.data.toList) s
def prD (s : ByteArray) : Int := anD (cN s.data.toList) (cD s.data.toList) s
theorem an_t {N D : Int} {s : ByteArray} (h : okF N D = true) (e : fracTxt N D = s) : anN N D s = N ∧ anD N D s = D ∧ anB N D s = true := by
  have b : anB N D s = true := by unfold anB; rw [h, decide_eq_true e]; rfl
  exact ⟨by unfold anN; rw [if_pos b], by unfold anD; rw [if_pos b], b⟩
theorem an_f {N D : Int} {s : ByteArray} (h : okF N D = false ∨ fracTxt N D ≠ s) : anN N D s = 0 ∧ anD N D s = 0 ∧ anB N D s = false := by
  have b : anB N D s = false := by
    unfold anB
    rcases h with h | h
    · rw [h]; rfl
    · rw [decide_eq_false h, Bool.and_false]
  have b' : ¬ anB N D s = true := by rw [b]; decide
  exact ⟨by unfold anN; rw [if_neg b'], by unfold anD; rw [if_neg b'], b⟩
theorem str_ne {a b : ByteArray} (h : a ≠ b) : (a.toList == b.toList) = false := by
  rw [beq_eq_false_iff_ne]
  intro e
  rw [ByteArray.toList_eq, ByteArray.toList_eq] at e
  exact h (ByteArray.ext (Array.toList_inj.1 e))
theorem head_b (s : ByteArray) (hp : 0 < s.size) : s.data.toList.head? = some (s[0]'hp) := by
  rw [List.head?_eq_getElem?, List.getElem?_eq_getElem (by simpa using hp)]
  rfl

set_option maxHeartbeats 1600000 in
set_option maxRecDepth 100000 in
theorem rp_ezi (s : ByteArray) (n E : Nat) (w : World) (hn : n ≤ 10000000000000009) (hs : s.size ≤ 9223372036854775807) (h0 : s.size = 0) (hE : s.size ≤ E) (CN : Hid (∀ w : World, Calls Tryd.prog 52 #[.string s, .int .i64 0] w (RetII w (n : Int) (E : Int)))) (va : okF ((n : Int)) (1) = false) :
    Calls Tryd.prog 25 #[.string s] w (RetFB w 0 0 false) := by
  obtain ⟨p0, p1, f0⟩ := box2 w 0 0 ((n : Int)) (1)
  have VA := Lib.hid (fun w => rvalid_any ((n : Int)) (1) w)
  rw [va] at VA
  clear va
  have _x1 := hn
  have _x2 := hs
  have _x3 := hE
  have hz : ¬ ((0 : Int) < s.size) := by omega
  have hz2 : (s.size : Int) ≤ 0 := by omega
  go_enter Tryd.func25, Tryd.ntmps25
  go_wp2_with fail
  go_at_call 52; refine (CN.out _).mono ?_; rintro e1 w1 ⟨rfl, rfl⟩
  go_wp2_with fail
  go_at_call 12; refine (VA.out _).mono ?_; rintro e1 w2 ⟨rfl, f2⟩
  replace p0 := p0.on f2
  replace p1 := p1.on f2
  replace f0 := f0.trans f2
  have c00 := p0.c0
  have c01 := p0.c1
  have z00 := p0.f0 0
  have z01 := p0.f0 1
  have c10 := p1.c0
  have c11 := p1.c1
  go_wp2
  try simp only [Exit.inBlock, Exit.then]
  exact fr_ret_put rfl rfl rfl p0 f0 (Nat.le_refl _)

set_option maxHeartbeats 1600000 in
set_option maxRecDepth 100000 in
theorem rp_ezd (s : ByteArray) (n E : Nat) (w : World) (hn : n ≤ 10000000000000009) (hs : s.size ≤ 9223372036854775807) (h0 : s.size = 0) (hE : s.size ≤ E) (CN : Hid (∀ w : World, Calls Tryd.prog 52 #[.string s, .int .i64 0] w (RetII w (n : Int) (E : Int)))) (va : okF ((n : Int)) (1) = true) (ht : fracTxt ((n : Int)) (1) ≠ s) :
    Calls Tryd.prog 25 #[.string s] w (RetFB w 0 0 false) := by
  obtain ⟨p0, p1, f0⟩ := box2 w 0 0 ((n : Int)) (1)
  have VA := Lib.hid (fun w => rvalid_any ((n : Int)) (1) w)
  rw [va] at VA
  have TX := Lib.hid (fun w => rtext_any ((n : Int)) (1) w)
  rw [show texV ((n : Int)) (1) = fracTxt ((n : Int)) (1) by unfold texV; rw [va]; rfl] at TX
  have hne := str_ne ht
  generalize fracTxt ((n : Int)) (1) = T at TX hne ht
  clear ht
  clear va
  have _x1 := hn
  have _x2 := hs
  have _x3 := hE
  have hz : ¬ ((0 : Int) < s.size) := by omega
  have hz2 : (s.size : Int) ≤ 0 := by omega
  go_enter Tryd.func25, Tryd.ntmps25
  go_wp2_with fail
  go_at_call 52; refine (CN.out _).mono ?_; rintro e1 w1 ⟨rfl, rfl⟩
  go_wp2_with fail
  go_at_call 12; refine (VA.out _).mono ?_; rintro e1 w2 ⟨rfl, f2⟩
  replace p0 := p0.on f2
  replace p1 := p1.on f2
  replace f0 := f0.trans f2
  have c00 := p0.c0
  have c01 := p0.c1
  have z00 := p0.f0 0
  have z01 := p0.f0 1
  have c10 := p1.c0
  have c11 := p1.c1
  go_wp2_with fail
  go_at_call 27; refine (TX.out _).mono ?_; rintro e1 w3 ⟨rfl, f3⟩
  clear c00 c01 c10 c11 z00 z01
  replace p0 := p0.on f3
  replace p1 := p1.on f3
  replace f0 := f0.trans f3
  have c00 := p0.c0
  have c01 := p0.c1
  have z00 := p0.f0 0
  have z01 := p0.f0 1
  have c10 := p1.c0
  have c11 := p1.c1
  go_wp2
  try simp only [Exit.inBlock, Exit.then]
  exact fr_ret_put rfl rfl rfl p0 f0 (Nat.le_refl _)

set_option maxHeartbeats 1600000 in
set_option maxRecDepth 100000 in
theorem rp_ezy (s : ByteArray) (n E : Nat) (w : World) (hn : n ≤ 10000000000000009) (hs : s.size ≤ 9223372036854775807) (h0 : s.size = 0) (hE : s.size ≤ E) (CN : Hid (∀ w : World, Calls Tryd.prog 52 #[.string s, .int .i64 0] w (RetII w (n : Int) (E : Int)))) (va : okF ((n : Int)) (1) = true) (ht : fracTxt ((n : Int)) (1) = s) :
    Calls Tryd.prog 25 #[.string s] w (RetFB w ((n : Int)) (1) true) := by
  obtain ⟨p0, p1, f0⟩ := box2 w 0 0 ((n : Int)) (1)
  have VA := Lib.hid (fun w => rvalid_any ((n : Int)) (1) w)
  rw [va] at VA
  have TX := Lib.hid (fun w => rtext_any ((n : Int)) (1) w)
  rw [show texV ((n : Int)) (1) = fracTxt ((n : Int)) (1) by unfold texV; rw [va]; rfl] at TX
  rw [ht] at TX
  clear ht
  clear va
  have _x1 := hn
  have _x2 := hs
  have _x3 := hE
  have hz : ¬ ((0 : Int) < s.size) := by omega
  have hz2 : (s.size : Int) ≤ 0 := by omega
  go_enter Tryd.func25, Tryd.ntmps25
  go_wp2_with fail
  go_at_call 52; refine (CN.out _).mono ?_; rintro e1 w1 ⟨rfl, rfl⟩
  go_wp2_with fail
  go_at_call 12; refine (VA.out _).mono ?_; rintro e1 w2 ⟨rfl, f2⟩
  replace p0 := p0.on f2
  replace p1 := p1.on f2
  replace f0 := f0.trans f2
  have c00 := p0.c0
  have c01 := p0.c1
  have z00 := p0.f0 0
  have z01 := p0.f0 1
  have c10 := p1.c0
  have c11 := p1.c1
  go_wp2_with fail
  go_at_call 27; refine (TX.out _).mono ?_; rintro e1 w3 ⟨rfl, f3⟩
  clear c00 c01 c10 c11 z00 z01
  replace p0 := p0.on f3
  replace p1 := p1.on f3
  replace f0 := f0.trans f3
  have c00 := p0.c0
  have c01 := p0.c1
  have z00 := p0.f0 0
  have z01 := p0.f0 1
  have c10 := p1.c0
  have c11 := p1.c1
  go_wp2
  try simp only [Exit.inBlock, Exit.then]
  exact fr_ret_put rfl rfl rfl p0 f0 (Nat.le_refl _)

set_option maxHeartbeats 1600000 in
set_option maxRecDepth 100000 in
theorem rp_pzi (s : ByteArray) (n E : Nat) (w : World) (hn : n ≤ 10000000000000009) (hs : s.size ≤ 9223372036854775807) (hp : 0 < s.size) (h45 : (((s[0]'hp).toNat : Int) == 45) = false) (hE : s.size ≤ E) (CN : Hid (∀ w : World, Calls Tryd.prog 52 #[.string s, .int .i64 0] w (RetII w (n : Int) (E : Int)))) (va : okF ((n : Int)) (1) = false) :
    Calls Tryd.prog 25 #[.string s] w (RetFB w 0 0 false) := by
  obtain ⟨p0, p1, f0⟩ := box2 w 0 0 ((n : Int)) (1)
  have VA := Lib.hid (fun w => rvalid_any ((n : Int)) (1) w)
  rw [va] at VA
  clear va
  have _x1 := hn
  have _x2 := hs
  have _x3 := hE
  go_enter Tryd.func25, Tryd.ntmps25
  go_wp2_with fail
  go_at_call 52; refine (CN.out _).mono ?_; rintro e1 w1 ⟨rfl, rfl⟩
  go_wp2_with fail
  go_at_call 12; refine (VA.out _).mono ?_; rintro e1 w2 ⟨rfl, f2⟩
  replace p0 := p0.on f2
  replace p1 := p1.on f2
  replace f0 := f0.trans f2
  have c00 := p0.c0
  have c01 := p0.c1
  have z00 := p0.f0 0
  have z01 := p0.f0 1
  have c10 := p1.c0
  have c11 := p1.c1
  go_wp2
  try simp only [Exit.inBlock, Exit.then]
  exact fr_ret_put rfl rfl rfl p0 f0 (Nat.le_refl _)

set_option maxHeartbeats 1600000 in
set_option maxRecDepth 100000 in
theorem rp_pzd (s : ByteArray) (n E : Nat) (w : World) (hn : n ≤ 10000000000000009) (hs : s.size ≤ 9223372036854775807) (hp : 0 < s.size) (h45 : (((s[0]'hp).toNat : Int) == 45) = false) (hE : s.size ≤ E) (CN : Hid (∀ w : World, Calls Tryd.prog 52 #[.string s, .int .i64 0] w (RetII w (n : Int) (E : Int)))) (va : okF ((n : Int)) (1) = true) (ht : fracTxt ((n : Int)) (1) ≠ s) :
    Calls Tryd.prog 25 #[.string s] w (RetFB w 0 0 false) := by
  obtain ⟨p0, p1, f0⟩ := box2 w 0 0 ((n : Int)) (1)
  have VA := Lib.hid (fun w => rvalid_any ((n : Int)) (1) w)
  rw [va] at VA
  have TX := Lib.hid (fun w => rtext_any ((n : Int)) (1) w)
  rw [show texV ((n : Int)) (1) = fracTxt ((n : Int)) (1) by unfold texV; rw [va]; rfl] at TX
  have hne := str_ne ht
  generalize fracTxt ((n : Int)) (1) = T at TX hne ht
  clear ht
  clear va
  have _x1 := hn
  have _x2 := hs
  have _x3 := hE
  go_enter Tryd.func25, Tryd.ntmps25
  go_wp2_with fail
  go_at_call 52; refine (CN.out _).mono ?_; rintro e1 w1 ⟨rfl, rfl⟩
  go_wp2_with fail
  go_at_call 12; refine (VA.out _).mono ?_; rintro e1 w2 ⟨rfl, f2⟩
  replace p0 := p0.on f2
  replace p1 := p1.on f2
  replace f0 := f0.trans f2
  have c00 := p0.c0
  have c01 := p0.c1
  have z00 := p0.f0 0
  have z01 := p0.f0 1
  have c10 := p1.c0
  have c11 := p1.c1
  go_wp2_with fail
  go_at_call 27; refine (TX.out _).mono ?_; rintro e1 w3 ⟨rfl, f3⟩
  clear c00 c01 c10 c11 z00 z01
  replace p0 := p0.on f3
  replace p1 := p1.on f3
  replace f0 := f0.trans f3
  have c00 := p0.c0
  have c01 := p0.c1
  have z00 := p0.f0 0
  have z01 := p0.f0 1
  have c10 := p1.c0
  have c11 := p1.c1
  go_wp2
  try simp only [Exit.inBlock, Exit.then]
  exact fr_ret_put rfl rfl rfl p0 f0 (Nat.le_refl _)

set_option maxHeartbeats 1600000 in
set_option maxRecDepth 100000 in
theorem rp_pzy (s : ByteArray) (n E : Nat) (w : World) (hn : n ≤ 10000000000000009) (hs : s.size ≤ 9223372036854775807) (hp : 0 < s.size) (h45 : (((s[0]'hp).toNat : Int) == 45) = false) (hE : s.size ≤ E) (CN : Hid (∀ w : World, Calls Tryd.prog 52 #[.string s, .int .i64 0] w (RetII w (n : Int) (E : Int)))) (va : okF ((n : Int)) (1) = true) (ht : fracTxt ((n : Int)) (1) = s) :
    Calls Tryd.prog 25 #[.string s] w (RetFB w ((n : Int)) (1) true) := by
  obtain ⟨p0, p1, f0⟩ := box2 w 0 0 ((n : Int)) (1)
  have VA := Lib.hid (fun w => rvalid_any ((n : Int)) (1) w)
  rw [va] at VA
  have TX := Lib.hid (fun w => rtext_any ((n : Int)) (1) w)
  rw [show texV ((n : Int)) (1) = fracTxt ((n : Int)) (1) by unfold texV; rw [va]; rfl] at TX
  rw [ht] at TX
  clear ht
  clear va
  have _x1 := hn
  have _x2 := hs
  have _x3 := hE
  go_enter Tryd.func25, Tryd.ntmps25
  go_wp2_with fail
  go_at_call 52; refine (CN.out _).mono ?_; rintro e1 w1 ⟨rfl, rfl⟩
  go_wp2_with fail
  go_at_call 12; refine (VA.out _).mono ?_; rintro e1 w2 ⟨rfl, f2⟩
  replace p0 := p0.on f2
  replace p1 := p1.on f2
  replace f0 := f0.trans f2
  have c00 := p0.c0
  have c01 := p0.c1
  have z00 := p0.f0 0
  have z01 := p0.f0 1
  have c10 := p1.c0
  have c11 := p1.c1
  go_wp2_with fail
  go_at_call 27; refine (TX.out _).mono ?_; rintro e1 w3 ⟨rfl, f3⟩
  clear c00 c01 c10 c11 z00 z01
  replace p0 := p0.on f3
  replace p1 := p1.on f3
  replace f0 := f0.trans f3
  have c00 := p0.c0
  have c01 := p0.c1
  have z00 := p0.f0 0
  have z01 := p0.f0 1
  have c10 := p1.c0
  have c11 := p1.c1
  go_wp2
  try simp only [Exit.inBlock, Exit.then]
  exact fr_ret_put rfl rfl rfl p0 f0 (Nat.le_refl _)

set_option maxHeartbeats 1600000 in
set_option maxRecDepth 100000 in
theorem rp_psi (s : ByteArray) (n E d E2 : Nat) (w : World) (hn : n ≤ 10000000000000009) (hd : d ≤ 10000000000000009) (hs : s.size ≤ 9223372036854775807) (hp : 0 < s.size) (h45 : (((s[0]'hp).toNat : Int) == 45) = false) (hE : E < s.size) (h47 : (((s[E]'hE).toNat : Int) == 47) = true) (CN : Hid (∀ w : World, Calls Tryd.prog 52 #[.string s, .int .i64 0] w (RetII w (n : Int) (E : Int)))) (CN2 : Hid (∀ w : World, Calls Tryd.prog 52 #[.string s, .int .i64 ((E : Int) + 1)] w (RetII w (d : Int) (E2 : Int)))) (va : okF ((n : Int)) ((d : Int)) = false) :
    Calls Tryd.prog 25 #[.string s] w (RetFB w 0 0 false) := by
  obtain ⟨p0, p1, f0⟩ := box2 w 0 0 ((n : Int)) ((d : Int))
  have VA := Lib.hid (fun w => rvalid_any ((n : Int)) ((d : Int)) w)
  rw [va] at VA
  clear va
  have _x1 := hn
  have _x2 := hs
  have _x3 := hE
  have _x4 := hd
  go_enter Tryd.func25, Tryd.ntmps25
  go_wp2_with fail
  go_at_call 52; refine (CN.out _).mono ?_; rintro e1 w1 ⟨rfl, rfl⟩
  go_wp2_with fail
  go_at_call 52; refine (CN2.out _).mono ?_; rintro e1 w1 ⟨rfl, rfl⟩
  go_wp2_with fail
  go_at_call 12; refine (VA.out _).mono ?_; rintro e1 w2 ⟨rfl, f2⟩
  replace p0 := p0.on f2
  replace p1 := p1.on f2
  replace f0 := f0.trans f2
  have c00 := p0.c0
  have c01 := p0.c1
  have z00 := p0.f0 0
  have z01 := p0.f0 1
  have c10 := p1.c0
  have c11 := p1.c1
  go_wp2
  try simp only [Exit.inBlock, Exit.then]
  exact fr_ret_put rfl rfl rfl p0 f0 (Nat.le_refl _)

set_option maxHeartbeats 1600000 in
set_option maxRecDepth 100000 in
theorem rp_psd (s : ByteArray) (n E d E2 : Nat) (w : World) (hn : n ≤ 10000000000000009) (hd : d ≤ 10000000000000009) (hs : s.size ≤ 9223372036854775807) (hp : 0 < s.size) (h45 : (((s[0]'hp).toNat : Int) == 45) = false) (hE : E < s.size) (h47 : (((s[E]'hE).toNat : Int) == 47) = true) (CN : Hid (∀ w : World, Calls Tryd.prog 52 #[.string s, .int .i64 0] w (RetII w (n : Int) (E : Int)))) (CN2 : Hid (∀ w : World, Calls Tryd.prog 52 #[.string s, .int .i64 ((E : Int) + 1)] w (RetII w (d : Int) (E2 : Int)))) (va : okF ((n : Int)) ((d : Int)) = true) (ht : fracTxt ((n : Int)) ((d : Int)) ≠ s) :
    Calls Tryd.prog 25 #[.string s] w (RetFB w 0 0 false) := by
  obtain ⟨p0, p1, f0⟩ := box2 w 0 0 ((n : Int)) ((d : Int))
  have VA := Lib.hid (fun w => rvalid_any ((n : Int)) ((d : Int)) w)
  rw [va] at VA
  have TX := Lib.hid (fun w => rtext_any ((n : Int)) ((d : Int)) w)
  rw [show texV ((n : Int)) ((d : Int)) = fracTxt ((n : Int)) ((d : Int)) by unfold texV; rw [va]; rfl] at TX
  have hne := str_ne ht
  generalize fracTxt ((n : Int)) ((d : Int)) = T at TX hne ht
  clear ht
  clear va
  have _x1 := hn
  have _x2 := hs
  have _x3 := hE
  have _x4 := hd
  go_enter Tryd.func25, Tryd.ntmps25
  go_wp2_with fail
  go_at_call 52; refine (CN.out _).mono ?_; rintro e1 w1 ⟨rfl, rfl⟩
  go_wp2_with fail
  go_at_call 52; refine (CN2.out _).mono ?_; rintro e1 w1 ⟨rfl, rfl⟩
  go_wp2_with fail
  go_at_call 12; refine (VA.out _).mono ?_; rintro e1 w2 ⟨rfl, f2⟩
  replace p0 := p0.on f2
  replace p1 := p1.on f2
  replace f0 := f0.trans f2
  have c00 := p0.c0
  have c01 := p0.c1
  have z00 := p0.f0 0
  have z01 := p0.f0 1
  have c10 := p1.c0
  have c11 := p1.c1
  go_wp2_with fail
  go_at_call 27; refine (TX.out _).mono ?_; rintro e1 w3 ⟨rfl, f3⟩
  clear c00 c01 c10 c11 z00 z01
  replace p0 := p0.on f3
  replace p1 := p1.on f3
  replace f0 := f0.trans f3
  have c00 := p0.c0
  have c01 := p0.c1
  have z00 := p0.f0 0
  have z01 := p0.f0 1
  have c10 := p1.c0
  have c11 := p1.c1
  go_wp2
  try simp only [Exit.inBlock, Exit.then]
  exact fr_ret_put rfl rfl rfl p0 f0 (Nat.le_refl _)

set_option maxHeartbeats 1600000 in
set_option maxRecDepth 100000 in
theorem rp_psy (s : ByteArray) (n E d E2 : Nat) (w : World) (hn : n ≤ 10000000000000009) (hd : d ≤ 10000000000000009) (hs : s.size ≤ 9223372036854775807) (hp : 0 < s.size) (h45 : (((s[0]'hp).toNat : Int) == 45) = false) (hE : E < s.size) (h47 : (((s[E]'hE).toNat : Int) == 47) = true) (CN : Hid (∀ w : World, Calls Tryd.prog 52 #[.string s, .int .i64 0] w (RetII w (n : Int) (E : Int)))) (CN2 : Hid (∀ w : World, Calls Tryd.prog 52 #[.string s, .int .i64 ((E : Int) + 1)] w (RetII w (d : Int) (E2 : Int)))) (va : okF ((n : Int)) ((d : Int)) = true) (ht : fracTxt ((n : Int)) ((d : Int)) = s) :
    Calls Tryd.prog 25 #[.string s] w (RetFB w ((n : Int)) ((d : Int)) true) := by
  obtain ⟨p0, p1, f0⟩ := box2 w 0 0 ((n : Int)) ((d : Int))
  have VA := Lib.hid (fun w => rvalid_any ((n : Int)) ((d : Int)) w)
  rw [va] at VA
  have TX := Lib.hid (fun w => rtext_any ((n : Int)) ((d : Int)) w)
  rw [show texV ((n : Int)) ((d : Int)) = fracTxt ((n : Int)) ((d : Int)) by unfold texV; rw [va]; rfl] at TX
  rw [ht] at TX
  clear ht
  clear va
  have _x1 := hn
  have _x2 := hs
  have _x3 := hE
  have _x4 := hd
  go_enter Tryd.func25, Tryd.ntmps25
  go_wp2_with fail
  go_at_call 52; refine (CN.out _).mono ?_; rintro e1 w1 ⟨rfl, rfl⟩
  go_wp2_with fail
  go_at_call 52; refine (CN2.out _).mono ?_; rintro e1 w1 ⟨rfl, rfl⟩
  go_wp2_with fail
  go_at_call 12; refine (VA.out _).mono ?_; rintro e1 w2 ⟨rfl, f2⟩
  replace p0 := p0.on f2
  replace p1 := p1.on f2
  replace f0 := f0.trans f2
  have c00 := p0.c0
  have c01 := p0.c1
  have z00 := p0.f0 0
  have z01 := p0.f0 1
  have c10 := p1.c0
  have c11 := p1.c1
  go_wp2_with fail
  go_at_call 27; refine (TX.out _).mono ?_; rintro e1 w3 ⟨rfl, f3⟩
  clear c00 c01 c10 c11 z00 z01
  replace p0 := p0.on f3
  replace p1 := p1.on f3
  replace f0 := f0.trans f3
  have c00 := p0.c0
  have c01 := p0.c1
  have z00 := p0.f0 0
  have z01 := p0.f0 1
  have c10 := p1.c0
  have c11 := p1.c1
  go_wp2
  try simp only [Exit.inBlock, Exit.then]
  exact fr_ret_put rfl rfl rfl p0 f0 (Nat.le_refl _)

set_option maxHeartbeats 1600000 in
set_option maxRecDepth 100000 in
theorem rp_poi (s : ByteArray) (n E : Nat) (w : World) (hn : n ≤ 10000000000000009) (hs : s.size ≤ 9223372036854775807) (hp : 0 < s.size) (h45 : (((s[0]'hp).toNat : Int) == 45) = false) (hE : E < s.size) (h47 : (((s[E]'hE).toNat : Int) == 47) = false) (CN : Hid (∀ w : World, Calls Tryd.prog 52 #[.string s, .int .i64 0] w (RetII w (n : Int) (E : Int)))) (va : okF ((n : Int)) (1) = false) :
    Calls Tryd.prog 25 #[.string s] w (RetFB w 0 0 false) := by
  obtain ⟨p0, p1, f0⟩ := box2 w 0 0 ((n : Int)) (1)
  have VA := Lib.hid (fun w => rvalid_any ((n : Int)) (1) w)
  rw [va] at VA
  clear va
  have _x1 := hn
  have _x2 := hs
  have _x3 := hE
  go_enter Tryd.func25, Tryd.ntmps25
  go_wp2_with fail
  go_at_call 52; refine (CN.out _).mono ?_; rintro e1 w1 ⟨rfl, rfl⟩
  go_wp2_with fail
  go_at_call 12; refine (VA.out _).mono ?_; rintro e1 w2 ⟨rfl, f2⟩
  replace p0 := p0.on f2
  replace p1 := p1.on f2
  replace f0 := f0.trans f2
  have c00 := p0.c0
  have c01 := p0.c1
  have z00 := p0.f0 0
  have z01 := p0.f0 1
  have c10 := p1.c0
  have c11 := p1.c1
  go_wp2
  try simp only [Exit.inBlock, Exit.then]
  exact fr_ret_put rfl rfl rfl p0 f0 (Nat.le_refl _)

set_option maxHeartbeats 1600000 in
set_option maxRecDepth 100000 in
theorem rp_pod (s : ByteArray) (n E : Nat) (w : World) (hn : n ≤ 10000000000000009) (hs : s.size ≤ 9223372036854775807) (hp : 0 < s.size) (h45 : (((s[0]'hp).toNat : Int) == 45) = false) (hE : E < s.size) (h47 : (((s[E]'hE).toNat : Int) == 47) = false) (CN : Hid (∀ w : World, Calls Tryd.prog 52 #[.string s, .int .i64 0] w (RetII w (n : Int) (E : Int)))) (va : okF ((n : Int)) (1) = true) (ht : fracTxt ((n : Int)) (1) ≠ s) :
    Calls Tryd.prog 25 #[.string s] w (RetFB w 0 0 false) := by
  obtain ⟨p0, p1, f0⟩ := box2 w 0 0 ((n : Int)) (1)
  have VA := Lib.hid (fun w => rvalid_any ((n : Int)) (1) w)
  rw [va] at VA
  have TX := Lib.hid (fun w => rtext_any ((n : Int)) (1) w)
  rw [show texV ((n : Int)) (1) = fracTxt ((n : Int)) (1) by unfold texV; rw [va]; rfl] at TX
  have hne := str_ne ht
  generalize fracTxt ((n : Int)) (1) = T at TX hne ht
  clear ht
  clear va
  have _x1 := hn
  have _x2 := hs
  have _x3 := hE
  go_enter Tryd.func25, Tryd.ntmps25
  go_wp2_with fail
  go_at_call 52; refine (CN.out _).mono ?_; rintro e1 w1 ⟨rfl, rfl⟩
  go_wp2_with fail
  go_at_call 12; refine (VA.out _).mono ?_; rintro e1 w2 ⟨rfl, f2⟩
  replace p0 := p0.on f2
  replace p1 := p1.on f2
  replace f0 := f0.trans f2
  have c00 := p0.c0
  have c01 := p0.c1
  have z00 := p0.f0 0
  have z01 := p0.f0 1
  have c10 := p1.c0
  have c11 := p1.c1
  go_wp2_with fail
  go_at_call 27; refine (TX.out _).mono ?_; rintro e1 w3 ⟨rfl, f3⟩
  clear c00 c01 c10 c11 z00 z01
  replace p0 := p0.on f3
  replace p1 := p1.on f3
  replace f0 := f0.trans f3
  have c00 := p0.c0
  have c01 := p0.c1
  have z00 := p0.f0 0
  have z01 := p0.f0 1
  have c10 := p1.c0
  have c11 := p1.c1
  go_wp2
  try simp only [Exit.inBlock, Exit.then]
  exact fr_ret_put rfl rfl rfl p0 f0 (Nat.le_refl _)

set_option maxHeartbeats 1600000 in
set_option maxRecDepth 100000 in
theorem rp_poy (s : ByteArray) (n E : Nat) (w : World) (hn : n ≤ 10000000000000009) (hs : s.size ≤ 9223372036854775807) (hp : 0 < s.size) (h45 : (((s[0]'hp).toNat : Int) == 45) = false) (hE : E < s.size) (h47 : (((s[E]'hE).toNat : Int) == 47) = false) (CN : Hid (∀ w : World, Calls Tryd.prog 52 #[.string s, .int .i64 0] w (RetII w (n : Int) (E : Int)))) (va : okF ((n : Int)) (1) = true) (ht : fracTxt ((n : Int)) (1) = s) :
    Calls Tryd.prog 25 #[.string s] w (RetFB w ((n : Int)) (1) true) := by
  obtain ⟨p0, p1, f0⟩ := box2 w 0 0 ((n : Int)) (1)
  have VA := Lib.hid (fun w => rvalid_any ((n : Int)) (1) w)
  rw [va] at VA
  have TX := Lib.hid (fun w => rtext_any ((n : Int)) (1) w)
  rw [show texV ((n : Int)) (1) = fracTxt ((n : Int)) (1) by unfold texV; rw [va]; rfl] at TX
  rw [ht] at TX
  clear ht
  clear va
  have _x1 := hn
  have _x2 := hs
  have _x3 := hE
  go_enter Tryd.func25, Tryd.ntmps25
  go_wp2_with fail
  go_at_call 52; refine (CN.out _).mono ?_; rintro e1 w1 ⟨rfl, rfl⟩
  go_wp2_with fail
  go_at_call 12; refine (VA.out _).mono ?_; rintro e1 w2 ⟨rfl, f2⟩
  replace p0 := p0.on f2
  replace p1 := p1.on f2
  replace f0 := f0.trans f2
  have c00 := p0.c0
  have c01 := p0.c1
  have z00 := p0.f0 0
  have z01 := p0.f0 1
  have c10 := p1.c0
  have c11 := p1.c1
  go_wp2_with fail
  go_at_call 27; refine (TX.out _).mono ?_; rintro e1 w3 ⟨rfl, f3⟩
  clear c00 c01 c10 c11 z00 z01
  replace p0 := p0.on f3
  replace p1 := p1.on f3
  replace f0 := f0.trans f3
  have c00 := p0.c0
  have c01 := p0.c1
  have z00 := p0.f0 0
  have z01 := p0.f0 1
  have c10 := p1.c0
  have c11 := p1.c1
  go_wp2
  try simp only [Exit.inBlock, Exit.then]
  exact fr_ret_put rfl rfl rfl p0 f0 (Nat.le_refl _)

set_option maxHeartbeats 1600000 in
set_option maxRecDepth 100000 in
theorem rp_nzi (s : ByteArray) (n E : Nat) (w : World) (hn : n ≤ 10000000000000009) (hs : s.size ≤ 9223372036854775807) (hp : 0 < s.size) (h45 : (((s[0]'hp).toNat : Int) == 45) = true) (hE : s.size ≤ E) (CN : Hid (∀ w : World, Calls Tryd.prog 52 #[.string s, .int .i64 1] w (RetII w (n : Int) (E : Int)))) (va : okF (-(n : Int)) (1) = false) :
    Calls Tryd.prog 25 #[.string s] w (RetFB w 0 0 false) := by
  obtain ⟨p0, p1, f0⟩ := box2 w 0 0 (-(n : Int)) (1)
  have VA := Lib.hid (fun w => rvalid_any (-(n : Int)) (1) w)
  rw [va] at VA
  clear va
  have _x1 := hn
  have _x2 := hs
  have _x3 := hE
  go_enter Tryd.func25, Tryd.ntmps25
  go_wp2_with fail
  go_at_call 52; refine (CN.out _).mono ?_; rintro e1 w1 ⟨rfl, rfl⟩
  go_wp2_with fail
  go_at_call 12; refine (VA.out _).mono ?_; rintro e1 w2 ⟨rfl, f2⟩
  replace p0 := p0.on f2
  replace p1 := p1.on f2
  replace f0 := f0.trans f2
  have c00 := p0.c0
  have c01 := p0.c1
  have z00 := p0.f0 0
  have z01 := p0.f0 1
  have c10 := p1.c0
  have c11 := p1.c1
  go_wp2
  try simp only [Exit.inBlock, Exit.then]
  exact fr_ret_put rfl rfl rfl p0 f0 (Nat.le_refl _)

set_option maxHeartbeats 1600000 in
set_option maxRecDepth 100000 in
theorem rp_nzd (s : ByteArray) (n E : Nat) (w : World) (hn : n ≤ 10000000000000009) (hs : s.size ≤ 9223372036854775807) (hp : 0 < s.size) (h45 : (((s[0]'hp).toNat : Int) == 45) = true) (hE : s.size ≤ E) (CN : Hid (∀ w : World, Calls Tryd.prog 52 #[.string s, .int .i64 1] w (RetII w (n : Int) (E : Int)))) (va : okF (-(n : Int)) (1) = true) (ht : fracTxt (-(n : Int)) (1) ≠ s) :
    Calls Tryd.prog 25 #[.string s] w (RetFB w 0 0 false) := by
  obtain ⟨p0, p1, f0⟩ := box2 w 0 0 (-(n : Int)) (1)
  have VA := Lib.hid (fun w => rvalid_any (-(n : Int)) (1) w)
  rw [va] at VA
  have TX := Lib.hid (fun w => rtext_any (-(n : Int)) (1) w)
  rw [show texV (-(n : Int)) (1) = fracTxt (-(n : Int)) (1) by unfold texV; rw [va]; rfl] at TX
  have hne := str_ne ht
  generalize fracTxt (-(n : Int)) (1) = T at TX hne ht
  clear ht
  clear va
  have _x1 := hn
  have _x2 := hs
  have _x3 := hE
  go_enter Tryd.func25, Tryd.ntmps25
  go_wp2_with fail
  go_at_call 52; refine (CN.out _).mono ?_; rintro e1 w1 ⟨rfl, rfl⟩
  go_wp2_with fail
  go_at_call 12; refine (VA.out _).mono ?_; rintro e1 w2 ⟨rfl, f2⟩
  replace p0 := p0.on f2
  replace p1 := p1.on f2
  replace f0 := f0.trans f2
  have c00 := p0.c0
  have c01 := p0.c1
  have z00 := p0.f0 0
  have z01 := p0.f0 1
  have c10 := p1.c0
  have c11 := p1.c1
  go_wp2_with fail
  go_at_call 27; refine (TX.out _).mono ?_; rintro e1 w3 ⟨rfl, f3⟩
  clear c00 c01 c10 c11 z00 z01
  replace p0 := p0.on f3
  replace p1 := p1.on f3
  replace f0 := f0.trans f3
  have c00 := p0.c0
  have c01 := p0.c1
  have z00 := p0.f0 0
  have z01 := p0.f0 1
  have c10 := p1.c0
  have c11 := p1.c1
  go_wp2
  try simp only [Exit.inBlock, Exit.then]
  exact fr_ret_put rfl rfl rfl p0 f0 (Nat.le_refl _)

set_option maxHeartbeats 1600000 in
set_option maxRecDepth 100000 in
theorem rp_nzy (s : ByteArray) (n E : Nat) (w : World) (hn : n ≤ 10000000000000009) (hs : s.size ≤ 9223372036854775807) (hp : 0 < s.size) (h45 : (((s[0]'hp).toNat : Int) == 45) = true) (hE : s.size ≤ E) (CN : Hid (∀ w : World, Calls Tryd.prog 52 #[.string s, .int .i64 1] w (RetII w (n : Int) (E : Int)))) (va : okF (-(n : Int)) (1) = true) (ht : fracTxt (-(n : Int)) (1) = s) :
    Calls Tryd.prog 25 #[.string s] w (RetFB w (-(n : Int)) (1) true) := by
  obtain ⟨p0, p1, f0⟩ := box2 w 0 0 (-(n : Int)) (1)
  have VA := Lib.hid (fun w => rvalid_any (-(n : Int)) (1) w)
  rw [va] at VA
  have TX := Lib.hid (fun w => rtext_any (-(n : Int)) (1) w)
  rw [show texV (-(n : Int)) (1) = fracTxt (-(n : Int)) (1) by unfold texV; rw [va]; rfl] at TX
  rw [ht] at TX
  clear ht
  clear va
  have _x1 := hn
  have _x2 := hs
  have _x3 := hE
  go_enter Tryd.func25, Tryd.ntmps25
  go_wp2_with fail
  go_at_call 52; refine (CN.out _).mono ?_; rintro e1 w1 ⟨rfl, rfl⟩
  go_wp2_with fail
  go_at_call 12; refine (VA.out _).mono ?_; rintro e1 w2 ⟨rfl, f2⟩
  replace p0 := p0.on f2
  replace p1 := p1.on f2
  replace f0 := f0.trans f2
  have c00 := p0.c0
  have c01 := p0.c1
  have z00 := p0.f0 0
  have z01 := p0.f0 1
  have c10 := p1.c0
  have c11 := p1.c1
  go_wp2_with fail
  go_at_call 27; refine (TX.out _).mono ?_; rintro e1 w3 ⟨rfl, f3⟩
  clear c00 c01 c10 c11 z00 z01
  replace p0 := p0.on f3
  replace p1 := p1.on f3
  replace f0 := f0.trans f3
  have c00 := p0.c0
  have c01 := p0.c1
  have z00 := p0.f0 0
  have z01 := p0.f0 1
  have c10 := p1.c0
  have c11 := p1.c1
  go_wp2
  try simp only [Exit.inBlock, Exit.then]
  exact fr_ret_put rfl rfl rfl p0 f0 (Nat.le_refl _)

set_option maxHeartbeats 1600000 in
set_option maxRecDepth 100000 in
theorem rp_nsi (s : ByteArray) (n E d E2 : Nat) (w : World) (hn : n ≤ 10000000000000009) (hd : d ≤ 10000000000000009) (hs : s.size ≤ 9223372036854775807) (hp : 0 < s.size) (h45 : (((s[0]'hp).toNat : Int) == 45) = true) (hE : E < s.size) (h47 : (((s[E]'hE).toNat : Int) == 47) = true) (CN : Hid (∀ w : World, Calls Tryd.prog 52 #[.string s, .int .i64 1] w (RetII w (n : Int) (E : Int)))) (CN2 : Hid (∀ w : World, Calls Tryd.prog 52 #[.string s, .int .i64 ((E : Int) + 1)] w (RetII w (d : Int) (E2 : Int)))) (va : okF (-(n : Int)) ((d : Int)) = false) :
    Calls Tryd.prog 25 #[.string s] w (RetFB w 0 0 false) := by
  obtain ⟨p0, p1, f0⟩ := box2 w 0 0 (-(n : Int)) ((d : Int))
  have VA := Lib.hid (fun w => rvalid_any (-(n : Int)) ((d : Int)) w)
  rw [va] at VA
  clear va
  have _x1 := hn
  have _x2 := hs
  have _x3 := hE
  have _x4 := hd
  go_enter Tryd.func25, Tryd.ntmps25
  go_wp2_with fail
  go_at_call 52; refine (CN.out _).mono ?_; rintro e1 w1 ⟨rfl, rfl⟩
  go_wp2_with fail
  go_at_call 52; refine (CN2.out _).mono ?_; rintro e1 w1 ⟨rfl, rfl⟩
  go_wp2_with fail
  go_at_call 12; refine (VA.out _).mono ?_; rintro e1 w2 ⟨rfl, f2⟩
  replace p0 := p0.on f2
  replace p1 := p1.on f2
  replace f0 := f0.trans f2
  have c00 := p0.c0
  have c01 := p0.c1
  have z00 := p0.f0 0
  have z01 := p0.f0 1
  have c10 := p1.c0
  have c11 := p1.c1
  go_wp2
  try simp only [Exit.inBlock, Exit.then]
  exact fr_ret_put rfl rfl rfl p0 f0 (Nat.le_refl _)

set_option maxHeartbeats 1600000 in
set_option maxRecDepth 100000 in
theorem rp_nsd (s : ByteArray) (n E d E2 : Nat) (w : World) (hn : n ≤ 10000000000000009) (hd : d ≤ 10000000000000009) (hs : s.size ≤ 9223372036854775807) (hp : 0 < s.size) (h45 : (((s[0]'hp).toNat : Int) == 45) = true) (hE : E < s.size) (h47 : (((s[E]'hE).toNat : Int) == 47) = true) (CN : Hid (∀ w : World, Calls Tryd.prog 52 #[.string s, .int .i64 1] w (RetII w (n : Int) (E : Int)))) (CN2 : Hid (∀ w : World, Calls Tryd.prog 52 #[.string s, .int .i64 ((E : Int) + 1)] w (RetII w (d : Int) (E2 : Int)))) (va : okF (-(n : Int)) ((d : Int)) = true) (ht : fracTxt (-(n : Int)) ((d : Int)) ≠ s) :
    Calls Tryd.prog 25 #[.string s] w (RetFB w 0 0 false) := by
  obtain ⟨p0, p1, f0⟩ := box2 w 0 0 (-(n : Int)) ((d : Int))
  have VA := Lib.hid (fun w => rvalid_any (-(n : Int)) ((d : Int)) w)
  rw [va] at VA
  have TX := Lib.hid (fun w => rtext_any (-(n : Int)) ((d : Int)) w)
  rw [show texV (-(n : Int)) ((d : Int)) = fracTxt (-(n : Int)) ((d : Int)) by unfold texV; rw [va]; rfl] at TX
  have hne := str_ne ht
  generalize fracTxt (-(n : Int)) ((d : Int)) = T at TX hne ht
  clear ht
  clear va
  have _x1 := hn
  have _x2 := hs
  have _x3 := hE
  have _x4 := hd
  go_enter Tryd.func25, Tryd.ntmps25
  go_wp2_with fail
  go_at_call 52; refine (CN.out _).mono ?_; rintro e1 w1 ⟨rfl, rfl⟩
  go_wp2_with fail
  go_at_call 52; refine (CN2.out _).mono ?_; rintro e1 w1 ⟨rfl, rfl⟩
  go_wp2_with fail
  go_at_call 12; refine (VA.out _).mono ?_; rintro e1 w2 ⟨rfl, f2⟩
  replace p0 := p0.on f2
  replace p1 := p1.on f2
  replace f0 := f0.trans f2
  have c00 := p0.c0
  have c01 := p0.c1
  have z00 := p0.f0 0
  have z01 := p0.f0 1
  have c10 := p1.c0
  have c11 := p1.c1
  go_wp2_with fail
  go_at_call 27; refine (TX.out _).mono ?_; rintro e1 w3 ⟨rfl, f3⟩
  clear c00 c01 c10 c11 z00 z01
  replace p0 := p0.on f3
  replace p1 := p1.on f3
  replace f0 := f0.trans f3
  have c00 := p0.c0
  have c01 := p0.c1
  have z00 := p0.f0 0
  have z01 := p0.f0 1
  have c10 := p1.c0
  have c11 := p1.c1
  go_wp2
  try simp only [Exit.inBlock, Exit.then]
  exact fr_ret_put rfl rfl rfl p0 f0 (Nat.le_refl _)

set_option maxHeartbeats 1600000 in
set_option maxRecDepth 100000 in
theorem rp_nsy (s : ByteArray) (n E d E2 : Nat) (w : World) (hn : n ≤ 10000000000000009) (hd : d ≤ 10000000000000009) (hs : s.size ≤ 9223372036854775807) (hp : 0 < s.size) (h45 : (((s[0]'hp).toNat : Int) == 45) = true) (hE : E < s.size) (h47 : (((s[E]'hE).toNat : Int) == 47) = true) (CN : Hid (∀ w : World, Calls Tryd.prog 52 #[.string s, .int .i64 1] w (RetII w (n : Int) (E : Int)))) (CN2 : Hid (∀ w : World, Calls Tryd.prog 52 #[.string s, .int .i64 ((E : Int) + 1)] w (RetII w (d : Int) (E2 : Int)))) (va : okF (-(n : Int)) ((d : Int)) = true) (ht : fracTxt (-(n : Int)) ((d : Int)) = s) :
    Calls Tryd.prog 25 #[.string s] w (RetFB w (-(n : Int)) ((d : Int)) true) := by
  obtain ⟨p0, p1, f0⟩ := box2 w 0 0 (-(n : Int)) ((d : Int))
  have VA := Lib.hid (fun w => rvalid_any (-(n : Int)) ((d : Int)) w)
  rw [va] at VA
  have TX := Lib.hid (fun w => rtext_any (-(n : Int)) ((d : Int)) w)
  rw [show texV (-(n : Int)) ((d : Int)) = fracTxt (-(n : Int)) ((d : Int)) by unfold texV; rw [va]; rfl] at TX
  rw [ht] at TX
  clear ht
  clear va
  have _x1 := hn
  have _x2 := hs
  have _x3 := hE
  have _x4 := hd
  go_enter Tryd.func25, Tryd.ntmps25
  go_wp2_with fail
  go_at_call 52; refine (CN.out _).mono ?_; rintro e1 w1 ⟨rfl, rfl⟩
  go_wp2_with fail
  go_at_call 52; refine (CN2.out _).mono ?_; rintro e1 w1 ⟨rfl, rfl⟩
  go_wp2_with fail
  go_at_call 12; refine (VA.out _).mono ?_; rintro e1 w2 ⟨rfl, f2⟩
  replace p0 := p0.on f2
  replace p1 := p1.on f2
  replace f0 := f0.trans f2
  have c00 := p0.c0
  have c01 := p0.c1
  have z00 := p0.f0 0
  have z01 := p0.f0 1
  have c10 := p1.c0
  have c11 := p1.c1
  go_wp2_with fail
  go_at_call 27; refine (TX.out _).mono ?_; rintro e1 w3 ⟨rfl, f3⟩
  clear c00 c01 c10 c11 z00 z01
  replace p0 := p0.on f3
  replace p1 := p1.on f3
  replace f0 := f0.trans f3
  have c00 := p0.c0
  have c01 := p0.c1
  have z00 := p0.f0 0
  have z01 := p0.f0 1
  have c10 := p1.c0
  have c11 := p1.c1
  go_wp2
  try simp only [Exit.inBlock, Exit.then]
  exact fr_ret_put rfl rfl rfl p0 f0 (Nat.le_refl _)

set_option maxHeartbeats 1600000 in
set_option maxRecDepth 100000 in
theorem rp_noi (s : ByteArray) (n E : Nat) (w : World) (hn : n ≤ 10000000000000009) (hs : s.size ≤ 9223372036854775807) (hp : 0 < s.size) (h45 : (((s[0]'hp).toNat : Int) == 45) = true) (hE : E < s.size) (h47 : (((s[E]'hE).toNat : Int) == 47) = false) (CN : Hid (∀ w : World, Calls Tryd.prog 52 #[.string s, .int .i64 1] w (RetII w (n : Int) (E : Int)))) (va : okF (-(n : Int)) (1) = false) :
    Calls Tryd.prog 25 #[.string s] w (RetFB w 0 0 false) := by
  obtain ⟨p0, p1, f0⟩ := box2 w 0 0 (-(n : Int)) (1)
  have VA := Lib.hid (fun w => rvalid_any (-(n : Int)) (1) w)
  rw [va] at VA
  clear va
  have _x1 := hn
  have _x2 := hs
  have _x3 := hE
  go_enter Tryd.func25, Tryd.ntmps25
  go_wp2_with fail
  go_at_call 52; refine (CN.out _).mono ?_; rintro e1 w1 ⟨rfl, rfl⟩
  go_wp2_with fail
  go_at_call 12; refine (VA.out _).mono ?_; rintro e1 w2 ⟨rfl, f2⟩
  replace p0 := p0.on f2
  replace p1 := p1.on f2
  replace f0 := f0.trans f2
  have c00 := p0.c0
  have c01 := p0.c1
  have z00 := p0.f0 0
  have z01 := p0.f0 1
  have c10 := p1.c0
  have c11 := p1.c1
  go_wp2
  try simp only [Exit.inBlock, Exit.then]
  exact fr_ret_put rfl rfl rfl p0 f0 (Nat.le_refl _)

set_option maxHeartbeats 1600000 in
set_option maxRecDepth 100000 in
theorem rp_nod (s : ByteArray) (n E : Nat) (w : World) (hn : n ≤ 10000000000000009) (hs : s.size ≤ 9223372036854775807) (hp : 0 < s.size) (h45 : (((s[0]'hp).toNat : Int) == 45) = true) (hE : E < s.size) (h47 : (((s[E]'hE).toNat : Int) == 47) = false) (CN : Hid (∀ w : World, Calls Tryd.prog 52 #[.string s, .int .i64 1] w (RetII w (n : Int) (E : Int)))) (va : okF (-(n : Int)) (1) = true) (ht : fracTxt (-(n : Int)) (1) ≠ s) :
    Calls Tryd.prog 25 #[.string s] w (RetFB w 0 0 false) := by
  obtain ⟨p0, p1, f0⟩ := box2 w 0 0 (-(n : Int)) (1)
  have VA := Lib.hid (fun w => rvalid_any (-(n : Int)) (1) w)
  rw [va] at VA
  have TX := Lib.hid (fun w => rtext_any (-(n : Int)) (1) w)
  rw [show texV (-(n : Int)) (1) = fracTxt (-(n : Int)) (1) by unfold texV; rw [va]; rfl] at TX
  have hne := str_ne ht
  generalize fracTxt (-(n : Int)) (1) = T at TX hne ht
  clear ht
  clear va
  have _x1 := hn
  have _x2 := hs
  have _x3 := hE
  go_enter Tryd.func25, Tryd.ntmps25
  go_wp2_with fail
  go_at_call 52; refine (CN.out _).mono ?_; rintro e1 w1 ⟨rfl, rfl⟩
  go_wp2_with fail
  go_at_call 12; refine (VA.out _).mono ?_; rintro e1 w2 ⟨rfl, f2⟩
  replace p0 := p0.on f2
  replace p1 := p1.on f2
  replace f0 := f0.trans f2
  have c00 := p0.c0
  have c01 := p0.c1
  have z00 := p0.f0 0
  have z01 := p0.f0 1
  have c10 := p1.c0
  have c11 := p1.c1
  go_wp2_with fail
  go_at_call 27; refine (TX.out _).mono ?_; rintro e1 w3 ⟨rfl, f3⟩
  clear c00 c01 c10 c11 z00 z01
  replace p0 := p0.on f3
  replace p1 := p1.on f3
  replace f0 := f0.trans f3
  have c00 := p0.c0
  have c01 := p0.c1
  have z00 := p0.f0 0
  have z01 := p0.f0 1
  have c10 := p1.c0
  have c11 := p1.c1
  go_wp2
  try simp only [Exit.inBlock, Exit.then]
  exact fr_ret_put rfl rfl rfl p0 f0 (Nat.le_refl _)

set_option maxHeartbeats 1600000 in
set_option maxRecDepth 100000 in
theorem rp_noy (s : ByteArray) (n E : Nat) (w : World) (hn : n ≤ 10000000000000009) (hs : s.size ≤ 9223372036854775807) (hp : 0 < s.size) (h45 : (((s[0]'hp).toNat : Int) == 45) = true) (hE : E < s.size) (h47 : (((s[E]'hE).toNat : Int) == 47) = false) (CN : Hid (∀ w : World, Calls Tryd.prog 52 #[.string s, .int .i64 1] w (RetII w (n : Int) (E : Int)))) (va : okF (-(n : Int)) (1) = true) (ht : fracTxt (-(n : Int)) (1) = s) :
    Calls Tryd.prog 25 #[.string s] w (RetFB w (-(n : Int)) (1) true) := by
  obtain ⟨p0, p1, f0⟩ := box2 w 0 0 (-(n : Int)) (1)
  have VA := Lib.hid (fun w => rvalid_any (-(n : Int)) (1) w)
  rw [va] at VA
  have TX := Lib.hid (fun w => rtext_any (-(n : Int)) (1) w)
  rw [show texV (-(n : Int)) (1) = fracTxt (-(n : Int)) (1) by unfold texV; rw [va]; rfl] at TX
  rw [ht] at TX
  clear ht
  clear va
  have _x1 := hn
  have _x2 := hs
  have _x3 := hE
  go_enter Tryd.func25, Tryd.ntmps25
  go_wp2_with fail
  go_at_call 52; refine (CN.out _).mono ?_; rintro e1 w1 ⟨rfl, rfl⟩
  go_wp2_with fail
  go_at_call 12; refine (VA.out _).mono ?_; rintro e1 w2 ⟨rfl, f2⟩
  replace p0 := p0.on f2
  replace p1 := p1.on f2
  replace f0 := f0.trans f2
  have c00 := p0.c0
  have c01 := p0.c1
  have z00 := p0.f0 0
  have z01 := p0.f0 1
  have c10 := p1.c0
  have c11 := p1.c1
  go_wp2_with fail
  go_at_call 27; refine (TX.out _).mono ?_; rintro e1 w3 ⟨rfl, f3⟩
  clear c00 c01 c10 c11 z00 z01
  replace p0 := p0.on f3
  replace p1 := p1.on f3
  replace f0 := f0.trans f3
  have c00 := p0.c0
  have c01 := p0.c1
  have z00 := p0.f0 0
  have z01 := p0.f0 1
  have c10 := p1.c0
  have c11 := p1.c1
  go_wp2
  try simp only [Exit.inBlock, Exit.then]
  exact fr_ret_put rfl rfl rfl p0 f0 (Nat.le_refl _)

theorem cD_at {s : ByteArray} {k : Nat} (hk : cK s.data.toList = k) (hl : k ≤ s.data.toList.length) : cD s.data.toList = match s.data.toList.drop (numE s.data.toList k) with
  | 47 :: r => ((numF 0 r).1 : Int)
  | _ => 1 := by
  unfold cD
  rw [hk, (numE_drop s.data.toList k hl).1]
theorem cD_end {s : ByteArray} {k : Nat} (hk : cK s.data.toList = k) (hl : k ≤ s.data.toList.length) (hE : s.size ≤ numE s.data.toList k) : cD s.data.toList = 1 := by
  have e : s.data.toList.length = s.size := Array.length_toList
  rw [cD_at hk hl, List.drop_of_length_le (by omega)]
theorem cD_sl {s : ByteArray} {k : Nat} (hk : cK s.data.toList = k) (hl : k ≤ s.data.toList.length) (hE : numE s.data.toList k < s.size) (h : s[numE s.data.toList k] = 47) : cD s.data.toList = ((numF 0 (s.data.toList.drop (numE s.data.toList k + 1))).1 : Int) := by
  rw [cD_at hk hl, sbyte s _ hE, h]
  rfl
theorem cD_ot {s : ByteArray} {k : Nat} (hk : cK s.data.toList = k) (hl : k ≤ s.data.toList.length) (hE : numE s.data.toList k < s.size) (h : s[numE s.data.toList k] ≠ 47) : cD s.data.toList = 1 := by
  rw [cD_at hk hl, sbyte s _ hE]
  split
  · rename_i r e
    injection e with e1 e2
    exact absurd e1 h
  · rfl
theorem b47 {c : UInt8} : ((c.toNat : Int) == 47) = true ↔ c = 47 := by
  rw [beq_iff_eq]
  exact ⟨fun h => UInt8.toNat_inj.1 (by show _ = 47; omega), fun h => by rw [h]; rfl⟩

theorem rparse_any (s : ByteArray) (hs : s.size ≤ maxLen) (w : World) :
    Calls Tryd.prog 25 #[.string s] w (RetFB w (prN s) (prD s) (prB s)) := by
  have hs' : s.size ≤ 9223372036854775807 := by unfold maxLen at hs; omega
  have hlen : s.data.toList.length = s.size := Array.length_toList
  unfold prN prD prB
  by_cases h0 : s.size = 0
  · have hl : s.data.toList = [] := List.length_eq_zero_iff.1 (by omega)
    have hE : s.size ≤ numE s.data.toList 0 := by omega
    have hN : cN s.data.toList = (((numF 0 (s.data.toList.drop 0)).1 : Nat) : Int) := by rw [hl]; rfl
    have hD : cD s.data.toList = 1 := by rw [hl]; rfl
    rw [hN, hD]
    cases va : okF ((((numF 0 (s.data.toList.drop 0)).1 : Nat) : Int)) (1)
    · rw [(an_f (.inl va)).1, (an_f (.inl va)).2.1, (an_f (.inl va)).2.2]
      exact rp_ezi s _ _ w (numF_le _ _ (by decide)) hs' h0 hE (Lib.hid fun w => rnum_any s hs 0 (by omega) w) va
    · by_cases ht : fracTxt ((((numF 0 (s.data.toList.drop 0)).1 : Nat) : Int)) (1) = s
      · rw [(an_t va ht).1, (an_t va ht).2.1, (an_t va ht).2.2]
        exact rp_ezy s _ _ w (numF_le _ _ (by decide)) hs' h0 hE (Lib.hid fun w => rnum_any s hs 0 (by omega) w) va ht
      · rw [(an_f (.inr ht)).1, (an_f (.inr ht)).2.1, (an_f (.inr ht)).2.2]
        exact rp_ezd s _ _ w (numF_le _ _ (by decide)) hs' h0 hE (Lib.hid fun w => rnum_any s hs 0 (by omega) w) va ht
  have hp : 0 < s.size := by omega
  have hh := head_b s hp
  by_cases h4 : (((s[0]'hp).toNat : Int) == 45) = true
  · have h45 := h4
    have e45 : s[0]'hp = 45 := UInt8.toNat_inj.1 (by show _ = 45; rw [beq_iff_eq] at h4; omega)
    rw [e45] at hh
    have hK : cK s.data.toList = 1 := by unfold cK; rw [if_pos hh]
    have hN : cN s.data.toList = -(((numF 0 (s.data.toList.drop 1)).1 : Nat) : Int) := by unfold cN; rw [if_pos hh]
    have hEl := (numE_drop s.data.toList 1 (by omega)).2
    rcases Nat.lt_or_ge (numE s.data.toList 1) s.size with hE | hE
    · cases h47 : (((s[numE s.data.toList 1]'hE).toNat : Int) == 47)
      · rw [hN, cD_ot hK (by omega) hE (fun h => by rw [b47.2 h] at h47; cases h47)]
        cases va : okF (-(((numF 0 (s.data.toList.drop 1)).1 : Nat) : Int)) (1)
        · rw [(an_f (.inl va)).1, (an_f (.inl va)).2.1, (an_f (.inl va)).2.2]
          exact rp_noi s _ _ w (numF_le _ _ (by decide)) hs' hp h45 hE h47 (Lib.hid fun w => rnum_any s hs 1 (by omega) w) va
        · by_cases ht : fracTxt (-(((numF 0 (s.data.toList.drop 1)).1 : Nat) : Int)) (1) = s
          · rw [(an_t va ht).1, (an_t va ht).2.1, (an_t va ht).2.2]
            exact rp_noy s _ _ w (numF_le _ _ (by decide)) hs' hp h45 hE h47 (Lib.hid fun w => rnum_any s hs 1 (by omega) w) va ht
          · rw [(an_f (.inr ht)).1, (an_f (.inr ht)).2.1, (an_f (.inr ht)).2.2]
            exact rp_nod s _ _ w (numF_le _ _ (by decide)) hs' hp h45 hE h47 (Lib.hid fun w => rnum_any s hs 1 (by omega) w) va ht
      · rw [hN, cD_sl hK (by omega) hE (b47.1 h47)]
        cases va : okF (-(((numF 0 (s.data.toList.drop 1)).1 : Nat) : Int)) ((((numF 0 (s.data.toList.drop (numE s.data.toList 1 + 1))).1 : Nat) : Int))
        · rw [(an_f (.inl va)).1, (an_f (.inl va)).2.1, (an_f (.inl va)).2.2]
          exact rp_nsi s _ _ _ _ w (numF_le _ _ (by decide)) (numF_le _ _ (by decide)) hs' hp h45 hE h47 (Lib.hid fun w => rnum_any s hs 1 (by omega) w) (Lib.hid fun w => rnum_any s hs (numE s.data.toList 1 + 1) (by omega) w) va
        · by_cases ht : fracTxt (-(((numF 0 (s.data.toList.drop 1)).1 : Nat) : Int)) ((((numF 0 (s.data.toList.drop (numE s.data.toList 1 + 1))).1 : Nat) : Int)) = s
          · rw [(an_t va ht).1, (an_t va ht).2.1, (an_t va ht).2.2]
            exact rp_nsy s _ _ _ _ w (numF_le _ _ (by decide)) (numF_le _ _ (by decide)) hs' hp h45 hE h47 (Lib.hid fun w => rnum_any s hs 1 (by omega) w) (Lib.hid fun w => rnum_any s hs (numE s.data.toList 1 + 1) (by omega) w) va ht
          · rw [(an_f (.inr ht)).1, (an_f (.inr ht)).2.1, (an_f (.inr ht)).2.2]
            exact rp_nsd s _ _ _ _ w (numF_le _ _ (by decide)) (numF_le _ _ (by decide)) hs' hp h45 hE h47 (Lib.hid fun w => rnum_any s hs 1 (by omega) w) (Lib.hid fun w => rnum_any s hs (numE s.data.toList 1 + 1) (by omega) w) va ht
    · rw [hN, cD_end hK (by omega) hE]
      cases va : okF (-(((numF 0 (s.data.toList.drop 1)).1 : Nat) : Int)) (1)
      · rw [(an_f (.inl va)).1, (an_f (.inl va)).2.1, (an_f (.inl va)).2.2]
        exact rp_nzi s _ _ w (numF_le _ _ (by decide)) hs' hp h45 hE (Lib.hid fun w => rnum_any s hs 1 (by omega) w) va
      · by_cases ht : fracTxt (-(((numF 0 (s.data.toList.drop 1)).1 : Nat) : Int)) (1) = s
        · rw [(an_t va ht).1, (an_t va ht).2.1, (an_t va ht).2.2]
          exact rp_nzy s _ _ w (numF_le _ _ (by decide)) hs' hp h45 hE (Lib.hid fun w => rnum_any s hs 1 (by omega) w) va ht
        · rw [(an_f (.inr ht)).1, (an_f (.inr ht)).2.1, (an_f (.inr ht)).2.2]
          exact rp_nzd s _ _ w (numF_le _ _ (by decide)) hs' hp h45 hE (Lib.hid fun w => rnum_any s hs 1 (by omega) w) va ht
  · have h45 : (((s[0]'hp).toNat : Int) == 45) = false := by
      cases h : (((s[0]'hp).toNat : Int) == 45)
      · rfl
      · exact absurd h h4
    have n45 : s.data.toList.head? ≠ some 45 := by
      rw [hh]
      intro e
      rw [Option.some.inj e] at h45
      cases h45
    have hK : cK s.data.toList = 0 := by unfold cK; rw [if_neg n45]
    have hN : cN s.data.toList = (((numF 0 (s.data.toList.drop 0)).1 : Nat) : Int) := by unfold cN; rw [if_neg n45, List.drop_zero]
    have hEl := (numE_drop s.data.toList 0 (by omega)).2
    rcases Nat.lt_or_ge (numE s.data.toList 0) s.size with hE | hE
    · cases h47 : (((s[numE s.data.toList 0]'hE).toNat : Int) == 47)
      · rw [hN, cD_ot hK (by omega) hE (fun h => by rw [b47.2 h] at h47; cases h47)]
        cases va : okF ((((numF 0 (s.data.toList.drop 0)).1 : Nat) : Int)) (1)
        · rw [(an_f (.inl va)).1, (an_f (.inl va)).2.1, (an_f (.inl va)).2.2]
          exact rp_poi s _ _ w (numF_le _ _ (by decide)) hs' hp h45 hE h47 (Lib.hid fun w => rnum_any s hs 0 (by omega) w) va
        · by_cases ht : fracTxt ((((numF 0 (s.data.toList.drop 0)).1 : Nat) : Int)) (1) = s
          · rw [(an_t va ht).1, (an_t va ht).2.1, (an_t va ht).2.2]
            exact rp_poy s _ _ w (numF_le _ _ (by decide)) hs' hp h45 hE h47 (Lib.hid fun w => rnum_any s hs 0 (by omega) w) va ht
          · rw [(an_f (.inr ht)).1, (an_f (.inr ht)).2.1, (an_f (.inr ht)).2.2]
            exact rp_pod s _ _ w (numF_le _ _ (by decide)) hs' hp h45 hE h47 (Lib.hid fun w => rnum_any s hs 0 (by omega) w) va ht
      · rw [hN, cD_sl hK (by omega) hE (b47.1 h47)]
        cases va : okF ((((numF 0 (s.data.toList.drop 0)).1 : Nat) : Int)) ((((numF 0 (s.data.toList.drop (numE s.data.toList 0 + 1))).1 : Nat) : Int))
        · rw [(an_f (.inl va)).1, (an_f (.inl va)).2.1, (an_f (.inl va)).2.2]
          exact rp_psi s _ _ _ _ w (numF_le _ _ (by decide)) (numF_le _ _ (by decide)) hs' hp h45 hE h47 (Lib.hid fun w => rnum_any s hs 0 (by omega) w) (Lib.hid fun w => rnum_any s hs (numE s.data.toList 0 + 1) (by omega) w) va
        · by_cases ht : fracTxt ((((numF 0 (s.data.toList.drop 0)).1 : Nat) : Int)) ((((numF 0 (s.data.toList.drop (numE s.data.toList 0 + 1))).1 : Nat) : Int)) = s
          · rw [(an_t va ht).1, (an_t va ht).2.1, (an_t va ht).2.2]
            exact rp_psy s _ _ _ _ w (numF_le _ _ (by decide)) (numF_le _ _ (by decide)) hs' hp h45 hE h47 (Lib.hid fun w => rnum_any s hs 0 (by omega) w) (Lib.hid fun w => rnum_any s hs (numE s.data.toList 0 + 1) (by omega) w) va ht
          · rw [(an_f (.inr ht)).1, (an_f (.inr ht)).2.1, (an_f (.inr ht)).2.2]
            exact rp_psd s _ _ _ _ w (numF_le _ _ (by decide)) (numF_le _ _ (by decide)) hs' hp h45 hE h47 (Lib.hid fun w => rnum_any s hs 0 (by omega) w) (Lib.hid fun w => rnum_any s hs (numE s.data.toList 0 + 1) (by omega) w) va ht
    · rw [hN, cD_end hK (by omega) hE]
      cases va : okF ((((numF 0 (s.data.toList.drop 0)).1 : Nat) : Int)) (1)
      · rw [(an_f (.inl va)).1, (an_f (.inl va)).2.1, (an_f (.inl va)).2.2]
        exact rp_pzi s _ _ w (numF_le _ _ (by decide)) hs' hp h45 hE (Lib.hid fun w => rnum_any s hs 0 (by omega) w) va
      · by_cases ht : fracTxt ((((numF 0 (s.data.toList.drop 0)).1 : Nat) : Int)) (1) = s
        · rw [(an_t va ht).1, (an_t va ht).2.1, (an_t va ht).2.2]
          exact rp_pzy s _ _ w (numF_le _ _ (by decide)) hs' hp h45 hE (Lib.hid fun w => rnum_any s hs 0 (by omega) w) va ht
        · rw [(an_f (.inr ht)).1, (an_f (.inr ht)).2.1, (an_f (.inr ht)).2.2]
          exact rp_pzd s _ _ w (numF_le _ _ (by decide)) hs' hp h45 hE (Lib.hid fun w => rnum_any s hs 0 (by omega) w) va ht
end Go.Proofs.YtdkmfhlmeildmaaDoor
