/-
  The reference of package frac: digits gives the decimal numeral of an int, Text the numeral of a valid fraction, an empty string for any other one. Nothing that was there turns.
-/
import Derived.Test.YtdkmfhlmeildmaaDoorFrB
import Derived.Test.YtdkmfhlmeildmaaDoorFrO
import Derived.Test.YtdkmfhlmeildmaaDoorFrQ
import Derived.Laws.IdiomStrings
import Derived.Lib.ItoaLen
import Derived.Lib.Hide
import Derived.Deep.RegionHeld3
namespace Go.Proofs.YtdkmfhlmeildmaaDoor
open Go.RowKit
open Go.Lib (decDigits)

/-- The numeral of an int. -/
def txt (n : Int) : ByteArray := ⟨(Lib.itoa n).toArray⟩
theorem txt_list (n : Int) : (txt n).data.toList = Lib.itoa n := rfl
theorem txt_size (n : Int) (h0 : -9223372036854775808 ≤ n) (h1 : n ≤ 9223372036854775807) : (txt n).size ≤ 21 := by
  have k := Lib.itoa_length_le n h0 h1
  show (Lib.itoa n).toArray.size ≤ 21
  simpa using k
/-- The digits that are not written yet. -/
def pre (u : Nat) : List UInt8 := if u = 0 then [] else decDigits u
theorem pre_step {u : Nat} (h : u ≠ 0) (s : List UInt8) : pre (u / 10) ++ (UInt8.ofNat (48 + u % 10) :: s) = pre u ++ s := by
  unfold pre
  rw [if_neg h]
  by_cases h1 : u < 10
  · rw [if_pos (by omega), Lib.decDigits_one h1, Nat.mod_eq_of_lt h1]; rfl
  · rw [if_neg (by omega), show decDigits u = decDigits (u / 10) ++ [UInt8.ofNat (48 + u % 10)] from by rw [decDigits, dif_neg h1]]; simp
theorem pre_first (u : Nat) : pre (u / 10) ++ [UInt8.ofNat (48 + u % 10)] = decDigits u := by
  by_cases h : u = 0
  · subst h
    rw [Lib.decDigits_one (by decide)]; rfl
  · rw [pre_step h, List.append_nil]; unfold pre; rw [if_neg h]
theorem dig_u8 (m : Nat) : ((UInt8.ofNat (48 + m % 10)).toNat : Int) = 48 + (m : Int) % 10 := by
  rw [UInt8.toNat_ofNat']
  have : m % 10 < 10 := Nat.mod_lt _ (by decide)
  omega
/-- 'string' of a slice of one byte that was just laid. -/
theorem one_byte (c : UInt8) (x : Int) (hx : x = (c.toNat : Int)) (w : World) :
    (convert 77 9 (.slice (some ⟨w.heap.size, 0, none⟩) 1 1)).run Tryd.prog (w.alloc (.cells #[.int .u8 x] 5)) = .ok (.string ⟨#[c]⟩) (w.alloc (.cells #[.int .u8 x] 5)) := by
  subst hx
  exact run_convert_bytes_back (P := Tryd.prog) (w.alloc (.cells #[.int .u8 (c.toNat : Int)] 5)) 77 9 5 ⟨w.heap.size, 0, none⟩ 1 [c] Tryd.underlying77 Tryd.underlying5 Tryd.underlying9 (fun j hj => by
    have e : j = 0 := by simpa using hj
    subst e
    exact (World.cell?_alloc_mark w #[.int .u8 (c.toNat : Int)] 5 (0, 0) 0).trans rfl)
theorem todo_size {N m : Nat} {s : ByteArray} (h : pre m ++ s.data.toList = decDigits N) (hN : N ≤ 9223372036854775807) : s.size ≤ 1000 := by
  have a := congrArg List.length h
  rw [Lib.decDigits_length, List.length_append] at a
  have b := Lib.nDigits_le20 N (by omega)
  have e : s.data.toList.length = s.size := Array.length_toList
  omega
theorem todo_step {N m : Nat} {s : ByteArray} {c : UInt8} (h : pre m ++ s.data.toList = decDigits N) (hm : m ≠ 0) (hc : UInt8.ofNat (48 + m % 10) = c) : pre (m / 10) ++ ({ data := #[c] } ++ s : ByteArray).data.toList = decDigits N := by
  have k := pre_step hm s.data.toList
  rw [ByteArray.data_append, ← h, ← k, hc]
  simp
theorem str_of {s : ByteArray} {N : Nat} (h : s.data.toList = decDigits N) : s = txt (N : Int) := by
  apply ByteArray.ext
  apply Array.toList_inj.1
  unfold txt Lib.itoa
  rw [if_neg (by omega)]
  simp [h]
theorem str_neg {n : Int} (h : n < 0) : ({ data := #[45] } ++ txt (-n) : ByteArray) = txt n := by
  apply ByteArray.ext
  apply Array.toList_inj.1
  rw [ByteArray.data_append]
  unfold txt Lib.itoa
  rw [if_pos h, if_neg (by omega), show (-n).toNat = n.natAbs by omega]
  simp

set_option maxHeartbeats 800000 in
set_option maxRecDepth 100000 in
theorem rdig_nn (N : Nat) (hN : N ≤ 9223372036854775807) (w : World) :
    Calls Tryd.prog 54 #[.int .i64 N] w (RetT w (txt N)) := by
  have hd := dig_u8 N
  have hp := pre_first N
  obtain ⟨c0, hc0⟩ : ∃ c, UInt8.ofNat (48 + N % 10) = c := ⟨_, rfl⟩
  rw [hc0] at hd hp
  have hcv := one_byte c0 (48 + (N : Int) % 10) (by omega) w
  have HP := Lib.hid (show pre (N / 10) ++ (⟨#[c0]⟩ : ByteArray).data.toList = decDigits N from hp)
  clear hd hp hc0
  go_enter Tryd.func54, Tryd.ntmps54
  go_wp2
  go_loopw [0, 3] (fun mv sv wr => ∃ (m : Nat) (s : ByteArray), mv = .int .i64 m ∧ m ≤ N ∧ sv = .string s ∧ Hid (pre m ++ s.data.toList = decDigits N) ∧ Fur w wr) (fun mv _ _ => (RowKit.intOf mv).toNat)
  case atStart => exact ⟨N / 10, _, (congrArg (Value.int .i64) (by omega)), by omega, rfl, HP.out, (Fur.refl w).alloc _⟩
  case round =>
    clear hcv
    obtain ⟨m, s, rfl, hm, rfl, HT, hf⟩ := hrel
    have hsz := todo_size HT.out hN
    by_cases h0 : m = 0
    · subst h0
      have HE := Lib.hid (str_of (s := s) (N := N) (by have k := HT.out; simpa [pre] using k))
      go_wp2
      go_ret
      exact ⟨ret_str HE.out, hf⟩
    · have hpos : (0 : Int) < m := by omega
      have hd := dig_u8 m
      obtain ⟨c, hc⟩ : ∃ c, UInt8.ofNat (48 + m % 10) = c := ⟨_, rfl⟩
      have HS := Lib.hid (todo_step HT.out h0 hc)
      rw [hc] at hd
      have hcv := one_byte c (48 + (m : Int) % 10) (by omega) wr
      clear hd hc h0
      go_wp2
      go_roundw
      case rel => exact ⟨m / 10, _, (congrArg (Value.int .i64) (by omega)), by omega, rfl, HS.out, hf.trans ((Fur.refl _).alloc _)⟩
      case measure => simp [RowKit.intOf]; omega

theorem rdig_any (n : Int) (h0 : -9223372036854775807 ≤ n) (h1 : n ≤ 9223372036854775807) (w : World) :
    Calls Tryd.prog 54 #[.int .i64 n] w (RetT w (txt n)) := by
  by_cases hn : n < 0
  · have CD := Lib.hid (fun w => rdig_nn (-n).toNat (by omega) w)
    have e : (((-n).toNat : Nat) : Int) = -n := by omega
    rw [e] at CD
    have HS := Lib.hid (str_neg hn)
    have hsz := txt_size (-n) (by omega) (by omega)
    generalize txt (-n) = t at CD HS hsz
    clear e
    go_enter Tryd.func54, Tryd.ntmps54
    go_wp2_with fail
    go_at_call 54; refine (CD.out _).mono ?_; rintro e1 w1 ⟨rfl, f1⟩
    go_wp2
    go_ret
    exact ⟨ret_str HS.out, f1⟩
  · have k := rdig_nn n.toNat (by omega) w
    rwa [show ((n.toNat : Nat) : Int) = n by omega] at k

/-- The text of a fraction. -/
def fracTxt (n d : Int) : ByteArray := if d = 1 then txt n else txt n ++ ⟨#[47]⟩ ++ txt d
def texV (n d : Int) : ByteArray := if okF n d = true then fracTxt n d else ⟨#[]⟩

set_option maxHeartbeats 3200000 in
set_option maxRecDepth 100000 in
theorem rtext_any (n d : Int) (w : World) : Calls Tryd.prog 27 #[.agg #[.int .i64 n, .int .i64 d]] w (RetT w (texV n d)) := by
  obtain ⟨p0, f0⟩ := box1 w n d
  have VA := Lib.hid (fun w => rvalid_any n d w)
  cases va : okF n d
  · rw [show texV n d = ⟨#[]⟩ by unfold texV; rw [va]; rfl]
    rw [va] at VA
    clear va
    go_enter Tryd.func27, Tryd.ntmps27
    go_wp2_with fail
    go_at_call 12; refine (VA.out _).mono ?_; rintro e1 w1 ⟨rfl, f1⟩
    go_wp2
    go_ret
    exact ⟨rfl, f0.trans f1⟩
  · rw [show texV n d = fracTxt n d by unfold texV; rw [va]; rfl]
    have ha := okF_t va
    have a1 := ha.d1; have a2 := ha.d2; have a3 := ha.n1; have a4 := ha.n2
    rw [va] at VA
    clear va ha
    by_cases hd : d = 1
    · subst hd
      rw [show fracTxt n 1 = txt n by unfold fracTxt; rw [if_pos rfl]]
      have CD := Lib.hid (fun w => rdig_any n (by omega) (by omega) w)
      go_enter Tryd.func27, Tryd.ntmps27
      go_wp2_with fail
      go_at_call 12; refine (VA.out _).mono ?_; rintro e1 w1 ⟨rfl, f1⟩
      replace p0 := p0.on f1
      have c00 := p0.c0
      have c01 := p0.c1
      go_wp2_with fail
      go_at_call 54; refine (CD.out _).mono ?_; rintro e1 w2 ⟨rfl, f2⟩
      go_wp2
      go_ret
      exact ⟨rfl, (f0.trans f1).trans f2⟩
    · rw [show fracTxt n d = txt n ++ ⟨#[47]⟩ ++ txt d by unfold fracTxt; rw [if_neg hd]]
      have hdne : (d == 1) = false := by rw [beq_eq_false_iff_ne]; exact hd
      have z1 := txt_size n (by omega) (by omega)
      have z2 := txt_size d (by omega) (by omega)
      have z3 : ¬ (9223372036854775807 < (txt n).size + 1) := by omega
      have z4 : ¬ (9223372036854775807 < (txt n).size + 1 + (txt d).size) := by omega
      clear hd
      go_enter Tryd.func27, Tryd.ntmps27
      go_wp2_with fail
      go_at_call 12; refine (VA.out _).mono ?_; rintro e1 w1 ⟨rfl, f1⟩
      replace p0 := p0.on f1
      replace f0 := f0.trans f1
      have c00 := p0.c0
      have c01 := p0.c1
      go_wp2_with fail
      go_region_held3 (fun w' => Fur w1 w' ∧ w'.cell? ⟨w.heap.size, 0, none⟩ = some (.int .i64 n) ∧ w'.cell? ⟨w.heap.size, 1, none⟩ = some (.int .i64 d))
        (first
          | (refine ⟨Fur.drew (Fur.refl _), ?_, ?_⟩ <;> simp [*]; done)
          | go_keep
          | (refine ⟨Fur.trans ?_ (by assumption), cellOn (by assumption) ?_, cellOn (by assumption) ?_⟩ <;> simp [*]))
        (first
          | (go_at_call 54; refine (rdig_any _ ?_ ?_ _).mono ?_; omega; omega; rintro e w4 ⟨rfl, f4⟩))
      have hS : Fur w1 w4 ∧ w4.cell? ⟨w.heap.size, 0, none⟩ = some (.int .i64 n) ∧ w4.cell? ⟨w.heap.size, 1, none⟩ = some (.int .i64 d) := by assumption
      have ff := f0.trans hS.1
      go_wp2
      go_ret
      exact ⟨rfl, ff⟩
end Go.Proofs.YtdkmfhlmeildmaaDoor
