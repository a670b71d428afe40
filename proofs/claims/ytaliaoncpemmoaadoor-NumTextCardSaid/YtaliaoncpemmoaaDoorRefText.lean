/-
  Text of the reference returns the decimal numeral of every int value. No condition; the world has only grown.
-/
import Derived.Test.YtaliaoncpemmoaaDoorNumeral
import Derived.Laws.IdiomStrings
import Derived.Lib.ItoaLen
namespace Go.Proofs.YtaliaoncpemmoaaDoor
open Go.RowKit Go.Lib

/-- The digits that are not written yet. -/
def pre (u : Nat) : List UInt8 := if u = 0 then [] else decDigits u
theorem pre_step {u : Nat} (h : u ≠ 0) (s : List UInt8) : pre (u / 10) ++ (UInt8.ofNat (48 + u % 10) :: s) = pre u ++ s := by
  unfold pre
  rw [if_neg h]
  by_cases h1 : u < 10
  · rw [if_pos (by omega), decDigits_one h1, Nat.mod_eq_of_lt h1]; rfl
  · rw [if_neg (by omega), show decDigits u = decDigits (u / 10) ++ [UInt8.ofNat (48 + u % 10)] from by rw [decDigits, dif_neg h1]]; simp

def Todo (n m : Int) (s : ByteArray) : Prop := pre m.natAbs ++ s.data.toList = decDigits n.natAbs ∧ (0 ≤ n → 0 ≤ m) ∧ (n < 0 → m ≤ 0) ∧ m.natAbs ≤ n.natAbs

theorem txt_neg {n : Int} (h : n < 0) {s : ByteArray} (hs : s.data.toList = decDigits n.natAbs) : ({ data := #[45] } ++ s : ByteArray) = txt n := by
  apply ByteArray.ext
  apply Array.toList_inj.1
  rw [ByteArray.data_append]
  unfold txt itoa
  rw [if_pos h]
  simp [hs]
theorem txt_pos {n : Int} (h : ¬ n < 0) {s : ByteArray} (hs : s.data.toList = decDigits n.natAbs) : s = txt n := by
  apply ByteArray.ext
  apply Array.toList_inj.1
  unfold txt itoa
  rw [if_neg h]
  have e : n.toNat = n.natAbs := by omega
  simp [hs, e]
theorem ret_str {a b : ByteArray} (h : a = b) : Ending.returned (.string a) = .returned (.string b) := by rw [h]
theorem todo_end {n : Int} {s : ByteArray} (h : Todo n 0 s) : s.data.toList = decDigits n.natAbs := by
  have := h.1
  simpa [pre] using this
theorem todo_step {n m q : Int} {s : ByteArray} (h : Todo n m s) (hm : m ≠ 0) (hq : q.natAbs = m.natAbs / 10) (h1 : 0 ≤ m → 0 ≤ q) (h2 : m ≤ 0 → q ≤ 0) : Todo n q ({ data := #[UInt8.ofNat (48 + m.natAbs % 10)] } ++ s) := by
  obtain ⟨t1, t2, t3, t4⟩ := h
  refine ⟨?_, fun k => h1 (t2 k), fun k => h2 (t3 k), by omega⟩
  have k := pre_step (u := m.natAbs) (by omega) s.data.toList
  rw [hq, ByteArray.data_append, ← t1, ← k]
  simp

theorem todo_size {n m : Int} {s : ByteArray} (h : Todo n m s) (h0 : -9223372036854775808 ≤ n) (h1 : n ≤ 9223372036854775807) : s.size ≤ 1000 := by
  have a := congrArg List.length h.1
  rw [decDigits_length, List.length_append] at a
  have b := nDigits_le20 n.natAbs (by omega)
  have e : s.data.toList.length = s.size := Array.length_toList
  omega

/-- 'string' of a slice of one byte that was just laid. -/
theorem one_byte (c : UInt8) (x : Int) (hx : x = (c.toNat : Int)) (w : World) :
    (convert 40 9 (.slice (some ⟨w.heap.size, 0, none⟩) 1 1)).run Tryd.prog (w.alloc (.cells #[.int .u8 x] 5)) = .ok (.string ⟨#[c]⟩) (w.alloc (.cells #[.int .u8 x] 5)) := by
  subst hx
  exact run_convert_bytes_back (P := Tryd.prog) (w.alloc (.cells #[.int .u8 (c.toNat : Int)] 5)) 40 9 5 ⟨w.heap.size, 0, none⟩ 1 [c] Tryd.underlying40 Tryd.underlying5 Tryd.underlying9 (fun j hj => by
    have e : j = 0 := by simpa using hj
    subst e
    exact (World.cell?_alloc_mark w #[.int .u8 (c.toNat : Int)] 5 (0, 0) 0).trans rfl)

set_option maxHeartbeats 400000 in
theorem rtext_loop (n : Int) (hn : n ≠ 0) (h0 : -9223372036854775808 ≤ n) (h1 : n ≤ 9223372036854775807) (w : World) :
    Calls Tryd.prog 28 #[.int .i64 n] w fun e w' => e = .returned (.string (txt n)) ∧ Fur w w' := by
  have n0 : (n == 0) = false := by simpa using hn
  go_enter Tryd.func28, Tryd.ntmps28
  go_wp2
  go_loopw [3, 4] (fun x y wr => ∃ (s : ByteArray) (m : Int), x = .string s ∧ y = .int .i64 m ∧ Todo n m s ∧ Fur w wr) (fun _ y _ => (RowKit.intOf y).natAbs)
  case atStart => exact ⟨_, n, rfl, rfl, ⟨by simp [pre, hn], by omega, by omega, by omega⟩, Fur.refl _⟩
  case round =>
    obtain ⟨s, m, rfl, rfl, ht, hf⟩ := hrel
    have hsz := todo_size ht h0 h1
    by_cases hm : m = 0
    · subst hm
      have HE := Lib.hid (todo_end ht)
      clear ht
      by_cases hneg : n < 0
      · go_wp2
        go_ret
        exact ⟨ret_str (txt_neg hneg HE.out), hf⟩
      · go_wp2
        go_ret
        exact ⟨ret_str (txt_pos (by omega) HE.out), hf⟩
    · have hne : (m != 0) = true := by simpa using hm
      have ⟨_, s1, s2, s3⟩ := ht
      have m2 : -9223372036854775808 ≤ m := by omega
      have m3 : m ≤ 9223372036854775807 := by omega
      clear s1 s2 s3
      have hd : ((UInt8.ofNat (48 + m.natAbs % 10)).toNat : Int) = 48 + (m.natAbs : Int) % 10 := by rw [digit_nat (by omega)]; omega
      have hts := fun (q : Int) => todo_step (q := q) ht hm
      obtain ⟨c, hcc⟩ : ∃ c, UInt8.ofNat (48 + m.natAbs % 10) = c := ⟨_, rfl⟩
      rw [hcc] at hd
      simp only [hcc] at hts
      clear hcc ht
      by_cases hp : 0 < m
      · have d0 : 0 ≤ m % 10 := by omega
        have d1 : m % 10 < 10 := by omega
        have hc := one_byte c (48 + m % 10) (by omega) wr
        have HT := Lib.hid (hts (m / 10) (by omega) (by omega) (by omega))
        clear hts hd
        go_wp2
        go_roundw
        case rel => exact ⟨_, _, rfl, rfl, HT.out, hf.trans ((Below.refl _ _).alloc (Nat.le_refl _) _)⟩
        case measure => simp [RowKit.intOf]; omega
      · have e : m.tmod 10 = -((-m) % 10) := by rw [← Int.tmod_eq_emod_of_nonneg (by omega), Int.neg_tmod, Int.neg_neg]
        have e' : m.tdiv 10 = -((-m) / 10) := by rw [← Int.tdiv_eq_ediv_of_nonneg (by omega), Int.neg_tdiv, Int.neg_neg]
        have HT := Lib.hid (hts (m.tdiv 10) (by omega) (by omega) (by omega))
        obtain ⟨t, he⟩ : ∃ t, m.tmod 10 = t := ⟨_, rfl⟩
        have d0 : t ≤ 0 := by omega
        have d1 : -10 < t := by omega
        have q0 : -922337203685477581 ≤ m.tdiv 10 := by omega
        have q1 : m.tdiv 10 ≤ 0 := by omega
        have q2 : (m.tdiv 10).natAbs < m.natAbs := by omega
        by_cases d2 : t < 0
        · have hc := one_byte c (48 + -t) (by omega) wr
          clear hts e e' hd
          go_wp2
          go_roundw
          case rel => exact ⟨_, _, rfl, rfl, HT.out, hf.trans ((Below.refl _ _).alloc (Nat.le_refl _) _)⟩
          case measure => exact q2
        · have d3 : t = 0 := by omega
          subst d3
          have hc := one_byte c 48 (by omega) wr
          clear hts e e' hd
          go_wp2
          go_roundw
          case rel => exact ⟨_, _, rfl, rfl, HT.out, hf.trans ((Below.refl _ _).alloc (Nat.le_refl _) _)⟩
          case measure => exact q2

theorem rtext_any (n : Int) (h0 : -9223372036854775808 ≤ n) (h1 : n ≤ 9223372036854775807) (w : World) :
    Calls Tryd.prog 28 #[.int .i64 n] w fun e w' => e = .returned (.string (txt n)) ∧ Fur w w' := by
  by_cases hn : n = 0
  · subst hn
    have e : txt 0 = ⟨#[48]⟩ := by
      unfold txt Lib.itoa
      rw [if_neg (by decide), show (0 : Int).toNat = 0 from rfl, Lib.decDigits_one (by decide)]
      rfl
    rw [e]; clear e
    go_enter Tryd.func28, Tryd.ntmps28
    go_wp2
    go_ret
    exact ⟨rfl, Fur.refl _⟩
  · exact rtext_loop n hn h0 h1 w
end Go.Proofs.YtaliaoncpemmoaaDoor
