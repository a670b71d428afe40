/-
  The reference of package schema: decimal numerals of ints that are not negative (digits). Nothing that was there turns.
-/
import Derived.Test.YtadnaakbhgacgaaDoorScK
import Derived.Laws.IdiomStrings
import Derived.Lib.ItoaLen
namespace Go.Proofs.YtadnaakbhgacgaaDoor
open Go.RowKit Go.Lib

/-- 'string' of a slice of one byte that was just laid. -/
theorem one_byte (c : UInt8) (x : Int) (hx : x = (c.toNat : Int)) (w : World) :
    (convert 61 9 (.slice (some ⟨w.heap.size, 0, none⟩) 1 1)).run Tryd.prog (w.alloc (.cells #[.int .u8 x] 5)) = .ok (.string ⟨#[c]⟩) (w.alloc (.cells #[.int .u8 x] 5)) := by
  subst hx
  exact run_convert_bytes_back (P := Tryd.prog) (w.alloc (.cells #[.int .u8 (c.toNat : Int)] 5)) 61 9 5 ⟨w.heap.size, 0, none⟩ 1 [c] Tryd.underlying61 Tryd.underlying5 Tryd.underlying9 (fun j hj => by
    have e : j = 0 := by simpa using hj
    subst e
    exact (World.cell?_alloc_mark w #[.int .u8 (c.toNat : Int)] 5 (0, 0) 0).trans rfl)

theorem dg_size {n m : Nat} {s : ByteArray} (h : decDigits m ++ s.data.toList = decDigits n) (h0 : n ≤ 4000) : s.size ≤ 100 := by
  have a := congrArg List.length h
  have e0 : itoa (n : Int) = decDigits n := by unfold itoa; rw [if_neg (by omega)]; rfl
  have b := Lib.itoa_length_le (n : Int) (by omega) (by omega)
  rw [e0] at b
  rw [List.length_append] at a
  have e : s.data.toList.length = s.size := Array.length_toList
  omega
theorem dg_step {n m : Nat} {s : ByteArray} (h : decDigits m ++ s.data.toList = decDigits n) (hm : 10 ≤ m) : decDigits (m / 10) ++ (({ data := #[UInt8.ofNat (48 + m % 10)] } ++ s : ByteArray)).data.toList = decDigits n := by
  rw [← h, show decDigits m = decDigits (m / 10) ++ [UInt8.ofNat (48 + m % 10)] from by rw [decDigits, dif_neg (by omega)], ByteArray.data_append]
  simp
theorem dg_end {n m : Nat} {s : ByteArray} (h : decDigits m ++ s.data.toList = decDigits n) (hm : m < 10) : (({ data := #[UInt8.ofNat (48 + m)] } ++ s : ByteArray)) = bs (itoa (n : Int)) := by
  have e0 : itoa (n : Int) = decDigits n := by unfold itoa; rw [if_neg (by omega)]; rfl
  rw [e0, ← h, decDigits, dif_pos hm]
  apply ByteArray.ext
  rw [ByteArray.data_append]
  apply Array.toList_inj.1
  simp [bs]
set_option maxHeartbeats 1600000 in
set_option maxRecDepth 100000 in
theorem rdigits (n : Nat) (h0 : n ≤ 4000) (w : World) : Calls Tryd.prog 38 #[.int .i64 (n : Int)] w (FwT w (bs (itoa (n : Int)))) := by
  go_enter Tryd.func38, Tryd.ntmps38
  go_wp2
  go_loopw [0, 3] (fun y x wr => ∃ (s : ByteArray) (m : Nat), x = .string s ∧ y = .int .i64 (m : Int) ∧ Hid (decDigits m ++ s.data.toList = decDigits n) ∧ m ≤ 4000 ∧ Hid (Fuw w wr)) (fun y _ _ => (RowKit.intOf y).natAbs)
  case atStart => exact ⟨_, n, rfl, rfl, Lib.hid (by simp), h0, Lib.hid (Fuw.refl _)⟩
  case round =>
    obtain ⟨s, m, rfl, rfl, ht, hm, hf⟩ := hrel
    have hsz := dg_size ht.out h0
    have hmI : (m : Int) ≤ 4000 := by omega
    have hm0 : (0 : Int) ≤ m := by omega
    by_cases hlt : m ≤ 9
    · have hlI : ¬ 9 < (m : Int) := by omega
      have HE := Lib.hid (dg_end ht.out (by omega))
      obtain ⟨c, hcc⟩ : ∃ c, UInt8.ofNat (48 + m) = c := ⟨_, rfl⟩
      have hd : (c.toNat : Int) = 48 + (m : Int) := by rw [← hcc, digit_nat (by omega)]; omega
      rw [hcc] at HE
      clear hcc ht
      have hc := one_byte c (48 + (m : Int)) (by omega) wr
      clear hd
      go_wp2
      go_ret
      exact ⟨ret_str HE.out, hf.out.trans (fuwA _ _)⟩
    · have hlI : 9 < (m : Int) := by omega
      have HT := Lib.hid (dg_step ht.out (by omega))
      obtain ⟨c, hcc⟩ : ∃ c, UInt8.ofNat (48 + m % 10) = c := ⟨_, rfl⟩
      have hd : (c.toNat : Int) = 48 + (m : Int) % 10 := by rw [← hcc, digit_nat (by omega)]; omega
      rw [hcc] at HT
      clear hcc ht
      have d0 : 0 ≤ (m : Int) % 10 := by omega
      have d1 : (m : Int) % 10 < 10 := by omega
      have hc := one_byte c (48 + (m : Int) % 10) (by omega) wr
      have HQ := Lib.hid (show ((m / 10 : Nat) : Int) = (m : Int) / 10 by omega)
      have hm2 : m / 10 ≤ 4000 := by omega
      clear hd
      go_wp2
      go_roundw
      case rel => exact ⟨_, m / 10, rfl, by rw [HQ.out], HT, hm2, Lib.hid (hf.out.trans (fuwA _ _))⟩
      case measure => simp [RowKit.intOf]; omega
end Go.Proofs.YtadnaakbhgacgaaDoor
