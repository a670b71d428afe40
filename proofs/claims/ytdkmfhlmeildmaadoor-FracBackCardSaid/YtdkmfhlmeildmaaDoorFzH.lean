/-
  strings.Cut at a slash: what stands before the first slash, what stands behind it, whether there is one. For every string; nothing that was there turns.
-/
import Derived.Test.YtdkmfhlmeildmaaDoorNumT
import Derived.Test.YtdkmfhlmeildmaaDoorFzA
import Derived.Lib.CutLaws
namespace Go.Proofs.YtdkmfhlmeildmaaDoor
open Go.RowKit

theorem slash_ne {s : ByteArray} (h : (⟨#[47]⟩ : ByteArray) ≠ s) : (([47] : List UInt8) == s.toList) = false := by
  rw [beq_eq_false_iff_ne]
  intro e
  rw [ByteArray.toList_eq] at e
  exact h (ByteArray.ext (Array.toList_inj.1 e))
theorem idx_one : Lib.indexByte (⟨#[47]⟩ : ByteArray).data.toList 47 = 0 := by simp [Lib.indexByte]
set_option maxRecDepth 100000 in
theorem idx_slash (s : ByteArray) (hs : s.size ≤ maxLen) (w : World) :
    Calls Tryd.prog 69 #[.string s, .string ⟨#[47]⟩] w fun e w' => e = .returned (.int .i64 (Lib.indexByte s.data.toList 47)) ∧ w' = w := by
  have CB := Lib.hid (fun w => Tryd.stringslite_IndexByte s 47 w)
  by_cases h : (⟨#[47]⟩ : ByteArray) = s
  · subst h
    rw [idx_one]
    clear CB
    go_enter Tryd.func69, Tryd.ntmps69
    go_wp2
    go_ret
    exact ⟨rfl, rfl⟩
  · have hb : (([47] : List UInt8) == s.toList) = false := slash_ne h
    go_enter Tryd.func69, Tryd.ntmps69
    go_wp2_with fail
    go_at_call 74; refine (CB.out _).mono ?_; rintro e w1 ⟨rfl, rfl⟩
    go_wp2
    go_ret
    exact ⟨rfl, rfl⟩

/-- What Cut gives at a slash. -/
def ctA (s : ByteArray) : ByteArray := if 0 ≤ Lib.indexByte s.data.toList 47 then s.extract 0 (Lib.indexByte s.data.toList 47).toNat else s
def ctB (s : ByteArray) : ByteArray := if 0 ≤ Lib.indexByte s.data.toList 47 then s.extract ((Lib.indexByte s.data.toList 47).toNat + 1) s.size else ⟨#[]⟩
def ctF (s : ByteArray) : Bool := decide (0 ≤ Lib.indexByte s.data.toList 47)
theorem idx_lt {s : ByteArray} {i : Nat} (h : Lib.indexByte s.data.toList 47 = (i : Int)) : i < s.size := by
  obtain ⟨h1, -⟩ := Lib.indexByte_some h
  have := (List.getElem?_eq_some_iff.1 h1).1
  simpa using this
set_option maxHeartbeats 800000 in
theorem scut_any (s : ByteArray) (hs : s.size ≤ maxLen) (w : World) :
    Calls Tryd.prog 64 #[.string s, .string ⟨#[47]⟩] w fun e w' => e = .returned (.tuple #[.string (ctA s), .string (ctB s), .bool (ctF s)]) ∧ Fur w w' := by
  have CI := Lib.hid (fun w => idx_slash s hs w)
  by_cases h : 0 ≤ Lib.indexByte s.data.toList 47
  · obtain ⟨i, hi⟩ : ∃ i : Nat, Lib.indexByte s.data.toList 47 = (i : Int) := ⟨(Lib.indexByte s.data.toList 47).toNat, by omega⟩
    have hl := idx_lt hi
    unfold ctA ctB ctF
    rw [hi] at CI ⊢
    rw [if_pos (Int.natCast_nonneg i), if_pos (Int.natCast_nonneg i), decide_eq_true (Int.natCast_nonneg i), Int.toNat_natCast]
    have c1 : (0 : Int) ≤ ↑i := by omega
    have c2 : (↑i : Int) ≤ ↑s.size := by omega
    have c3 : (0 : Int) ≤ ↑i + 1 := by omega
    have c4 : (↑i + 1 : Int) ≤ ↑s.size := by omega
    have hm : s.size ≤ 9223372036854775807 := by unfold maxLen at hs; omega
    clear h hi
    go_enter Tryd.func64, Tryd.ntmps64
    go_wp2_with fail
    go_at_call 69; refine (CI.out _).mono ?_; rintro e w1 ⟨rfl, rfl⟩
    go_wp2
    go_region
    go_wp2
    go_ret3
    exact ⟨rfl, (Fur.refl _).drew⟩
  · have e : Lib.indexByte s.data.toList 47 = -1 := by have := Lib.indexByte_ge s.data.toList 47; omega
    unfold ctA ctB ctF
    rw [e] at CI ⊢
    rw [if_neg (by decide), if_neg (by decide), decide_eq_false (by decide)]
    clear h e
    go_enter Tryd.func64, Tryd.ntmps64
    go_wp2_with fail
    go_at_call 69; refine (CI.out _).mono ?_; rintro e w1 ⟨rfl, rfl⟩
    go_wp2
    go_ret3
    exact ⟨rfl, Fur.refl _⟩
theorem cut_any (s : ByteArray) (hs : s.size ≤ maxLen) (w : World) :
    Calls Tryd.prog 50 #[.string s, .string ⟨#[47]⟩] w fun e w' => e = .returned (.tuple #[.string (ctA s), .string (ctB s), .bool (ctF s)]) ∧ Fur w w' := by
  have CC := Lib.hid (fun w => scut_any s hs w)
  generalize ctA s = a at *
  generalize ctB s = b at *
  generalize ctF s = c at *
  go_enter Tryd.func50, Tryd.ntmps50
  go_wp2_with fail
  go_at_call 64; refine (CC.out _).mono ?_; rintro e w1 ⟨rfl, f1⟩
  go_wp2
  go_ret3
  exact ⟨rfl, f1⟩
end Go.Proofs.YtdkmfhlmeildmaaDoor
