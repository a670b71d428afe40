/-
  Slices of bytes in memory, told by the list of what they hold, and their parts; a string made of one. No program's function is walked here.
-/
import Derived.Test.YtehmdeponbhhjaaDoorM00
import Derived.Test.YtehmdeponbhhjaaDoorCodM
import Derived.Test.YtehmdeponbhhjaaDoorProg
import Derived.WalkKit
import Derived.BigCall
import Derived.BigQuiet
import Derived.RegionTactic
import Derived.LoopTactic
import Derived.Deep.QuietTactic
import Derived.OwnWalk
import Derived.Laws.AppendOwnNone
import Derived.Laws.OwnMore
import Derived.Laws.BytesArg
import Derived.IntWalk
namespace Go.Proofs.YtehmdeponbhhjaaDoor
open Go.RowKit

theorem infoB : (Tryd.prog.info? 5).map (fun i => (i.zero, i.size, i.bytes)) = some (some (.int .u8 0), 1, 1) := by kernel_rfl

/-- A slice at ao, of capacity cap, holds the bytes l. -/
structure IsB (w : World) (ao : Option Addr) (l : List UInt8) (cap : Nat) : Prop where
  le : l.length ≤ cap
  max : cap ≤ maxLen
  nil : ao = none → cap = 0
  at_ : 0 < l.length → ∃ b off, ao = some ⟨b, off, none⟩ ∧ b < w.heap.size ∧ ∀ j, j < l.length → w.cell? ⟨b, off + j, none⟩ = some (.int .u8 ((l.getD j 0).toNat : Int))
theorem IsB.on {w w' : World} {ao : Option Addr} {l : List UInt8} {cap : Nat} (h : IsB w ao l cap) (hf : Fuw w w') : IsB w' ao l cap :=
  ⟨h.le, h.max, h.nil, fun hp => by
    obtain ⟨b, off, e, hb, hc⟩ := h.at_ hp
    exact ⟨b, off, e, Nat.lt_of_lt_of_le hb hf.size, fun j hj => (Below.cell hf (p := ⟨b, off + j, none⟩) hb).trans (hc j hj)⟩⟩
theorem IsB.empty (w : World) : IsB w none [] 0 := ⟨Nat.le_refl _, Nat.zero_le _, fun _ => rfl, fun h => absurd h (by decide)⟩
theorem IsB.len {w : World} {ao : Option Addr} {l : List UInt8} {cap : Nat} (h : IsB w ao l cap) : l.length ≤ 9223372036854775807 ∧ cap ≤ 9223372036854775807 := by
  have := h.le; have := h.max; unfold maxLen at this; omega

/-- A result is a slice that holds l; nothing that was there has turned. -/
def RetY (w : World) (l : List UInt8) (e : Ending) (w' : World) : Prop := ∃ ao cap, e = .returned (.slice ao l.length cap) ∧ IsB w' ao l cap ∧ Fuw w w'
/-- A number, an offset and a code. -/
def Ret3 (w : World) (k : IntKind) (u n c : Int) (e : Ending) (w' : World) : Prop := e = .returned (.tuple #[.int k u, .int .i64 n, .int .i64 c]) ∧ w = w'
theorem ret_3 {k : IntKind} {a b c a' b' c' : Int} (h1 : a = a') (h2 : b = b') (h3 : c = c') : Ending.returned (.tuple #[.int k a, .int .i64 b, .int .i64 c]) = .returned (.tuple #[.int k a', .int .i64 b', .int .i64 c']) := by rw [h1, h2, h3]
theorem ret_t3 {a a' : ByteArray} {b c b' c' : Int} (h1 : a = a') (h2 : b = b') (h3 : c = c') : Ending.returned (.tuple #[.string a, .int .i64 b, .int .i64 c]) = .returned (.tuple #[.string a', .int .i64 b', .int .i64 c']) := by rw [h1, h2, h3]

theorem byteCells_get {l : List UInt8} {j : Nat} (h : j < l.length) : (Lib.byteCells l)[j]? = some (.int .u8 ((l.getD j 0).toNat : Int)) := by
  unfold Lib.byteCells
  rw [List.getElem?_map, List.getElem?_eq_getElem h, byte_at h]; rfl
/-- What a call owns reads as its list. -/
theorem IsB.of_own {w : World} {base e : Nat} {v : Value} {n : Nat} {l : List UInt8} (h : w.ownsRow base e 1 v n (Lib.byteCells l)) : ∃ ao cap, v = .slice ao l.length cap ∧ n = l.length ∧ IsB w ao l cap := by
  have hl := h.1
  rw [Lib.byteCells_length, Nat.mul_one] at hl
  subst hl
  rcases h.2 with ⟨rfl, h0⟩ | ⟨g, cap, cur, rfl, hb, hh, h1, h2, h3, h4⟩
  · refine ⟨none, 0, by rw [h0], rfl, by omega, Nat.zero_le _, fun _ => rfl, fun hp => absurd hp (by omega)⟩
  · refine ⟨_, cap, rfl, rfl, h1, h2, (fun k => by cases k), fun _ => ⟨g, 0, rfl, ?_, fun j hj => ?_⟩⟩
    · rcases Nat.lt_or_ge g w.heap.size with k | k
      · exact k
      · rw [Array.getElem?_eq_none k] at hh; cases hh
    · have k := h.cells (g := g) rfl j (.int .u8 ((l.getD j 0).toNat : Int)) (byteCells_get hj)
      rw [Go.WideShapes.add_plain] at k
      exact k
/-- A part of a slice. -/
theorem IsB.sub {w : World} {ao : Option Addr} {l : List UInt8} {cap : Nat} (h : IsB w ao l cap) {lo hi m : Nat} (h1 : lo ≤ hi) (h2 : hi ≤ l.length) (h3 : hi ≤ m) (h4 : m ≤ cap) :
    IsB w (if m = lo then ao else ao.map (·.add (lo * 1))) ((l.drop lo).take (hi - lo)) (m - lo) := by
  have hl : ((l.drop lo).take (hi - lo)).length = hi - lo := by rw [List.length_take, List.length_drop]; omega
  refine ⟨by rw [hl]; omega, Nat.le_trans (Nat.sub_le _ _) (Nat.le_trans h4 h.max), fun e => ?_, fun hp => ?_⟩
  · by_cases g : m = lo
    · omega
    · rw [if_neg g] at e
      cases ao with
      | none => have := h.nil rfl; omega
      | some a => cases e
  · rw [hl] at hp
    obtain ⟨b, off, rfl, hb, hc⟩ := h.at_ (by omega)
    refine ⟨b, off + lo, ?_, hb, fun j hj => ?_⟩
    · rw [if_neg (by omega)]
      show some (Addr.add ⟨b, off, none⟩ (lo * 1)) = _
      rw [Nat.mul_one, Go.WideShapes.add_plain]
    · rw [hl] at hj
      rw [Nat.add_assoc, hc (lo + j) (by omega)]
      congr 4
      rw [List.getD_eq_getElem?_getD, List.getD_eq_getElem?_getD, List.getElem?_take_of_lt hj, List.getElem?_drop]
theorem size8 : (Tryd.prog.info? (Tryd.prog.elem 22)).map (·.size) = some 1 := by kernel_rfl
theorem elem8 : Tryd.prog.underlying 22 = some (.slice (Tryd.prog.elem 22)) := by kernel_rfl
theorem run_size8 (w : World) : (sizeOf (Tryd.prog.elem 22)).run Tryd.prog w = .ok 1 w := by
  have h := size8
  cases hi : Tryd.prog.info? (Tryd.prog.elem 22) with
  | none => rw [hi] at h; cases h
  | some i =>
    rw [hi] at h
    have e : i.size = 1 := Option.some.inj h
    simp [sizeOf, run_typeInfo, hi, e]
/-- s[lo:] -/
theorem slice_l {w : World} {ao : Option Addr} {l : List UInt8} {cap : Nat} (h : IsB w ao l cap) {lo : Nat} (h1 : lo ≤ l.length) :
    ∃ ao' l' cap', l' = l.drop lo ∧ IsB w ao' l' cap' ∧ ∀ w', (Instr.slice 22 (.slice ao l.length cap) (some (.int .i64 lo)) none none).run Tryd.prog w' = .ok (.slice ao' l'.length cap') w' := by
  have k := h.sub h1 (Nat.le_refl _) h.le (Nat.le_refl _)
  have e : (l.drop lo).take (l.length - lo) = l.drop lo := List.take_of_length_le (by rw [List.length_drop]; exact Nat.le_refl _)
  rw [e] at k
  refine ⟨_, _, _, rfl, k, fun w' => ?_⟩
  rw [run_slice_l w' _ _ _ _ elem8 .i64 _ (by omega) (by omega), run_size8]
  simp [Result.andThen, sliced, List.length_drop]
/-- s[lo:hi] -/
theorem slice_lh {w : World} {ao : Option Addr} {l : List UInt8} {cap : Nat} (h : IsB w ao l cap) {lo hi : Nat} (h1 : lo ≤ hi) (h2 : hi ≤ l.length) :
    ∃ ao' l' cap', l' = (l.drop lo).take (hi - lo) ∧ l'.length = hi - lo ∧ IsB w ao' l' cap' ∧ ∀ w', (Instr.slice 22 (.slice ao l.length cap) (some (.int .i64 lo)) (some (.int .i64 hi)) none).run Tryd.prog w' = .ok (.slice ao' l'.length cap') w' := by
  have hle := h.le
  have k := h.sub h1 h2 (Nat.le_trans h2 hle) (Nat.le_refl _)
  have hl : ((l.drop lo).take (hi - lo)).length = hi - lo := by rw [List.length_take, List.length_drop]; omega
  refine ⟨_, _, _, rfl, hl, k, fun w' => ?_⟩
  rw [run_slice_lh w' _ _ _ _ elem8 .i64 .i64 _ _ (by omega) (by omega) (by omega), run_size8, hl]
  simp [Result.andThen, sliced]
/-- s[lo:hi:hi] -/
theorem slice_lhm {w : World} {ao : Option Addr} {l : List UInt8} {cap : Nat} (h : IsB w ao l cap) {lo hi : Nat} (h1 : lo ≤ hi) (h2 : hi ≤ l.length) :
    ∃ ao' l' cap', l' = (l.drop lo).take (hi - lo) ∧ l'.length = hi - lo ∧ IsB w ao' l' cap' ∧ ∀ w', (Instr.slice 22 (.slice ao l.length cap) (some (.int .i64 lo)) (some (.int .i64 hi)) (some (.int .i64 hi))).run Tryd.prog w' = .ok (.slice ao' l'.length cap') w' := by
  have hle := h.le
  have k := h.sub (m := hi) h1 h2 (Nat.le_refl _) (Nat.le_trans h2 hle)
  have hl : ((l.drop lo).take (hi - lo)).length = hi - lo := by rw [List.length_take, List.length_drop]; omega
  refine ⟨_, _, _, rfl, hl, k, fun w' => ?_⟩
  rw [run_slice_lhm w' _ _ _ _ elem8 .i64 .i64 .i64 _ _ _ (by omega) (by omega) (by omega) (by omega), run_size8, hl]
  simp [Result.andThen, sliced]
/-- s[:len:len] -/
theorem slice_hm {w : World} {ao : Option Addr} {l : List UInt8} {cap : Nat} (h : IsB w ao l cap) :
    ∃ ao' cap', IsB w ao' l cap' ∧ ∀ w', (Instr.slice 22 (.slice ao l.length cap) none (some (.int .i64 l.length)) (some (.int .i64 l.length))).run Tryd.prog w' = .ok (.slice ao' l.length cap') w' := by
  have hle := h.le
  have k := h.sub (lo := 0) (m := l.length) (Nat.zero_le _) (Nat.le_refl _) (Nat.le_refl _) hle
  have e : (l.drop 0).take (l.length - 0) = l := by rw [List.drop_zero]; exact List.take_of_length_le (Nat.le_refl _)
  rw [e] at k
  refine ⟨_, _, k, fun w' => ?_⟩
  rw [run_slice_hm w' _ _ _ _ elem8 .i64 .i64 _ _ (by omega) (by omega) (by omega), run_size8]
  simp [Result.andThen, sliced]
/-- The string of bytes. -/
def yb (l : List UInt8) : ByteArray := ⟨l.toArray⟩
theorem yb_size (l : List UInt8) : (yb l).size = l.length := by simp [yb, ByteArray.size]
theorem yb_list (l : List UInt8) : (yb l).data.toList = l := by simp [yb]
theorem strOf_nums (l : List UInt8) : strOfNums (l.map fun c => (c.toNat : Int)) = yb l := by
  unfold strOfNums yb
  congr 2
  rw [List.map_map]
  conv => rhs; rw [← List.map_id l]
  apply List.map_congr_left
  intro c _
  show UInt8.ofNat ((c.toNat : Int)).toNat = c
  rw [Int.toNat_natCast, UInt8.ofNat_toNat]
theorem conv_bytes {w : World} {ao : Option Addr} {l : List UInt8} {cap : Nat} (h : IsB w ao l cap) : (convert 22 9 (.slice ao l.length cap)).run Tryd.prog w = .ok (.string (yb l)) w := by
  by_cases hp : 0 < l.length
  · obtain ⟨b, off, rfl, hb, hc⟩ := h.at_ hp
    have k := run_convert_bytes_arg (P := Tryd.prog) w 22 5 Tryd.underlying22 Tryd.underlying5 b off l.length cap (l.map fun c => (c.toNat : Int)) (List.length_map ..) (fun i hi => by
      rw [hc i hi]
      congr 2
      rw [List.getD_eq_getElem?_getD (l := l.map _), List.getElem?_map, List.getElem?_eq_getElem hi, byte_at hi]
      rfl) 9 Tryd.underlying9
    rw [k, strOf_nums]
  · have e : l = [] := List.length_eq_zero_iff.1 (by omega)
    subst e
    cases ao with
    | none => rw [run_convert_bytes_nil w 22 5 Tryd.underlying22 Tryd.underlying5 _ _ 9 Tryd.underlying9]; rfl
    | some a =>
      rw [run_convert_bytes_string w 22 9 5 (some a) _ _ Tryd.underlying22 Tryd.underlying5 Tryd.underlying9]
      show (Conv.bytesToString (.slice (some a) 0 cap)).run Tryd.prog w = _
      rw [run_bytesToString w a 0 cap [] (by rfl)]
      rfl
end Go.Proofs.YtehmdeponbhhjaaDoor
