/-
  Plain mathematics of frames with one changed byte or a missing end. No program, no world.
-/
import Derived.Test.YtdkfelobmdpkiaaDoorCeD
namespace Go.Proofs.YtdkfelobmdpkiaaDoor

theorem le4_inj {a b : Nat} (ha : a < 4294967296) (hb : b < 4294967296) (h : le4 a = le4 b) : a = b := by
  have h1 := (le4_read ha (L := le4 b) rfl).1 h
  have h2 := (le4_read hb (L := le4 b) rfl).1 rfl
  omega
theorem frame_cons {l : List UInt8} (h : l.length < 128) : frameV l = l.length.toUInt8 :: (l ++ le4 (crc l)) := by
  unfold frameV
  rw [Lib.uvarint_small h]
  rfl
theorem uint_cons {n : Nat} (h : n < 128) (T : List UInt8) : uintV (n.toUInt8 :: T) 0 = ((n : Int), 1, 0) := by
  have k := rdv_uv (most := 9223372036854775807) (u := n) (by omega) (by omega) T
  rw [Lib.uvarint_small h] at k
  unfold uintV
  rw [if_neg (by rw [List.length_cons]; omega)]
  show (((rdv 9223372036854775807 (([n.toUInt8] ++ T).drop 0)).1 : Int), _, _) = _
  rw [List.drop_zero]
  simp only [show (0 : Int).toNat = 0 from rfl, List.drop_zero, show n.toUInt8 :: T = [n.toUInt8] ++ T from rfl, k]
  rfl
theorem unf_cons {n : Nat} (h : n < 128) {T : List UInt8} (hT : T.length = n + 4) : unframeV (n.toUInt8 :: T) 0 = if le4 (crc (T.take n)) ≠ T.drop n then ([], 0, 21) else (T.take n, (n : Int) + 5, 0) := by
  unfold unframeV
  rw [uint_cons h]
  simp only [ne_eq, not_true_eq_false, if_false]
  rw [if_neg (by rw [List.length_cons]; omega)]
  rw [show ((1 : Int)).toNat = 1 from rfl, show ((1 : Int) + (n : Int)).toNat = n + 1 by omega, Int.toNat_natCast]
  rw [List.drop_succ_cons, List.drop_zero, List.drop_succ_cons]
  rw [List.take_of_length_le (l := T.drop n) (by rw [List.length_drop]; omega)]
  split
  · rfl
  · congr 2
    omega
theorem unf_whole {l : List UInt8} (h : l.length < 128) : unframeV (frameV l) 0 = (l, (l.length : Int) + 5, 0) := by
  rw [frame_cons h, unf_cons h (by rw [List.length_append]; rfl), List.take_left, List.drop_left, if_neg (fun t => t rfl)]
theorem unf_short {l : List UInt8} (h : l.length < 128) {k : Nat} (h1 : 1 ≤ k) (h2 : k ≤ l.length + 4) : unframeV ((frameV l).take k) 0 = ([], 0, 3) := by
  rw [frame_cons h]
  obtain ⟨j, rfl⟩ : ∃ j, k = j + 1 := ⟨k - 1, by omega⟩
  rw [List.take_succ_cons]
  unfold unframeV
  rw [uint_cons h]
  simp only [ne_eq, not_true_eq_false, if_false]
  rw [if_pos (by rw [List.length_cons, List.length_take]; omega)]
theorem set_split {l : List UInt8} {j : Nat} (h : j < l.length) (x : UInt8) : l = l.take j ++ l[j] :: l.drop (j + 1) ∧ l.set j x = l.take j ++ x :: l.drop (j + 1) := by
  constructor
  · rw [← List.drop_eq_getElem_cons h, List.take_append_drop]
  · rw [List.set_eq_take_append_cons_drop, if_pos h]
theorem unf_spoilt {l : List UInt8} (h : l.length < 128) {k : Nat} (h1 : 1 ≤ k) (h2 : k ≤ l.length + 4) {x : UInt8} (hx : x ≠ (frameV l).getD k 0) : unframeV ((frameV l).set k x) 0 = ([], 0, 21) := by
  rw [frame_cons h] at hx ⊢
  obtain ⟨j, rfl⟩ : ∃ j, k = j + 1 := ⟨k - 1, by omega⟩
  rw [List.set_cons_succ]
  replace hx : x ≠ (l ++ le4 (crc l)).getD j 0 := hx
  have hs : (le4 (crc l)).length = 4 := rfl
  rw [unf_cons h (by rw [List.length_set, List.length_append]; rfl)]
  rw [if_pos]
  by_cases hj : j < l.length
  · rw [List.set_append_left _ _ hj]
    rw [List.take_left' (List.length_set ..), List.drop_left' (List.length_set ..)]
    intro e
    have e2 := le4_inj (crc_lt _) (crc_lt _) e
    obtain ⟨s1, s2⟩ := set_split hj x
    rw [s2] at e2
    have e3 : x = l[j] := by
      by_cases g : x = l[j]
      · exact g
      · exfalso
        refine crc_changed (p := l.take j) (r := l.drop (j + 1)) g ?_
        rw [e2, ← s1]
    apply hx
    rw [e3, List.getD_eq_getElem?_getD, List.getElem?_append_left hj, List.getElem?_eq_getElem hj]; rfl
  · rw [List.set_append_right _ _ (by omega)]
    rw [List.take_left, List.drop_left]
    intro e
    apply hx
    have hj4 : j - l.length < 4 := by omega
    have e2 := congrArg (fun L => L.getD (j - l.length) 0) e
    rw [List.getD_eq_getElem?_getD (l := (le4 (crc l)).set _ _), List.getElem?_set_self (by rw [hs]; exact hj4)] at e2
    rw [List.getD_eq_getElem?_getD, List.getElem?_append_right (by omega), ← List.getD_eq_getElem?_getD, e2]
    rfl
theorem xor8 (a b : Nat) (ha : a < 256) (hb : b < 256) : bits .xor .u8 (a : Int) (b : Int) = ((a ^^^ b : Nat) : Int) ∧ a ^^^ b < 256 ∧ (a ^^^ b = a → b = 0) := by
  have hlt : a ^^^ b < 256 := Nat.xor_lt_two_pow (n := 8) ha hb
  refine ⟨?_, hlt, fun h => ?_⟩
  · show IntKind.u8.wrap ((BitVec.ofInt 8 (a : Int) ^^^ BitVec.ofInt 8 (b : Int)).toNat : Int) = _
    have h1 : (BitVec.ofInt 8 (a : Int)).toNat = a := by
      rw [BitVec.ofInt_natCast, BitVec.toNat_ofNat]; exact Nat.mod_eq_of_lt (by omega)
    have h2 : (BitVec.ofInt 8 (b : Int)).toNat = b := by
      rw [BitVec.ofInt_natCast, BitVec.toNat_ofNat]; exact Nat.mod_eq_of_lt (by omega)
    rw [BitVec.toNat_xor, h1, h2, IntKind.wrap_u8]
    omega
  · have h2 := congrArg (fun n => a ^^^ n) h
    simpa [← Nat.xor_assoc] using h2
end Go.Proofs.YtdkfelobmdpkiaaDoor
