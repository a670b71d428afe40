
/-
  The reference of package value: Weigh of every value in memory: what is left of a budget. Nothing that was there turns.
-/
import Derived.Test.YtcadeijloobbmaaLvE
namespace Go.Proofs.Ytcadeijloobbmaa
open Go.RowKit

/-- What is left of a budget behind a value. -/
def weiV : Nat → Vl → Int → Int
  | 0, _, _ => -1
  | m + 1, x, a => x.ll.foldl (fun a y => if a < 0 then a else weiV m y a) (a - 1 - ((x.ss.length / 50 : Nat) : Int))
/-- .. behind values. -/
def weiL (m : Nat) (l : List Vl) (a : Int) : Int := l.foldl (fun a y => if a < 0 then a else weiV m y a) a
theorem weiV_s (m : Nat) (x : Vl) (a : Int) : weiV (m + 1) x a = weiL m x.ll (a - 1 - ((x.ss.length / 50 : Nat) : Int)) := rfl
theorem weiL_neg (m : Nat) : ∀ (l : List Vl) {a : Int} (_ : a < 0), weiL m l a = a
  | [], _, _ => rfl
  | y :: r, a, h => by
    show weiL m r (if a < 0 then a else weiV m y a) = a
    rw [if_pos h]; exact weiL_neg m r h
theorem weiL_cons (m : Nat) (y : Vl) (r : List Vl) {a : Int} (h : 0 ≤ a) : weiL m (y :: r) a = weiL m r (weiV m y a) := by
  show weiL m r (if a < 0 then a else weiV m y a) = _
  rw [if_neg (by omega)]
mutual
theorem weiV_lt : ∀ (m : Nat) (x : Vl) {a : Int} (_ : 0 ≤ a), weiV m x a < a
  | 0, _, a, h => by show (-1 : Int) < a; omega
  | m + 1, x, a, h => by
    rw [weiV_s]
    have := weiL_le m x.ll (a - 1 - ((x.ss.length / 50 : Nat) : Int))
    omega
theorem weiL_le : ∀ (m : Nat) (l : List Vl) (a : Int), weiL m l a ≤ a
  | m, [], a => Int.le_refl _
  | m, y :: r, a => by
    by_cases h : a < 0
    · rw [weiL_neg m _ h]; exact Int.le_refl _
    · rw [weiL_cons m y r (by omega)]
      have k1 := weiL_le m r (weiV m y a)
      have k2 := weiV_lt m y (a := a) (by omega)
      omega
end
theorem weiL_drop (m : Nat) (l : List Vl) (i : Nat) (h : i < l.length) {a : Int} (ha : 0 ≤ a) : weiL m (l.drop i) a = weiL m (l.drop (i + 1)) (weiV m l[i] a) := by
  rw [List.drop_eq_getElem_cons h, weiL_cons m _ _ ha]
/-! Light. -/
/-- A slice of rows. -/
structure RsV (w : World) (ao : Option Addr) (rows : List (List Vl)) (cap : Nat) : Prop where
  le : rows.length ≤ cap
  max : cap ≤ maxLen
  nil : ao = none → cap = 0
  at_ : 0 < rows.length → ∃ b o, ao = some ⟨b, o, none⟩ ∧ ∀ (j : Nat) (h : j < rows.length), ∃ a c, w.cell? ⟨b, o + j, none⟩ = some (.slice a rows[j].length c) ∧ SlV w a rows[j] c
theorem RsV.on {w w' : World} {ao : Option Addr} {rows : List (List Vl)} {cap : Nat} (h : RsV w ao rows cap) (hf : Fur w w') : RsV w' ao rows cap :=
  ⟨h.le, h.max, h.nil, fun hp => by
    obtain ⟨b, o, e, hc⟩ := h.at_ hp
    refine ⟨b, o, e, fun j hj => ?_⟩
    obtain ⟨a, c, h1, h2⟩ := hc j hj
    exact ⟨a, c, cellOn hf h1, h2.on hf⟩⟩
theorem RsV.onw {w w' : World} {ao : Option Addr} {rows : List (List Vl)} {cap : Nat} (h : RsV w ao rows cap) (hf : Fuw w w') : RsV w' ao rows cap :=
  ⟨h.le, h.max, h.nil, fun hp => by
    obtain ⟨b, o, e, hc⟩ := h.at_ hp
    refine ⟨b, o, e, fun j hj => ?_⟩
    obtain ⟨a, c, h1, h2⟩ := hc j hj
    exact ⟨a, c, cellOnw hf h1, h2.onw hf⟩⟩
/-- What is left of a budget behind rows. -/
def ligV (rows : List (List Vl)) (a : Int) : Int := rows.foldl (fun a r => if a < 0 then a else weiL 12 r (a - 1)) a
theorem ligV_neg : ∀ (rows : List (List Vl)) {a : Int} (_ : a < 0), ligV rows a = a
  | [], _, _ => rfl
  | y :: r, a, h => by
    show ligV r (if a < 0 then a else weiL 12 y (a - 1)) = a
    rw [if_pos h]; exact ligV_neg r h
theorem ligV_drop (rows : List (List Vl)) (i : Nat) (h : i < rows.length) {a : Int} (ha : 0 ≤ a) : ligV (rows.drop i) a = ligV (rows.drop (i + 1)) (weiL 12 rows[i] (a - 1)) := by
  rw [List.drop_eq_getElem_cons h]
  show ligV _ (if a < 0 then a else weiL 12 _ (a - 1)) = _
  rw [if_neg (by omega)]
theorem ligV_le : ∀ (rows : List (List Vl)) (a : Int), ligV rows a ≤ a
  | [], a => Int.le_refl _
  | y :: r, a => by
    by_cases h : a < 0
    · rw [ligV_neg _ h]; exact Int.le_refl _
    · show ligV r (if a < 0 then a else weiL 12 y (a - 1)) ≤ a
      rw [if_neg h]
      have k1 := ligV_le r (weiL 12 y (a - 1))
      have k2 := weiL_le 12 y (a - 1)
      omega
end Go.Proofs.Ytcadeijloobbmaa
