/-
  The reference of package graph: the entries at a node, in order. Nothing that was there turns.
-/
import Derived.Test.YtcadeijloobbmaaGrN
namespace Go.Proofs.Ytcadeijloobbmaa
open Go.RowKit

/-- A list with a hole at k that y fills. -/
def holeL (L : List (Int × Int)) (k : Nat) (y : Int × Int) : List (Int × Int) := L.take k ++ y :: L.drop k
theorem hole_len (L : List (Int × Int)) (k : Nat) (y : Int × Int) : (holeL L k y).length = L.length + 1 := by
  unfold holeL
  rw [List.length_append, List.length_cons, List.length_take, List.length_drop]
  omega
theorem hole_end (L : List (Int × Int)) (a : Int × Int) : L ++ [a] = holeL L L.length a := by
  unfold holeL
  rw [List.take_length, List.drop_length]
theorem hole_at (L : List (Int × Int)) (k : Nat) (y : Int × Int) (h : k ≤ L.length) : (holeL L k y)[k]? = some y := by
  unfold holeL
  rw [List.getElem?_append_right (by rw [List.length_take]; omega), List.length_take, Nat.min_eq_left h, Nat.sub_self]; rfl
theorem hole_before (L : List (Int × Int)) (k : Nat) (y : Int × Int) (p : Nat) (h : p < k) (hk : k ≤ L.length) : (holeL L k y)[p]? = L[p]? := by
  unfold holeL
  rw [List.getElem?_append_left (by rw [List.length_take]; omega), List.getElem?_take_of_lt h]
theorem hole_set (L : List (Int × Int)) (k : Nat) (y z : Int × Int) (h : k ≤ L.length) : (holeL L k y).set k z = holeL L k z := by
  unfold holeL
  rw [List.set_append_right _ _ (by rw [List.length_take]; omega), List.length_take, Nat.min_eq_left h, Nat.sub_self]; rfl
theorem hole_down (L : List (Int × Int)) (p : Nat) (h : p < L.length) : holeL L (p + 1) L[p] = holeL L p L[p] := by
  unfold holeL
  rw [List.take_succ_eq_append_getElem h, List.append_assoc, List.drop_eq_getElem_cons h]
  rfl
theorem hole_srt (L : List (Int × Int)) (k : Nat) (a : Int × Int) (hs : SrtP L) (hk : k ≤ L.length) (h1 : ∀ (p : Nat) (hp : p < L.length), k = p + 1 → adjL a L[p] = false) (h2 : ∀ x ∈ L.drop k, adjL a x = true) : SrtP (holeL L k a) ∧ (holeL L k a).Perm (L ++ [a]) := by
  have e : L = L.take k ++ L.drop k := (List.take_append_drop k L).symm
  constructor
  · unfold SrtP holeL
    unfold SrtP at hs
    have hs2 := hs
    rw [e] at hs2
    obtain ⟨s1, s2, s3⟩ := List.pairwise_append.1 hs2
    refine List.pairwise_append.2 ⟨s1, List.pairwise_cons.2 ⟨fun x hx => adjL_asym (h2 x hx), s2⟩, fun x hx y hy => ?_⟩
    rcases List.mem_cons.1 hy with rfl | hy
    · obtain ⟨j, hj, rfl⟩ := List.getElem_of_mem hx
      rw [List.length_take] at hj
      rw [List.getElem_take]
      have hp : k - 1 < L.length := by omega
      have hl := h1 (k - 1) hp (by omega)
      rcases Nat.lt_or_eq_of_le (show j ≤ k - 1 by omega) with g | g
      · exact adjL_trans (List.pairwise_iff_getElem.1 hs j (k - 1) (by omega) hp g) hl
      · subst g; exact hl
    · exact s3 x hx y hy
  · unfold holeL
    have p1 : (L.take k ++ a :: L.drop k).Perm (a :: (L.take k ++ L.drop k)) := List.perm_middle
    rw [← e] at p1
    have p2 : (L ++ [a]).Perm (a :: L) := List.perm_append_comm
    exact p1.trans p2.symm
theorem aC_set (id : Int) : ∀ (L : List (Int × Int)) (k : Nat) (y : Int × Int), k < L.length → (((aC id L).set (k * 3) (.int .i64 id)).set (k * 3 + 1) (.int .i64 y.1)).set (k * 3 + 2) (.int .i64 y.2) = aC id (L.set k y)
  | x :: r, 0, y, _ => rfl
  | x :: r, k + 1, y, h => by
    have e1 : (k + 1) * 3 = k * 3 + 1 + 1 + 1 := by omega
    have e2 : (k + 1) * 3 + 1 = k * 3 + 1 + 1 + 1 + 1 := by omega
    have e3 : (k + 1) * 3 + 2 = k * 3 + 2 + 1 + 1 + 1 := by omega
    have ih := aC_set id r k y (by simpa using h)
    show (((aE id x ++ aC id r).set ((k + 1) * 3) _).set ((k + 1) * 3 + 1) _).set ((k + 1) * 3 + 2) _ = aE id x ++ aC id (r.set k y)
    rw [e3, e2, e1, ← ih]
    rfl
/-- Three cells of a slice that the call has made, stored to. -/
theorem own_put {w : World} {base g cap n : Nat} {id : Int} {L : List (Int × Int)} {k : Nat} {y : Int × Int} (h : w.ownsRow base 56 3 (.slice (some ⟨g, 0, none⟩) n cap) n (aC id L)) (hk : k < L.length) :
    (((w.setCell ⟨g, k * 3, none⟩ (.int .i64 id)).setCell ⟨g, k * 3 + 1, none⟩ (.int .i64 y.1)).setCell ⟨g, k * 3 + 2, none⟩ (.int .i64 y.2)).ownsRow base 56 3 (.slice (some ⟨g, 0, none⟩) n cap) n (aC id (L.set k y)) := by
  have h1 := ((((h.stored (k * 3) (.int .i64 id)).1).stored (k * 3 + 1) (.int .i64 y.1)).1.stored (k * 3 + 2) (.int .i64 y.2)).1
  rwa [aC_set id L k y hk] at h1
theorem own_hole {w : World} {base g cap n : Nat} {id : Int} {L : List (Int × Int)} {k p : Nat} {y z : Int × Int} (h : w.ownsRow base 56 3 (.slice (some ⟨g, 0, none⟩) n cap) n (aC id (holeL L k y))) (hk : k ≤ L.length) (e : holeL L k z = holeL L p z) :
    (((w.setCell ⟨g, k * 3, none⟩ (.int .i64 id)).setCell ⟨g, k * 3 + 1, none⟩ (.int .i64 z.1)).setCell ⟨g, k * 3 + 2, none⟩ (.int .i64 z.2)).ownsRow base 56 3 (.slice (some ⟨g, 0, none⟩) n cap) n (aC id (holeL L p z)) := by
  have q := own_put (y := z) h (show k < (holeL L k y).length by rw [hole_len]; omega)
  rwa [hole_set _ _ _ _ hk, e] at q
theorem own_at3 {w : World} {base g cap n : Nat} {id : Int} {L : List (Int × Int)} {k : Nat} {y : Int × Int} (h : w.ownsRow base 56 3 (.slice (some ⟨g, 0, none⟩) n cap) n (aC id L)) (hn : n = L.length) (hy : L[k]? = some y) :
    w.cell? ⟨g, k * 3, none⟩ = some (.int .i64 id) ∧ w.cell? ⟨g, k * 3 + 1, none⟩ = some (.int .i64 y.1) ∧ w.cell? ⟨g, k * 3 + 2, none⟩ = some (.int .i64 y.2) := by
  obtain ⟨hk, e⟩ := List.getElem?_eq_some_iff.1 hy
  subst hn
  have q : ∀ c, c < 3 → w.cell? ⟨g, k * 3 + c, none⟩ = (aE id L[k])[c]? := fun c hc => by
    rw [h.cellAt (k * 3 + c) (by omega), aC_get id L k c hc hk]
  rw [e] at q
  exact ⟨q 0 (by decide), q 1 (by decide), q 2 (by decide)⟩
end Go.Proofs.Ytcadeijloobbmaa
