/-
  Rows sorted by the reference: what it holds between its loops; no function is walked here.
-/
import Derived.Test.YteonkiajgfkieaaGreatDoorRwD
namespace Go.Proofs.YteonkiajgfkieaaGreatDoor
open Go.RowKit

theorem NstR.snoc {ps : List RPm} {p : RPm} {w : World} (h : NstR ps w) (k : SlV w p.2.1 p.1 p.2.2) : NstR (ps ++ [p]) w := fun q hq => by
  rcases List.mem_append.1 hq with e | e
  · exact h q e
  · rw [List.mem_singleton] at e; subst e; exact k
/-- The rows with one set in at k. -/
def insK (ps : List RPm) (k : Nat) (q : RPm) : List RPm := ps.take k ++ q :: ps.drop k
theorem insK_len (ps : List RPm) (k : Nat) (q : RPm) : (insK ps k q).length = ps.length + 1 := by
  unfold insK
  rw [List.length_append, List.length_cons, List.length_take, List.length_drop]; omega
theorem insK_end (ps : List RPm) (q : RPm) : insK ps ps.length q = ps ++ [q] := by
  unfold insK
  rw [List.take_of_length_le (Nat.le_refl _), List.drop_of_length_le (Nat.le_refl _)]
theorem insK_at (ps : List RPm) (k : Nat) (q : RPm) (h : k ≤ ps.length) (g : k < (insK ps k q).length) : (insK ps k q)[k] = q := by
  have e : (insK ps k q)[k]? = some q := by
    unfold insK
    rw [List.getElem?_append_right (by rw [List.length_take]; omega), List.length_take, show k - min k ps.length = 0 by omega]
    rfl
  rw [List.getElem?_eq_getElem g] at e
  exact Option.some.inj e
theorem insK_before (ps : List RPm) (k j : Nat) (q : RPm) (h : j < k) (hk : k ≤ ps.length) (g : j < (insK ps k q).length) : (insK ps k q)[j] = ps[j]'(by omega) := by
  have e : (insK ps k q)[j]? = some (ps[j]'(by omega)) := by
    unfold insK
    rw [List.getElem?_append_left (by rw [List.length_take]; omega), List.getElem?_take_of_lt h, List.getElem?_eq_getElem (by omega)]
  rw [List.getElem?_eq_getElem g] at e
  exact Option.some.inj e
theorem insK_put (ps : List RPm) (k : Nat) (q q' : RPm) (h : k ≤ ps.length) : (insK ps k q).set k q' = insK ps k q' := by
  unfold insK
  rw [List.set_append_right _ _ (by rw [List.length_take]; omega)]
  rw [List.length_take, show k - min k ps.length = 0 by omega]
  rfl
/-- One step to the left. -/
theorem insK_step (ps : List RPm) (k : Nat) (q : RPm) (h : k + 1 ≤ ps.length) : (insK ps (k + 1) q).set (k + 1) (ps[k]'(by omega)) = insK ps k (ps[k]'(by omega)) := by
  rw [insK_put ps (k + 1) q _ h]
  unfold insK
  rw [List.take_succ_eq_append_getElem (by omega), List.append_assoc, List.drop_eq_getElem_cons (show k < ps.length by omega)]
  rfl
theorem insK_mem {ps : List RPm} {k : Nat} {q p : RPm} (h : p ∈ insK ps k q) : p ∈ ps ∨ p = q := by
  unfold insK at h
  rcases List.mem_append.1 h with h | h
  · exact .inl (List.mem_of_mem_take h)
  · rcases List.mem_cons.1 h with h | h
    · exact .inr h
    · exact .inl (List.mem_of_mem_drop h)
theorem insK_fst (ps : List RPm) (k : Nat) (x : List Vl) (a : Option Addr) (c : Nat) : (insK ps k (x, a, c)).map Prod.fst = (ps.map Prod.fst).take k ++ x :: (ps.map Prod.fst).drop k := by
  unfold insK
  rw [List.map_append, List.map_cons, List.map_take, List.map_drop]
/-- Where the inner loop stops. -/
theorem insK_done {ps : List RPm} {k : Nat} {x : List Vl} (a : Option Addr) (c : Nat) (hs : SrtR (ps.map Prod.fst)) (hk : k ≤ ps.length) (hb : ∀ h : 0 < k, ordL (ps[k - 1]'(by omega)).1 x ≤ 0) (ha : ∀ h : k < ps.length, 0 < ordL ps[k].1 x) :
    (insK ps k (x, a, c)).map Prod.fst = insR x (ps.map Prod.fst) := by
  rw [insK_fst, insR_at x (ps.map Prod.fst) k (by rw [List.length_map]; exact hk) ?_ ?_]
  · intro j hj hjk
    rw [List.length_map] at hj
    rw [List.getElem_map]
    rcases Nat.lt_or_ge j (k - 1) with g | g
    · refine ordL_trans ?_ (hb (by omega))
      have := List.pairwise_iff_getElem.1 hs j (k - 1) (by rw [List.length_map]; omega) (by rw [List.length_map]; omega) g
      rwa [List.getElem_map, List.getElem_map] at this
    · obtain rfl : j = k - 1 := by omega
      exact hb (by omega)
  · intro h
    rw [List.length_map] at h
    rw [List.getElem_map]
    exact ha h
/-- A store into the rows. -/
theorem own_put {w : World} {base g n cap k : Nat} {ps : List RPm} {q : RPm} (h : w.ownsRow base 23 1 (.slice (some ⟨g, 0, none⟩) n cap) n (ps.map hdr)) : (w.setCell ⟨g, k, none⟩ (hdr q)).ownsRow base 23 1 (.slice (some ⟨g, 0, none⟩) n cap) n ((ps.set k q).map hdr) := by
  have := (h.stored k (hdr q)).1
  rwa [List.map_set]
theorem kb_put {lo g k : Nat} {u : Value} {w : World} {P : World → Prop} (h : Kb lo (some g) w P) : Kb lo (some g) (w.setCell ⟨g, k, none⟩ u) P :=
  h.on (by simp) (fun b _ _ hne => by
    have : g ≠ b := fun e => hne (by rw [e])
    simp [World.setCell, Array.getElem?_modify, this]) (.inl rfl)
end Go.Proofs.YteonkiajgfkieaaGreatDoor
