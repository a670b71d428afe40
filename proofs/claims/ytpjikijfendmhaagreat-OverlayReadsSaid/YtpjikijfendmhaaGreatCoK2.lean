
/-
  slices.SortFunc of a slice of entries that a call has made: nothing turns but its own row. 
-/
import Derived.Test.YtpjikijfendmhaaGreatCoK
namespace Go.Proofs.YtpjikijfendmhaaGreat
open Go.RowKit Go.Sort Go.Shelf

/-- SortFunc of a slice that the call has made: the entries in order. -/
theorem srt_grown {f : Nat} (hO : Ords f) (eg : ∀ args w, (callFunc f args).run Tryz.prog w = .ok (.enter f args) w) {w : World} {base : Nat} {v : Value} {L : List Aj} (h : w.ownsRow base 42 3 v L.length (aC L)) (hl : L.length ≤ 1000000) :
    Calls Tryz.prog 45 #[v, .func (.func f) #[] #[]] w fun e w' => e = .returned (.tuple #[]) ∧ w'.ownsRow base 42 3 v (srtJ L).length (aC (srtJ L)) ∧ w.grownBy w' v.ownBlock := by
  have hlen := (srtJ_perm L).length_eq
  rcases h.2 with ⟨rfl, h0⟩ | ⟨g, cap, cur, rfl, hb, hh, h1, h2, h3, h4⟩
  · have e := List.length_eq_zero_iff.1 h0
    subst e
    rw [show srtJ [] = [] from List.eq_nil_of_length_eq_zero hlen]
    refine (AnyF.slices_SortFunc_none { Tryz.lays45 with } none 0 _ w).mono ?_
    rintro e w' ⟨rfl, rfl⟩
    exact ⟨rfl, World.ownsRow_nil _ _ _ _, rfl, rfl, rfl, Nat.le_refl _, fun _ _ _ => rfl⟩
  · have hF : (flatK aE 3 L.toArray).size = L.length * 3 := by rw [size_flatK]; simp
    have hg : g < w.heap.size := (Array.getElem?_eq_some_iff.1 hh).1
    have hH : HoldsK aE 3 w g 0 L.toArray := by
      intro j hj
      rw [hF] at hj
      refine ⟨?_, by simp [World.frozen?, hh]⟩
      rw [Nat.zero_add, cell_of_row w g j cur _ (0, 0) hh]
      have k : (cur.toList.take (L.length * 3))[j]? = (aC L)[j]? := by rw [h4]
      rw [List.getElem?_take_of_lt hj, Array.getElem?_toList] at k
      rw [k, ← flat_eq, Array.getElem?_toList, Array.getElem?_eq_getElem (by rw [hF]; exact hj), getElem!_pos _ j (by rw [hF]; exact hj)]
      rfl
    have hcon := AnyQ.slices_SortFunc_total Tryz.lays45 3 isAggJ sizeJ aE (fun _ => rfl) (fun x v hv => by simp [aE] at hv; rcases hv with rfl | rfl | rfl <;> rfl) adjc adj_swo f #[] g 0 cap L.toArray w eg (adj_lays hO g 0 _ w) hH hg (by simp; omega)
      (fun x y hx hy => by rw [adj_lt] at hx hy; exact adj_eq hx hy)
    change Calls Tryz.prog 45 _ _ _ at hcon
    rw [show L.toArray.size = L.length from List.size_toArray ..] at hcon
    refine hcon.mono ?_
    rintro e w' ⟨rfl, n, os, rfl⟩
    have hS : (L.mergeSort fun x y => !(ltOf adjc) y x) = srtJ L := by
      unfold srtJ
      congr 1
      funext a b
      rw [adj_lt]
    have hS' : (L.toArray.toList.mergeSort fun x y => !(ltOf adjc) y x).toArray = (srtJ L).toArray := by rw [← hS]
    rw [hS']
    have hF' : (flatK aE 3 (srtJ L).toArray).size = L.length * 3 := by rw [size_flatK]; simp [hlen]
    refine ⟨rfl, ⟨by rw [aC_len], .inr ⟨g, cap, _, by rw [hlen], hb, heap_srt _ hh, by omega, h2, by simp [putCells, h3], ?_⟩⟩, grown_srt _⟩
    rw [hlen, ← hF', take_put cur _ (by rw [hF']; omega), flat_eq]
end Go.Proofs.YtpjikijfendmhaaGreat
