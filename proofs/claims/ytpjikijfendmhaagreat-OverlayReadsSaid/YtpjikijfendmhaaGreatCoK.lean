
/-
  slices.SortFunc of a slice of entries that a call has made. Nothing that was there turns.
-/
import Derived.Test.YtpjikijfendmhaaGreatCoA
import Derived.Test.YtpjikijfendmhaaGreatShelf
namespace Go.Proofs.YtpjikijfendmhaaGreat
open Go.RowKit Go.Sort Go.Shelf

theorem flat_eq (L : List Aj) : (flatK aE 3 L.toArray).toList = aC L := by
  apply List.ext_getElem?
  intro t
  by_cases h : t < L.length * 3
  · have e : t = t / 3 * 3 + t % 3 := by omega
    have h1 : t / 3 < L.length := by omega
    have k := aC_get L (t / 3) (t % 3) (by omega) h1
    rw [← e] at k
    rw [k]
    have hz : t < (flatK aE 3 L.toArray).size := by rw [size_flatK]; simpa using h
    have g := get_flatK aE 3 L.toArray t (by simpa using h)
    rw [getElem!_pos _ t hz, getElem!_pos L.toArray (t / 3) (by simpa using h1)] at g
    have h3 : t % 3 < (aE L[t / 3]).length := by show t % 3 < 3; omega
    rw [Array.getElem?_toList, Array.getElem?_eq_getElem hz, g, List.getElem?_eq_getElem h3]
    simp only [List.getElem_toArray]
    rw [getElem!_pos (aE L[t / 3]) (t % 3) h3]
  · rw [List.getElem?_eq_none (by rw [Array.length_toList, size_flatK]; simpa using h), List.getElem?_eq_none (by rw [aC_len]; omega)]
theorem heap_srt {w : World} {g n : Nat} {os : Array Obj} {cur : Array Value} {e : TypeId} {fr : Nat × Nat} (F : Array Value) (hb : w.heap[g]? = some (.cells cur e fr)) :
    (grow (putRow id (Sort.ahead w n) g 0 F) os).heap[g]? = some (.cells (putCells id 0 F cur) e fr) := by
  have hg : g < w.heap.size := (Array.getElem?_eq_some_iff.1 hb).1
  rw [heap_grow_old _ _ (by simpa using hg)]
  simp [putRow, mapBlock, Sort.ahead, Array.getElem?_modify, hb, onCells]
theorem grown_srt {w : World} {g n : Nat} {os : Array Obj} (F : Array Value) : w.grownBy (grow (putRow id (Sort.ahead w n) g 0 F) os) (some g) := by
  refine ⟨rfl, rfl, rfl, by simp, fun k hk hne => ?_⟩
  rw [heap_grow_old _ _ (by simpa using hk)]
  have : g ≠ k := fun e => hne (by rw [e])
  simp [putRow, mapBlock, Sort.ahead, Array.getElem?_modify, this]
theorem take_put (cur F : Array Value) (h : F.size ≤ cur.size) : (putCells id 0 F cur).toList.take F.size = F.toList := by
  apply List.ext_getElem?
  intro j
  by_cases hj : j < F.size
  · rw [List.getElem?_take_of_lt hj, Array.getElem?_toList, Array.getElem?_toList]
    simp [putCells, hj, show j < cur.size by omega]
  · rw [List.getElem?_take_eq_none (by omega), List.getElem?_eq_none (by simpa using hj)]
theorem fur_grow {W W' : World} (h : Fur W W') : ∃ q os', W' = grow (W.drewN q) os' := by
  refine ⟨W'.drawn - W.drawn, W'.heap.extract W.heap.size W'.heap.size, ?_⟩
  have hd := h.dr
  have hs := h.size
  obtain ⟨h1, h2, h3, h4, h5⟩ := h.b
  cases W with | mk hp tp dr o out =>
  cases W' with | mk hp' tp' dr' o' out' =>
  simp only at hd hs h1 h2 h3 h4 h5 ⊢
  subst h1 h2 h3
  unfold grow World.drewN
  simp only [World.mk.injEq, true_and, and_true]
  refine ⟨?_, by omega⟩
  apply Array.ext_getElem?
  intro k
  by_cases hk : k < hp.size
  · rw [h5 k hk, Array.getElem?_append_left hk]
  · rw [Array.getElem?_append_right (by omega), Array.getElem?_extract]
    by_cases hk2 : k < hp'.size
    · rw [if_pos (by omega)]
      congr 1
      omega
    · rw [if_neg (by omega), Array.getElem?_eq_none (by omega)]
theorem adj_lt (a b : Aj) : ltOf adjc a b = adjL a b := by unfold ltOf; exact adjc_lt a b
theorem adj_swo : SWO (ltOf adjc) where
  irrefl x := by rw [adj_lt]; exact adjL_irr x
  trans x y z h1 h2 := by
    rw [adj_lt] at *
    exact adjL_tr h1 h2
  ntrans x y z h1 h2 := by
    rw [adj_lt] at *
    have h' : ¬ adjL x y = true := by rw [h1]; decide
    have k' : ¬ adjL y z = true := by rw [h2]; decide
    rw [Bool.eq_false_iff]; intro g
    rw [adjL_iff] at *; omega
theorem adj_eq {x y : Aj} (hx : adjL x y = false) (hy : adjL y x = false) : x = y := adjL_tri hx hy
theorem isAggJ : ∀ w, (isAgg 42).run Tryz.prog w = .ok true w := Tryz.isAgg42
theorem sizeJ : ∀ w, (Go.sizeOf 42).run Tryz.prog w = .ok 3 w := Tryz.sizeOf42
theorem adj_lays {f : Nat} (h : Ords f) (blk off size : Nat) (w : World) : CmpLays Tryz.prog f #[] aE 3 adjc blk off size w := fun _ _ _ _ x y =>
  (h x y _).mono fun _ _ ⟨he, hf⟩ => ⟨he, fur_grow hf⟩
/-- SortFunc of a slice that the call has made: the entries in order. -/
theorem srt_own {f : Nat} (hO : Ords f) (eg : ∀ args w, (callFunc f args).run Tryz.prog w = .ok (.enter f args) w) {w0 w : World} {base : Nat} {v : Value} {L : List Aj} (h : w.ownsRow base 42 3 v L.length (aC L)) (hb0 : w0.heap.size ≤ base) (F : Fuw w0 w) (hl : L.length ≤ 1000000) :
    Calls Tryz.prog 45 #[v, .func (.func f) #[] #[]] w fun e w' => e = .returned (.tuple #[]) ∧ w'.ownsRow base 42 3 v (srtJ L).length (aC (srtJ L)) ∧ Fuw w0 w' := by
  have hlen := (srtJ_perm L).length_eq
  rcases h.2 with ⟨rfl, h0⟩ | ⟨g, cap, cur, rfl, hb, hh, h1, h2, h3, h4⟩
  · have e := List.length_eq_zero_iff.1 h0
    subst e
    rw [show srtJ [] = [] from List.eq_nil_of_length_eq_zero hlen]
    refine (AnyF.slices_SortFunc_none { Tryz.lays45 with } none 0 _ w).mono ?_
    rintro e w' ⟨rfl, rfl⟩
    exact ⟨rfl, World.ownsRow_nil _ _ _ _, F⟩
  · have hF : (flatK aE 3 L.toArray).size = L.length * 3 := by rw [size_flatK]; simp
    have hg : g < w.heap.size := (Array.getElem?_eq_some_iff.1 hh).1
    have hH : HoldsK aE 3 w g 0 L.toArray := by
      intro j hj
      rw [hF] at hj
      refine ⟨?_, by simp [World.frozen?, hh]⟩
      rw [Nat.zero_add, cell_of_row w g j cur _ (0, 0) hh]
      have k : (cur.toList.take (L.length * 3))[j]? = (aC L)[j]? := by rw [h4]
      rw [List.getElem?_take_of_lt hj, Array.getElem?_toList] at k
      rw [k, ← flat_eq, Array.getElem?_toList, Array.getElem?_eq_getElem (by rw [hF]; exact hj), getElem!_pos _ j (by rw [hF]; exact hj)]
      rfl
    have hcon := AnyQ.slices_SortFunc_total Tryz.lays45 3 isAggJ sizeJ aE (fun _ => rfl) (fun x v hv => by simp [aE] at hv; rcases hv with rfl | rfl | rfl <;> rfl) adjc adj_swo f #[] g 0 cap L.toArray w eg (adj_lays hO g 0 _ w) hH hg (by simp; omega)
      (fun x y hx hy => by rw [adj_lt] at hx hy; exact adj_eq hx hy)
    change Calls Tryz.prog 45 _ _ _ at hcon
    rw [show L.toArray.size = L.length from List.size_toArray ..] at hcon
    refine hcon.mono ?_
    rintro e w' ⟨rfl, n, os, rfl⟩
    have hS : (L.mergeSort fun x y => !(ltOf adjc) y x) = srtJ L := by
      unfold srtJ
      congr 1
      funext a b
      rw [adj_lt]
    have hS' : (L.toArray.toList.mergeSort fun x y => !(ltOf adjc) y x).toArray = (srtJ L).toArray := by rw [← hS]
    rw [hS']
    have hF' : (flatK aE 3 (srtJ L).toArray).size = L.length * 3 := by rw [size_flatK]; simp [hlen]
    refine ⟨rfl, ⟨by rw [aC_len], .inr ⟨g, cap, _, by rw [hlen], hb, heap_srt _ hh, by omega, h2, by simp [putCells, h3], ?_⟩⟩, Below.grown F (grown_srt _) F.size (fun k hk => by cases hk; omega)⟩
    rw [hlen, ← hF', take_put cur _ (by rw [hF']; omega), flat_eq]
end Go.Proofs.YtpjikijfendmhaaGreat
