/-
  Arguments that are slices of rows, or an array of two rows, opened. No statement is proved here.
-/
import Derived.Test.YteonkiajgfkieaaGreatDoorM39
import Derived.Test.YteonkiajgfkieaaGreatDoorVo
import Derived.OpenShut
namespace Go.Proofs.YteonkiajgfkieaaGreatDoor
open Go.ChangeShapes Go.WideShapes Go.ChangeAt Go.RowKit Go.Joins

set_option maxRecDepth 100000 in
/-- A row that can be read. -/
theorem tr_row {H : Type} {enc : TypeId × Value → H} {w : World} {sp : Nat → Bool} {fuel : Nat} {cs : List Value} {x : DataW H × List MemPlace}
    (h : DataW.trod enc Tryz.prog w 0 sp true fuel 23 cs = some x) : ∃ ao l cap, cs = [.slice ao l.length cap] ∧ SlV w ao l cap := by
  rcases DataW.trod_slice Tryz.underlying23 h with ⟨rfl, -⟩ | ⟨a, len, cap, elems, rest, n, hn, rfl, -, -, hl, hm, hlen, hel, -⟩
  · exact ⟨none, [], 0, rfl, ⟨Nat.le_refl _, Nat.zero_le _, fun _ => rfl, fun h => absurd h (by decide)⟩⟩
  · have hc : ∀ i, i < len → ∃ cs', w.cells? 0 (a.add (i * 5)) 5 = some cs' ∧ Cells5 w cs' := fun i hi => by
      have e := hel i hi
      rw [cellsV, List.getElem?_eq_getElem (by omega)] at e
      obtain ⟨cs', h1, h2⟩ := Option.bind_eq_some_iff.1 e
      exact ⟨cs', h1, tr_val n n (Nat.le_refl _) cs' _ h2⟩
    rcases Nat.eq_zero_or_pos len with hz | hp
    · subst hz
      exact ⟨some a, [], cap, rfl, ⟨hl, hm, (fun e => by cases e), fun h => absurd h (by decide)⟩⟩
    · have hpl : ∃ b o, a = ⟨b, o, none⟩ := by
        obtain ⟨cs', h1, x0, ao0, cap0, rfl, -⟩ := hc 0 hp
        obtain ⟨-, -, hat⟩ := World.cells?_some h1
        have k := hat 0 (by decide)
        rw [Nat.zero_mul] at k
        have e : a.add 0 = a := by simp [Addr.add]
        rw [e] at k
        exact at_plain k
      obtain ⟨b, o, rfl⟩ := hpl
      obtain ⟨l, hl2, hv⟩ := VE_all w len b o (fun i hi => by
        obtain ⟨cs', h1, x0, ao0, cap0, rfl, hi0, hs0⟩ := hc i hi
        obtain ⟨-, -, hat⟩ := World.cells?_some h1
        have k : ∀ j, j < 5 → w.cell? ⟨b, o + i * 5 + j, none⟩ = ([.int .i64 x0.kd, .int .i64 x0.nn, .int .i64 x0.dd, .string (bs x0.ss), .slice ao0 x0.ll.length cap0] : List Value)[j]? := fun j hj => by
          have := hat j hj
          rw [Go.WideShapes.add_plain, Go.WideShapes.add_plain] at this
          exact this
        exact ⟨x0, VC_mk hi0 (k 0 (by decide)) (k 1 (by decide)) (k 2 (by decide)) (k 3 (by decide)) (k 4 (by decide)) hs0⟩)
      subst hl2
      exact ⟨_, l, cap, rfl, ⟨hl, hm, (fun e => by cases e), fun _ => ⟨b, o, rfl, hv⟩⟩⟩
theorem cellsR : Tryz.prog.cellsOf 23 = 1 := by kernel_rfl
theorem cellsR2 : Tryz.prog.cellsOf 24 = 2 := by kernel_rfl
/-- Rows one behind the other. -/
theorem rows_all (w : World) (b : Nat) : ∀ (len o : Nat), (∀ i, i < len → ∃ l, RAt w b (o + i) l) → ∃ L : List (List Vl), L.length = len ∧ ∀ (j : Nat) (h : j < L.length), RAt w b (o + j) L[j]
  | 0, _, _ => ⟨[], rfl, fun j h => absurd h (by simp)⟩
  | n + 1, o, h => by
    obtain ⟨x, hx⟩ := h 0 (by omega)
    obtain ⟨L, hl, hv⟩ := rows_all w b n (o + 1) (fun i hi => by
      obtain ⟨y, hy⟩ := h (i + 1) (by omega)
      exact ⟨y, by rwa [show o + 1 + i = o + (i + 1) by omega]⟩)
    refine ⟨x :: L, by rw [List.length_cons, hl], fun j hj => ?_⟩
    cases j with
    | zero => exact hx
    | succ j =>
      have k := hv j (by simpa using hj)
      rw [show o + 1 + j = o + (j + 1) by omega] at k
      exact k
set_option maxRecDepth 100000 in
theorem tr_rows {H : Type} {enc : TypeId × Value → H} {w : World} {sp : Nat → Bool} {fuel : Nat} {cs : List Value} {x : DataW H × List MemPlace}
    (h : DataW.trod enc Tryz.prog w 0 sp true fuel 25 cs = some x) : ∃ ao L cap, cs = [.slice ao L.length cap] ∧ SlR w ao L cap := by
  rcases DataW.trod_slice Tryz.underlying25 h with ⟨rfl, -⟩ | ⟨a, len, cap, elems, rest, n, hn, rfl, -, -, hl, hm, hlen, hel, -⟩
  · exact ⟨none, [], 0, rfl, SlR.empty w⟩
  · have hc : ∀ i, i < len → ∃ ao l c, w.cells? 0 (a.add (i * 1)) 1 = some [.slice ao l.length c] ∧ SlV w ao l c := fun i hi => by
      have e := hel i hi
      rw [cellsR, List.getElem?_eq_getElem (by omega)] at e
      obtain ⟨cs', h1, h2⟩ := Option.bind_eq_some_iff.1 e
      obtain ⟨ao, l, c, rfl, hs⟩ := tr_row h2
      exact ⟨ao, l, c, h1, hs⟩
    rcases Nat.eq_zero_or_pos len with hz | hp
    · subst hz
      exact ⟨some a, [], cap, rfl, ⟨hl, hm, (fun e => by cases e), fun h => absurd h (by decide)⟩⟩
    · have hpl : ∃ b o, a = ⟨b, o, none⟩ := by
        obtain ⟨ao, l, c, h1, -⟩ := hc 0 hp
        obtain ⟨-, -, hat⟩ := World.cells?_some h1
        have k := hat 0 (by decide)
        rw [Nat.zero_mul] at k
        have e : a.add 0 = a := by simp [Addr.add]
        rw [e] at k
        exact at_plain k
      obtain ⟨b, o, rfl⟩ := hpl
      have hr : ∀ i, i < len → ∃ l, RAt w b (o + i) l := fun i hi => by
        obtain ⟨ao, l, c, h1, hs⟩ := hc i hi
        obtain ⟨-, -, hat⟩ := World.cells?_some h1
        have k := hat 0 (by decide)
        rw [Go.WideShapes.add_plain, Go.WideShapes.add_plain, Nat.mul_one] at k
        exact ⟨l, ao, c, k, hs⟩
      obtain ⟨L, hl2, hv⟩ := rows_all w b len o hr
      have hb : b < w.heap.size := by
        obtain ⟨l, ao, c, h1, -⟩ := hr 0 hp
        rcases Nat.lt_or_ge b w.heap.size with k | k
        · exact k
        · simp [World.cell?, Array.getElem?_eq_none k] at h1
      subst hl2
      exact ⟨_, L, cap, rfl, ⟨hl, hm, (fun e => by cases e), fun _ => ⟨b, o, rfl, hb, hv⟩⟩⟩
set_option maxRecDepth 100000 in
theorem open_rows {H : Type} {enc : TypeId × Value → H} {w : World} {v : Value} {base : Nat} {d : DataW H} {p : List MemPlace} (hv : Value.okWide Tryz.prog w .any base 25 v)
    (h : DataW.Trod enc Tryz.prog w 0 (fun _ => true) true 25 v d p) : ∃ ao L cap, v = .slice ao L.length cap ∧ SlR w ao L cap := by
  obtain ⟨a0, n, cap, rfl⟩ := okWide_slice Tryz.underlying25 hv
  obtain ⟨fuel, hf0⟩ := h
  obtain ⟨ao, l, c, e, hs⟩ := tr_rows hf0
  have e' : (Value.slice a0 n cap).cells.toList = [.slice ao l.length c] := e
  simp [Value.cells] at e'
  obtain ⟨rfl, rfl, rfl⟩ := e'
  exact ⟨_, l, _, rfl, hs⟩
theorem arr2 {cs : Array Value} (h : cs.size = 2) : ∃ u v, cs = #[u, v] := by
  obtain ⟨l⟩ := cs
  match l, h with
  | [u, v], _ => exact ⟨u, v, rfl⟩
set_option maxRecDepth 100000 in
theorem open_two {H : Type} {enc : TypeId × Value → H} {w : World} {v : Value} {base : Nat} {d : DataW H} {p : List MemPlace} (hv : Value.okWide Tryz.prog w .any base 24 v)
    (h : DataW.Trod enc Tryz.prog w 0 (fun _ => true) true 24 v d p) : ∃ a1 l1 c1 a2 l2 c2, v = .agg #[.slice a1 l1.length c1, .slice a2 l2.length c2] ∧ SlV w a1 l1 c1 ∧ SlV w a2 l2 c2 := by
  have hcs : ∃ cs, v = .agg cs ∧ cs.size = Tryz.prog.cellsOf 24 := by
    simp only [Value.okWide, Tryz.underlying24] at hv
    obtain ⟨cs, h1, h2, _⟩ := hv
    exact ⟨cs, h1, h2⟩
  obtain ⟨cs, rfl, hsz⟩ := hcs
  rw [cellsR2] at hsz
  obtain ⟨fuel, hf0⟩ := h
  obtain ⟨xs, m, rfl, -, hlen, hxl, hel⟩ := DataW.trod_array Tryz.underlying24 hf0
  obtain ⟨u, v, rfl⟩ := arr2 hsz
  have h0 := hel 0 (by decide)
  have h1 := hel 1 (by decide)
  rw [cellsR, List.getElem?_eq_getElem (by omega)] at h0 h1
  obtain ⟨a1, l1, c1, e1, s1⟩ := tr_row h0
  obtain ⟨a2, l2, c2, e2, s2⟩ := tr_row h1
  have f1 : u = .slice a1 l1.length c1 := by simpa [Value.cells] using e1
  have f2 : v = .slice a2 l2.length c2 := by simpa [Value.cells] using e2
  exact ⟨a1, l1, c1, a2, l2, c2, by rw [f1, f2], s1, s2⟩
end Go.Proofs.YteonkiajgfkieaaGreatDoor
