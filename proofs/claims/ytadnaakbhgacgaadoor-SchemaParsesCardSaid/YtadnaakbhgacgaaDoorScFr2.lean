/-
  An argument that is a list of rules, or a text, opened. No statement is proved here.
-/
import Derived.Test.YtadnaakbhgacgaaDoorScFr
namespace Go.Proofs.YtadnaakbhgacgaaDoor
open Go.ChangeShapes Go.WideShapes Go.ChangeAt Go.RowKit Go.Joins

theorem list_of {α : Type} (Q : Nat → α → Prop) : ∀ n, (∀ i, i < n → ∃ x, Q i x) → ∃ l : List α, l.length = n ∧ ∀ (i : Nat) (h : i < l.length), Q i l[i]
  | 0, _ => ⟨[], rfl, fun i h => absurd h (Nat.not_lt_zero i)⟩
  | n + 1, h => by
    obtain ⟨l, hl, hq⟩ := list_of Q n (fun i hi => h i (by omega))
    obtain ⟨x, hx⟩ := h n (by omega)
    refine ⟨l ++ [x], by rw [List.length_append, hl]; rfl, fun i hi => ?_⟩
    rw [List.length_append, hl] at hi
    have hi' : i < n + 1 := hi
    by_cases g : i < n
    · rw [List.getElem_append_left (by omega)]; exact hq i (by omega)
    · obtain rfl : i = n := by omega
      rw [List.getElem_append_right (by omega)]
      simpa [hl] using hx
theorem reach_le : reachBytes ≤ 140737488355328 := by decide
theorem at_plain {w : World} {a : Addr} {v : Value} (h : w.cell? (a.add 0) = some v) : ∃ b o, a = ⟨b, o, none⟩ := by
  obtain ⟨b, o, spot⟩ := a
  have hspot : spot = none := by simpa [Addr.add] using World.cell?_spot h
  subst hspot
  exact ⟨b, o, rfl⟩
section
variable {H : Type} {enc : TypeId × Value → H} {w : World} {sp : Nat → Bool}
set_option maxRecDepth 100000 in
/-- A slice whose elements can be read. -/
theorem tr_sl {α : Type} {P : World → α → Nat → Nat → Prop} {t e : TypeId} {k fuel : Nat} {cs : List Value} {x : DataW H × List MemPlace} (ht : Tryd.prog.underlying t = some (.slice e)) (hk : Tryd.prog.cellsOf e = k) (k0 : 0 < k)
    (hQ : ∀ n cs y, DataW.trod enc Tryd.prog w 0 sp true n e cs = some y → ∀ b o, (∀ j, j < k → w.cell? ⟨b, o + j, none⟩ = cs[j]?) → ∃ x, P w x b o)
    (h : DataW.trod enc Tryd.prog w 0 sp true fuel t cs = some x) : ∃ ao l cap, cs = [.slice ao l.length cap] ∧ Sl k P w ao l cap := by
  rcases DataW.trod_slice ht h with ⟨rfl, -⟩ | ⟨a, len, cap, elems, rest, n, hn, rfl, -, -, hl, hm, hlen, hel, -⟩
  · exact ⟨none, [], 0, rfl, Sl.empty _⟩
  · have hc : ∀ i, i < len → ∃ cs' y, w.cells? 0 (a.add (i * k)) k = some cs' ∧ DataW.trod enc Tryd.prog w 0 sp true n e cs' = some y := fun i hi => by
      have e := hel i hi
      rw [hk, List.getElem?_eq_getElem (by omega)] at e
      obtain ⟨cs', h1, h2⟩ := Option.bind_eq_some_iff.1 e
      exact ⟨cs', _, h1, h2⟩
    rcases Nat.eq_zero_or_pos len with hz | hp
    · subst hz
      exact ⟨some a, [], cap, rfl, ⟨hl, hm, (fun e => by cases e), fun h => absurd h (Nat.lt_irrefl 0)⟩⟩
    · have hpl : ∃ b o, a = ⟨b, o, none⟩ := by
        obtain ⟨cs', y, h1, -⟩ := hc 0 hp
        obtain ⟨-, hln, hat⟩ := World.cells?_some h1
        have q := hat 0 k0
        rw [Nat.zero_mul] at q
        have e : a.add 0 = a := by simp [Addr.add]
        rw [e] at q
        have hcs : 0 < cs'.length := by omega
        rw [List.getElem?_eq_getElem hcs] at q
        exact at_plain q
      obtain ⟨b, o, rfl⟩ := hpl
      obtain ⟨l, hl2, hv⟩ := list_of (fun i x => P w x b (o + i * k)) len (fun i hi => by
        obtain ⟨cs', y, h1, h2⟩ := hc i hi
        obtain ⟨-, -, hat⟩ := World.cells?_some h1
        refine hQ n cs' y h2 b (o + i * k) fun j hj => ?_
        have := hat j hj
        rw [Go.WideShapes.add_plain, Go.WideShapes.add_plain] at this
        exact this)
      subst hl2
      exact ⟨_, l, cap, rfl, ⟨hl, hm, (fun e => by cases e), fun _ => ⟨b, o, rfl, hv⟩⟩⟩
theorem tr_rules {m : Nat} {cs : List Value} {y : DataW H × List MemPlace} (h : DataW.trod enc Tryd.prog w 0 sp true m 30 cs = some y) : ∃ ao l cap, cs = [.slice ao l.length cap] ∧ SlR w ao l cap :=
  tr_sl Tryd.underlying30 cellsR.1 (by decide) (fun n cs y hy b o hc => by
    obtain ⟨r, e, hr⟩ := tr_rule hy
    subst e
    exact ⟨r, hr, hc 0 (by decide), hc 1 (by decide), hc 2 (by decide), hc 3 (by decide), hc 4 (by decide), hc 5 (by decide)⟩) h
set_option maxRecDepth 100000 in
theorem open_rules {v : Value} {base : Nat} {d : DataW H} {p : List MemPlace} (hv : Value.okWide Tryd.prog w .any base 30 v) (h : DataW.Trod enc Tryd.prog w 0 sp true 30 v d p) :
    ∃ ao l cap, v = .slice ao l.length cap ∧ SlR w ao l cap := by
  obtain ⟨a0, n, cap, rfl⟩ := okWide_slice Tryd.underlying30 hv
  obtain ⟨fuel, hf0⟩ := h
  obtain ⟨ao, l, c, e, hs⟩ := tr_rules hf0
  have e' : (Value.slice a0 n cap).cells.toList = [.slice ao l.length c] := e
  simp [Value.cells] at e'
  obtain ⟨rfl, rfl, rfl⟩ := e'
  exact ⟨_, l, _, rfl, hs⟩
end
end Go.Proofs.YtadnaakbhgacgaaDoor
