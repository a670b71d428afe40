/-
  Package codec: elementsAt of lists: the elements one by one, out of what valueAt gives. Nothing that was there turns.
-/
import Derived.Test.YtehmdeponbhhjaaDoorCgS
import Derived.Test.YtehmdeponbhhjaaDoorCdT
namespace Go.Proofs.YtehmdeponbhhjaaDoor
open Go.RowKit

inductive Rl where
  | ok (xs : List Vl) (E : Int) : Rl
  | er (c : Int) : Rl
/-- The kind at an index of a path. -/
def pkV (i : Nat) : Nat := if i % 2 = 1 then 6 else 5
/-- Elements one behind the other. -/
def elsV (l : List UInt8) (kind : Nat) (rv : Int → Rs) : Nat → Nat → Int → Rl
  | 0, _, a => .ok [] a
  | n + 1, i, a =>
    if kind = 7 ∧ a < l.length ∧ (l.getD a.toNat 0).toNat ≠ pkV i then .er 2
    else match rv a with
      | .er c => .er c
      | .ok x E => match elsV l kind rv n (i + 1) E with
        | .er c => .er c
        | .ok xs E2 => .ok (x :: xs) E2
def appL (xs : List Vl) : Rl → Rl
  | .ok ys E => .ok (xs ++ ys) E
  | .er c => .er c
theorem appL_nil (r : Rl) : appL [] r = r := by cases r <;> rfl
theorem appL_app (xs ys : List Vl) (r : Rl) : appL (xs ++ ys) r = appL xs (appL ys r) := by cases r <;> simp [appL]
theorem els_ok {l : List UInt8} {kind : Nat} {rv : Int → Rs} {n i : Nat} {a : Int} {x : Vl} {E : Int} (hk : ¬ (kind = 7 ∧ a < l.length ∧ (l.getD a.toNat 0).toNat ≠ pkV i)) (h : rv a = .ok x E) : elsV l kind rv (n + 1) i a = appL [x] (elsV l kind rv n (i + 1) E) := by
  rw [elsV, if_neg hk, h]
  simp only
  cases elsV l kind rv n (i + 1) E <;> rfl
theorem els_er {l : List UInt8} {kind : Nat} {rv : Int → Rs} {n i : Nat} {a c : Int} (hk : ¬ (kind = 7 ∧ a < l.length ∧ (l.getD a.toNat 0).toNat ≠ pkV i)) (h : rv a = .er c) : elsV l kind rv (n + 1) i a = .er c := by
  rw [elsV, if_neg hk, h]
/-- The cells of a value in the midst of a block. -/
def C5v (w : World) (g o : Nat) (x : Vl) (a : Option Addr) (c : Nat) : Prop :=
  w.cell? ⟨g, o, none⟩ = some (.int .i64 x.kd) ∧ w.cell? ⟨g, o + 1, none⟩ = some (.int .i64 x.nn) ∧ w.cell? ⟨g, o + 2, none⟩ = some (.int .i64 x.dd) ∧ w.cell? ⟨g, o + 3, none⟩ = some (.string (bs x.ss)) ∧ w.cell? ⟨g, o + 4, none⟩ = some (.slice a x.ll.length c)
/-- The values that lie in a block, what they hold in blocks above it. -/
def QV (w : World) (g : Nat) (xs : List Vl) : Prop := ∀ j (h : j < xs.length), Vin xs[j] ∧ ∃ a c, C5v w g (j * 5) xs[j] a c ∧ Kp g w (fun w2 => SlV w2 a xs[j].ll c)
/-- Room for n values. -/
def Rm (w : World) (g n : Nat) : Prop := g < w.heap.size ∧ ∀ j, j < n * 5 → (w.cell? ⟨g, j, none⟩).isSome = true ∧ w.frozen? ⟨g, j, none⟩ = false
theorem kp_on {lo : Nat} {w w' : World} {P : World → Prop} (h : Kp lo w P) (hf : Fuw w w') : Kp lo w' P := fun w2 hs hw =>
  h w2 (Nat.le_trans hf.size hs) fun b h1 h2 => (hw b h1 (Nat.lt_of_lt_of_le h2 hf.size)).trans (Below.block hf b h2)
theorem kp_set {g j : Nat} {w : World} {v : Value} {P : World → Prop} (h : Kp g w P) : Kp g (w.setCell ⟨g, j, none⟩ v) P := fun w2 hs hw =>
  h w2 (by rw [World.size_setCell] at hs; exact hs) fun b h1 h2 => (hw b h1 (by rw [World.size_setCell]; exact h2)).trans (heap_set_other (by omega))
theorem rm_on {w w' : World} {g n : Nat} (h : Rm w g n) (hf : Fuw w w') : Rm w' g n := by
  refine ⟨Nat.lt_of_lt_of_le h.1 hf.size, fun j hj => ?_⟩
  have k := h.2 j hj
  refine ⟨by rw [Below.cell hf (p := ⟨g, j, none⟩) h.1]; exact k.1, ?_⟩
  rw [← k.2]
  unfold World.frozen?
  rw [Below.block hf g h.1]
theorem rm_set {w : World} {g n j : Nat} {v : Value} (h : Rm w g n) : Rm (w.setCell ⟨g, j, none⟩ v) g n := by
  refine ⟨by rw [World.size_setCell]; exact h.1, fun i hi => ?_⟩
  have k := h.2 i hi
  refine ⟨?_, by rw [World.frozen?_setCell]; exact k.2⟩
  by_cases e : i = j
  · subst e
    obtain ⟨u, hu⟩ := Option.isSome_iff_exists.1 k.1
    rw [World.cell?_setCell_same _ _ _ hu]; rfl
  · rw [World.cell?_setCell_other _ _ _ _ (fun t => by simp at t; try omega)]; exact k.1
theorem c5_on {w w' : World} {g o : Nat} {x : Vl} {a : Option Addr} {c : Nat} (h : C5v w g o x a c) (hg : g < w.heap.size) (hf : Fuw w w') : C5v w' g o x a c :=
  ⟨(Below.cell hf (p := ⟨g, o, none⟩) hg).trans h.1, (Below.cell hf (p := ⟨g, o + 1, none⟩) hg).trans h.2.1, (Below.cell hf (p := ⟨g, o + 2, none⟩) hg).trans h.2.2.1, (Below.cell hf (p := ⟨g, o + 3, none⟩) hg).trans h.2.2.2.1, (Below.cell hf (p := ⟨g, o + 4, none⟩) hg).trans h.2.2.2.2⟩
theorem c5_set {w : World} {g o j : Nat} {x : Vl} {a : Option Addr} {c : Nat} {v : Value} (h : C5v w g o x a c) (hj : o + 5 ≤ j) : C5v (w.setCell ⟨g, j, none⟩ v) g o x a c := by
  have ne : ∀ t, t < 5 → (w.setCell ⟨g, j, none⟩ v).cell? ⟨g, o + t, none⟩ = w.cell? ⟨g, o + t, none⟩ := fun t ht => World.cell?_setCell_other _ _ _ _ (fun q => by simp at q; try omega)
  exact ⟨(ne 0 (by decide)).trans h.1, (ne 1 (by decide)).trans h.2.1, (ne 2 (by decide)).trans h.2.2.1, (ne 3 (by decide)).trans h.2.2.2.1, (ne 4 (by decide)).trans h.2.2.2.2⟩
theorem qv_on {w w' : World} {g : Nat} {xs : List Vl} (h : QV w g xs) (hg : g < w.heap.size) (hf : Fuw w w') : QV w' g xs := fun j hj => by
  obtain ⟨hv, a, c, h5, hk⟩ := h j hj
  exact ⟨hv, a, c, c5_on h5 hg hf, kp_on hk hf⟩
theorem qv_set {w : World} {g j : Nat} {xs : List Vl} {v : Value} (h : QV w g xs) (hj : xs.length * 5 ≤ j) : QV (w.setCell ⟨g, j, none⟩ v) g xs := fun i hi => by
  obtain ⟨hv, a, c, h5, hk⟩ := h i hi
  exact ⟨hv, a, c, c5_set h5 (by omega), kp_set hk⟩
theorem so_other {w : World} {g i j : Nat} {v u : Value} (h : w.cell? ⟨g, i, none⟩ = some u) (e : i ≠ j) : (w.setCell ⟨g, j, none⟩ v).cell? ⟨g, i, none⟩ = some u :=
  (World.cell?_setCell_other _ _ _ _ (fun t => by simp at t; try omega)).trans h
theorem so_same {w : World} {g j : Nat} {v u : Value} (h : w.cell? ⟨g, j, none⟩ = some u) : (w.setCell ⟨g, j, none⟩ v).cell? ⟨g, j, none⟩ = some v :=
  World.cell?_setCell_same _ _ _ h
theorem put5_cells {w : World} {g o : Nat} {x : Vl} {a : Option Addr} {c : Nat} {u0 u1 u2 u3 u4 : Value} (h0 : w.cell? ⟨g, o + 0, none⟩ = some u0) (h1 : w.cell? ⟨g, o + 1, none⟩ = some u1) (h2 : w.cell? ⟨g, o + 2, none⟩ = some u2) (h3 : w.cell? ⟨g, o + 3, none⟩ = some u3) (h4 : w.cell? ⟨g, o + 4, none⟩ = some u4) :
    C5v (((((w.setCell ⟨g, o, none⟩ (.int .i64 x.kd)).setCell ⟨g, o + 1, none⟩ (.int .i64 x.nn)).setCell ⟨g, o + 2, none⟩ (.int .i64 x.dd)).setCell ⟨g, o + 3, none⟩ (.string (bs x.ss))).setCell ⟨g, o + 4, none⟩ (.slice a x.ll.length c)) g o x a c := by
  rw [Nat.add_zero] at h0
  exact ⟨so_other (so_other (so_other (so_other (so_same h0) (by omega)) (by omega)) (by omega)) (by omega),
    so_other (so_other (so_other (so_same (so_other h1 (by omega))) (by omega)) (by omega)) (by omega),
    so_other (so_other (so_same (so_other (so_other h2 (by omega)) (by omega))) (by omega)) (by omega),
    so_other (so_same (so_other (so_other (so_other h3 (by omega)) (by omega)) (by omega))) (by omega),
    so_same (so_other (so_other (so_other (so_other h4 (by omega)) (by omega)) (by omega)) (by omega))⟩
/-- One value more. -/
theorem qv_put {w : World} {g n : Nat} {xs : List Vl} {x : Vl} {a : Option Addr} {c : Nat} (h : QV w g xs) (hr : Rm w g n) (hn : xs.length < n) (hv : Vin x) (hk : Kp g w (fun w2 => SlV w2 a x.ll c)) :
    QV (((((w.setCell ⟨g, xs.length * 5, none⟩ (.int .i64 x.kd)).setCell ⟨g, xs.length * 5 + 1, none⟩ (.int .i64 x.nn)).setCell ⟨g, xs.length * 5 + 2, none⟩ (.int .i64 x.dd)).setCell ⟨g, xs.length * 5 + 3, none⟩ (.string (bs x.ss))).setCell ⟨g, xs.length * 5 + 4, none⟩ (.slice a x.ll.length c)) g (xs ++ [x]) := by
  intro j hj
  by_cases e : j < xs.length
  · have q := qv_set (v := .slice a x.ll.length c) (j := xs.length * 5 + 4) (qv_set (v := .string (bs x.ss)) (j := xs.length * 5 + 3) (qv_set (v := .int .i64 x.dd) (j := xs.length * 5 + 2) (qv_set (v := .int .i64 x.nn) (j := xs.length * 5 + 1) (qv_set (v := .int .i64 x.kd) (j := xs.length * 5) h (Nat.le_refl _)) (by omega)) (by omega)) (by omega)) (by omega)
    have k := q j e
    rw [List.getElem_append_left e]
    exact k
  · have ej : j = xs.length := by rw [List.length_append, List.length_singleton] at hj; omega
    subst ej
    have hx : (xs ++ [x])[xs.length] = x := by simp
    rw [hx]
    have some : ∀ t, t < 5 → ∃ u, w.cell? ⟨g, xs.length * 5 + t, none⟩ = some u := fun t ht => Option.isSome_iff_exists.1 (hr.2 _ (by omega)).1
    obtain ⟨u0, h0⟩ := some 0 (by decide)
    obtain ⟨u1, h1⟩ := some 1 (by decide)
    obtain ⟨u2, h2⟩ := some 2 (by decide)
    obtain ⟨u3, h3⟩ := some 3 (by decide)
    obtain ⟨u4, h4⟩ := some 4 (by decide)
    refine ⟨hv, a, c, ?_, kp_set (kp_set (kp_set (kp_set (kp_set hk))))⟩
    exact put5_cells h0 h1 h2 h3 h4
end Go.Proofs.YtehmdeponbhhjaaDoor
