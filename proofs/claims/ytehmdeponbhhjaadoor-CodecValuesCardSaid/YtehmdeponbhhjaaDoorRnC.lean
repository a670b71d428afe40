/-
  A row of values that a call builds by append: what it holds lives in blocks of its own and in blocks that earlier calls have made; it reads as a list of values in every world that keeps those blocks. No program's function is walked here.
-/
import Derived.Test.YtehmdeponbhhjaaDoorRnB
import Derived.Maps.AppendAt
namespace Go.Proofs.YtehmdeponbhhjaaDoor
open Go.RowKit

/-- In every world with the same blocks above lo, g apart. -/
def KpX (lo : Nat) (g : Option Nat) (w : World) (P : World → Prop) : Prop := ∀ w2 : World, w.heap.size ≤ w2.heap.size → (∀ b, lo < b → b < w.heap.size → some b ≠ g → w2.heap[b]? = w.heap[b]?) → P w2
theorem kpx_on {lo : Nat} {g : Option Nat} {w w' : World} {P : World → Prop} (h : KpX lo g w P) (hf : Fuw w w') : KpX lo g w' P := fun w2 hs hw =>
  h w2 (Nat.le_trans hf.size hs) fun b h1 h2 h3 => (hw b h1 (Nat.lt_of_lt_of_le h2 hf.size) h3).trans (Below.block hf b h2)
theorem kpx_grown {lo : Nat} {g g' : Option Nat} {w w' : World} {P : World → Prop} (h : KpX lo g w P) (hg : w.grownBy w' g) (hg' : g' = g ∨ g' = some w.heap.size) : KpX lo g' w' P := fun w2 hs hw =>
  h w2 (Nat.le_trans hg.size hs) fun b h1 h2 h3 => (hw b h1 (Nat.lt_of_lt_of_le h2 hg.size) (by
    rcases hg' with e | e
    · rw [e]; exact h3
    · rw [e]; intro e2; injection e2 with e2; omega)).trans (hg.block b h2 h3)
theorem kpx_set {lo B j : Nat} {g : Option Nat} {w : World} {v : Value} {P : World → Prop} (h : KpX lo g w P) (hB : B ≤ lo) : KpX lo g (w.setCell ⟨B, j, none⟩ v) P := fun w2 hs hw =>
  h w2 (by simpa using hs) fun b h1 h2 h3 => (hw b h1 (by simpa using h2) h3).trans (heap_set_other (by omega))
theorem kp_kpx {lo lo' : Nat} {g : Option Nat} {w : World} {P : World → Prop} (h : Kp lo' w P) (hl : lo ≤ lo') (hg : ∀ k, g = some k → k ≤ lo') : KpX lo g w P := fun w2 hs hw =>
  h w2 hs fun b h1 h2 => hw b (by omega) h2 (fun e => by have := hg b e.symm; omega)
abbrev H3 := Vl × Option Addr × Nat
def cvL (hs : List H3) : List Value := hs.flatMap fun p => (vc p.1 p.2.1 p.2.2).toList
theorem cvL_app (a b : List H3) : cvL (a ++ b) = cvL a ++ cvL b := by unfold cvL; rw [List.flatMap_append]
theorem cvL_len : ∀ hs : List H3, (cvL hs).length = hs.length * 5
  | [] => rfl
  | p :: r => by
    have := cvL_len r
    unfold cvL at this ⊢
    rw [List.flatMap_cons, List.length_append, this, List.length_cons, Nat.add_mul]
    show 5 + _ = _
    omega
theorem cvL_get : ∀ (hs : List H3) (i j : Nat) (h : i < hs.length), j < 5 → (cvL hs)[i * 5 + j]? = (vc hs[i].1 hs[i].2.1 hs[i].2.2)[j]?
  | p :: r, 0, j, _, hj => by
    unfold cvL
    rw [List.flatMap_cons, List.getElem?_append_left (by show 0 * 5 + j < 5; omega), Nat.zero_mul, Nat.zero_add]
    exact Array.getElem?_toList
  | p :: r, i + 1, j, h, hj => by
    have q := cvL_get r i j (by simpa using h) hj
    unfold cvL at q ⊢
    rw [List.flatMap_cons, List.getElem?_append_right (by show 5 ≤ (i + 1) * 5 + j; omega)]
    rw [show (i + 1) * 5 + j - (vc p.1 p.2.1 p.2.2).toList.length = i * 5 + j by show (i + 1) * 5 + j - 5 = _; omega]
    exact q
/-- What stands in a row of five-cell values. -/
theorem ve_row {w : World} {g : Nat} : ∀ (ys xs : List H3), (∀ j, j < (cvL (xs ++ ys)).length → w.cell? ⟨g, j, none⟩ = (cvL (xs ++ ys))[j]?) → (∀ p ∈ ys, Vin p.1 ∧ SlV w p.2.1 p.1.ll p.2.2) → VE w (ys.map Prod.fst) g (xs.length * 5)
  | [], _, _, _ => by unfold VE; trivial
  | y :: r, xs, hc, hv => by
    have hlen : (cvL (xs ++ y :: r)).length = (xs.length + (r.length + 1)) * 5 := by rw [cvL_len]; simp
    have e : (xs ++ y :: r)[xs.length]'(by simp) = y := by simp
    have c : ∀ j, j < 5 → w.cell? ⟨g, xs.length * 5 + j, none⟩ = (vc y.1 y.2.1 y.2.2)[j]? := fun j hj => by
      have k := cvL_get (xs ++ y :: r) xs.length j (by simp) hj
      rw [e] at k
      rw [hc _ (by rw [hlen]; omega), k]
    obtain ⟨h1, h2⟩ := hv y (List.mem_cons_self ..)
    show VE w (y.1 :: r.map Prod.fst) g (xs.length * 5)
    unfold VE
    refine ⟨VC_mk h1 (c 0 (by decide)) (c 1 (by decide)) (c 2 (by decide)) (c 3 (by decide)) (c 4 (by decide)) h2, ?_⟩
    have q := ve_row r (xs ++ [y]) (by rw [List.append_assoc]; exact hc) (fun p hp => hv p (List.mem_cons_of_mem _ hp))
    rw [List.length_append, List.length_singleton, show (xs.length + 1) * 5 = xs.length * 5 + 5 by omega] at q
    exact q
/-- A row of the call's own, in every world that keeps all blocks above lo. -/
theorem row_kp {lo base n cap : Nat} {ao : Option Addr} {w : World} {hs : List H3} (hown : w.ownsRow base 26 5 (.slice ao n cap) n (cvL hs)) (hb : lo < base) (hn : hs.length = n)
    (hv : ∀ p ∈ hs, Vin p.1 ∧ KpX lo (Value.slice ao n cap).ownBlock w (fun w2 => SlV w2 p.2.1 p.1.ll p.2.2)) (lo' : Nat) (hlo : lo' ≤ lo) : Kp lo' w (fun w2 => SlV w2 ao (hs.map Prod.fst) cap) := fun w2 hsz hw => by
  subst hn
  have hel : ∀ p ∈ hs, Vin p.1 ∧ SlV w2 p.2.1 p.1.ll p.2.2 := fun p hp => ⟨(hv p hp).1, (hv p hp).2 w2 hsz fun b h1 h2 _ => hw b (by omega) h2⟩
  rcases hown.2 with ⟨e, e2⟩ | ⟨g, cap', cur, e, hg, hh, h1, h2, h3, h4⟩
  · injection e with ea el ec
    subst ea ec
    have h0 : hs = [] := List.length_eq_zero_iff.1 e2
    subst h0
    exact sl_none w2
  · injection e with ea el ec
    subst ea ec
    have hgl : g < w.heap.size := by
      rcases Nat.lt_or_ge g w.heap.size with k | k
      · exact k
      · rw [Array.getElem?_eq_none k] at hh; cases hh
    have hbl := hw g (by omega) hgl
    have hc : ∀ j, j < (cvL hs).length → w2.cell? ⟨g, j, none⟩ = (cvL hs)[j]? := fun j hj => by
      have k := hown.cellAt j (by rw [← cvL_len]; exact hj)
      rw [← k]; simp [World.cell?, hbl]
    refine ⟨by simpa using h1, h2, (fun e => by cases e), fun _ => ⟨g, 0, rfl, ?_⟩⟩
    have q := ve_row hs [] hc hel
    simpa using q
theorem oneV (hs : List H3) : ∀ u ∈ cvL hs, u.oneCell' = true := by
  intro u hu
  unfold cvL at hu
  obtain ⟨p, -, hp⟩ := List.mem_flatMap.1 hu
  have : u = .int .i64 p.1.kd ∨ u = .int .i64 p.1.nn ∨ u = .int .i64 p.1.dd ∨ u = .string (bs p.1.ss) ∨ u = .slice p.2.1 p.1.ll.length p.2.2 := by simpa [vc] using hp
  rcases this with rfl | rfl | rfl | rfl | rfl <;> rfl
theorem own_up {w w' : World} {base e size : Nat} {v : Value} {n : Nat} {xs : List Value} (h : w.ownsRow base e size v n xs) (hf : Fuw w w') : w'.ownsRow base e size v n xs := by
  refine ⟨h.1, ?_⟩
  rcases h.2 with h0 | ⟨g, cap, cur, hv, hg, hh, rest⟩
  · exact .inl h0
  · refine .inr ⟨g, cap, cur, hv, hg, ?_, rest⟩
    have hlt : g < w.heap.size := by
      rcases Nat.lt_or_ge g w.heap.size with k | k
      · exact k
      · rw [Array.getElem?_eq_none k] at hh; cases hh
    rw [Below.block hf g hlt]; exact hh
theorem own_set {w : World} {base e size B j : Nat} {u v : Value} {n : Nat} {xs : List Value} (h : w.ownsRow base e size v n xs) (hB : B < base) : (w.setCell ⟨B, j, none⟩ u).ownsRow base e size v n xs := by
  refine ⟨h.1, ?_⟩
  rcases h.2 with h0 | ⟨g, cap, cur, hv, hg, hh, rest⟩
  · exact .inl h0
  · exact .inr ⟨g, cap, cur, hv, hg, (heap_set_other (by omega)).trans hh, rest⟩
theorem own_sl {w : World} {base e size : Nat} {v : Value} {n : Nat} {xs : List Value} (h : w.ownsRow base e size v n xs) : ∃ a k, v = .slice a n k := by
  rcases h.2 with ⟨rfl, rfl⟩ | ⟨g, cap, cur, rfl, _⟩
  · exact ⟨none, 0, rfl⟩
  · exact ⟨_, cap, rfl⟩
/-- The elements' memory, and the row. -/
def Row (lo : Nat) (w : World) (v : Value) (n : Nat) (hs : List H3) : Prop := w.ownsRow (lo + 1) 26 5 v n (cvL hs) ∧ hs.length = n ∧ ∀ p ∈ hs, Vin p.1 ∧ KpX lo v.ownBlock w (fun w2 => SlV w2 p.2.1 p.1.ll p.2.2)
theorem row_on {lo n : Nat} {w w' : World} {v : Value} {hs : List H3} (h : Row lo w v n hs) (hf : Fuw w w') : Row lo w' v n hs := ⟨own_up h.1 hf, h.2.1, fun p hp => ⟨(h.2.2 p hp).1, kpx_on (h.2.2 p hp).2 hf⟩⟩
theorem row_set {lo n B j : Nat} {w : World} {v u : Value} {hs : List H3} (h : Row lo w v n hs) (hB : B ≤ lo) : Row lo (w.setCell ⟨B, j, none⟩ u) v n hs := ⟨own_set h.1 (by omega), h.2.1, fun p hp => ⟨(h.2.2 p hp).1, kpx_set (h.2.2 p hp).2 hB⟩⟩
theorem row_nil (lo : Nat) (w : World) : Row lo w (.slice none 0 0) 0 [] := ⟨World.ownsRow_nil _ _ _ _, rfl, fun p hp => by cases hp⟩
/-- A value that a call has just given, appended to the row. -/
theorem row_app {lo n : Nat} {w0 w1 w : World} {v : Value} {hs : List H3} (h : Row lo w0 v n hs) (hn : n ≤ 1000) (f1 : Fuw w0 w1) (hlo : lo < w0.heap.size) (x : Vl) (a : Option Addr) (c : Nat) (hx : Vin x) (hk : Kp w0.heap.size w1 (fun w2 => SlV w2 a x.ll c)) (f2 : Fuw w1 w) :
    ∃ v' w', (Builtin.append_ #[24, 24] 24 #[v, .slice (some ⟨w.heap.size, 0, none⟩) 1 1]).run Tryd.prog (w.alloc (.cells #[.int .i64 x.kd, .int .i64 x.nn, .int .i64 x.dd, .string (bs x.ss), .slice a x.ll.length c] 26)) = .ok v' w' ∧ Row lo w' v' (n + 1) (hs ++ [(x, a, c)]) ∧ (∀ b, b ≤ lo → w'.heap[b]? = w.heap[b]?) ∧ Below (lo + 1) w w' := by
  obtain ⟨i0, hi, hz0, hz1, hz2⟩ := info_parts infoV
  obtain ⟨W, hW⟩ : ∃ W, w.alloc (.cells #[.int .i64 x.kd, .int .i64 x.nn, .int .i64 x.dd, .string (bs x.ss), .slice a x.ll.length c] 26) = W := ⟨_, rfl⟩
  have fW : Fuw w W := by rw [← hW]; exact (Fuw.refl w).alloc _
  have hrow := row_on (row_on (row_on h f1) f2) fW
  have hbox : ∀ j u, (cvL [(x, a, c)])[j]? = some u → W.cell? ((⟨w.heap.size, 0, none⟩ : Addr).add j) = some u := fun j u hu => by
    have hj : j < 5 := by
      have := (List.getElem?_eq_some_iff.1 hu).1
      rw [cvL_len] at this; simpa using this
    have e := cvL_get [(x, a, c)] 0 j (by simp) hj
    rw [Nat.zero_mul, Nat.zero_add, hu] at e
    rw [Go.WideShapes.add_plain, Nat.zero_add]
    have hb : W.heap[w.heap.size]? = some (.cells (vc x a c) 26 (0, 0)) := by
      rw [← hW]
      show (w.heap.push _)[w.heap.size]? = _
      rw [Array.getElem?_push, if_pos rfl]; rfl
    rw [cell_of_row W w.heap.size j _ _ (0, 0) hb]
    exact e.symm
  obtain ⟨v', w', hr, h2, h3, -, h5⟩ := run_append_own_at (P := Tryd.prog) W (lo + 1) 24 24 26 i0 _ 5 64 Tryd.underlying24 hi hz0 hz1 hz2 rfl (by decide) v n (cvL hs) hrow.1 ⟨w.heap.size, 0, none⟩ 1 1 (cvL [(x, a, c)]) (cvL_len _) hbox (oneV _) (by unfold maxLen; omega) (by omega) (by have a1 := f1.size; have a2 := f2.size; have a3 := fW.size; omega)
  have hlow : ∀ k, v.ownBlock = some k → lo + 1 ≤ k ∧ k < w0.heap.size := h.1.lt
  refine ⟨v', w', by rw [hW]; exact hr, ⟨by rw [cvL_app]; exact h2, by rw [List.length_append, h.2.1]; rfl, fun p hp => ?_⟩, fun b hb => ?_, ?_⟩
  · rcases List.mem_append.1 hp with hp | hp
    · exact ⟨(hrow.2.2 p hp).1, kpx_grown (hrow.2.2 p hp).2 h3 h5⟩
    · rw [List.mem_singleton] at hp
      subst hp
      refine ⟨hx, kpx_grown (kpx_on (kpx_on (kp_kpx hk (Nat.le_of_lt hlo) (fun k e => Nat.le_of_lt (hlow k e).2)) f2) fW) h3 h5⟩
  · have hs := f1.size; have hs2 := f2.size; have hs3 := fW.size
    rw [h3.block b (by omega) (fun e => by have := (hlow b e.symm).1; omega)]
    exact Below.block fW b (by omega)
  · have hs := f1.size; have hs2 := f2.size; have hs3 := fW.size
    exact Below.grown (Below.mono fW (by omega)) h3 (by omega) (fun k e => (hlow k e).1)
end Go.Proofs.YtehmdeponbhhjaaDoor
