/-
  CpS; GtA: texts of one kind in one file; each part says what it holds.
-/
import Derived.Test.YtkcmakfmeioakaaGreatM25
import Derived.Test.YtkcmakfmeioakaaGreatM26
import Derived.Test.YtkcmakfmeioakaaGreatM24
import Derived.Test.YtkcmakfmeioakaaGreatM16

/-! Strings appended onto an empty row of the call's own; blocks and rows beside a store. No program's function is walked here. -/
namespace Go.Proofs.YtkcmakfmeioakaaGreat
open Go.RowKit

theorem Bk.grow {w w' : World} {B : Nat} {cs : Array Value} {t : TypeId} {row : Option Nat} (h : Bk w B cs t) (hg : w.grownBy w' row) (hne : some B ≠ row) : Bk w' B cs t := (hg.block B h.lt hne).trans h
theorem own_far {w : World} {base e size : Nat} {v : Value} {n : Nat} {xs : List Value} (h : w.ownsRow base e size v n xs) {B j : Nat} (hB : B < base) (u : Value) : (w.setCell ⟨B, j, none⟩ u).ownsRow base e size v n xs :=
  own_heap h fun g hg => by
    have := (h.lt g hg).1
    simp [World.setCell, Array.getElem?_modify, show B ≠ g by omega]
theorem kb_far {lo B j : Nat} {o : Option Nat} {u : Value} {w : World} {P : World → Prop} (h : Kb lo o w P) (hB : B < lo) : Kb lo o (w.setCell ⟨B, j, none⟩ u) P :=
  h.on (by simp) (fun b h1 _ _ => by simp [World.setCell, Array.getElem?_modify, show B ≠ b by omega]) (.inl rfl)
theorem slS_nil (w : World) (b o cap : Nat) (h : cap ≤ maxLen) : SlS w (some ⟨b, o, none⟩) [] cap := ⟨Nat.zero_le _, h, (fun q => by cases q), fun q => absurd q (by simp)⟩
theorem newsS {w : World} {l : List (List UInt8)} {cap : Nat} {ad : Addr} (h : SlS w (some ad) l cap) : ∀ j u, (sC l)[j]? = some u → w.cell? (ad.add j) = some u := by
  intro j u hu
  by_cases hj : j < l.length
  · rw [sC_get hj] at hu
    obtain ⟨b, o, e, -, hc⟩ := h.get hj
    cases e
    rw [Go.WideShapes.add_plain, ← hu, ← hc, Nat.mul_one]
  · rw [List.getElem?_eq_none (by rw [sC_len]; omega)] at hu; cases hu
theorem oneS (l : List (List UInt8)) : ∀ u ∈ sC l, u.oneCell' = true := by
  intro u hu
  unfold sC at hu
  obtain ⟨s, -, rfl⟩ := List.mem_map.1 hu
  rfl
theorem built_strs {w : World} {base : Nat} {v : Value} {n : Nat} {l : List (List UInt8)} (h : w.ownsRow base 9 1 v n (sC l)) (hm : ∀ s ∈ l, s.length ≤ maxLen) : ∃ a k, v = .slice a l.length k ∧ Kb base none w (fun w2 => SlS w2 a l k) := by
  obtain ⟨ao, cap, e, e2, -⟩ := slS_of_own h hm
  refine ⟨ao, cap, e, fun w2 h2 => ?_⟩
  have ho : w2.ownsRow base 9 1 v n (sC l) := own_heap h fun g hg => h2 g (h.lt g hg).1 (h.lt g hg).2 (by intro q; cases q)
  obtain ⟨ao', cap', e', -, hs⟩ := slS_of_own ho hm
  rw [e] at e'
  cases e'
  exact hs
section
variable {P : Program} {ops : Array Oper} {Q : Exit → Act → World → Prop} (w : World)
theorem run_append_empty (base : Nat) (t ty e : TypeId) (i : TypeInfo) (z : Value) (size bytes : Nat) (ht : P.underlying t = some (.slice e)) (hi : P.info? e = some i) (hz : i.zero = some z)
    (hsize : i.size = size) (hby : i.bytes = bytes) (hzs : z.cells.size = size) (hsz : 0 < size)
    (g : Nat) (hg : w.heap[g]? = some (.cells #[] e (0, 0))) (hbg : base ≤ g)
    (a : Addr) (m c : Nat) (news : List Value) (hl : news.length = m * size) (hnews : ∀ j u, news[j]? = some u → w.cell? (a.add j) = some u) (h1 : ∀ u ∈ news, u.oneCell' = true)
    (h63 : m ≤ maxLen) (hbytes : m * bytes ≤ 140737488355328) (hbase : base ≤ w.heap.size) :
    ∃ v' w', (Builtin.append_ #[t, t] ty #[.slice (some ⟨g, 0, none⟩) 0 0, .slice (some a) m c]).run P w = .ok v' w' ∧ w'.ownsRow base e size v' m news ∧ Fuw w w' := by
  have hown : w.ownsRow base e size (.slice (some ⟨g, 0, none⟩) 0 0) 0 [] := ⟨by simp, .inr ⟨g, 0, #[], rfl, hbg, hg, Nat.le_refl _, Nat.zero_le _, by simp, by simp⟩⟩
  obtain ⟨v', w', hr, h2, h3, _, h5⟩ := run_append_own_at (P := P) w base t ty e i z size bytes ht hi hz hsize hby hzs hsz (.slice (some ⟨g, 0, none⟩) 0 0) 0 [] hown a m c news hl hnews h1 (by omega) (by rw [Nat.zero_add]; exact hbytes) hbase
  rw [Nat.zero_add, List.nil_append] at h2
  refine ⟨v', w', hr, h2, ?_⟩
  subst hsize
  have hglt : g < w.heap.size := by
    rcases Nat.lt_or_ge g w.heap.size with q | q
    · exact q
    · rw [Array.getElem?_eq_none q] at hg; cases hg
  -- the row g is empty: it holds what it held
  have hgg : w'.heap[g]? = w.heap[g]? := by
    rcases Nat.eq_zero_or_pos m with hm | hm
    · subst hm
      have hn : news = [] := List.eq_nil_of_length_eq_zero (by simpa using hl)
      subst hn
      have hr2 := run_append_room (P := P) w t ty e i ht hi g 0 0 #[] hg a 0 c [] (by simp) (by simp) (by simp) (by simp) (by simp)
      rw [hr] at hr2
      injection hr2 with _ e2
      rw [e2, setRow_heap w g #[] _ e _ hg, hg]
      simp
    · have hr2 := run_append_grow (P := P) w t ty e i z ht hi hz ⟨g, 0, none⟩ 0 0 [] (by simp) (by simp) a m c news hl hnews (by omega) (by simp only [maxLen] at h63; omega) (growslice_fits (by omega) (by rw [Nat.zero_add, hby]; exact hbytes))
      rw [hr] at hr2
      injection hr2 with _ e2
      rw [e2]
      exact heap_alloc_old w.drew _ hglt
  exact ⟨h3.os, h3.tape, h3.output, h3.size, fun b hb => by
    by_cases hbg : b = g
    · rw [hbg]; exact hgg
    · exact h3.block b hb (by intro q; injection q with q; exact hbg q)⟩
theorem wpOp_append_empty {i : Nat} {op : Oper} {a : Act} {K : Act → World → Prop} (hoi : ops[i]? = some op) (hgd : op.guard = none) (s x : Operand) (t : TypeId)
    (ho : op.op = .call { callee := .builtin .append, args := #[s, x], argTypes := #[t, t] })
    (base : Nat) (e : TypeId) (i0 : TypeInfo) (z : Value) (size bytes : Nat) (ht : P.underlying t = some (.slice e)) (hi : P.info? e = some i0) (hz : i0.zero = some z)
    (hsize : i0.size = size) (hby : i0.bytes = bytes) (hzs : z.cells.size = size) (hsz : 0 < size)
    (g : Nat) (hs : a.eval s = .slice (some ⟨g, 0, none⟩) 0 0) (hg : w.heap[g]? = some (.cells #[] e (0, 0))) (hbg : base ≤ g)
    (ad : Addr) (m c : Nat) (news : List Value) (hx : a.eval x = .slice (some ad) m c) (hl : news.length = m * size) (hnews : ∀ j u, news[j]? = some u → w.cell? (ad.add j) = some u) (h1 : ∀ u ∈ news, u.oneCell' = true)
    (h63 : m ≤ maxLen) (hbytes : m * bytes ≤ 140737488355328) (hbase : base ≤ w.heap.size)
    (h : ∀ v' w', w'.ownsRow base e size v' m news → Fuw w w' → K (a.put op.dst v') w') : wpOp P ops Q i K a w := by
  obtain ⟨v', w', hr, h2, h3⟩ := run_append_empty (P := P) w base t op.type e i0 z size bytes ht hi hz hsize hby hzs hsz g hg hbg ad m c news hl hnews h1 h63 hbytes hbase
  refine wpOp_step hoi fun K' hK' => ?_
  have hw : Region.wanted op (yielded ops a.tmps) = true := by simp [Region.wanted, hgd]
  rw [if_pos hw]
  unfold Oper.wp execOp
  simp only [ho, resolve, invoke, builtin, Sem.run_bind, Sem.run_pure, Result.andThen_ok, List.map_toArray, List.map_cons, List.map_nil, hs, hx, hr]
  exact hK' _ _ (h v' w' h2 h3)
end
/-- A list in a row of the call's own: what lies inside the elements does not lie in the row. -/
def OwnL {α β : Type} (Y : Lay α β) (T : TypeId) (base : Nat) (l : List α) (v : Value) (w : World) : Prop :=
  ∃ ps : List (α × β), l = ps.map Prod.fst ∧ w.ownsRow base T Y.size v ps.length (Y.cs ps) ∧ Kb base v.ownBlock w (Y.Ns ps)
theorem ownl_form {α β : Type} {Y : Lay α β} {T : TypeId} {base : Nat} {l : List α} {v : Value} {w : World} (h : OwnL Y T base l v w) (hv : ∀ x ∈ l, Y.I x) : ∃ ao cap, v = .slice ao l.length cap := by
  obtain ⟨ps, rfl, h2, h3⟩ := h
  obtain ⟨ao, cap, e, -, -⟩ := Lay.sl_own h2 (fun p hp => hv _ (List.mem_map_of_mem hp)) h3.now
  exact ⟨ao, cap, by rw [List.length_map]; exact e⟩
theorem ownl_far {α β : Type} {Y : Lay α β} {T : TypeId} {base : Nat} {l : List α} {v : Value} {w : World} (h : OwnL Y T base l v w) {B j : Nat} (hB : B < base) (u : Value) : OwnL Y T base l v (w.setCell ⟨B, j, none⟩ u) := by
  obtain ⟨ps, h1, h2, h3⟩ := h
  exact ⟨ps, h1, own_far h2 hB u, kb_far h3 hB⟩
theorem heap_far {w : World} {B b j : Nat} {v : Value} (h : B ≠ b) : (w.setCell ⟨B, j, none⟩ v).heap[b]? = w.heap[b]? := by
  simp [World.setCell, Array.getElem?_modify, h]
theorem own_slice {w : World} {base e size : Nat} {v : Value} {n : Nat} {xs : List Value} (h : w.ownsRow base e size v n xs) : ∃ a k, v = .slice a n k := by
  rcases h.2 with ⟨rfl, rfl⟩ | ⟨g, cap, cur, rfl, _⟩
  · exact ⟨none, 0, rfl⟩
  · exact ⟨_, cap, rfl⟩
theorem bk_lt {w : World} {B : Nat} {cs : Array Value} {t : TypeId} (h : Bk w B cs t) : B + 1 ≤ w.heap.size := h.lt
/-- What lies inside a node: labels in a row of the call's own, properties. -/
def NodeIn (n : Nd) (m : AC × AC) (lo : Nat) (w : World) : Prop := SlS w m.1.1 n.ls m.1.2 ∧ SlP w m.2.1 n.ps m.2.2 ∧ w.ownsRow lo 9 1 (.slice m.1.1 n.ls.length m.1.2) n.ls.length (sC n.ls)
abbrev NMe := (AC × AC) × Nat × Nat
/-- A node whose inside lies in the blocks from lo to hi. -/
def LNi : Lay Nd NMe where
  size := 3
  C n m := [.int .i64 n.id, .slice m.1.1.1 n.ls.length m.1.1.2, .slice m.1.2.1 n.ps.length m.1.2.2]
  I n := I64 n.id
  J n m w := ∀ w2 : World, (∀ b, m.2.1 ≤ b → b < m.2.2 → w2.heap[b]? = w.heap[b]?) → NodeIn n m.1 m.2.1 w2
  P := NC
  len _ _ := rfl
  pos := by decide
  row w n m b o h1 h2 hc := by
    obtain ⟨k1, k2, -⟩ := h2 w fun _ _ _ => rfl
    exact ⟨h1, hc 0 (by decide), ⟨_, _, hc 1 (by decide), k1⟩, _, _, hc 2 (by decide), k2⟩
theorem LNi.on {n : Nd} {m : NMe} {w w' : World} (h : LNi.J n m w) (hb : ∀ b, m.2.1 ≤ b → b < m.2.2 → w'.heap[b]? = w.heap[b]?) : LNi.J n m w' := fun w2 h2 => h w2 fun b h1 h3 => (h2 b h1 h3).trans (hb b h1 h3)
/-- Nodes in a row of the call's own, each node's inside in blocks of its own. -/
structure OwnNs (base : Nat) (v : Value) (w : World) (ps : List (Nd × NMe)) : Prop where
  own : w.ownsRow base 33 3 v ps.length (LNi.cs ps)
  ins : LNi.Ns ps w
  ord : ps.Pairwise fun p q => p.2.2.2 ≤ q.2.2.1
  rng : ∀ p ∈ ps, base ≤ p.2.2.1 ∧ p.2.2.2 ≤ w.heap.size ∧ ∀ k, v.ownBlock = some k → k < p.2.2.1 ∨ p.2.2.2 ≤ k
def OwnN (base : Nat) (l : List Nd) (v : Value) (w : World) : Prop := ∃ ps, l = ps.map Prod.fst ∧ OwnNs base v w ps
theorem ownns_on {base : Nat} {v : Value} {w w' : World} {ps : List (Nd × NMe)} (h : OwnNs base v w ps) (hf : Fuw w w') : OwnNs base v w' ps :=
  ⟨own_on h.own hf, fun p hp => LNi.on (h.ins p hp) fun b _ h2 => Below.block hf b (Nat.lt_of_lt_of_le h2 (h.rng p hp).2.1), h.ord, fun p hp => ⟨(h.rng p hp).1, Nat.le_trans (h.rng p hp).2.1 hf.size, (h.rng p hp).2.2⟩⟩
theorem ownns_far {base : Nat} {v : Value} {w : World} {ps : List (Nd × NMe)} (h : OwnNs base v w ps) {B j : Nat} (hB : B < base) (u : Value) : OwnNs base v (w.setCell ⟨B, j, none⟩ u) ps :=
  ⟨own_far h.own hB u, fun p hp => LNi.on (h.ins p hp) fun b h1 _ => heap_far (by have := (h.rng p hp).1; omega), h.ord, fun p hp => ⟨(h.rng p hp).1, by have := (h.rng p hp).2.1; simpa using this, (h.rng p hp).2.2⟩⟩
theorem ownn_far {base : Nat} {l : List Nd} {v : Value} {w : World} (h : OwnN base l v w) {B j : Nat} (hB : B < base) (u : Value) : OwnN base l v (w.setCell ⟨B, j, none⟩ u) := by
  obtain ⟨ps, h1, h2⟩ := h
  exact ⟨ps, h1, ownns_far h2 hB u⟩
theorem ownn_form {base : Nat} {l : List Nd} {v : Value} {w : World} (h : OwnN base l v w) : ∃ ao cap, v = .slice ao l.length cap := by
  obtain ⟨ps, rfl, h2⟩ := h
  rcases h2.own.2 with ⟨rfl, h0⟩ | ⟨g, cap, cur, rfl, _⟩
  · exact ⟨none, 0, by rw [List.length_map, h0]⟩
  · exact ⟨_, cap, by rw [List.length_map]⟩
theorem ownn_sl {base : Nat} {l : List Nd} {v : Value} {w : World} (h : OwnN base l v w) (hi : ∀ x ∈ l, I64 x.id) : ∃ ao cap, v = .slice ao l.length cap ∧ SlN w ao l cap := by
  obtain ⟨ps, rfl, h2⟩ := h
  obtain ⟨ao, cap, e, -, hs⟩ := Lay.sl_own (Y := LNi) h2.own (fun p hp => hi _ (List.mem_map_of_mem hp)) h2.ins
  exact ⟨ao, cap, by rw [List.length_map]; exact e, hs⟩
/-- One node more. -/
theorem ownns_snoc {base : Nat} {ov v3 : Value} {w5 w3 : World} {ps : List (Nd × NMe)} {n : Nd} {m : AC × AC} {s : Nat} (h : OwnNs base ov w5 ps) (hk : Kb s none w5 (NodeIn n m s)) (hbs : base ≤ s) (hps : ∀ p ∈ ps, p.2.2.2 ≤ s) (hov : ∀ k, ov.ownBlock = some k → k < s)
    (hown : w3.ownsRow base 33 3 v3 (ps.length + 1) (LNi.cs ps ++ LNi.C n (m, s, w5.heap.size))) (hg : w5.grownBy w3 ov.ownBlock) (hat : v3.ownBlock = ov.ownBlock ∨ v3.ownBlock = some w5.heap.size) : OwnNs base v3 w3 (ps ++ [(n, (m, s, w5.heap.size))]) := by
  refine ⟨by rw [Lay.cs_app, Lay.cs_one, List.length_append]; exact hown, Lay.Ns_snoc (fun p hp => LNi.on (h.ins p hp) fun b h1 h2 => hg.block b (Nat.lt_of_lt_of_le h2 (h.rng p hp).2.1) (fun q => ?_)) ?_, ?_, fun p hp => ?_⟩
  · rcases (h.rng p hp).2.2 b q.symm with k | k <;> omega
  · intro w2 h2
    refine hk w2 fun b h1 h3 _ => (h2 b h1 h3).trans (hg.block b h3 fun q => ?_)
    have := hov b q.symm
    omega
  · refine List.pairwise_append.2 ⟨h.ord, List.pairwise_singleton _ _, fun p hp q hq => ?_⟩
    rw [List.mem_singleton] at hq
    subst hq
    exact hps p hp
  · rcases List.mem_append.1 hp with e | e
    · refine ⟨(h.rng p e).1, Nat.le_trans (h.rng p e).2.1 hg.size, fun k hk => ?_⟩
      rcases hat with q | q
      · rw [q] at hk; exact (h.rng p e).2.2 k hk
      · rw [q] at hk
        injection hk with hk
        exact .inr (by have := (h.rng p e).2.1; omega)
    · rw [List.mem_singleton] at e
      subst e
      refine ⟨hbs, hg.size, fun k hk => ?_⟩
      rcases hat with q | q
      · rw [q] at hk; exact .inl (hov k hk)
      · rw [q] at hk
        injection hk with hk
        exact .inr (by show w5.heap.size ≤ k; omega)
theorem built_strs2 {w : World} {base : Nat} {v : Value} {n : Nat} {l : List (List UInt8)} (h : w.ownsRow base 9 1 v n (sC l)) (hm : ∀ s ∈ l, s.length ≤ maxLen) : ∃ a k, v = .slice a l.length k ∧ Kb base none w (fun w2 => SlS w2 a l k ∧ w2.ownsRow base 9 1 (.slice a l.length k) l.length (sC l)) := by
  obtain ⟨ao, cap, e, e2, -⟩ := slS_of_own h hm
  subst e e2
  refine ⟨ao, cap, rfl, fun w2 h2 => ?_⟩
  have ho : w2.ownsRow base 9 1 (.slice ao l.length cap) l.length (sC l) := own_heap h fun g hg => h2 g (h.lt g hg).1 (h.lt g hg).2 (by intro q; cases q)
  obtain ⟨ao', cap', e', -, hs⟩ := slS_of_own ho hm
  cases e'
  exact ⟨hs, ho⟩
/-- A graph of moderate size. -/
structure ModG (g : Gr) : Prop where
  n : g.ns.length ≤ 1000000
  e : g.es.length ≤ 1000000
  nl : ∀ n ∈ g.ns, n.ls.length ≤ 1000000 ∧ n.ps.length ≤ 1000000 ∧ ∀ p ∈ n.ps, shV p.v = true
  el : ∀ e ∈ g.es, e.ps.length ≤ 1000000 ∧ ∀ p ∈ e.ps, shV p.v = true
end Go.Proofs.YtkcmakfmeioakaaGreat

/-! Package graph: Same of any two graphs in memory; slices.EqualFunc given what its function answers of each pair. Nothing that was there turns. -/
namespace Go.Proofs.YtkcmakfmeioakaaGreat
open Go.RowKit

/-- A row of structs, told by their cells. -/
structure CRow (size : Nat) (w : World) (ao : Option Addr) (us : List (List Value)) : Prop where
  len : us.length ≤ 9223372036854775807
  sz : ∀ (i : Nat) (h : i < us.length), us[i].length = size
  at_ : 0 < us.length → ∃ b o, ao = some ⟨b, o, none⟩ ∧ ∀ (i : Nat) (h : i < us.length) (j : Nat), j < size → w.cell? ⟨b, o + i * size + j, none⟩ = us[i][j]?
theorem CRow.on {size : Nat} {w w' : World} {ao : Option Addr} {us : List (List Value)} (h : CRow size w ao us) (hf : Fuw w w') : CRow size w' ao us :=
  ⟨h.len, h.sz, fun hp => by
    obtain ⟨b, o, e, hc⟩ := h.at_ hp
    refine ⟨b, o, e, fun i hi j hj => ?_⟩
    have k := hc i hi j hj
    rw [List.getElem?_eq_getElem (by rw [h.sz i hi]; exact hj)] at k ⊢
    exact cellOnw hf k⟩
theorem all_range (f : Nat → Bool) (i : Nat) : (List.range (i + 1)).all f = ((List.range i).all f && f i) := by
  rw [List.range_succ, List.all_append]; simp
theorem all_false {f : Nat → Bool} {i n : Nat} (h : i < n) (hf : f i = false) : (List.range n).all f = false := by
  cases e : (List.range n).all f
  · rfl
  · have := List.all_eq_true.1 e i (List.mem_range.2 h)
    rw [hf] at this; cases this
theorem pick_list {α : Type} {Q : Nat → α → Prop} : ∀ n : Nat, (∀ i, i < n → ∃ u, Q i u) → ∃ us : List α, us.length = n ∧ ∀ (i : Nat) (h : i < us.length), Q i us[i]
  | 0, _ => ⟨[], rfl, fun i h => absurd h (by simp)⟩
  | n + 1, h => by
    obtain ⟨us, e, hu⟩ := pick_list n (fun i hi => h i (by omega))
    obtain ⟨u, hq⟩ := h n (by omega)
    refine ⟨us ++ [u], by rw [List.length_append, e]; rfl, fun i hi => ?_⟩
    rw [List.length_append] at hi
    rcases Nat.lt_or_ge i us.length with k | k
    · rw [List.getElem_append_left k]; exact hu i k
    · have e2 : i = us.length := by simp at hi; omega
      subst e2
      rw [List.getElem_append_right (Nat.le_refl _)]
      simp
      rw [e]; exact hq
theorem crow_of {α : Type} {size : Nat} {P : World → α → Nat → Nat → Prop} {Q : α → List Value → Prop} {w : World} {ao : Option Addr} {l : List α} {cap : Nat} (h : Sl size P w ao l cap)
    (hP : ∀ x b o, P w x b o → ∃ u : List Value, u.length = size ∧ (∀ j, j < size → w.cell? ⟨b, o + j, none⟩ = u[j]?) ∧ Q x u) :
    ∃ us : List (List Value), us.length = l.length ∧ CRow size w ao us ∧ ∀ (i : Nat) (h : i < l.length) (h' : i < us.length), Q l[i] us[i] := by
  rcases Nat.eq_zero_or_pos l.length with h0 | h0
  · exact ⟨[], by simp [h0], ⟨Nat.zero_le _, fun i h => absurd h (by simp), fun h => absurd h (by simp)⟩, fun i h => absurd h (by omega)⟩
  · obtain ⟨b, o, e, hp⟩ := h.at_ h0
    obtain ⟨us, hl, hu⟩ := pick_list (Q := fun i (u : List Value) => ∃ hi : i < l.length, u.length = size ∧ (∀ j, j < size → w.cell? ⟨b, o + i * size + j, none⟩ = u[j]?) ∧ Q l[i] u) l.length (fun i hi => by
      obtain ⟨u, k1, k2, k3⟩ := hP _ _ _ (hp i hi)
      exact ⟨u, hi, k1, k2, k3⟩)
    refine ⟨us, hl, ⟨by rw [hl]; exact h.len, fun i hi => (hu i hi).2.1, fun _ => ⟨b, o, e, fun i hi j hj => (hu i hi).2.2.1 j hj⟩⟩, fun i hi hi' => (hu i hi').2.2.2⟩
/-- The cells' kinds. -/
def Fm6 (u : List Value) : Prop := ∃ s a b c t r n k, u = [.string s, .int .i64 a, .int .i64 b, .int .i64 c, .string t, .slice r n k]
/-- The cells' kinds. -/
def Fm3 (u : List Value) : Prop := ∃ a r n k t m l, u = [.int .i64 a, .slice r n k, .slice t m l]
/-- The cells' kinds. -/
def Fm5 (u : List Value) : Prop := ∃ a b c s r n k, u = [.int .i64 a, .int .i64 b, .int .i64 c, .string s, .slice r n k]
end Go.Proofs.YtkcmakfmeioakaaGreat
