
/-
  Rows of a call's own that lie in an interval of blocks; an overlay in such rows; a result that is an overlay. No program's function is walked here.
-/
import Derived.Test.YtpjikijfendmhaaGreatOvK
import Derived.Test.YtpjikijfendmhaaGreatOvI
import Derived.Test.YtpjikijfendmhaaGreatOvC
namespace Go.Proofs.YtpjikijfendmhaaGreat
open Go.RowKit

/-- A row of a call's own in the blocks from lo on, below hi. -/
structure Ow (w : World) (lo hi : Nat) (T : TypeId) (s : Nat) (v : Value) (n : Nat) (xs : List Value) : Prop where
  o : w.ownsRow lo T s v n xs
  h : ∀ k, v.ownBlock = some k → k < hi
section
variable {w w' : World} {lo hi : Nat} {T : TypeId} {s : Nat} {v : Value} {n : Nat} {xs : List Value}
theorem Ow.on (h : Ow w lo hi T s v n xs) (hf : Fuw w w') : Ow w' lo hi T s v n xs := ⟨own_on h.o hf, h.h⟩
theorem Ow.keep (h : Ow w lo hi T s v n xs) {g : Option Nat} (hg : w.grownBy w' g) (hne : ∀ k, g = some k → k < lo ∨ hi ≤ k) : Ow w' lo hi T s v n xs := by
  refine ⟨h.o.kept hg ?_, h.h⟩
  cases hv : v.ownBlock with
  | none => exact .inl rfl
  | some k =>
    refine .inr fun e => ?_
    have h1 := (h.o.lt k hv).1
    have h2 := h.h k hv
    rcases hne k e.symm with q | q <;> omega
theorem Ow.le (h : Ow w lo hi T s v n xs) {lo' hi' : Nat} (h1 : lo' ≤ lo) (h2 : hi ≤ hi') : Ow w lo' hi' T s v n xs := ⟨own_le h.o h1, fun k e => Nat.lt_of_lt_of_le (h.h k e) h2⟩
theorem Ow.of (h : w.ownsRow lo T s v n xs) : Ow w lo w.heap.size T s v n xs := ⟨h, fun k e => (h.lt k e).2⟩
end
/-- An overlay in rows of a call's own: the column's, the inserted entries', the deleted edges', one behind the other. -/
structure OwO (w : World) (lo m5 m6 hi : Nat) (o : Ov) (A : OA) : Prop where
  n : Ow w lo m5 3 1 (.slice A.c.a1 o.c.ns.length A.c.k1) o.c.ns.length (cs o.c.ns)
  f : Ow w lo m5 3 1 (.slice A.c.a2 o.c.fs.length A.c.k2) o.c.fs.length (cs o.c.fs)
  t : Ow w lo m5 3 1 (.slice A.c.a3 o.c.ts.length A.c.k3) o.c.ts.length (cs o.c.ts)
  e : Ow w lo m5 3 1 (.slice A.c.a4 o.c.es.length A.c.k4) o.c.es.length (cs o.c.es)
  a : Ow w m5 m6 42 3 (.slice A.a5 o.ads.length A.k5) o.ads.length (aC o.ads)
  d : Ow w m6 hi 3 1 (.slice A.a6 o.dls.length A.k6) o.dls.length (cs o.dls)
  l5 : lo ≤ m5
  l6 : m5 ≤ m6
  lh : m6 ≤ hi
structure I64O (o : Ov) : Prop where
  n : ∀ x ∈ o.c.ns, I64 x
  f : ∀ x ∈ o.c.fs, I64 x
  t : ∀ x ∈ o.c.ts, I64 x
  e : ∀ x ∈ o.c.es, I64 x
  a : ∀ x ∈ o.ads, I64 x.1 ∧ I64 x.2.1 ∧ I64 x.2.2
  d : ∀ x ∈ o.dls, I64 x
theorem OIn.i64 {w : World} {o : Ov} {A : OA} (h : OIn w o A) : I64O o := ⟨slI_i64 h.c.n, slI_i64 h.c.f, slI_i64 h.c.t, slI_i64 h.c.e, slJ_i64 h.a, slI_i64 h.d⟩
theorem slI_of {w : World} {lo hi : Nat} {T : TypeId} {ao : Option Addr} {cap : Nat} {l : List Int} (h : Ow w lo hi T 1 (.slice ao l.length cap) l.length (cs l)) (hi' : ∀ x ∈ l, I64 x) : SlI w ao l cap := by
  obtain ⟨a, c, e, -, hs⟩ := slI_own h.o hi'
  cases e; exact hs
theorem slJ_of {w : World} {lo hi : Nat} {T : TypeId} {ao : Option Addr} {cap : Nat} {l : List Aj} (h : Ow w lo hi T 3 (.slice ao l.length cap) l.length (aC l)) (hi' : ∀ x ∈ l, I64 x.1 ∧ I64 x.2.1 ∧ I64 x.2.2) : SlJ w ao l cap := by
  obtain ⟨a, c, e, -, hs⟩ := slJ_own h.o hi'
  cases e; exact hs
theorem OwO.in_ {w : World} {lo m5 m6 hi : Nat} {o : Ov} {A : OA} (h : OwO w lo m5 m6 hi o A) (hi' : I64O o) : OIn w o A :=
  ⟨⟨slI_of h.n hi'.n, slI_of h.f hi'.f, slI_of h.t hi'.t, slI_of h.e hi'.e⟩, slJ_of h.a hi'.a, slI_of h.d hi'.d⟩
theorem OwO.keep {w w' : World} {lo m5 m6 hi : Nat} {o : Ov} {A : OA} (h : OwO w lo m5 m6 hi o A) {g : Option Nat} (hg : w.grownBy w' g) (hne : ∀ k, g = some k → k < lo ∨ hi ≤ k) : OwO w' lo m5 m6 hi o A := by
  have h5 := h.l5; have h6 := h.l6; have hh := h.lh
  have q : ∀ k, g = some k → k < lo ∨ m5 ≤ k := fun k e => (hne k e).imp id (fun h => by omega)
  exact ⟨h.n.keep hg q, h.f.keep hg q, h.t.keep hg q, h.e.keep hg q, h.a.keep hg (fun k e => (hne k e).imp (fun h => by omega) (fun h => by omega)), h.d.keep hg (fun k e => (hne k e).imp (fun h => by omega) id), h5, h6, hh⟩
theorem OwO.on {w w' : World} {lo m5 m6 hi : Nat} {o : Ov} {A : OA} (h : OwO w lo m5 m6 hi o A) (hf : Fuw w w') : OwO w' lo m5 m6 hi o A :=
  ⟨h.n.on hf, h.f.on hf, h.t.on hf, h.e.on hf, h.a.on hf, h.d.on hf, h.l5, h.l6, h.lh⟩
theorem grown_set (w : World) (g j : Nat) (u : Value) : w.grownBy (w.setCell ⟨g, j, none⟩ u) (some g) := grown_setCells w g j [u]
theorem load_ov (w : World) (B : Nat) (o : Ov) (A : OA) (h : OB w B o A) : (loadVar 27 ⟨B, 0, none⟩).run Tryz.prog w = .ok (ovv o A) w := by
  have d1 := h.c1; have d2 := h.c2; have d3 := h.c3; have d4 := h.c4; have d5 := h.c5; have d6 := h.c6
  unfold ovv ovC
  go_simp
theorem results_cell {fn : Func} {p : Tmp} {ty : TypeId} (h : fn.results = #[.cell p ty]) (tmps : Array Value) (P : Program) (w : World) :
    (results fn tmps).run P w = ((asAddr (tmps.getD p undef)).run P w).andThen fun a w₁ => (loadVar ty a).run P w₁ := by
  simp only [results, h]
  simp [Sem.run_bind, Result.andThen]
theorem o_ret {fn : Func} {p : Tmp} (hres : fn.results = #[.cell p 27]) {tmps : Array Value} {B : Nat} {o : Ov} {A : OA} {w : World} {Q : Ending → World → Prop}
    (hp : tmps.getD p undef = .pointer (some ⟨B, 0, none⟩)) (h : OB w B o A) (hQ : Q (.returned (ovv o A)) w) : bodyPost Tryz.prog fn Q Exit.ret { tmps := tmps, defers := [] } w := by
  refine bodyPost_ret (v := ovv o A) ?_ rfl hQ
  have e : (asAddr (.pointer (some ⟨B, 0, none⟩))).run Tryz.prog w = .ok ⟨B, 0, none⟩ w := by go_simp
  rw [results_cell hres, hp, e]
  simp only [Result.andThen]
  exact load_ov w B o A h
theorem o_ret2 {fn : Func} {p u : Tmp} (hres : fn.results = #[.cell p 27, .tmp u]) {tmps : Array Value} {B : Nat} {o : Ov} {A : OA} {n : Value} {w : World} {Q : Ending → World → Prop}
    (hp : tmps.getD p undef = .pointer (some ⟨B, 0, none⟩)) (hu : tmps.getD u undef = n) (h : OB w B o A) (hQ : Q (.returned (.tuple #[ovv o A, n])) w) : bodyPost Tryz.prog fn Q Exit.ret { tmps := tmps, defers := [] } w := by
  refine bodyPost_ret (v := .tuple #[ovv o A, n]) ?_ rfl hQ
  have e : (asAddr (.pointer (some ⟨B, 0, none⟩))).run Tryz.prog w = .ok ⟨B, 0, none⟩ w := by go_simp
  rw [results_cell_tmp hres, hp, hu, e]
  simp only [Result.andThen]
  rw [load_ov w B o A h]
/-- Lists short enough to be cloned. -/
structure Tiny (o : Ov) : Prop where
  n : o.c.ns.length ≤ 5000
  f : o.c.fs.length ≤ 5000
  t : o.c.ts.length ≤ 5000
  e : o.c.es.length ≤ 5000
  a : o.ads.length ≤ 5000
  d : o.dls.length ≤ 5000
theorem Tiny.sm {o : Ov} (h : Tiny o) : SmO o := by
  obtain ⟨h1, h2, h3, h4, h5, h6⟩ := h
  exact ⟨⟨by omega, by omega, by omega⟩, by omega, by omega, by omega⟩
theorem cln_i {w : World} {ao : Option Addr} {l : List Int} {cap : Nat} (h : SlI w ao l cap) (hl : l.length ≤ 5000) :
    Calls Tryz.prog 74 #[.slice ao l.length cap] w (RetCn w 3 1 l.length (cs l)) := by
  refine clone_i (cs l) l.length cap ao w (fun e => ?_) (fun p hp j u hu => ?_) (by rw [cs_len, Nat.mul_one]) (by omega) (fun u hu => ?_)
  · have h1 := h.nil e
    have h2 := h.le
    exact ⟨by omega, h1⟩
  · have hj : j < l.length := by
      have := (List.getElem?_eq_some_iff.1 hu).1
      rwa [cs_len] at this
    obtain ⟨b, o, e, -, hc⟩ := h.get hj
    rw [hp] at e
    cases e
    rw [Nat.mul_one] at hc
    rw [Addr.add_lit, hc, ← hu, cs_get hj]
  · unfold cs at hu
    obtain ⟨x, -, rfl⟩ := List.mem_map.1 hu
    rfl
theorem cln_j {w : World} {ao : Option Addr} {l : List Aj} {cap : Nat} (h : SlJ w ao l cap) (hl : l.length ≤ 5000) :
    Calls Tryz.prog 63 #[.slice ao l.length cap] w (RetCn w 42 3 l.length (aC l)) := by
  refine clone_j (aC l) l.length cap ao w (fun e => ?_) (fun p hp j u hu => ?_) (aC_len l) (by omega) (one_adjs l)
  · have h1 := h.nil e
    have h2 := h.le
    exact ⟨by omega, h1⟩
  · have hj : j < l.length * 3 := by
      have := (List.getElem?_eq_some_iff.1 hu).1
      rwa [aC_len] at this
    obtain ⟨b, o, e, -⟩ := h.at_ (by omega)
    rw [hp] at e
    cases e
    subst hp
    exact slJ_news h j u hu
end Go.Proofs.YtpjikijfendmhaaGreat
