/-
  RfJ, RfKN: texts of one kind in one file; each part says what it holds.
-/
import Derived.Test.YtpjikijfendmhaaGreatRfI
import Derived.Test.YtpjikijfendmhaaGreatCoP
import Derived.Test.YtpjikijfendmhaaGreatDagX
import Derived.Test.YtpjikijfendmhaaGreatOvV

/-! The reference of overlays: a copy of an overlay in rows of the call's own. Nothing that was there turns. -/
namespace Go.Proofs.YtpjikijfendmhaaGreat
open Go.RowKit

section
variable {P : Program} {ops : Array Oper} {Q : Exit → Act → World → Prop} (w : World)
theorem run_append_empty (base : Nat) (t ty e : TypeId) (i : TypeInfo) (z : Value) (size bytes : Nat) (ht : P.underlying t = some (.slice e)) (hi : P.info? e = some i) (hz : i.zero = some z)
    (hsize : i.size = size) (hby : i.bytes = bytes) (hzs : z.cells.size = size) (hsz : 0 < size)
    (g : Nat) (hg : w.heap[g]? = some (.cells #[] e (0, 0))) (hbg : base ≤ g)
    (a : Addr) (m c : Nat) (news : List Value) (hl : news.length = m * size) (hnews : ∀ j u, news[j]? = some u → w.cell? (a.add j) = some u) (h1 : ∀ u ∈ news, u.oneCell' = true)
    (h63 : m ≤ maxLen) (hbytes : m * bytes ≤ 140737488355328) (hbase : base ≤ w.heap.size) :
    ∃ v' w', (Builtin.append_ #[t, t] ty #[.slice (some ⟨g, 0, none⟩) 0 0, .slice (some a) m c]).run P w = .ok v' w' ∧ w'.ownsRow base e size v' m news ∧ Fuw w w' := by
  have hown : w.ownsRow base e size (.slice (some ⟨g, 0, none⟩) 0 0) 0 [] := ⟨by simp, .inr ⟨g, 0, #[], rfl, hbg, hg, Nat.le_refl _, Nat.zero_le _, by simp, by simp⟩⟩
  obtain ⟨v', w', hr, h2, h3, _, h5⟩ := run_append_own_at (P := P) w base t ty e i z size bytes ht hi hz hsize hby hzs hsz (.slice (some ⟨g, 0, none⟩) 0 0) 0 [] hown a m c news hl hnews h1 (by omega) (by rw [Nat.zero_add]; exact hbytes) hbase
  rw [Nat.zero_add, List.nil_append] at h2
  refine ⟨v', w', hr, h2, ?_⟩
  subst hsize
  have hglt : g < w.heap.size := by
    rcases Nat.lt_or_ge g w.heap.size with q | q
    · exact q
    · rw [Array.getElem?_eq_none q] at hg; cases hg
  -- the row g is empty: it holds what it held
  have hgg : w'.heap[g]? = w.heap[g]? := by
    rcases Nat.eq_zero_or_pos m with hm | hm
    · subst hm
      have hn : news = [] := List.eq_nil_of_length_eq_zero (by simpa using hl)
      subst hn
      have hr2 := run_append_room (P := P) w t ty e i ht hi g 0 0 #[] hg a 0 c [] (by simp) (by simp) (by simp) (by simp) (by simp)
      rw [hr] at hr2
      injection hr2 with _ e2
      rw [e2, setRow_heap w g #[] _ e _ hg, hg]
      simp
    · have hr2 := run_append_grow (P := P) w t ty e i z ht hi hz ⟨g, 0, none⟩ 0 0 [] (by simp) (by simp) a m c news hl hnews (by omega) (by simp only [maxLen] at h63; omega) (growslice_fits (by omega) (by rw [Nat.zero_add, hby]; exact hbytes))
      rw [hr] at hr2
      injection hr2 with _ e2
      rw [e2]
      exact heap_alloc_old w.drew _ hglt
  exact ⟨h3.os, h3.tape, h3.output, h3.size, fun b hb => by
    by_cases hbg : b = g
    · rw [hbg]; exact hgg
    · exact h3.block b hb (by intro q; injection q with q; exact hbg q)⟩
theorem wpOp_append_empty {i : Nat} {op : Oper} {a : Act} {K : Act → World → Prop} (hoi : ops[i]? = some op) (hgd : op.guard = none) (s x : Operand) (t : TypeId)
    (ho : op.op = .call { callee := .builtin .append, args := #[s, x], argTypes := #[t, t] })
    (base : Nat) (e : TypeId) (i0 : TypeInfo) (z : Value) (size bytes : Nat) (ht : P.underlying t = some (.slice e)) (hi : P.info? e = some i0) (hz : i0.zero = some z)
    (hsize : i0.size = size) (hby : i0.bytes = bytes) (hzs : z.cells.size = size) (hsz : 0 < size)
    (g : Nat) (hs : a.eval s = .slice (some ⟨g, 0, none⟩) 0 0) (hg : w.heap[g]? = some (.cells #[] e (0, 0))) (hbg : base ≤ g)
    (ad : Addr) (m c : Nat) (news : List Value) (hx : a.eval x = .slice (some ad) m c) (hl : news.length = m * size) (hnews : ∀ j u, news[j]? = some u → w.cell? (ad.add j) = some u) (h1 : ∀ u ∈ news, u.oneCell' = true)
    (h63 : m ≤ maxLen) (hbytes : m * bytes ≤ 140737488355328) (hbase : base ≤ w.heap.size)
    (h : ∀ v' w', w'.ownsRow base e size v' m news → Fuw w w' → K (a.put op.dst v') w') : wpOp P ops Q i K a w := by
  obtain ⟨v', w', hr, h2, h3⟩ := run_append_empty (P := P) w base t op.type e i0 z size bytes ht hi hz hsize hby hzs hsz g hg hbg ad m c news hl hnews h1 h63 hbytes hbase
  refine wpOp_step hoi fun K' hK' => ?_
  have hw : Region.wanted op (yielded ops a.tmps) = true := by simp [Region.wanted, hgd]
  rw [if_pos hw]
  unfold Oper.wp execOp
  simp only [ho, resolve, invoke, builtin, Sem.run_bind, Sem.run_pure, Result.andThen_ok, List.map_toArray, List.map_cons, List.map_nil, hs, hx, hr]
  exact hK' _ _ (h v' w' h2 h3)
end

/-- What a call owns of a column. -/
def OwnC (base : Nat) (c : Cm) (X : CA) (w : World) : Prop := w.ownsRow base 3 1 (.slice X.a1 c.ns.length X.k1) c.ns.length (cs c.ns) ∧ w.ownsRow base 3 1 (.slice X.a2 c.fs.length X.k2) c.fs.length (cs c.fs) ∧ w.ownsRow base 3 1 (.slice X.a3 c.ts.length X.k3) c.ts.length (cs c.ts) ∧ w.ownsRow base 3 1 (.slice X.a4 c.es.length X.k4) c.es.length (cs c.es)
theorem OwnC.on {base : Nat} {c : Cm} {X : CA} {w w' : World} (h : OwnC base c X w) (hf : Fuw w w') : OwnC base c X w' := ⟨own_on h.1 hf, own_on h.2.1 hf, own_on h.2.2.1 hf, own_on h.2.2.2 hf⟩
theorem OwnC.far {base : Nat} {c : Cm} {X : CA} {w : World} {B : Nat} {xs : Array Value} {t : TypeId} (h : OwnC base c X w) (hb : Bk w B xs t) (ht : t ≠ 3) (j : Nat) (u : Value) : OwnC base c X (w.setCell ⟨B, j, none⟩ u) :=
  ⟨ownsRow_setCell_other h.1 (own_ne h.1 hb ht) _, ownsRow_setCell_other h.2.1 (own_ne h.2.1 hb ht) _, ownsRow_setCell_other h.2.2.1 (own_ne h.2.2.1 hb ht) _, ownsRow_setCell_other h.2.2.2 (own_ne h.2.2.2 hb ht) _⟩
theorem OwnC.cin {base : Nat} {c : Cm} {X : CA} {w : World} (h : OwnC base c X w) (hn : ∀ x ∈ c.ns, I64 x) (hf : ∀ x ∈ c.fs, I64 x) (ht : ∀ x ∈ c.ts, I64 x) (he : ∀ x ∈ c.es, I64 x) : CIn w c X := by
  obtain ⟨h1, h2, h3, h4⟩ := h
  obtain ⟨a1, k1, e1, -, s1⟩ := slI_own h1 hn
  obtain ⟨a2, k2, e2, -, s2⟩ := slI_own h2 hf
  obtain ⟨a3, k3, e3, -, s3⟩ := slI_own h3 ht
  obtain ⟨a4, k4, e4, -, s4⟩ := slI_own h4 he
  cases e1; cases e2; cases e3; cases e4
  exact ⟨s1, s2, s3, s4⟩
/-- Where a slice's cells lie, for append: nowhere, or somewhere. -/
def Src (w0 : World) (a : Option Addr) (n k : Nat) (xs : List Value) : Prop := (a = none ∧ n = 0 ∧ k = 0 ∧ xs = []) ∨ ∃ ad, a = some ad ∧ ∀ j u, xs[j]? = some u → w0.cell? (ad.add j) = some u
theorem srcI {w : World} {a : Option Addr} {l : List Int} {k : Nat} (h : SlI w a l k) : Src w a l.length k (cs l) := by
  cases a with
  | none =>
    have h1 := h.nil rfl
    have h2 := h.le
    have e : l = [] := List.length_eq_zero_iff.1 (by omega)
    subst e
    exact .inl ⟨rfl, rfl, h1, rfl⟩
  | some ad =>
    refine .inr ⟨ad, rfl, fun j u hu => ?_⟩
    have hj : j < l.length := by
      have := (List.getElem?_eq_some_iff.1 hu).1
      rwa [cs_len] at this
    obtain ⟨b, o, e, -, hc⟩ := h.get hj
    cases e
    rw [Nat.mul_one] at hc
    rw [Addr.add_lit, hc, ← hu, cs_get hj]
theorem srcJ {w : World} {a : Option Addr} {l : List Aj} {k : Nat} (h : SlJ w a l k) : Src w a l.length k (aC l) := by
  cases a with
  | none =>
    have h1 := h.nil rfl
    have h2 := h.le
    have e : l = [] := List.length_eq_zero_iff.1 (by omega)
    subst e
    exact .inl ⟨rfl, rfl, h1, rfl⟩
  | some ad =>
    refine .inr ⟨ad, rfl, fun j u hu => ?_⟩
    have hj : j < l.length * 3 := by
      have := (List.getElem?_eq_some_iff.1 hu).1
      rwa [aC_len] at this
    obtain ⟨b, o, e, -⟩ := h.at_ (by omega)
    cases e
    exact slJ_news h j u hu
def CpU (B base : Nat) (o : Ov) (A : OA) : Nat → World → Value → Prop
  | 1, w, v => ∃ g, v = .slice (some ⟨g, 0, none⟩) 0 0 ∧ w.heap[g]? = some (.cells #[] 3 (0, 0)) ∧ base ≤ g
  | 2, _, v => v = .pointer (some ⟨B, 0, none⟩)
  | 3, _, v => v = .pointer (some ⟨B, 1, none⟩)
  | 4, _, v => v = .pointer (some ⟨B, 2, none⟩)
  | 5, _, v => v = .pointer (some ⟨B, 3, none⟩)
  | 6, _, v => v = .slice A.c.a1 o.c.ns.length A.c.k1
  | 7, _, v => v = .slice A.c.a2 o.c.fs.length A.c.k2
  | 8, _, v => v = .slice A.c.a3 o.c.ts.length A.c.k3
  | 9, _, v => v = .slice A.c.a4 o.c.es.length A.c.k4
  | 10, w, v => ∃ a k, v = .slice a o.c.ns.length k ∧ w.ownsRow base 3 1 (.slice a o.c.ns.length k) o.c.ns.length (cs o.c.ns)
  | 11, w, v => ∃ a k, v = .slice a o.c.fs.length k ∧ w.ownsRow base 3 1 (.slice a o.c.fs.length k) o.c.fs.length (cs o.c.fs)
  | 12, w, v => ∃ a k, v = .slice a o.c.ts.length k ∧ w.ownsRow base 3 1 (.slice a o.c.ts.length k) o.c.ts.length (cs o.c.ts)
  | 13, w, v => ∃ a k, v = .slice a o.c.es.length k ∧ w.ownsRow base 3 1 (.slice a o.c.es.length k) o.c.es.length (cs o.c.es)
  | 14, w, v => ∃ X : CA, v = .agg #[.slice X.a1 o.c.ns.length X.k1, .slice X.a2 o.c.fs.length X.k2, .slice X.a3 o.c.ts.length X.k3, .slice X.a4 o.c.es.length X.k4] ∧ OwnC base o.c X w
  | 15, w, v => ∃ C, v = .pointer (some ⟨C, 0, none⟩) ∧ Bk w C #[.slice none 0 0, .slice none 0 0, .slice none 0 0, .slice none 0 0] 24 ∧ base ≤ C
  | 16, w, v => ∃ C X, v = .pointer (some ⟨C, 0, none⟩) ∧ Bk w C (colC o.c X) 24 ∧ OwnC base o.c X w ∧ base ≤ C
  | _, _, _ => True
def kCpF : List Nat := [0, 0, 0, 15, 1, 2, 2, 6, 10, 1, 2, 3, 7, 11, 1, 2, 4, 8, 12, 1, 2, 5, 9, 13, 14, 0, 0, 0, 0, 0, 0, 0, 0, 0, 0]
def kCp (b : Bool) (t : Nat) : Nat := match b with | true => if t = 3 then 16 else 0 | false => kCpF.getD t 0
theorem kT0 {t : Nat} (h : t ≠ 3) : kCp true t = 0 := if_neg h
theorem heap_on {w w' : World} (hf : Fuw w w') {g : Nat} {o : Obj} (h : w.heap[g]? = some o) : w'.heap[g]? = some o := by
  rw [Below.block hf g (Array.getElem?_eq_some_iff.1 h).1]; exact h
theorem cpu_on {B base : Nat} {o : Ov} {A : OA} {w w' : World} (hf : Fuw w w') :
    ∀ (k : Nat) (u : Value), CpU B base o A k w u → CpU B base o A k w' u := by
  intro k u h
  match k, h with
  | 0, h => exact h
  | 1, ⟨g, h1, h2, h3⟩ => exact ⟨g, h1, heap_on hf h2, h3⟩
  | 2, h => exact h
  | 3, h => exact h
  | 4, h => exact h
  | 5, h => exact h
  | 6, h => exact h
  | 7, h => exact h
  | 8, h => exact h
  | 9, h => exact h
  | 10, ⟨a, k, h1, h2⟩ => exact ⟨a, k, h1, own_on h2 hf⟩
  | 11, ⟨a, k, h1, h2⟩ => exact ⟨a, k, h1, own_on h2 hf⟩
  | 12, ⟨a, k, h1, h2⟩ => exact ⟨a, k, h1, own_on h2 hf⟩
  | 13, ⟨a, k, h1, h2⟩ => exact ⟨a, k, h1, own_on h2 hf⟩
  | 14, ⟨X, h1, h2⟩ => exact ⟨X, h1, h2.on hf⟩
  | 15, ⟨C, h1, h2, h3⟩ => exact ⟨C, h1, h2.on hf, h3⟩
  | 16, ⟨C, X, h1, h2, h3, h4⟩ => exact ⟨C, X, h1, h2.on hf, h3.on hf, h4⟩
  | _ + 17, h => exact h
theorem frameD35 (x : Nat → Value) : frameD 35 x = ⟨#[x 0, x 1, x 2, x 3, x 4, x 5, x 6, x 7, x 8, x 9, x 10, x 11, x 12, x 13, x 14, x 15, x 16, x 17, x 18, x 19, x 20, x 21, x 22, x 23, x 24, x 25, x 26, x 27, x 28, x 29, x 30, x 31, x 32, x 33, x 34], []⟩ := rfl
def CqU (B base : Nat) (o : Ov) (A : OA) (X : CA) : Nat → World → Value → Prop
  | 1, _, v => v = .agg #[.slice X.a1 o.c.ns.length X.k1, .slice X.a2 o.c.fs.length X.k2, .slice X.a3 o.c.ts.length X.k3, .slice X.a4 o.c.es.length X.k4]
  | 2, w, v => ∃ g, v = .slice (some ⟨g, 0, none⟩) 0 0 ∧ w.heap[g]? = some (.cells #[] 42 (0, 0)) ∧ base ≤ g
  | 3, _, v => v = .pointer (some ⟨B, 4, none⟩)
  | 4, _, v => v = .slice A.a5 o.ads.length A.k5
  | 5, w, v => ∃ a k, v = .slice a o.ads.length k ∧ w.ownsRow base 42 3 (.slice a o.ads.length k) o.ads.length (aC o.ads)
  | 6, w, v => ∃ g, v = .slice (some ⟨g, 0, none⟩) 0 0 ∧ w.heap[g]? = some (.cells #[] 3 (0, 0)) ∧ base ≤ g
  | 7, _, v => v = .pointer (some ⟨B, 5, none⟩)
  | 8, _, v => v = .slice A.a6 o.dls.length A.k6
  | 9, w, v => ∃ a k, v = .slice a o.dls.length k ∧ w.ownsRow base 3 1 (.slice a o.dls.length k) o.dls.length (cs o.dls)
  | 10, w, v => ∃ a k b m, v = .agg #[.slice X.a1 o.c.ns.length X.k1, .slice X.a2 o.c.fs.length X.k2, .slice X.a3 o.c.ts.length X.k3, .slice X.a4 o.c.es.length X.k4, .slice a o.ads.length k, .slice b o.dls.length m] ∧ w.ownsRow base 42 3 (.slice a o.ads.length k) o.ads.length (aC o.ads) ∧ w.ownsRow base 3 1 (.slice b o.dls.length m) o.dls.length (cs o.dls)
  | _, _, _ => True
def kCqF : List Nat := [0, 0, 0, 0, 0, 0, 0, 0, 0, 0, 0, 0, 0, 0, 0, 0, 0, 0, 0, 0, 0, 0, 0, 0, 0, 1, 2, 3, 4, 5, 6, 7, 8, 9, 10]
def kCq (b : Bool) (t : Nat) : Nat := match b with | true => 0 | false => kCqF.getD t 0
theorem cqu_on {B base : Nat} {o : Ov} {A : OA} {X : CA} {w w' : World} (hf : Fuw w w') :
    ∀ (k : Nat) (u : Value), CqU B base o A X k w u → CqU B base o A X k w' u := by
  intro k u h
  match k, h with
  | 0, h => exact h
  | 1, h => exact h
  | 2, ⟨g, h1, h2, h3⟩ => exact ⟨g, h1, heap_on hf h2, h3⟩
  | 3, h => exact h
  | 4, h => exact h
  | 5, ⟨a, k, h1, h2⟩ => exact ⟨a, k, h1, own_on h2 hf⟩
  | 6, ⟨g, h1, h2, h3⟩ => exact ⟨g, h1, heap_on hf h2, h3⟩
  | 7, h => exact h
  | 8, h => exact h
  | 9, ⟨a, k, h1, h2⟩ => exact ⟨a, k, h1, own_on h2 hf⟩
  | 10, ⟨a, k, b, m, h1, h2, h3⟩ => exact ⟨a, k, b, m, h1, own_on h2 hf, own_on h3 hf⟩
  | _ + 11, h => exact h
def SqS (wt w1 : World) (B2 : Nat) (o : Ov) (b : Bool) (w : World) : Prop := match b with | true => (∃ Y, OB w B2 o Y ∧ OIn w o Y) ∧ Fuw wt w | false => Fuw w1 w
def RetCp (w : World) (o : Ov) (e : Ending) (w' : World) : Prop := ∃ A, e = .returned (ovv o A) ∧ OIn w' o A ∧ Fuw w w'
set_option maxHeartbeats 25600000 in
set_option maxRecDepth 100000 in
theorem rcopied_any (o : Ov) (A : OA) (wt : World) (hO : OIn wt o A) (ht : Tiny o) : Calls Tryz.prog 34 #[ovv o A] wt (RetCp wt o) := by
  obtain ⟨wa, hwa⟩ : ∃ wa, wt.alloc (.cells (ovC o A) 27) = wa := ⟨_, rfl⟩
  obtain ⟨w0, hw0⟩ : ∃ w0, wa.alloc (.cells #[.slice none 0 0, .slice none 0 0, .slice none 0 0, .slice none 0 0, .slice none 0 0, .slice none 0 0] 27) = w0 := ⟨_, rfl⟩
  have Fa := Lib.hid (show Fuw wt wa by rw [← hwa]; exact fuwA _ _)
  have Fb := Lib.hid (show Fuw wa w0 by rw [← hw0]; exact fuwA _ _)
  have FT0 := Lib.hid (Fa.out.trans Fb.out)
  obtain ⟨B1, hB1⟩ : ∃ B1, B1 = wt.heap.size := ⟨_, rfl⟩
  obtain ⟨B2, hB2e⟩ : ∃ B2, B2 = wa.heap.size := ⟨_, rfl⟩
  have B0 := Lib.hid (show OB w0 B1 o A from (show OB wa B1 o A from ⟨by rw [hB1, ← hwa]; exact Bk.new _ _ _⟩).on Fb.out)
  have BR0 := Lib.hid (show Bk w0 B2 emV 27 by rw [hB2e, ← hw0]; exact Bk.new _ _ _)
  have hB2 := Lib.hid (show wt.heap.size ≤ B2 by rw [hB2e]; exact Fa.out.size)
  have HO := Lib.hid (hO.on FT0.out)
  have HI := Lib.hid hO.i64
  have HL := Lib.hid ht
  have H1 := Lib.hid (srcI HO.out.c.n)
  have H2 := Lib.hid (srcI HO.out.c.f)
  have H3 := Lib.hid (srcI HO.out.c.t)
  have H4 := Lib.hid (srcI HO.out.c.e)
  have tyC : 24 ≠ 3 := by decide
  obtain ⟨i0, hi0, hz0, hz1, hz2⟩ := info_parts infoI
  obtain ⟨j0, hj0, hy0, hy1, hy2⟩ := info_parts infoJ
  unfold ovv
  unfold ovC at hwa ⊢
  clear hO ht
  go_enter Tryz.func34, Tryz.ntmps34
  go_upto_region 1 with fail
  rw [← hB1, ← hB2e]
  clear hwa hw0 hB1 hB2e
  refine region_midB (N := 35) (S := fun _ w => Fuw w0 w) (U := fun σ t => CpU B1 w0.heap.size o A (kCp (σ 22) t)) (V := fun _ _ => True) (by kernel_rfl) (by kernel_rfl) (by kernel_rfl) ?base (fun H1 => uptoD_succ (n := 22) (uptoD_succ (n := 21) (uptoD_succ (n := 20) (uptoD_succ (n := 19) (uptoD_succ (n := 18) (uptoD_succ (n := 17) (uptoD_succ (n := 16) (uptoD_succ (n := 15) (uptoD_succ (n := 14) (uptoD_succ (n := 13) (uptoD_succ (n := 12) (uptoD_succ (n := 11) (uptoD_succ (n := 10) (uptoD_succ (n := 9) (uptoD_succ (n := 8) (uptoD_succ (n := 7) (uptoD_succ (n := 6) (uptoD_succ (n := 5) (uptoD_succ (n := 4) (uptoD_succ (n := 3) (uptoD_succ (n := 2) (uptoD_succ (n := 1) (uptoD_succ (n := 0) (uptoD_nil) ?s0) ?s1) ?s2) ?s3) ?s4) ?s5) ?s6) ?s7) ?s8) ?s9) ?s10) ?s11) ?s12) ?s13) ?s14) ?s15) ?s16) ?s17) ?s18) ?s19) ?s20) ?s21) ?s22) ?fin
  case s0 =>
    refine stepB_of [22] [] [] [] H1 rfl rfl (by kernel_rfl) (by kernel_rfl) (by kernel_rfl) (by kernel_rfl) ?_
    intro σ hp hq x w5 hS hU hV hA Lv hLv K hK
    have m22 : σ 22 = false := hp 22 (by simp)
    simp only [m22, upB_ne (show (0 : Nat) ≠ 22 by decide)] at hS hU hK
    clear hp hq m22
    clear hU hV hA H1 hLv
    rw [frameD35] at hK ⊢
    refine wpOp_step rfl (fun K' hK' => ?_)
    have hS2 : Fuw w0 w5 := hS
    have hsz := hS2.size
    go_simp
    exact hK' _ _ (hK _ _ (show Fuw w0 _ from (show Fuw w0 w5 from hS).alloc _) (fun _ _ _ h => cpu_on (fuwA _ _) _ _ h) (fun e he => by cases he; exact ⟨_, rfl, Bk.new _ _ _, hsz⟩))
  case s1 =>
    refine stepB_of [22] [] [] [] H1 rfl rfl (by kernel_rfl) (by kernel_rfl) (by kernel_rfl) (by kernel_rfl) ?_
    intro σ hp hq x w5 hS hU hV hA Lv hLv K hK
    have m22 : σ 22 = false := hp 22 (by simp)
    simp only [m22, upB_ne (show (1 : Nat) ≠ 22 by decide)] at hS hU hK
    clear hp hq m22
    have u1 : x 1 = .pointer (some ⟨B1, 0, none⟩) := hA 1 (by kernel_rfl)
    clear hU hV hA H1 hLv
    rw [frameD35] at hK ⊢
    simp only [u1] at hK ⊢
    refine wpOp_step rfl (fun K' hK' => ?_)
    go_simp
    exact hK' _ _ (hK _ _ hS (fun _ _ _ h => h) (fun e he => by cases he; exact rfl))
  case s2 =>
    refine stepB_of [22] [] [5] [] H1 rfl rfl (by kernel_rfl) (by kernel_rfl) (by kernel_rfl) (by kernel_rfl) ?_
    intro σ hp hq x w5 hS hU hV hA Lv hLv K hK
    have m22 : σ 22 = false := hp 22 (by simp)
    simp only [m22, upB_ne (show (2 : Nat) ≠ 22 by decide)] at hS hU hK
    clear hp hq m22
    have u5 : x 5 = .pointer (some ⟨B1, 0, none⟩) := hU 5 (by simp)
    clear hU hV hA H1 hLv
    rw [frameD35] at hK ⊢
    simp only [u5] at hK ⊢
    refine wpOp_step rfl (fun K' hK' => ?_)
    go_simp
    exact hK' _ _ (hK _ _ hS (fun _ _ _ h => h) (fun e he => by cases he; exact rfl))
  case s3 =>
    refine stepB_of [22] [] [6] [] H1 rfl rfl (by kernel_rfl) (by kernel_rfl) (by kernel_rfl) (by kernel_rfl) ?_
    intro σ hp hq x w5 hS hU hV hA Lv hLv K hK
    have m22 : σ 22 = false := hp 22 (by simp)
    simp only [m22, upB_ne (show (3 : Nat) ≠ 22 by decide)] at hS hU hK
    clear hp hq m22
    have u6 : x 6 = .pointer (some ⟨B1, 0, none⟩) := hU 6 (by simp)
    clear hU hV hA H1 hLv
    rw [frameD35] at hK ⊢
    simp only [u6] at hK ⊢
    refine wpOp_step rfl (fun K' hK' => ?_)
    have hS2 : Fuw w0 w5 := hS
    have h0 := B0.out.on hS2
    have q1 := h0.c1
    go_simp
    exact hK' _ _ (hK _ _ hS (fun _ _ _ h => h) (fun e he => by cases he; exact rfl))
  case s4 =>
    refine stepB_of [22] [] [4, 7] [] H1 rfl rfl (by kernel_rfl) (by kernel_rfl) (by kernel_rfl) (by kernel_rfl) ?_
    intro σ hp hq x w5 hS hU hV hA Lv hLv K hK
    have m22 : σ 22 = false := hp 22 (by simp)
    simp only [m22, upB_ne (show (4 : Nat) ≠ 22 by decide)] at hS hU hK
    clear hp hq m22
    obtain ⟨g4, u4, hg, hgb⟩ : ∃ g, x 4 = .slice (some ⟨g, 0, none⟩) 0 0 ∧ w5.heap[g]? = some (.cells #[] 3 (0, 0)) ∧ w0.heap.size ≤ g := hU 4 (by simp)
    have u7 : x 7 = .slice A.c.a1 o.c.ns.length A.c.k1 := hU 7 (by simp)
    clear hU hV hA H1
    rw [frameD35] at hK ⊢
    simp only [u4, u7] at hK ⊢
    have hS2 : Fuw w0 w5 := hS
    have hst2 := hS2.size
    rcases H1.out with ⟨e1, e2, e3, e4⟩ | ⟨ad, e1, hn⟩
    · have e5 : o.c.ns = [] := List.length_eq_zero_iff.1 e2
      refine wpOp_append_none w5 rfl rfl (.tmp 4) (.tmp 7) 22 rfl w0.heap.size 3 i0 1 Tryz.underlying22 hi0 (.slice (some ⟨g4, 0, none⟩) 0 0) 0 [] rfl ⟨by simp, .inr ⟨g4, 0, #[], rfl, hgb, hg, Nat.le_refl _, Nat.zero_le _, by simp, by simp⟩⟩ (by show Value.slice A.c.a1 o.c.ns.length A.c.k1 = _; rw [e1, e2, e3]) ?_
      exact hK _ _ hS (fun _ _ _ h => h) (fun e he => by cases he; exact ⟨some ⟨g4, 0, none⟩, 0, by rw [e5]; rfl, by rw [e5]; exact ⟨by simp [cs], .inr ⟨g4, 0, #[], rfl, hgb, hg, Nat.le_refl _, Nat.zero_le _, by simp, by simp [cs]⟩⟩⟩)
    · refine wpOp_append_empty w5 rfl rfl (.tmp 4) (.tmp 7) 22 rfl w0.heap.size 3 i0 (.int .i64 0) 1 8 Tryz.underlying22 hi0 hz0 hz1 hz2 rfl (by decide) g4 rfl hg hgb ad o.c.ns.length A.c.k1 (cs o.c.ns) (by show Value.slice A.c.a1 o.c.ns.length A.c.k1 = _; rw [e1]) (by rw [cs_len, Nat.mul_one]) (fun j u hu => cellOnw hS2 (hn j u hu)) (cs_one _) (by have := HL.out.n; unfold maxLen; omega) (by have := HL.out.n; omega) hst2 ?_
      intro v6 w6 ho6 f6
      obtain ⟨a6, k6, e6⟩ := own_form ho6
      subst e6
      exact hK _ w6 (show Fuw w0 w6 from hS2.trans f6) (fun _ _ _ h => cpu_on f6 _ _ h) (fun e he => by cases he; exact ⟨a6, k6, rfl, ho6⟩)
  case s5 =>
    refine stepB_of [22] [] [] [] H1 rfl rfl (by kernel_rfl) (by kernel_rfl) (by kernel_rfl) (by kernel_rfl) ?_
    intro σ hp hq x w5 hS hU hV hA Lv hLv K hK
    have m22 : σ 22 = false := hp 22 (by simp)
    simp only [m22, upB_ne (show (5 : Nat) ≠ 22 by decide)] at hS hU hK
    clear hp hq m22
    clear hU hV hA H1 hLv
    rw [frameD35] at hK ⊢
    refine wpOp_step rfl (fun K' hK' => ?_)
    have hS2 : Fuw w0 w5 := hS
    have hsz := hS2.size
    go_simp
    exact hK' _ _ (hK _ _ (show Fuw w0 _ from (show Fuw w0 w5 from hS).alloc _) (fun _ _ _ h => cpu_on (fuwA _ _) _ _ h) (fun e he => by cases he; exact ⟨_, rfl, Bk.new _ _ _, hsz⟩))
  case s6 =>
    refine stepB_of [22] [] [] [] H1 rfl rfl (by kernel_rfl) (by kernel_rfl) (by kernel_rfl) (by kernel_rfl) ?_
    intro σ hp hq x w5 hS hU hV hA Lv hLv K hK
    have m22 : σ 22 = false := hp 22 (by simp)
    simp only [m22, upB_ne (show (6 : Nat) ≠ 22 by decide)] at hS hU hK
    clear hp hq m22
    have u1 : x 1 = .pointer (some ⟨B1, 0, none⟩) := hA 1 (by kernel_rfl)
    clear hU hV hA H1 hLv
    rw [frameD35] at hK ⊢
    simp only [u1] at hK ⊢
    refine wpOp_step rfl (fun K' hK' => ?_)
    go_simp
    exact hK' _ _ (hK _ _ hS (fun _ _ _ h => h) (fun e he => by cases he; exact rfl))
  case s7 =>
    refine stepB_of [22] [] [10] [] H1 rfl rfl (by kernel_rfl) (by kernel_rfl) (by kernel_rfl) (by kernel_rfl) ?_
    intro σ hp hq x w5 hS hU hV hA Lv hLv K hK
    have m22 : σ 22 = false := hp 22 (by simp)
    simp only [m22, upB_ne (show (7 : Nat) ≠ 22 by decide)] at hS hU hK
    clear hp hq m22
    have u10 : x 10 = .pointer (some ⟨B1, 0, none⟩) := hU 10 (by simp)
    clear hU hV hA H1 hLv
    rw [frameD35] at hK ⊢
    simp only [u10] at hK ⊢
    refine wpOp_step rfl (fun K' hK' => ?_)
    go_simp
    exact hK' _ _ (hK _ _ hS (fun _ _ _ h => h) (fun e he => by cases he; exact rfl))
  case s8 =>
    refine stepB_of [22] [] [11] [] H1 rfl rfl (by kernel_rfl) (by kernel_rfl) (by kernel_rfl) (by kernel_rfl) ?_
    intro σ hp hq x w5 hS hU hV hA Lv hLv K hK
    have m22 : σ 22 = false := hp 22 (by simp)
    simp only [m22, upB_ne (show (8 : Nat) ≠ 22 by decide)] at hS hU hK
    clear hp hq m22
    have u11 : x 11 = .pointer (some ⟨B1, 1, none⟩) := hU 11 (by simp)
    clear hU hV hA H1 hLv
    rw [frameD35] at hK ⊢
    simp only [u11] at hK ⊢
    refine wpOp_step rfl (fun K' hK' => ?_)
    have hS2 : Fuw w0 w5 := hS
    have h0 := B0.out.on hS2
    have q1 := h0.c2
    go_simp
    exact hK' _ _ (hK _ _ hS (fun _ _ _ h => h) (fun e he => by cases he; exact rfl))
  case s9 =>
    refine stepB_of [22] [] [9, 12] [] H1 rfl rfl (by kernel_rfl) (by kernel_rfl) (by kernel_rfl) (by kernel_rfl) ?_
    intro σ hp hq x w5 hS hU hV hA Lv hLv K hK
    have m22 : σ 22 = false := hp 22 (by simp)
    simp only [m22, upB_ne (show (9 : Nat) ≠ 22 by decide)] at hS hU hK
    clear hp hq m22
    obtain ⟨g9, u9, hg, hgb⟩ : ∃ g, x 9 = .slice (some ⟨g, 0, none⟩) 0 0 ∧ w5.heap[g]? = some (.cells #[] 3 (0, 0)) ∧ w0.heap.size ≤ g := hU 9 (by simp)
    have u12 : x 12 = .slice A.c.a2 o.c.fs.length A.c.k2 := hU 12 (by simp)
    clear hU hV hA H1
    rw [frameD35] at hK ⊢
    simp only [u9, u12] at hK ⊢
    have hS2 : Fuw w0 w5 := hS
    have hst2 := hS2.size
    rcases H2.out with ⟨e1, e2, e3, e4⟩ | ⟨ad, e1, hn⟩
    · have e5 : o.c.fs = [] := List.length_eq_zero_iff.1 e2
      refine wpOp_append_none w5 rfl rfl (.tmp 9) (.tmp 12) 22 rfl w0.heap.size 3 i0 1 Tryz.underlying22 hi0 (.slice (some ⟨g9, 0, none⟩) 0 0) 0 [] rfl ⟨by simp, .inr ⟨g9, 0, #[], rfl, hgb, hg, Nat.le_refl _, Nat.zero_le _, by simp, by simp⟩⟩ (by show Value.slice A.c.a2 o.c.fs.length A.c.k2 = _; rw [e1, e2, e3]) ?_
      exact hK _ _ hS (fun _ _ _ h => h) (fun e he => by cases he; exact ⟨some ⟨g9, 0, none⟩, 0, by rw [e5]; rfl, by rw [e5]; exact ⟨by simp [cs], .inr ⟨g9, 0, #[], rfl, hgb, hg, Nat.le_refl _, Nat.zero_le _, by simp, by simp [cs]⟩⟩⟩)
    · refine wpOp_append_empty w5 rfl rfl (.tmp 9) (.tmp 12) 22 rfl w0.heap.size 3 i0 (.int .i64 0) 1 8 Tryz.underlying22 hi0 hz0 hz1 hz2 rfl (by decide) g9 rfl hg hgb ad o.c.fs.length A.c.k2 (cs o.c.fs) (by show Value.slice A.c.a2 o.c.fs.length A.c.k2 = _; rw [e1]) (by rw [cs_len, Nat.mul_one]) (fun j u hu => cellOnw hS2 (hn j u hu)) (cs_one _) (by have := HL.out.f; unfold maxLen; omega) (by have := HL.out.f; omega) hst2 ?_
      intro v6 w6 ho6 f6
      obtain ⟨a6, k6, e6⟩ := own_form ho6
      subst e6
      exact hK _ w6 (show Fuw w0 w6 from hS2.trans f6) (fun _ _ _ h => cpu_on f6 _ _ h) (fun e he => by cases he; exact ⟨a6, k6, rfl, ho6⟩)
  case s10 =>
    refine stepB_of [22] [] [] [] H1 rfl rfl (by kernel_rfl) (by kernel_rfl) (by kernel_rfl) (by kernel_rfl) ?_
    intro σ hp hq x w5 hS hU hV hA Lv hLv K hK
    have m22 : σ 22 = false := hp 22 (by simp)
    simp only [m22, upB_ne (show (10 : Nat) ≠ 22 by decide)] at hS hU hK
    clear hp hq m22
    clear hU hV hA H1 hLv
    rw [frameD35] at hK ⊢
    refine wpOp_step rfl (fun K' hK' => ?_)
    have hS2 : Fuw w0 w5 := hS
    have hsz := hS2.size
    go_simp
    exact hK' _ _ (hK _ _ (show Fuw w0 _ from (show Fuw w0 w5 from hS).alloc _) (fun _ _ _ h => cpu_on (fuwA _ _) _ _ h) (fun e he => by cases he; exact ⟨_, rfl, Bk.new _ _ _, hsz⟩))
  case s11 =>
    refine stepB_of [22] [] [] [] H1 rfl rfl (by kernel_rfl) (by kernel_rfl) (by kernel_rfl) (by kernel_rfl) ?_
    intro σ hp hq x w5 hS hU hV hA Lv hLv K hK
    have m22 : σ 22 = false := hp 22 (by simp)
    simp only [m22, upB_ne (show (11 : Nat) ≠ 22 by decide)] at hS hU hK
    clear hp hq m22
    have u1 : x 1 = .pointer (some ⟨B1, 0, none⟩) := hA 1 (by kernel_rfl)
    clear hU hV hA H1 hLv
    rw [frameD35] at hK ⊢
    simp only [u1] at hK ⊢
    refine wpOp_step rfl (fun K' hK' => ?_)
    go_simp
    exact hK' _ _ (hK _ _ hS (fun _ _ _ h => h) (fun e he => by cases he; exact rfl))
  case s12 =>
    refine stepB_of [22] [] [15] [] H1 rfl rfl (by kernel_rfl) (by kernel_rfl) (by kernel_rfl) (by kernel_rfl) ?_
    intro σ hp hq x w5 hS hU hV hA Lv hLv K hK
    have m22 : σ 22 = false := hp 22 (by simp)
    simp only [m22, upB_ne (show (12 : Nat) ≠ 22 by decide)] at hS hU hK
    clear hp hq m22
    have u15 : x 15 = .pointer (some ⟨B1, 0, none⟩) := hU 15 (by simp)
    clear hU hV hA H1 hLv
    rw [frameD35] at hK ⊢
    simp only [u15] at hK ⊢
    refine wpOp_step rfl (fun K' hK' => ?_)
    go_simp
    exact hK' _ _ (hK _ _ hS (fun _ _ _ h => h) (fun e he => by cases he; exact rfl))
  case s13 =>
    refine stepB_of [22] [] [16] [] H1 rfl rfl (by kernel_rfl) (by kernel_rfl) (by kernel_rfl) (by kernel_rfl) ?_
    intro σ hp hq x w5 hS hU hV hA Lv hLv K hK
    have m22 : σ 22 = false := hp 22 (by simp)
    simp only [m22, upB_ne (show (13 : Nat) ≠ 22 by decide)] at hS hU hK
    clear hp hq m22
    have u16 : x 16 = .pointer (some ⟨B1, 2, none⟩) := hU 16 (by simp)
    clear hU hV hA H1 hLv
    rw [frameD35] at hK ⊢
    simp only [u16] at hK ⊢
    refine wpOp_step rfl (fun K' hK' => ?_)
    have hS2 : Fuw w0 w5 := hS
    have h0 := B0.out.on hS2
    have q1 := h0.c3
    go_simp
    exact hK' _ _ (hK _ _ hS (fun _ _ _ h => h) (fun e he => by cases he; exact rfl))
  case s14 =>
    refine stepB_of [22] [] [14, 17] [] H1 rfl rfl (by kernel_rfl) (by kernel_rfl) (by kernel_rfl) (by kernel_rfl) ?_
    intro σ hp hq x w5 hS hU hV hA Lv hLv K hK
    have m22 : σ 22 = false := hp 22 (by simp)
    simp only [m22, upB_ne (show (14 : Nat) ≠ 22 by decide)] at hS hU hK
    clear hp hq m22
    obtain ⟨g14, u14, hg, hgb⟩ : ∃ g, x 14 = .slice (some ⟨g, 0, none⟩) 0 0 ∧ w5.heap[g]? = some (.cells #[] 3 (0, 0)) ∧ w0.heap.size ≤ g := hU 14 (by simp)
    have u17 : x 17 = .slice A.c.a3 o.c.ts.length A.c.k3 := hU 17 (by simp)
    clear hU hV hA H1
    rw [frameD35] at hK ⊢
    simp only [u14, u17] at hK ⊢
    have hS2 : Fuw w0 w5 := hS
    have hst2 := hS2.size
    rcases H3.out with ⟨e1, e2, e3, e4⟩ | ⟨ad, e1, hn⟩
    · have e5 : o.c.ts = [] := List.length_eq_zero_iff.1 e2
      refine wpOp_append_none w5 rfl rfl (.tmp 14) (.tmp 17) 22 rfl w0.heap.size 3 i0 1 Tryz.underlying22 hi0 (.slice (some ⟨g14, 0, none⟩) 0 0) 0 [] rfl ⟨by simp, .inr ⟨g14, 0, #[], rfl, hgb, hg, Nat.le_refl _, Nat.zero_le _, by simp, by simp⟩⟩ (by show Value.slice A.c.a3 o.c.ts.length A.c.k3 = _; rw [e1, e2, e3]) ?_
      exact hK _ _ hS (fun _ _ _ h => h) (fun e he => by cases he; exact ⟨some ⟨g14, 0, none⟩, 0, by rw [e5]; rfl, by rw [e5]; exact ⟨by simp [cs], .inr ⟨g14, 0, #[], rfl, hgb, hg, Nat.le_refl _, Nat.zero_le _, by simp, by simp [cs]⟩⟩⟩)
    · refine wpOp_append_empty w5 rfl rfl (.tmp 14) (.tmp 17) 22 rfl w0.heap.size 3 i0 (.int .i64 0) 1 8 Tryz.underlying22 hi0 hz0 hz1 hz2 rfl (by decide) g14 rfl hg hgb ad o.c.ts.length A.c.k3 (cs o.c.ts) (by show Value.slice A.c.a3 o.c.ts.length A.c.k3 = _; rw [e1]) (by rw [cs_len, Nat.mul_one]) (fun j u hu => cellOnw hS2 (hn j u hu)) (cs_one _) (by have := HL.out.t; unfold maxLen; omega) (by have := HL.out.t; omega) hst2 ?_
      intro v6 w6 ho6 f6
      obtain ⟨a6, k6, e6⟩ := own_form ho6
      subst e6
      exact hK _ w6 (show Fuw w0 w6 from hS2.trans f6) (fun _ _ _ h => cpu_on f6 _ _ h) (fun e he => by cases he; exact ⟨a6, k6, rfl, ho6⟩)
  case s15 =>
    refine stepB_of [22] [] [] [] H1 rfl rfl (by kernel_rfl) (by kernel_rfl) (by kernel_rfl) (by kernel_rfl) ?_
    intro σ hp hq x w5 hS hU hV hA Lv hLv K hK
    have m22 : σ 22 = false := hp 22 (by simp)
    simp only [m22, upB_ne (show (15 : Nat) ≠ 22 by decide)] at hS hU hK
    clear hp hq m22
    clear hU hV hA H1 hLv
    rw [frameD35] at hK ⊢
    refine wpOp_step rfl (fun K' hK' => ?_)
    have hS2 : Fuw w0 w5 := hS
    have hsz := hS2.size
    go_simp
    exact hK' _ _ (hK _ _ (show Fuw w0 _ from (show Fuw w0 w5 from hS).alloc _) (fun _ _ _ h => cpu_on (fuwA _ _) _ _ h) (fun e he => by cases he; exact ⟨_, rfl, Bk.new _ _ _, hsz⟩))
  case s16 =>
    refine stepB_of [22] [] [] [] H1 rfl rfl (by kernel_rfl) (by kernel_rfl) (by kernel_rfl) (by kernel_rfl) ?_
    intro σ hp hq x w5 hS hU hV hA Lv hLv K hK
    have m22 : σ 22 = false := hp 22 (by simp)
    simp only [m22, upB_ne (show (16 : Nat) ≠ 22 by decide)] at hS hU hK
    clear hp hq m22
    have u1 : x 1 = .pointer (some ⟨B1, 0, none⟩) := hA 1 (by kernel_rfl)
    clear hU hV hA H1 hLv
    rw [frameD35] at hK ⊢
    simp only [u1] at hK ⊢
    refine wpOp_step rfl (fun K' hK' => ?_)
    go_simp
    exact hK' _ _ (hK _ _ hS (fun _ _ _ h => h) (fun e he => by cases he; exact rfl))
  case s17 =>
    refine stepB_of [22] [] [20] [] H1 rfl rfl (by kernel_rfl) (by kernel_rfl) (by kernel_rfl) (by kernel_rfl) ?_
    intro σ hp hq x w5 hS hU hV hA Lv hLv K hK
    have m22 : σ 22 = false := hp 22 (by simp)
    simp only [m22, upB_ne (show (17 : Nat) ≠ 22 by decide)] at hS hU hK
    clear hp hq m22
    have u20 : x 20 = .pointer (some ⟨B1, 0, none⟩) := hU 20 (by simp)
    clear hU hV hA H1 hLv
    rw [frameD35] at hK ⊢
    simp only [u20] at hK ⊢
    refine wpOp_step rfl (fun K' hK' => ?_)
    go_simp
    exact hK' _ _ (hK _ _ hS (fun _ _ _ h => h) (fun e he => by cases he; exact rfl))
  case s18 =>
    refine stepB_of [22] [] [21] [] H1 rfl rfl (by kernel_rfl) (by kernel_rfl) (by kernel_rfl) (by kernel_rfl) ?_
    intro σ hp hq x w5 hS hU hV hA Lv hLv K hK
    have m22 : σ 22 = false := hp 22 (by simp)
    simp only [m22, upB_ne (show (18 : Nat) ≠ 22 by decide)] at hS hU hK
    clear hp hq m22
    have u21 : x 21 = .pointer (some ⟨B1, 3, none⟩) := hU 21 (by simp)
    clear hU hV hA H1 hLv
    rw [frameD35] at hK ⊢
    simp only [u21] at hK ⊢
    refine wpOp_step rfl (fun K' hK' => ?_)
    have hS2 : Fuw w0 w5 := hS
    have h0 := B0.out.on hS2
    have q1 := h0.c4
    go_simp
    exact hK' _ _ (hK _ _ hS (fun _ _ _ h => h) (fun e he => by cases he; exact rfl))
  case s19 =>
    refine stepB_of [22] [] [19, 22] [] H1 rfl rfl (by kernel_rfl) (by kernel_rfl) (by kernel_rfl) (by kernel_rfl) ?_
    intro σ hp hq x w5 hS hU hV hA Lv hLv K hK
    have m22 : σ 22 = false := hp 22 (by simp)
    simp only [m22, upB_ne (show (19 : Nat) ≠ 22 by decide)] at hS hU hK
    clear hp hq m22
    obtain ⟨g19, u19, hg, hgb⟩ : ∃ g, x 19 = .slice (some ⟨g, 0, none⟩) 0 0 ∧ w5.heap[g]? = some (.cells #[] 3 (0, 0)) ∧ w0.heap.size ≤ g := hU 19 (by simp)
    have u22 : x 22 = .slice A.c.a4 o.c.es.length A.c.k4 := hU 22 (by simp)
    clear hU hV hA H1
    rw [frameD35] at hK ⊢
    simp only [u19, u22] at hK ⊢
    have hS2 : Fuw w0 w5 := hS
    have hst2 := hS2.size
    rcases H4.out with ⟨e1, e2, e3, e4⟩ | ⟨ad, e1, hn⟩
    · have e5 : o.c.es = [] := List.length_eq_zero_iff.1 e2
      refine wpOp_append_none w5 rfl rfl (.tmp 19) (.tmp 22) 22 rfl w0.heap.size 3 i0 1 Tryz.underlying22 hi0 (.slice (some ⟨g19, 0, none⟩) 0 0) 0 [] rfl ⟨by simp, .inr ⟨g19, 0, #[], rfl, hgb, hg, Nat.le_refl _, Nat.zero_le _, by simp, by simp⟩⟩ (by show Value.slice A.c.a4 o.c.es.length A.c.k4 = _; rw [e1, e2, e3]) ?_
      exact hK _ _ hS (fun _ _ _ h => h) (fun e he => by cases he; exact ⟨some ⟨g19, 0, none⟩, 0, by rw [e5]; rfl, by rw [e5]; exact ⟨by simp [cs], .inr ⟨g19, 0, #[], rfl, hgb, hg, Nat.le_refl _, Nat.zero_le _, by simp, by simp [cs]⟩⟩⟩)
    · refine wpOp_append_empty w5 rfl rfl (.tmp 19) (.tmp 22) 22 rfl w0.heap.size 3 i0 (.int .i64 0) 1 8 Tryz.underlying22 hi0 hz0 hz1 hz2 rfl (by decide) g19 rfl hg hgb ad o.c.es.length A.c.k4 (cs o.c.es) (by show Value.slice A.c.a4 o.c.es.length A.c.k4 = _; rw [e1]) (by rw [cs_len, Nat.mul_one]) (fun j u hu => cellOnw hS2 (hn j u hu)) (cs_one _) (by have := HL.out.e; unfold maxLen; omega) (by have := HL.out.e; omega) hst2 ?_
      intro v6 w6 ho6 f6
      obtain ⟨a6, k6, e6⟩ := own_form ho6
      subst e6
      exact hK _ w6 (show Fuw w0 w6 from hS2.trans f6) (fun _ _ _ h => cpu_on f6 _ _ h) (fun e he => by cases he; exact ⟨a6, k6, rfl, ho6⟩)
  case s20 =>
    refine stepB_of [22] [] [8, 13, 18, 23] [] H1 rfl rfl (by kernel_rfl) (by kernel_rfl) (by kernel_rfl) (by kernel_rfl) ?_
    intro σ hp hq x w5 hS hU hV hA Lv hLv K hK
    have m22 : σ 22 = false := hp 22 (by simp)
    simp only [m22, upB_ne (show (20 : Nat) ≠ 22 by decide)] at hS hU hK
    clear hp hq m22
    obtain ⟨a8, k8, u8, hB8⟩ : ∃ a k, x 8 = .slice a o.c.ns.length k ∧ w5.ownsRow w0.heap.size 3 1 (.slice a o.c.ns.length k) o.c.ns.length (cs o.c.ns) := hU 8 (by simp)
    obtain ⟨a13, k13, u13, hB13⟩ : ∃ a k, x 13 = .slice a o.c.fs.length k ∧ w5.ownsRow w0.heap.size 3 1 (.slice a o.c.fs.length k) o.c.fs.length (cs o.c.fs) := hU 13 (by simp)
    obtain ⟨a18, k18, u18, hB18⟩ : ∃ a k, x 18 = .slice a o.c.ts.length k ∧ w5.ownsRow w0.heap.size 3 1 (.slice a o.c.ts.length k) o.c.ts.length (cs o.c.ts) := hU 18 (by simp)
    obtain ⟨a23, k23, u23, hB23⟩ : ∃ a k, x 23 = .slice a o.c.es.length k ∧ w5.ownsRow w0.heap.size 3 1 (.slice a o.c.es.length k) o.c.es.length (cs o.c.es) := hU 23 (by simp)
    clear hU hV hA H1 hLv
    rw [frameD35] at hK ⊢
    simp only [u8, u13, u18, u23] at hK ⊢
    refine wpOp_step rfl (fun K' hK' => ?_)
    go_simp
    exact hK' _ _ (hK _ _ hS (fun _ _ _ h => h) (fun e he => by cases he; exact ⟨⟨a8, a13, a18, a23, k8, k13, k18, k23⟩, rfl, hB8, hB13, hB18, hB23⟩))
  case s21 =>
    refine stepB_of [22] [] [] [] H1 rfl rfl (by kernel_rfl) (by kernel_rfl) (by kernel_rfl) (by kernel_rfl) ?_
    intro σ hp hq x w5 hS hU hV hA Lv hLv K hK
    have m22 : σ 22 = false := hp 22 (by simp)
    simp only [m22, upB_ne (show (21 : Nat) ≠ 22 by decide)] at hS hU hK
    clear hp hq m22
    clear hU hV hA H1 hLv
    rw [frameD35] at hK ⊢
    refine wpOp_step rfl (fun K' hK' => ?_)
    have hS2 : Fuw w0 w5 := hS
    have hsz := hS2.size
    go_simp
    exact hK' _ _ (hK _ _ (show Fuw w0 _ from (show Fuw w0 w5 from hS).alloc _) (fun _ _ _ h => cpu_on (fuwA _ _) _ _ h) (fun e he => by cases he; exact ⟨_, rfl, Bk.new _ _ _, hsz⟩))
  case s22 =>
    refine stepB_of2 [22] [] [3, 24] [] H1 rfl rfl (by kernel_rfl) (by kernel_rfl) (by kernel_rfl) (by kernel_rfl) ?_
    intro σ hp hq x w5 hS hU hV hA Lv hLv K hK
    have m22 : σ 22 = false := hp 22 (by simp)
    simp only [m22, upB_eq] at hS hU hK
    clear hp hq m22
    obtain ⟨C, u3, hC, hCb⟩ : ∃ C, x 3 = .pointer (some ⟨C, 0, none⟩) ∧ Bk w5 C #[.slice none 0 0, .slice none 0 0, .slice none 0 0, .slice none 0 0] 24 ∧ w0.heap.size ≤ C := hU 3 (by simp)
    obtain ⟨X, u24, hX⟩ : ∃ X : CA, x 24 = .agg #[.slice X.a1 o.c.ns.length X.k1, .slice X.a2 o.c.fs.length X.k2, .slice X.a3 o.c.ts.length X.k3, .slice X.a4 o.c.es.length X.k4] ∧ OwnC w0.heap.size o.c X w5 := hU 24 (by simp)
    clear hU hV hA H1 hLv
    rw [frameD35] at hK ⊢
    simp only [u3, u24] at hK ⊢
    refine wpOp_step rfl (fun K' hK' => ?_)
    have hS2 : Fuw w0 w5 := hS
    have r0 := hC.c 0; have r1 := hC.c 1; have r2 := hC.c 2; have r3 := hC.c 3
    have t0 := hC.f 0; have t1 := hC.f 1; have t2 := hC.f 2; have t3 := hC.f 3
    simp only [List.getElem?_toArray, List.getElem?_cons_zero, List.getElem?_cons_succ] at r0 r1 r2 r3
    go_simp
    exact hK' _ _ (hK undef _ (show Fuw w0 _ from fuwS (fuwS (fuwS (fuwS hS2 hCb) hCb) hCb) hCb) (fun t hl hu => by
      by_cases e : t = 3
      · subst e
        show CpU _ _ _ _ 16 _ (x 3)
        rw [u3]
        exact ⟨C, X, rfl, (((hC.set_ 0 _).set_ 1 _).set_ 2 _).set_ 3 _, (((hX.far hC tyC 0 _).far (hC.set_ 0 _) tyC 1 _).far ((hC.set_ 0 _).set_ 1 _) tyC 2 _).far (((hC.set_ 0 _).set_ 1 _).set_ 2 _) tyC 3 _, hCb⟩
      · show CpU _ _ _ _ (kCp true t) _ _
        rw [kT0 e]; trivial) (fun e he => by cases he))
  case base =>
    refine midB_start rfl rfl (show Fuw w0 w0.drew from fuw_dr w0 1) (fun t ht hh => ?_) (fun t => trivial)
    rcases start_of (ks := kCpF) (L := []) (by kernel_rfl) t ht hh with e | e
    · show CpU _ _ _ _ (kCpF.getD t 0) _ _
      rw [e]; trivial
    · cases e
  case fin =>
    intro x w1 hS hU hA
    have F1 := Lib.hid (show Fuw w0 w1 from hS)
    obtain ⟨C, X, u3, hC, hX, hCb⟩ := hU 3 (by simp)
    have BC := Lib.hid hC
    have HX := Lib.hid (hX.cin HI.out.n HI.out.f HI.out.t HI.out.e)
    have FT := Lib.hid (FT0.out.trans F1.out)
    have B01 := Lib.hid (B0.out.on F1.out)
    have BR := Lib.hid (BR0.out.on F1.out)
    have H5 := Lib.hid (srcJ (HO.out.on F1.out).a)
    have H6 := Lib.hid (srcI (HO.out.on F1.out).d)
    have u1 : x 1 = .pointer (some ⟨B1, 0, none⟩) := hA 1 (by kernel_rfl)
    have u2 : x 2 = .pointer (some ⟨B2, 0, none⟩) := hA 2 (by kernel_rfl)
    clear hU hA hS hC hX H1 H2 H3 H4
    rw [frameD35]
    simp only [u1, u2, u3]
    clear u1 u2 u3
    go_upto_region 2 with fail
    refine region_midB (N := 35) (S := fun σ w => SqS wt w1 B2 o (σ 10) w) (U := fun σ t => CqU B1 w1.heap.size o A X (kCq (σ 10) t)) (V := fun _ _ => True) (by kernel_rfl) (by kernel_rfl) (by kernel_rfl) ?base (fun H1 => uptoD_succ (n := 10) (uptoD_succ (n := 9) (uptoD_succ (n := 8) (uptoD_succ (n := 7) (uptoD_succ (n := 6) (uptoD_succ (n := 5) (uptoD_succ (n := 4) (uptoD_succ (n := 3) (uptoD_succ (n := 2) (uptoD_succ (n := 1) (uptoD_succ (n := 0) (uptoD_nil) ?s0) ?s1) ?s2) ?s3) ?s4) ?s5) ?s6) ?s7) ?s8) ?s9) ?s10) ?fin
    case s0 =>
      refine stepB_of [10] [] [] [] H1 rfl rfl (by kernel_rfl) (by kernel_rfl) (by kernel_rfl) (by kernel_rfl) ?_
      intro σ hp hq x w5 hS hU hV hA Lv hLv K hK
      have m10 : σ 10 = false := hp 10 (by simp)
      simp only [m10, upB_ne (show (0 : Nat) ≠ 10 by decide)] at hS hU hK
      clear hp hq m10
      have u3 : x 3 = .pointer (some ⟨C, 0, none⟩) := hA 3 (by kernel_rfl)
      clear hU hV hA H1 hLv
      rw [frameD35] at hK ⊢
      simp only [u3] at hK ⊢
      refine wpOp_step rfl (fun K' hK' => ?_)
      have hS2 : Fuw w1 w5 := hS
      have hB := BC.out.on hS2
      have r0 := hB.c 0; have r1 := hB.c 1; have r2 := hB.c 2; have r3 := hB.c 3
      unfold colC at r0 r1 r2 r3
      simp only [List.getElem?_toArray, List.getElem?_cons_zero, List.getElem?_cons_succ] at r0 r1 r2 r3
      go_simp
      exact hK' _ _ (hK _ _ hS (fun _ _ _ h => h) (fun e he => by cases he; exact rfl))
    case s1 =>
      refine stepB_of [10] [] [] [] H1 rfl rfl (by kernel_rfl) (by kernel_rfl) (by kernel_rfl) (by kernel_rfl) ?_
      intro σ hp hq x w5 hS hU hV hA Lv hLv K hK
      have m10 : σ 10 = false := hp 10 (by simp)
      simp only [m10, upB_ne (show (1 : Nat) ≠ 10 by decide)] at hS hU hK
      clear hp hq m10
      clear hU hV hA H1 hLv
      rw [frameD35] at hK ⊢
      refine wpOp_step rfl (fun K' hK' => ?_)
      have hS2 : Fuw w1 w5 := hS
      have hsz := hS2.size
      go_simp
      exact hK' _ _ (hK _ _ (show Fuw w1 _ from (show Fuw w1 w5 from hS).alloc _) (fun _ _ _ h => cqu_on (fuwA _ _) _ _ h) (fun e he => by cases he; exact ⟨_, rfl, Bk.new _ _ _, hsz⟩))
    case s2 =>
      refine stepB_of [10] [] [] [] H1 rfl rfl (by kernel_rfl) (by kernel_rfl) (by kernel_rfl) (by kernel_rfl) ?_
      intro σ hp hq x w5 hS hU hV hA Lv hLv K hK
      have m10 : σ 10 = false := hp 10 (by simp)
      simp only [m10, upB_ne (show (2 : Nat) ≠ 10 by decide)] at hS hU hK
      clear hp hq m10
      have u1 : x 1 = .pointer (some ⟨B1, 0, none⟩) := hA 1 (by kernel_rfl)
      clear hU hV hA H1 hLv
      rw [frameD35] at hK ⊢
      simp only [u1] at hK ⊢
      refine wpOp_step rfl (fun K' hK' => ?_)
      go_simp
      exact hK' _ _ (hK _ _ hS (fun _ _ _ h => h) (fun e he => by cases he; exact rfl))
    case s3 =>
      refine stepB_of [10] [] [27] [] H1 rfl rfl (by kernel_rfl) (by kernel_rfl) (by kernel_rfl) (by kernel_rfl) ?_
      intro σ hp hq x w5 hS hU hV hA Lv hLv K hK
      have m10 : σ 10 = false := hp 10 (by simp)
      simp only [m10, upB_ne (show (3 : Nat) ≠ 10 by decide)] at hS hU hK
      clear hp hq m10
      have u27 : x 27 = .pointer (some ⟨B1, 4, none⟩) := hU 27 (by simp)
      clear hU hV hA H1 hLv
      rw [frameD35] at hK ⊢
      simp only [u27] at hK ⊢
      refine wpOp_step rfl (fun K' hK' => ?_)
      have hS2 : Fuw w1 w5 := hS
      have h0 := B01.out.on hS2
      have q1 := h0.c5
      go_simp
      exact hK' _ _ (hK _ _ hS (fun _ _ _ h => h) (fun e he => by cases he; exact rfl))
    case s4 =>
      refine stepB_of [10] [] [26, 28] [] H1 rfl rfl (by kernel_rfl) (by kernel_rfl) (by kernel_rfl) (by kernel_rfl) ?_
      intro σ hp hq x w5 hS hU hV hA Lv hLv K hK
      have m10 : σ 10 = false := hp 10 (by simp)
      simp only [m10, upB_ne (show (4 : Nat) ≠ 10 by decide)] at hS hU hK
      clear hp hq m10
      obtain ⟨g26, u26, hg, hgb⟩ : ∃ g, x 26 = .slice (some ⟨g, 0, none⟩) 0 0 ∧ w5.heap[g]? = some (.cells #[] 42 (0, 0)) ∧ w1.heap.size ≤ g := hU 26 (by simp)
      have u28 : x 28 = .slice A.a5 o.ads.length A.k5 := hU 28 (by simp)
      clear hU hV hA H1
      rw [frameD35] at hK ⊢
      simp only [u26, u28] at hK ⊢
      have hS2 : Fuw w1 w5 := hS
      have hst2 := hS2.size
      rcases H5.out with ⟨e1, e2, e3, e4⟩ | ⟨ad, e1, hn⟩
      · have e5 : o.ads = [] := List.length_eq_zero_iff.1 e2
        refine wpOp_append_none w5 rfl rfl (.tmp 26) (.tmp 28) 25 rfl w1.heap.size 42 j0 3 Tryz.underlying25 hj0 (.slice (some ⟨g26, 0, none⟩) 0 0) 0 [] rfl ⟨by simp, .inr ⟨g26, 0, #[], rfl, hgb, hg, Nat.le_refl _, Nat.zero_le _, by simp, by simp⟩⟩ (by show Value.slice A.a5 o.ads.length A.k5 = _; rw [e1, e2, e3]) ?_
        exact hK _ _ hS (fun _ _ _ h => h) (fun e he => by cases he; exact ⟨some ⟨g26, 0, none⟩, 0, by rw [e5]; rfl, by rw [e5]; exact ⟨by simp [aC], .inr ⟨g26, 0, #[], rfl, hgb, hg, Nat.le_refl _, Nat.zero_le _, by simp, by simp [aC]⟩⟩⟩)
      · refine wpOp_append_empty w5 rfl rfl (.tmp 26) (.tmp 28) 25 rfl w1.heap.size 42 j0 (.agg #[.int .i64 0, .int .i64 0, .int .i64 0]) 3 24 Tryz.underlying25 hj0 hy0 hy1 hy2 rfl (by decide) g26 rfl hg hgb ad o.ads.length A.k5 (aC o.ads) (by show Value.slice A.a5 o.ads.length A.k5 = _; rw [e1]) (aC_len _) (fun j u hu => cellOnw hS2 (hn j u hu)) (one_adjs _) (by have := HL.out.a; unfold maxLen; omega) (by have := HL.out.a; omega) hst2 ?_
        intro v6 w6 ho6 f6
        obtain ⟨a6, k6, e6⟩ := own_form ho6
        subst e6
        exact hK _ w6 (show Fuw w1 w6 from hS2.trans f6) (fun _ _ _ h => cqu_on f6 _ _ h) (fun e he => by cases he; exact ⟨a6, k6, rfl, ho6⟩)
    case s5 =>
      refine stepB_of [10] [] [] [] H1 rfl rfl (by kernel_rfl) (by kernel_rfl) (by kernel_rfl) (by kernel_rfl) ?_
      intro σ hp hq x w5 hS hU hV hA Lv hLv K hK
      have m10 : σ 10 = false := hp 10 (by simp)
      simp only [m10, upB_ne (show (5 : Nat) ≠ 10 by decide)] at hS hU hK
      clear hp hq m10
      clear hU hV hA H1 hLv
      rw [frameD35] at hK ⊢
      refine wpOp_step rfl (fun K' hK' => ?_)
      have hS2 : Fuw w1 w5 := hS
      have hsz := hS2.size
      go_simp
      exact hK' _ _ (hK _ _ (show Fuw w1 _ from (show Fuw w1 w5 from hS).alloc _) (fun _ _ _ h => cqu_on (fuwA _ _) _ _ h) (fun e he => by cases he; exact ⟨_, rfl, Bk.new _ _ _, hsz⟩))
    case s6 =>
      refine stepB_of [10] [] [] [] H1 rfl rfl (by kernel_rfl) (by kernel_rfl) (by kernel_rfl) (by kernel_rfl) ?_
      intro σ hp hq x w5 hS hU hV hA Lv hLv K hK
      have m10 : σ 10 = false := hp 10 (by simp)
      simp only [m10, upB_ne (show (6 : Nat) ≠ 10 by decide)] at hS hU hK
      clear hp hq m10
      have u1 : x 1 = .pointer (some ⟨B1, 0, none⟩) := hA 1 (by kernel_rfl)
      clear hU hV hA H1 hLv
      rw [frameD35] at hK ⊢
      simp only [u1] at hK ⊢
      refine wpOp_step rfl (fun K' hK' => ?_)
      go_simp
      exact hK' _ _ (hK _ _ hS (fun _ _ _ h => h) (fun e he => by cases he; exact rfl))
    case s7 =>
      refine stepB_of [10] [] [31] [] H1 rfl rfl (by kernel_rfl) (by kernel_rfl) (by kernel_rfl) (by kernel_rfl) ?_
      intro σ hp hq x w5 hS hU hV hA Lv hLv K hK
      have m10 : σ 10 = false := hp 10 (by simp)
      simp only [m10, upB_ne (show (7 : Nat) ≠ 10 by decide)] at hS hU hK
      clear hp hq m10
      have u31 : x 31 = .pointer (some ⟨B1, 5, none⟩) := hU 31 (by simp)
      clear hU hV hA H1 hLv
      rw [frameD35] at hK ⊢
      simp only [u31] at hK ⊢
      refine wpOp_step rfl (fun K' hK' => ?_)
      have hS2 : Fuw w1 w5 := hS
      have h0 := B01.out.on hS2
      have q1 := h0.c6
      go_simp
      exact hK' _ _ (hK _ _ hS (fun _ _ _ h => h) (fun e he => by cases he; exact rfl))
    case s8 =>
      refine stepB_of [10] [] [30, 32] [] H1 rfl rfl (by kernel_rfl) (by kernel_rfl) (by kernel_rfl) (by kernel_rfl) ?_
      intro σ hp hq x w5 hS hU hV hA Lv hLv K hK
      have m10 : σ 10 = false := hp 10 (by simp)
      simp only [m10, upB_ne (show (8 : Nat) ≠ 10 by decide)] at hS hU hK
      clear hp hq m10
      obtain ⟨g30, u30, hg, hgb⟩ : ∃ g, x 30 = .slice (some ⟨g, 0, none⟩) 0 0 ∧ w5.heap[g]? = some (.cells #[] 3 (0, 0)) ∧ w1.heap.size ≤ g := hU 30 (by simp)
      have u32 : x 32 = .slice A.a6 o.dls.length A.k6 := hU 32 (by simp)
      clear hU hV hA H1
      rw [frameD35] at hK ⊢
      simp only [u30, u32] at hK ⊢
      have hS2 : Fuw w1 w5 := hS
      have hst2 := hS2.size
      rcases H6.out with ⟨e1, e2, e3, e4⟩ | ⟨ad, e1, hn⟩
      · have e5 : o.dls = [] := List.length_eq_zero_iff.1 e2
        refine wpOp_append_none w5 rfl rfl (.tmp 30) (.tmp 32) 22 rfl w1.heap.size 3 i0 1 Tryz.underlying22 hi0 (.slice (some ⟨g30, 0, none⟩) 0 0) 0 [] rfl ⟨by simp, .inr ⟨g30, 0, #[], rfl, hgb, hg, Nat.le_refl _, Nat.zero_le _, by simp, by simp⟩⟩ (by show Value.slice A.a6 o.dls.length A.k6 = _; rw [e1, e2, e3]) ?_
        exact hK _ _ hS (fun _ _ _ h => h) (fun e he => by cases he; exact ⟨some ⟨g30, 0, none⟩, 0, by rw [e5]; rfl, by rw [e5]; exact ⟨by simp [cs], .inr ⟨g30, 0, #[], rfl, hgb, hg, Nat.le_refl _, Nat.zero_le _, by simp, by simp [cs]⟩⟩⟩)
      · refine wpOp_append_empty w5 rfl rfl (.tmp 30) (.tmp 32) 22 rfl w1.heap.size 3 i0 (.int .i64 0) 1 8 Tryz.underlying22 hi0 hz0 hz1 hz2 rfl (by decide) g30 rfl hg hgb ad o.dls.length A.k6 (cs o.dls) (by show Value.slice A.a6 o.dls.length A.k6 = _; rw [e1]) (by rw [cs_len, Nat.mul_one]) (fun j u hu => cellOnw hS2 (hn j u hu)) (cs_one _) (by have := HL.out.d; unfold maxLen; omega) (by have := HL.out.d; omega) hst2 ?_
        intro v6 w6 ho6 f6
        obtain ⟨a6, k6, e6⟩ := own_form ho6
        subst e6
        exact hK _ w6 (show Fuw w1 w6 from hS2.trans f6) (fun _ _ _ h => cqu_on f6 _ _ h) (fun e he => by cases he; exact ⟨a6, k6, rfl, ho6⟩)
    case s9 =>
      refine stepB_of [10] [] [25, 29, 33] [] H1 rfl rfl (by kernel_rfl) (by kernel_rfl) (by kernel_rfl) (by kernel_rfl) ?_
      intro σ hp hq x w5 hS hU hV hA Lv hLv K hK
      have m10 : σ 10 = false := hp 10 (by simp)
      simp only [m10, upB_ne (show (9 : Nat) ≠ 10 by decide)] at hS hU hK
      clear hp hq m10
      have u25 : x 25 = .agg #[.slice X.a1 o.c.ns.length X.k1, .slice X.a2 o.c.fs.length X.k2, .slice X.a3 o.c.ts.length X.k3, .slice X.a4 o.c.es.length X.k4] := hU 25 (by simp)
      obtain ⟨a29, k29, u29, hB29⟩ : ∃ a k, x 29 = .slice a o.ads.length k ∧ w5.ownsRow w1.heap.size 42 3 (.slice a o.ads.length k) o.ads.length (aC o.ads) := hU 29 (by simp)
      obtain ⟨a33, k33, u33, hB33⟩ : ∃ a k, x 33 = .slice a o.dls.length k ∧ w5.ownsRow w1.heap.size 3 1 (.slice a o.dls.length k) o.dls.length (cs o.dls) := hU 33 (by simp)
      clear hU hV hA H1 hLv
      rw [frameD35] at hK ⊢
      simp only [u25, u29, u33] at hK ⊢
      refine wpOp_step rfl (fun K' hK' => ?_)
      go_simp
      exact hK' _ _ (hK _ _ hS (fun _ _ _ h => h) (fun e he => by cases he; exact ⟨a29, k29, a33, k33, rfl, hB29, hB33⟩))
    case s10 =>
      refine stepB_of [10] [] [34] [] H1 rfl rfl (by kernel_rfl) (by kernel_rfl) (by kernel_rfl) (by kernel_rfl) ?_
      intro σ hp hq x w5 hS hU hV hA Lv hLv K hK
      have m10 : σ 10 = false := hp 10 (by simp)
      simp only [m10, upB_eq] at hS hU hK
      clear hp hq m10
      obtain ⟨a, k, b, m, u34, hOa, hOd⟩ : ∃ a k b m, x 34 = .agg #[.slice X.a1 o.c.ns.length X.k1, .slice X.a2 o.c.fs.length X.k2, .slice X.a3 o.c.ts.length X.k3, .slice X.a4 o.c.es.length X.k4, .slice a o.ads.length k, .slice b o.dls.length m] ∧ w5.ownsRow w1.heap.size 42 3 (.slice a o.ads.length k) o.ads.length (aC o.ads) ∧ w5.ownsRow w1.heap.size 3 1 (.slice b o.dls.length m) o.dls.length (cs o.dls) := hU 34 (by simp)
      have u2 : x 2 = .pointer (some ⟨B2, 0, none⟩) := hA 2 (by kernel_rfl)
      clear hU hV hA H1 hLv
      rw [frameD35] at hK ⊢
      simp only [u34, u2] at hK ⊢
      refine wpOp_step rfl (fun K' hK' => ?_)
      have hS2 : Fuw w1 w5 := hS
      have E := BR.out.on hS2
      unfold emV at E
      have q0 := E.c 0; have q1 := E.c 1; have q2 := E.c 2; have q3 := E.c 3; have q4 := E.c 4; have q5 := E.c 5
      have t0 := E.f 0; have t1 := E.f 1; have t2 := E.f 2; have t3 := E.f 3; have t4 := E.f 4; have t5 := E.f 5
      simp only [List.getElem?_toArray, List.getElem?_cons_zero, List.getElem?_cons_succ] at q0 q1 q2 q3 q4 q5
      obtain ⟨aa, ak, ea, -, sa⟩ := slJ_own hOa HI.out.a
      cases ea
      obtain ⟨ba, bk, eb, -, sb⟩ := slI_own hOd HI.out.d
      cases eb
      have hs6 := set6_ok (w0 := wt) (o := emO) (A := A0) (o' := o) (A' := ⟨X, a, b, k, m⟩) (em_bk (BR.out.on hS2)) hB2.out (FT.out.trans hS2)
      have hoi := hs6.2.2 o ⟨X, a, b, k, m⟩ ⟨HX.out.on hS2, sa, sb⟩
      unfold set6 at hs6 hoi
      go_simp
      exact hK' _ _ (hK undef _ (show SqS wt w1 B2 o true _ from ⟨⟨_, hs6.1, hoi⟩, hs6.2.1⟩) (fun _ _ _ _ => trivial) (fun e he => by cases he))
    case base =>
      refine midB_start rfl rfl (show Fuw w1 w1.drew from fuw_dr w1 1) (fun t ht hh => ?_) (fun t => trivial)
      rcases start_of (ks := kCqF) (L := []) (by kernel_rfl) t ht hh with e | e
      · show CqU _ _ _ _ _ (kCqF.getD t 0) _ _
        rw [e]; trivial
      · cases e
    case fin =>
      intro x w2 hS hU hA
      obtain ⟨⟨Y, hOB, hOI⟩, hF⟩ : (∃ Y, OB w2 B2 o Y ∧ OIn w2 o Y) ∧ Fuw wt w2 := hS
      have u2 : x 2 = .pointer (some ⟨B2, 0, none⟩) := hA 2 (by kernel_rfl)
      have HOB := Lib.hid hOB
      clear hU hA hOB
      rw [frameD35]
      simp only [u2]
      clear u2
      go_wp2
      exact o_ret rfl rfl HOB.out ⟨Y, rfl, hOI, hF⟩
end Go.Proofs.YtpjikijfendmhaaGreat

/-! RfK, RfL, RfN: texts of one kind in one file; each part says what it holds. -/

/-! The references' comparisons: two columns, two overlays that hold the same are the same. Nothing that was there turns. -/
namespace Go.Proofs.YtpjikijfendmhaaGreat
open Go.RowKit

set_option maxHeartbeats 6400000 in
set_option maxRecDepth 100000 in
theorem rcols_any (c : Cm) (A A' : CA) (w : World) (hC : CIn w c A) (hD : CIn w c A') : Calls Tryz.prog 19 #[colv c A, colv c A'] w (FwB w true) := by
  obtain ⟨w0, hw0⟩ : ∃ w0, w.alloc (.cells (colC c A) 24) = w0 := ⟨_, rfl⟩
  obtain ⟨w1, hw1⟩ : ∃ w1, w0.alloc (.cells (colC c A') 24) = w1 := ⟨_, rfl⟩
  have G0 := Lib.hid (show Fuw w w0 by rw [← hw0]; exact fuwA _ _)
  have G1 := Lib.hid (show Fuw w0 w1 by rw [← hw1]; exact fuwA _ _)
  have BA := Lib.hid (show Bk w1 w.heap.size (colC c A) 24 from (show Bk w0 w.heap.size (colC c A) 24 by rw [← hw0]; exact Bk.new _ _ _).on G1.out)
  have BB := Lib.hid (show Bk w1 w0.heap.size (colC c A') 24 by rw [← hw1]; exact Bk.new _ _ _)
  have FT := Lib.hid (G0.out.trans G1.out)
  have HC := Lib.hid (hC.on FT.out)
  have HD := Lib.hid (hD.on FT.out)
  have F1 := Lib.hid (Fuw.refl w1)
  unfold colv
  unfold colC at hw0 hw1 ⊢
  clear hC hD
  go_enter Tryz.func19, Tryz.ntmps19
  go_upto_region 1 with fail
  clear hw0 hw1
  have HK := Lib.hid (rints_any c.ns c.ns A.a1 A'.a1 A.k1 A'.k1 w1 (slI_on F1.out HC.out.n) (slI_on F1.out HD.out.n))
  rw [decide_eq_true (show c.ns = c.ns from rfl)] at HK
  have x1 := (BA.out.on F1.out).c 0; have x2 := (BA.out.on F1.out).c 1; have x3 := (BA.out.on F1.out).c 2; have x4 := (BA.out.on F1.out).c 3
  have y1 := (BB.out.on F1.out).c 0; have y2 := (BB.out.on F1.out).c 1; have y3 := (BB.out.on F1.out).c 2; have y4 := (BB.out.on F1.out).c 3
  unfold colC at x1 x2 x3 x4 y1 y2 y3 y4
  simp only [List.getElem?_toArray, List.getElem?_cons_zero, List.getElem?_cons_succ] at x1 x2 x3 x4 y1 y2 y3 y4
  go_wp2_with fail
  go_at_call 46; refine HK.out.mono ?_; rintro e9 w2 ⟨rfl, f9⟩
  have F2 := Lib.hid (F1.out.trans f9)
  clear f9 HK x1 x2 x3 x4 y1 y2 y3 y4
  have HK := Lib.hid (rints_any c.fs c.fs A.a2 A'.a2 A.k2 A'.k2 w2 (slI_on F2.out HC.out.f) (slI_on F2.out HD.out.f))
  rw [decide_eq_true (show c.fs = c.fs from rfl)] at HK
  have x1 := (BA.out.on F2.out).c 0; have x2 := (BA.out.on F2.out).c 1; have x3 := (BA.out.on F2.out).c 2; have x4 := (BA.out.on F2.out).c 3
  have y1 := (BB.out.on F2.out).c 0; have y2 := (BB.out.on F2.out).c 1; have y3 := (BB.out.on F2.out).c 2; have y4 := (BB.out.on F2.out).c 3
  unfold colC at x1 x2 x3 x4 y1 y2 y3 y4
  simp only [List.getElem?_toArray, List.getElem?_cons_zero, List.getElem?_cons_succ] at x1 x2 x3 x4 y1 y2 y3 y4
  go_wp2_with fail
  go_at_call 46; refine HK.out.mono ?_; rintro e9 w3 ⟨rfl, f9⟩
  have F3 := Lib.hid (F2.out.trans f9)
  clear f9 HK x1 x2 x3 x4 y1 y2 y3 y4
  have HK := Lib.hid (rints_any c.ts c.ts A.a3 A'.a3 A.k3 A'.k3 w3 (slI_on F3.out HC.out.t) (slI_on F3.out HD.out.t))
  rw [decide_eq_true (show c.ts = c.ts from rfl)] at HK
  have x1 := (BA.out.on F3.out).c 0; have x2 := (BA.out.on F3.out).c 1; have x3 := (BA.out.on F3.out).c 2; have x4 := (BA.out.on F3.out).c 3
  have y1 := (BB.out.on F3.out).c 0; have y2 := (BB.out.on F3.out).c 1; have y3 := (BB.out.on F3.out).c 2; have y4 := (BB.out.on F3.out).c 3
  unfold colC at x1 x2 x3 x4 y1 y2 y3 y4
  simp only [List.getElem?_toArray, List.getElem?_cons_zero, List.getElem?_cons_succ] at x1 x2 x3 x4 y1 y2 y3 y4
  go_wp2_with fail
  go_at_call 46; refine HK.out.mono ?_; rintro e9 w4 ⟨rfl, f9⟩
  have F4 := Lib.hid (F3.out.trans f9)
  clear f9 HK x1 x2 x3 x4 y1 y2 y3 y4
  have HK := Lib.hid (rints_any c.es c.es A.a4 A'.a4 A.k4 A'.k4 w4 (slI_on F4.out HC.out.e) (slI_on F4.out HD.out.e))
  rw [decide_eq_true (show c.es = c.es from rfl)] at HK
  have x1 := (BA.out.on F4.out).c 0; have x2 := (BA.out.on F4.out).c 1; have x3 := (BA.out.on F4.out).c 2; have x4 := (BA.out.on F4.out).c 3
  have y1 := (BB.out.on F4.out).c 0; have y2 := (BB.out.on F4.out).c 1; have y3 := (BB.out.on F4.out).c 2; have y4 := (BB.out.on F4.out).c 3
  unfold colC at x1 x2 x3 x4 y1 y2 y3 y4
  simp only [List.getElem?_toArray, List.getElem?_cons_zero, List.getElem?_cons_succ] at x1 x2 x3 x4 y1 y2 y3 y4
  go_wp2_with fail
  go_at_call 46; refine HK.out.mono ?_; rintro e9 w5 ⟨rfl, f9⟩
  have F5 := Lib.hid (F4.out.trans f9)
  clear f9 HK x1 x2 x3 x4 y1 y2 y3 y4
  go_wp2
  go_ret
  exact ⟨ret_bool (by simp), FT.out.trans F5.out⟩
set_option maxHeartbeats 6400000 in
set_option maxRecDepth 100000 in
theorem rsame_any (o : Ov) (A A' : OA) (w : World) (hO : OIn w o A) (hP : OIn w o A') : Calls Tryz.prog 20 #[ovv o A, ovv o A'] w (FwB w true) := by
  obtain ⟨w0, hw0⟩ : ∃ w0, w.alloc (.cells (ovC o A) 27) = w0 := ⟨_, rfl⟩
  obtain ⟨w1, hw1⟩ : ∃ w1, w0.alloc (.cells (ovC o A') 27) = w1 := ⟨_, rfl⟩
  have G0 := Lib.hid (show Fuw w w0 by rw [← hw0]; exact fuwA _ _)
  have G1 := Lib.hid (show Fuw w0 w1 by rw [← hw1]; exact fuwA _ _)
  have BA := Lib.hid (show OB w1 w.heap.size o A from (show OB w0 w.heap.size o A from ⟨by rw [← hw0]; exact Bk.new _ _ _⟩).on G1.out)
  have BB := Lib.hid (show OB w1 w0.heap.size o A' from ⟨by rw [← hw1]; exact Bk.new _ _ _⟩)
  have FT := Lib.hid (G0.out.trans G1.out)
  have HO := Lib.hid (hO.on FT.out)
  have HP := Lib.hid (hP.on FT.out)
  unfold ovv
  unfold ovC at hw0 hw1 ⊢
  clear hO hP
  go_enter Tryz.func20, Tryz.ntmps20
  go_upto_region 1 with fail
  clear hw0 hw1
  have HK := Lib.hid (rcols_any o.c A.c A'.c w1 HO.out.c HP.out.c)
  unfold colv colC at HK
  have x1 := BA.out.c1; have x2 := BA.out.c2; have x3 := BA.out.c3; have x4 := BA.out.c4; have x5 := BA.out.c5; have x6 := BA.out.c6
  have y1 := BB.out.c1; have y2 := BB.out.c2; have y3 := BB.out.c3; have y4 := BB.out.c4; have y5 := BB.out.c5; have y6 := BB.out.c6
  go_wp2_with fail
  go_at_call 19; refine HK.out.mono ?_; rintro e2 w2 ⟨rfl, f2⟩
  have F2 := Lib.hid f2
  clear f2 HK x1 x2 x3 x4 x5 x6 y1 y2 y3 y4 y5 y6
  have HK := Lib.hid (adjs_any o.ads o.ads A.a5 A'.a5 A.k5 A'.k5 w2 (slJ_on F2.out HO.out.a) (slJ_on F2.out HP.out.a))
  rw [decide_eq_true (show o.ads = o.ads from rfl)] at HK
  have x1 := (BA.out.on F2.out).c1; have x2 := (BA.out.on F2.out).c2; have x3 := (BA.out.on F2.out).c3; have x4 := (BA.out.on F2.out).c4; have x5 := (BA.out.on F2.out).c5; have x6 := (BA.out.on F2.out).c6
  have y1 := (BB.out.on F2.out).c1; have y2 := (BB.out.on F2.out).c2; have y3 := (BB.out.on F2.out).c3; have y4 := (BB.out.on F2.out).c4; have y5 := (BB.out.on F2.out).c5; have y6 := (BB.out.on F2.out).c6
  go_wp2_with fail
  go_at_call 14; refine HK.out.mono ?_; rintro e3 w3 ⟨rfl, f3⟩
  have F3 := Lib.hid (F2.out.trans f3)
  clear f3 HK x1 x2 x3 x4 x5 x6 y1 y2 y3 y4 y5 y6
  have HK := Lib.hid (rints_any o.dls o.dls A.a6 A'.a6 A.k6 A'.k6 w3 (slI_on F3.out HO.out.d) (slI_on F3.out HP.out.d))
  rw [decide_eq_true (show o.dls = o.dls from rfl)] at HK
  have x1 := (BA.out.on F3.out).c1; have x2 := (BA.out.on F3.out).c2; have x3 := (BA.out.on F3.out).c3; have x4 := (BA.out.on F3.out).c4; have x5 := (BA.out.on F3.out).c5; have x6 := (BA.out.on F3.out).c6
  have y1 := (BB.out.on F3.out).c1; have y2 := (BB.out.on F3.out).c2; have y3 := (BB.out.on F3.out).c3; have y4 := (BB.out.on F3.out).c4; have y5 := (BB.out.on F3.out).c5; have y6 := (BB.out.on F3.out).c6
  go_wp2_with fail
  go_at_call 46; refine HK.out.mono ?_; rintro e4 w4 ⟨rfl, f4⟩
  have F4 := Lib.hid (F3.out.trans f4)
  clear f4 HK x1 x2 x3 x4 x5 x6 y1 y2 y3 y4 y5 y6
  go_wp2
  go_ret
  exact ⟨ret_bool (by simp), FT.out.trans F4.out⟩
end Go.Proofs.YtpjikijfendmhaaGreat

/-! The reference of overlays: Insert. Nothing that was there turns. -/
namespace Go.Proofs.YtpjikijfendmhaaGreat
open Go.RowKit

theorem conJ_drop {l : List Aj} {x : Aj} {i : Nat} (h : i < l.length) : (l.drop i).contains x = (eqJ l[i] x || (l.drop (i + 1)).contains x) := by
  rw [List.drop_eq_getElem_cons h, List.contains_cons]
  congr 1
  rw [Bool.eq_iff_iff, beq_iff_eq, eqJ_iff]
  exact eq_comm
theorem conJ_end {l : List Aj} {x : Aj} {i : Nat} (h : l.length ≤ i) : (l.drop i).contains x = false := by
  rw [List.drop_of_length_le h]; rfl
theorem insE {o : Ov} (a : Aj) (h : valO o = false) : insV o a = (emO, 19) := by unfold insV; rw [if_pos h]
theorem insA {o : Ov} (a : Aj) (h : valO o = true) (ha : idJ a = false) : insV o a = (emO, 1) := by unfold insV; rw [if_neg (by rw [h]; decide), if_pos ha]
theorem insT {o : Ov} (a : Aj) (h : valO o = true) (ha : idJ a = true) (hn : (edg (entR o)).contains a.2.2 = true) : insV o a = (emO, 7) := by
  rw [edgR_has h] at hn
  unfold insV; rw [if_neg (by rw [h]; decide), if_neg (by rw [ha]; decide), if_pos hn]
def RetP (w : World) (p : Ov × Int) (e : Ending) (w' : World) : Prop := RetX w p.1 p.2 e w'
set_option maxHeartbeats 25600000 in
set_option maxRecDepth 100000 in
theorem rins_any (o : Ov) (A : OA) (a : Aj) (wt : World) (hO : OIn wt o A) (ht : Tiny o) (hai : I64 a.1 ∧ I64 a.2.1 ∧ I64 a.2.2) (hz : o.c.ts.length + o.ads.length ≤ 50000) :
    Calls Tryz.prog 22 #[ovv o A, adv a] wt (RetP wt (insV o a)) := by
  obtain ⟨a0, a1, a2⟩ := a
  obtain ⟨wa, hwa⟩ : ∃ wa, wt.alloc (.cells (ovC o A) 27) = wa := ⟨_, rfl⟩
  obtain ⟨wb, hwb⟩ : ∃ wb, wa.alloc (.cells #[.int .i64 a0, .int .i64 a1, .int .i64 a2] 42) = wb := ⟨_, rfl⟩
  obtain ⟨w0, hw0⟩ : ∃ w0, wb.alloc (.cells #[.slice none 0 0, .slice none 0 0, .slice none 0 0, .slice none 0 0, .slice none 0 0, .slice none 0 0] 27) = w0 := ⟨_, rfl⟩
  have Fa := Lib.hid (show Fuw wt wa by rw [← hwa]; exact fuwA _ _)
  have Fb := Lib.hid (show Fuw wa wb by rw [← hwb]; exact fuwA _ _)
  have Fc := Lib.hid (show Fuw wb w0 by rw [← hw0]; exact fuwA _ _)
  have FT := Lib.hid ((Fa.out.trans Fb.out).trans Fc.out)
  obtain ⟨B1, hB1⟩ : ∃ B1, B1 = wt.heap.size := ⟨_, rfl⟩
  obtain ⟨B2, hB2⟩ : ∃ B2, B2 = wa.heap.size := ⟨_, rfl⟩
  obtain ⟨R, hR⟩ : ∃ R, R = wb.heap.size := ⟨_, rfl⟩
  have B0 := Lib.hid (show OB w0 B1 o A from (show OB wa B1 o A from ⟨by rw [hB1, ← hwa]; exact Bk.new _ _ _⟩).on (Fb.out.trans Fc.out))
  have BA := Lib.hid (show Bk w0 B2 #[.int .i64 a0, .int .i64 a1, .int .i64 a2] 42 from (show Bk wb B2 _ _ by rw [hB2, ← hwb]; exact Bk.new _ _ _).on Fc.out)
  have BR := Lib.hid (show Bk w0 R emV 27 by rw [hR, ← hw0]; exact Bk.new _ _ _)
  have HRb := Lib.hid (show wt.heap.size ≤ R by rw [hR]; exact (Fa.out.trans Fb.out).size)
  have HO := Lib.hid (hO.on FT.out)
  have HV := Lib.hid (rvalid13_any o A w0 HO.out ht.sm hz)
  have HEn := Lib.hid (fun w' (hf : Fuw w0 w') (h : valO o = true) => rents_any o A w' (HO.out.on hf) ht.sm (valC_iff.2 (valO_iff.1 h).c) hz)
  have HI64R := Lib.hid (fun h : valO o = true => show ∀ x ∈ entR o, I64 x.1 ∧ I64 x.2.1 ∧ I64 x.2.2 by
    have := entR_i64 HO.out (valC_iff.2 (valO_iff.1 h).c) o.ads.length
    rw [List.take_length] at this; exact this)
  have HCp := Lib.hid (fun w' (hf : Fuw w0 w') => rcopied_any o A w' (HO.out.on hf) ht)
  have HE12 := Lib.hid (fun w' (hf : Fuw w0 w') (h : valO o = true) => show Calls Tryz.prog 25 #[colv o.c A.c] w' (RetJ w' (entL o.c)) by
    have := rent12_any o.c A.c w' (HO.out.c.on hf) ht.sm.c
    rwa [show entC o.c = entL o.c from if_pos (valC_iff.2 (valO_iff.1 h).c)] at this)
  have HIE := Lib.hid (fun h : valO o = true => ent_i64 HO.out.c (valO_iff.1 h).c.b)
  have HWo := Lib.hid (fun w' (hf : Fuw w0 w') => rwithout_any o.dls A.a6 A.k6 a2 w' (slI_on hf HO.out.d) ht.sm.d)
  have HWi := Lib.hid (fun w' (hf : Fuw w0 w') => rwithin_any o.ads A.a5 A.k5 (a0, a1, a2) w' (slJ_on hf HO.out.a) (by omega))
  have HOI64 := Lib.hid hO.i64
  have HAI := Lib.hid (show I64 a0 ∧ I64 a1 ∧ I64 a2 from hai)
  obtain ⟨P, hP⟩ : ∃ P, insV o (a0, a1, a2) = P := ⟨_, rfl⟩
  rw [hP]
  have P1 := Lib.hid (fun h => show P = (emO, 19) by rw [← hP]; exact insE (a0, a1, a2) h)
  have P2 := Lib.hid (fun h h2 => show P = (emO, 1) by rw [← hP]; exact insA (a0, a1, a2) h h2)
  have P3 := Lib.hid (fun h h2 h3 => show P = (emO, 7) by rw [← hP]; exact insT (a0, a1, a2) h h2 h3)
  have P4 := Lib.hid (fun h h2 h3 => show P = if (entL o.c).contains (a0, a1, a2) = true then (⟨o.c, o.ads, dropI o.dls a2⟩, 0) else (⟨o.c, wthV o.ads (a0, a1, a2), o.dls⟩, 0) by rw [← hP]; exact insR (a0, a1, a2) h h2 h3)
  have HI0 := Lib.hid (fun w' => rid13_any a0 w')
  have HI1 := Lib.hid (fun w' => rid13_any a1 w')
  have HI2 := Lib.hid (fun w' => rid13_any a2 w')
  have HJ := Lib.hid (show idJ (a0, a1, a2) = (idB a0 && idB a1 && idB a2) from rfl)
  have F00 := Lib.hid (Fuw.refl w0)
  have x1 := B0.out.c1; have x2 := B0.out.c2; have x3 := B0.out.c3; have x4 := B0.out.c4; have x5 := B0.out.c5; have x6 := B0.out.c6
  have k0 := BA.out.c 0; have k1 := BA.out.c 1; have k2 := BA.out.c 2
  simp only [List.getElem?_toArray, List.getElem?_cons_zero, List.getElem?_cons_succ] at k0 k1 k2
  unfold ovv adv RetP
  unfold ovv ovC at HV HEn HCp
  unfold colv colC at HE12
  unfold adv at HWi
  unfold RetCp ovv ovC at HCp
  unfold ovC at hwa ⊢
  clear hO ht hai hP hz
  obtain ⟨q, hq⟩ : ∃ q, valO o = q := ⟨_, rfl⟩
  have HQ := Lib.hid hq
  rw [hq] at HV
  clear hq
  go_enter Tryz.func22, Tryz.ntmps22
  go_upto_region 1 with fail
  rw [← hB1, ← hB2, ← hR]
  clear hwa hwb hw0 hB1 hB2 hR
  go_wp2_with fail
  go_at_call 13; refine HV.out.mono ?_; rintro e1 w1 ⟨rfl, f1⟩
  have F1 := Lib.hid f1
  clear f1 x1 x2 x3 x4 x5 x6 k0 k1 k2
  cases q with
  | false =>
    have HZ := Lib.hid (P1.out HQ.out)
    have E := BR.out.on F1.out
    unfold emV at E
    have q0 := E.c 0; have q1 := E.c 1; have q2 := E.c 2; have q3 := E.c 3; have q4 := E.c 4; have q5 := E.c 5
    have t0 := E.f 0; have t1 := E.f 1; have t2 := E.f 2; have t3 := E.f 3; have t4 := E.f 4; have t5 := E.f 5
    simp only [List.getElem?_toArray, List.getElem?_cons_zero, List.getElem?_cons_succ] at q0 q1 q2 q3 q4 q5
    have HE := Lib.hid E
    clear E 
    go_wp2
    refine o_ret2 rfl rfl rfl (o := emO) (A := A0) ⟨(((((HE.out.set_ 0 (.slice none 0 0)).set_ 1 (.slice none 0 0)).set_ 2 (.slice none 0 0)).set_ 3 (.slice none 0 0)).set_ 4 (.slice none 0 0)).set_ 5 (.slice none 0 0)⟩ ?_
    rw [HZ.out]
    exact ⟨A0, rfl, em_in _, fuwS (fuwS (fuwS (fuwS (fuwS (fuwS (FT.out.trans F1.out) HRb.out) HRb.out) HRb.out) HRb.out) HRb.out) HRb.out⟩
  | true =>
    have k0 := (BA.out.on F1.out).c 0; have k1 := (BA.out.on F1.out).c 1; have k2 := (BA.out.on F1.out).c 2
    simp only [List.getElem?_toArray, List.getElem?_cons_zero, List.getElem?_cons_succ] at k0 k1 k2
    generalize idB a0 = u0 at *
    generalize idB a1 = u1 at *
    generalize idB a2 = u2 at *
    obtain ⟨qj, hqj⟩ : ∃ qj, idJ (a0, a1, a2) = qj := ⟨_, rfl⟩
    rw [hqj] at HJ
    have HQJ := Lib.hid hqj
    clear hqj
    cases u0 with
    | false =>
      have HZ := Lib.hid (P2.out HQ.out (by rw [HQJ.out, HJ.out]; rfl))
      go_wp2_with fail
      go_at_call 42; refine (HI0.out _).mono ?_; rintro e9 w9 ⟨rfl, rfl⟩
      have E := BR.out.on F1.out
      unfold emV at E
      have q0 := E.c 0; have q1 := E.c 1; have q2 := E.c 2; have q3 := E.c 3; have q4 := E.c 4; have q5 := E.c 5
      have t0 := E.f 0; have t1 := E.f 1; have t2 := E.f 2; have t3 := E.f 3; have t4 := E.f 4; have t5 := E.f 5
      simp only [List.getElem?_toArray, List.getElem?_cons_zero, List.getElem?_cons_succ] at q0 q1 q2 q3 q4 q5
      have HE := Lib.hid E
      clear E k0 k1 k2
      go_wp2
      refine o_ret2 rfl rfl rfl (o := emO) (A := A0) ⟨(((((HE.out.set_ 0 (.slice none 0 0)).set_ 1 (.slice none 0 0)).set_ 2 (.slice none 0 0)).set_ 3 (.slice none 0 0)).set_ 4 (.slice none 0 0)).set_ 5 (.slice none 0 0)⟩ ?_
      rw [HZ.out]
      exact ⟨A0, rfl, em_in _, fuwS (fuwS (fuwS (fuwS (fuwS (fuwS (FT.out.trans F1.out) HRb.out) HRb.out) HRb.out) HRb.out) HRb.out) HRb.out⟩
    | true =>
      cases u1 with
      | false =>
        have HZ := Lib.hid (P2.out HQ.out (by rw [HQJ.out, HJ.out]; rfl))
        go_wp2_with fail
        go_at_call 42; refine (HI0.out _).mono ?_; rintro e9 w9 ⟨rfl, rfl⟩
        go_wp2_with fail
        go_at_call 42; refine (HI1.out _).mono ?_; rintro e9 w9 ⟨rfl, rfl⟩
        have E := BR.out.on F1.out
        unfold emV at E
        have q0 := E.c 0; have q1 := E.c 1; have q2 := E.c 2; have q3 := E.c 3; have q4 := E.c 4; have q5 := E.c 5
        have t0 := E.f 0; have t1 := E.f 1; have t2 := E.f 2; have t3 := E.f 3; have t4 := E.f 4; have t5 := E.f 5
        simp only [List.getElem?_toArray, List.getElem?_cons_zero, List.getElem?_cons_succ] at q0 q1 q2 q3 q4 q5
        have HE := Lib.hid E
        clear E k0 k1 k2
        go_wp2
        refine o_ret2 rfl rfl rfl (o := emO) (A := A0) ⟨(((((HE.out.set_ 0 (.slice none 0 0)).set_ 1 (.slice none 0 0)).set_ 2 (.slice none 0 0)).set_ 3 (.slice none 0 0)).set_ 4 (.slice none 0 0)).set_ 5 (.slice none 0 0)⟩ ?_
        rw [HZ.out]
        exact ⟨A0, rfl, em_in _, fuwS (fuwS (fuwS (fuwS (fuwS (fuwS (FT.out.trans F1.out) HRb.out) HRb.out) HRb.out) HRb.out) HRb.out) HRb.out⟩
      | true =>
        cases u2 with
        | false =>
          have HZ := Lib.hid (P2.out HQ.out (by rw [HQJ.out, HJ.out]; rfl))
          go_wp2_with fail
          go_at_call 42; refine (HI0.out _).mono ?_; rintro e9 w9 ⟨rfl, rfl⟩
          go_wp2_with fail
          go_at_call 42; refine (HI1.out _).mono ?_; rintro e9 w9 ⟨rfl, rfl⟩
          go_wp2_with fail
          go_at_call 42; refine (HI2.out _).mono ?_; rintro e9 w9 ⟨rfl, rfl⟩
          have E := BR.out.on F1.out
          unfold emV at E
          have q0 := E.c 0; have q1 := E.c 1; have q2 := E.c 2; have q3 := E.c 3; have q4 := E.c 4; have q5 := E.c 5
          have t0 := E.f 0; have t1 := E.f 1; have t2 := E.f 2; have t3 := E.f 3; have t4 := E.f 4; have t5 := E.f 5
          simp only [List.getElem?_toArray, List.getElem?_cons_zero, List.getElem?_cons_succ] at q0 q1 q2 q3 q4 q5
          have HE := Lib.hid E
          clear E k0 k1 k2
          go_wp2
          refine o_ret2 rfl rfl rfl (o := emO) (A := A0) ⟨(((((HE.out.set_ 0 (.slice none 0 0)).set_ 1 (.slice none 0 0)).set_ 2 (.slice none 0 0)).set_ 3 (.slice none 0 0)).set_ 4 (.slice none 0 0)).set_ 5 (.slice none 0 0)⟩ ?_
          rw [HZ.out]
          exact ⟨A0, rfl, em_in _, fuwS (fuwS (fuwS (fuwS (fuwS (fuwS (FT.out.trans F1.out) HRb.out) HRb.out) HRb.out) HRb.out) HRb.out) HRb.out⟩
        | true =>
          have HQI := Lib.hid (show idJ (a0, a1, a2) = true by rw [HQJ.out, HJ.out]; rfl)
          go_wp2_with fail
          go_at_call 42; refine (HI0.out _).mono ?_; rintro e9 w9 ⟨rfl, rfl⟩
          go_wp2_with fail
          go_at_call 42; refine (HI1.out _).mono ?_; rintro e9 w9 ⟨rfl, rfl⟩
          go_wp2_with fail
          go_at_call 42; refine (HI2.out _).mono ?_; rintro e9 w9 ⟨rfl, rfl⟩
          obtain ⟨qe, hqe⟩ : ∃ qe, (edg (entR o)).contains a2 = qe := ⟨_, rfl⟩
          have HQE := Lib.hid hqe
          clear hqe
          go_upto_region 5 with fail
          obtain ⟨S, hS⟩ : ∃ S : World → Prop, S = (fun w8 => OB w8 B1 o A ∧ w8.cell? ⟨B2, 2, none⟩ = some (.int .i64 a2)) := ⟨_, rfl⟩
          have HS4 := Lib.hid hS
          clear hS
          refine lst_start [4] S (by kernel_rfl) ?_
          have hS0 : S w1.drew := by rw [HS4.out]; exact ⟨B0.out.on (F1.out.trans (fuw_dr w1 1)), cellOnw (fuw_dr w1 1) k2⟩
          refine takeL (i := 0) (d := some 30) (v := ?_) rfl rfl (by kernel_rfl) (by kernel_rfl) (by kernel_rfl) (by kernel_rfl) (by kernel_rfl) (fun _ _ _ h => h) (Or.inl ⟨by rfl, ?_⟩) (by assumption) ?_
          rotate_left
          · ((intro w8 hSw; rw [HS4.out] at hSw; obtain ⟨h0, hA⟩ := hSw; have h1 := h0.c1; have h2 := h0.c2; have h3 := h0.c3; have h4 := h0.c4; have h5 := h0.c5; have h6 := h0.c6; go_simp); try with_reducible rfl)
          try simp only [Act.put]
          try simp only [List.setIfInBounds_toArray]
          try simp only [List.set_cons_succ]
          try simp only [List.set_cons_zero]
          refine takeP (i := 2) (d := some 32) (v := ?_) rfl rfl (by kernel_rfl) (by kernel_rfl) (by kernel_rfl) (by kernel_rfl) (by kernel_rfl) (fun _ _ _ h => h) (Or.inl ⟨by rfl, ?_⟩) (by first | exact Or.inr (by assumption) | exact Or.inl (by kernel_rfl)) ?_
          rotate_left
          · ((intro w8 _; go_simp); try with_reducible rfl)
          try simp only [Act.put]
          try simp only [List.setIfInBounds_toArray]
          try simp only [List.set_cons_succ]
          try simp only [List.set_cons_zero]
          refine takeL (i := 3) (d := some 33) (v := ?_) rfl rfl (by kernel_rfl) (by kernel_rfl) (by kernel_rfl) (by kernel_rfl) (by kernel_rfl) (fun _ _ _ h => h) (Or.inl ⟨by rfl, ?_⟩) (by assumption) ?_
          rotate_left
          · ((intro w8 hSw; rw [HS4.out] at hSw; obtain ⟨h0, hA⟩ := hSw; have h1 := h0.c1; have h2 := h0.c2; have h3 := h0.c3; have h4 := h0.c4; have h5 := h0.c5; have h6 := h0.c6; go_simp); try with_reducible rfl)
          try simp only [Act.put]
          try simp only [List.setIfInBounds_toArray]
          try simp only [List.set_cons_succ]
          try simp only [List.set_cons_zero]
          refine oneL (i := 1) rfl (by kernel_rfl) (fun K8 hK8 => ?_)
          go_simp
          go_at_call 30; refine (HEn.out _ (F1.out.trans (fuw_dr w1 1)) HQ.out).mono ?_; rintro e9 w2 ⟨v2, rfl, ho2, f2⟩
          obtain ⟨ea, ek, hv2, -, hE2⟩ := slJ_own ho2 (HI64R.out HQ.out)
          subst hv2
          have F2 := Lib.hid ((F1.out.trans (fuw_dr w1 1)).trans f2)
          have HE2 := Lib.hid (redge_any (entR o) ea ek a2 w2 hE2)
          have FD2 := Lib.hid ((fuw_dr w1 1).trans f2)
          clear ho2 hE2
          refine hK8 _ _ (by rw [HS4.out]; exact ⟨B0.out.on F2.out, cellOnw FD2.out k2⟩) ?_
          try simp only [Act.put]
          try simp only [List.setIfInBounds_toArray]
          try simp only [List.set_cons_succ]
          try simp only [List.set_cons_zero]
          refine outL (i := 4) rfl (by kernel_rfl) (by kernel_rfl) (fun K8 hK8 => ?_)
          go_simp
          go_at_call 44; refine HE2.out.mono ?_; rintro e9 w9 ⟨rfl, rfl⟩
          refine hK8 _ _ ?_
          try simp only [Act.put]
          try simp only [List.setIfInBounds_toArray]
          try simp only [List.set_cons_succ]
          try simp only [List.set_cons_zero]
          refine lst_done (by kernel_rfl) ?_ _
          clear k0 k1 k2
          rw [HQE.out]
          cases qe with
          | true =>
            have HZ := Lib.hid (P3.out HQ.out HQI.out HQE.out)
            have E := BR.out.on F2.out
            unfold emV at E
            have q0 := E.c 0; have q1 := E.c 1; have q2 := E.c 2; have q3 := E.c 3; have q4 := E.c 4; have q5 := E.c 5
            have t0 := E.f 0; have t1 := E.f 1; have t2 := E.f 2; have t3 := E.f 3; have t4 := E.f 4; have t5 := E.f 5
            simp only [List.getElem?_toArray, List.getElem?_cons_zero, List.getElem?_cons_succ] at q0 q1 q2 q3 q4 q5
            have HE := Lib.hid E
            clear E 
            go_wp2
            refine o_ret2 rfl rfl rfl (o := emO) (A := A0) ⟨(((((HE.out.set_ 0 (.slice none 0 0)).set_ 1 (.slice none 0 0)).set_ 2 (.slice none 0 0)).set_ 3 (.slice none 0 0)).set_ 4 (.slice none 0 0)).set_ 5 (.slice none 0 0)⟩ ?_
            rw [HZ.out]
            exact ⟨A0, rfl, em_in _, fuwS (fuwS (fuwS (fuwS (fuwS (fuwS (FT.out.trans F2.out) HRb.out) HRb.out) HRb.out) HRb.out) HRb.out) HRb.out⟩
          | false =>
            have HP := Lib.hid (P4.out HQ.out HQI.out HQE.out)
            have x1 := (B0.out.on F2.out).c1; have x2 := (B0.out.on F2.out).c2; have x3 := (B0.out.on F2.out).c3; have x4 := (B0.out.on F2.out).c4; have x5 := (B0.out.on F2.out).c5; have x6 := (B0.out.on F2.out).c6
            go_wp2_with fail
            go_at_call 34; refine (HCp.out _ F2.out).mono ?_; rintro e3 w3 ⟨Y, rfl, hyi, f3⟩
            have F3 := Lib.hid (F2.out.trans f3)
            have HYI := Lib.hid hyi
            clear hyi f3 x1 x2 x3 x4 x5 x6
            go_upto_region 8 with fail
            obtain ⟨w4, hw4⟩ : ∃ w4, w3.alloc (.cells (ovC o Y) 27) = w4 := ⟨_, rfl⟩
            obtain ⟨C, hC⟩ : ∃ C, C = w3.heap.size := ⟨_, rfl⟩
            have G4 := Lib.hid (show Fuw w3 w4 by rw [← hw4]; exact fuwA _ _)
            have BX4 := Lib.hid (show OB w4 C o Y from ⟨by rw [hC, ← hw4]; exact Bk.new _ _ _⟩)
            have HCb := Lib.hid (show w0.heap.size ≤ C by rw [hC]; exact F3.out.size)
            unfold ovC at hw4
            rw [hw4, ← hC]
            clear hw4 hC
            have F4 := Lib.hid (F3.out.trans G4.out)
            have HYI4 := Lib.hid (HYI.out.on G4.out)
            have x1 := (B0.out.on F4.out).c1; have x2 := (B0.out.on F4.out).c2; have x3 := (B0.out.on F4.out).c3; have x4 := (B0.out.on F4.out).c4; have x5 := (B0.out.on F4.out).c5; have x6 := (B0.out.on F4.out).c6
            go_wp2_with fail
            go_at_call 25; refine (HE12.out _ F4.out HQ.out).mono ?_; rintro e5 w5 ⟨v5, rfl, ho5, f5⟩
            obtain ⟨la, lk, hv5, -, hL5⟩ := slJ_own ho5 (HIE.out HQ.out)
            subst hv5
            have L5 := Lib.hid hL5
            have F5 := Lib.hid (F4.out.trans f5)
            have BX5 := Lib.hid (BX4.out.on f5)
            have HYI5 := Lib.hid (HYI4.out.on f5)
            clear ho5 hL5 f5 x1 x2 x3 x4 x5 x6 BX4 HYI4
            generalize entL o.c = E at *
            have hel := L5.out.len
            go_wp2
            go_loopw [8] (fun iv wr => ∃ i : Nat, iv = .int .i64 i ∧ i ≤ E.length ∧ Hid (E.contains (a0, a1, a2) = (E.drop i).contains (a0, a1, a2)) ∧ Hid (Fuw w5 wr)) (fun iv _ => E.length - (RowKit.intOf iv).toNat)
            case atStart => exact ⟨0, rfl, Nat.zero_le _, Lib.hid rfl, Lib.hid (Fuw.refl _)⟩
            case round =>
              obtain ⟨i, rfl, hi, HCn, hf⟩ := hrel
              have FX := Lib.hid (F5.out.trans hf.out)
              have k0 := (BA.out.on FX.out).c 0; have k1 := (BA.out.on FX.out).c 1; have k2 := (BA.out.on FX.out).c 2
              simp only [List.getElem?_toArray, List.getElem?_cons_zero, List.getElem?_cons_succ] at k0 k1 k2
              by_cases hlt : i < E.length
              · obtain ⟨b, f, rfl, -, -, -, c0, c1, c2⟩ := (slJ_on hf.out L5.out).get hlt
                have HD := Lib.hid (conJ_drop (x := (a0, a1, a2)) hlt)
                have heq := fun w' => eql_adj E[i] (a0, a1, a2) w'
                have hgd := fun (op : BinOp) (p q : Operand) (xs ys : Array Value) (w' : World) => run_eqGuard_agg w' op 42 p q xs ys guard_adj
                generalize E[i] = y at *
                obtain ⟨y0, y1, y2⟩ := y
                simp only at c0 c1 c2 heq
                obtain ⟨qy, hqy⟩ : ∃ qy, eqJ (y0, y1, y2) (a0, a1, a2) = qy := ⟨_, rfl⟩
                rw [hqy] at HD
                simp only [hqy] at heq
                have z1 : (i : Int) < (E.length : Int) := by omega
                clear hqy
                cases qy with
                | true =>
                  have HZ := Lib.hid (show P = (⟨o.c, o.ads, dropI o.dls a2⟩, 0) by rw [HP.out, if_pos (by rw [HCn.out, HD.out]; rfl)])
                  go_upto_region 12 with fail
                  go_region
                  go_upto_region 13 with fail
                  obtain ⟨V, hV⟩ : ∃ V, wr.drew = V := ⟨_, rfl⟩
                  have FV := Lib.hid (show Fuw wr V by rw [← hV]; exact fuw_dr wr 1)
                  have FXV := Lib.hid (FX.out.trans FV.out)
                  rw [hV]
                  clear hV c0 c1 c2 k0 k1 k2 heq hgd
                  have x6 := (B0.out.on FXV.out).c6
                  have k0 := (BA.out.on FXV.out).c 0; have k1 := (BA.out.on FXV.out).c 1; have k2 := (BA.out.on FXV.out).c 2
                  simp only [List.getElem?_toArray, List.getElem?_cons_zero, List.getElem?_cons_succ] at k0 k1 k2
                  have BXV := Lib.hid (BX5.out.on (hf.out.trans FV.out))
                  have HYIV := Lib.hid (HYI5.out.on (hf.out.trans FV.out))
                  go_wp2_with fail
                  go_at_call 55; refine (HWo.out _ FXV.out).mono ?_; rintro e7 w7 ⟨v7, rfl, ho7, f7⟩
                  obtain ⟨da, dk, hv7, -, hD7⟩ := slI_own ho7 (fun x hx => HOI64.out.d x (List.mem_filter.1 hx).1)
                  subst hv7
                  have F7 := Lib.hid (FXV.out.trans f7)
                  have BX7 := Lib.hid (BXV.out.on f7)
                  have HYI7 := Lib.hid (HYIV.out.on f7)
                  have HD7 := Lib.hid hD7
                  have k6 := BX7.out.c6
                  have t6 := BX7.out.k.f 5
                  clear ho7 hD7 f7 x6 k0 k1 k2
                  generalize dropI o.dls a2 = dl at *
                  go_upto_region 14 with fail
                  obtain ⟨w8, hw8⟩ : ∃ w8, w7.setCell ⟨C, 5, none⟩ (.slice da dl.length dk) = w8 := ⟨_, rfl⟩
                  have F8 := Lib.hid (show Fuw w0 w8 by rw [← hw8]; exact fuwS F7.out HCb.out)
                  have BX := Lib.hid (show OB w8 C ⟨o.c, o.ads, dl⟩ ⟨Y.c, Y.a5, da, Y.k5, dk⟩ from ⟨by rw [← hw8]; exact BX7.out.k.set_ 5 _⟩)
                  have HXI := Lib.hid (show OIn w8 ⟨o.c, o.ads, dl⟩ ⟨Y.c, Y.a5, da, Y.k5, dk⟩ from by
                    have q := oin_far BX7.out.k (slc_ov _ _) HYI7.out 5 (.slice da dl.length dk)
                    rw [hw8] at q
                    have q2 := slI_far BX7.out.k (slc_ov _ _) HD7.out 5 (.slice da dl.length dk)
                    rw [hw8] at q2
                    exact ⟨q.c, q.a, q2⟩)
                  rw [hw8]
                  clear hw8 k6 t6
                  have E := BR.out.on F8.out
                  unfold emV at E
                  have q0 := E.c 0; have q1 := E.c 1; have q2 := E.c 2; have q3 := E.c 3; have q4 := E.c 4; have q5 := E.c 5
                  have t0 := E.f 0; have t1 := E.f 1; have t2 := E.f 2; have t3 := E.f 3; have t4 := E.f 4; have t5 := E.f 5
                  simp only [List.getElem?_toArray, List.getElem?_cons_zero, List.getElem?_cons_succ] at q0 q1 q2 q3 q4 q5
                  have s1 := BX.out.c1; have s2 := BX.out.c2; have s3 := BX.out.c3; have s4 := BX.out.c4; have s5 := BX.out.c5; have s6 := BX.out.c6
                  have hs6 := set6_ok (w0 := wt) (o := emO) (A := A0) (o' := ⟨o.c, o.ads, dl⟩) (A' := ⟨Y.c, Y.a5, da, Y.k5, dk⟩) (em_bk (BR.out.on F8.out)) HRb.out (FT.out.trans F8.out)
                  have hoi := hs6.2.2 ⟨o.c, o.ads, dl⟩ ⟨Y.c, Y.a5, da, Y.k5, dk⟩ HXI.out
                  unfold set6 at hs6 hoi
                  have HS6 := Lib.hid hs6
                  have HOI := Lib.hid hoi
                  clear hs6 hoi E 
                  go_wp2
                  refine o_ret2 rfl rfl rfl (o := ⟨o.c, o.ads, dl⟩) (A := ⟨Y.c, Y.a5, da, Y.k5, dk⟩) HS6.out.1 ?_
                  rw [HZ.out]
                  exact ⟨_, rfl, HOI.out, HS6.out.2.1⟩
                | false =>
                  have HCn2 := Lib.hid (show E.contains (a0, a1, a2) = (E.drop (i + 1)).contains (a0, a1, a2) by rw [HCn.out, HD.out, Bool.false_or])
                  go_upto_region 12 with fail
                  go_region
                  have FD := Lib.hid (hf.out.trans (fuw_dr wr 1))
                  clear c0 c1 c2 k0 k1 k2 heq hgd
                  go_wp2
                  go_roundw
                  case rel => exact ⟨i + 1, by go_num, by omega, HCn2, FD⟩
                  case measure => simp [RowKit.intOf]; omega
              · have hge : ¬ (i : Int) < (E.length : Int) := by omega
                have HZ := Lib.hid (show P = (⟨o.c, wthV o.ads (a0, a1, a2), o.dls⟩, 0) by rw [HP.out, if_neg (by rw [HCn.out, conJ_end (by omega)]; decide)])
                have x5 := (B0.out.on FX.out).c5
                have BXV := Lib.hid (BX5.out.on hf.out)
                have HYIV := Lib.hid (HYI5.out.on hf.out)
                have HWl := Lib.hid (HWi.out _ FX.out)
                have HWI := Lib.hid (show ∀ x ∈ wthV o.ads (a0, a1, a2), I64 x.1 ∧ I64 x.2.1 ∧ I64 x.2.2 from fun x hx => by
                  rcases List.mem_cons.1 ((wthV_perm (a0, a1, a2) o.ads).mem_iff.1 hx) with e | h
                  · subst e; exact HAI.out
                  · exact HOI64.out.a x h)
                generalize wthV o.ads (a0, a1, a2) = al at *
                unfold RetJ at HWl
                go_wp2_with fail
                go_at_call 56; refine HWl.out.mono ?_; rintro e7 w7 ⟨v7, rfl, ho7, f7⟩
                obtain ⟨da, dk, hv7, -, hD7⟩ := slJ_own ho7 HWI.out
                subst hv7
                have F7 := Lib.hid (FX.out.trans f7)
                have BX7 := Lib.hid (BXV.out.on f7)
                have HYI7 := Lib.hid (HYIV.out.on f7)
                have HD7 := Lib.hid hD7
                have k5 := BX7.out.c5
                have t5 := BX7.out.k.f 4
                clear ho7 hD7 f7 x5 k0 k1 k2 HWl
                go_upto_region 16 with fail
                obtain ⟨w8, hw8⟩ : ∃ w8, w7.setCell ⟨C, 4, none⟩ (.slice da al.length dk) = w8 := ⟨_, rfl⟩
                have F8 := Lib.hid (show Fuw w0 w8 by rw [← hw8]; exact fuwS F7.out HCb.out)
                have BX := Lib.hid (show OB w8 C ⟨o.c, al, o.dls⟩ ⟨Y.c, da, Y.a6, dk, Y.k6⟩ from ⟨by rw [← hw8]; exact BX7.out.k.set_ 4 _⟩)
                have HXI := Lib.hid (show OIn w8 ⟨o.c, al, o.dls⟩ ⟨Y.c, da, Y.a6, dk, Y.k6⟩ from by
                  have q := oin_far BX7.out.k (slc_ov _ _) HYI7.out 4 (.slice da al.length dk)
                  rw [hw8] at q
                  have q2 := slJ_far BX7.out.k (slc_ov _ _) HD7.out 4 (.slice da al.length dk)
                  rw [hw8] at q2
                  exact ⟨q.c, q2, q.d⟩)
                rw [hw8]
                clear hw8 k5 t5
                have E := BR.out.on F8.out
                unfold emV at E
                have q0 := E.c 0; have q1 := E.c 1; have q2 := E.c 2; have q3 := E.c 3; have q4 := E.c 4; have q5 := E.c 5
                have t0 := E.f 0; have t1 := E.f 1; have t2 := E.f 2; have t3 := E.f 3; have t4 := E.f 4; have t5 := E.f 5
                simp only [List.getElem?_toArray, List.getElem?_cons_zero, List.getElem?_cons_succ] at q0 q1 q2 q3 q4 q5
                have s1 := BX.out.c1; have s2 := BX.out.c2; have s3 := BX.out.c3; have s4 := BX.out.c4; have s5 := BX.out.c5; have s6 := BX.out.c6
                have hs6 := set6_ok (w0 := wt) (o := emO) (A := A0) (o' := ⟨o.c, al, o.dls⟩) (A' := ⟨Y.c, da, Y.a6, dk, Y.k6⟩) (em_bk (BR.out.on F8.out)) HRb.out (FT.out.trans F8.out)
                have hoi := hs6.2.2 ⟨o.c, al, o.dls⟩ ⟨Y.c, da, Y.a6, dk, Y.k6⟩ HXI.out
                unfold set6 at hs6 hoi
                have HS6 := Lib.hid hs6
                have HOI := Lib.hid hoi
                clear hs6 hoi E 
                go_wp2
                refine o_ret2 rfl rfl rfl (o := ⟨o.c, al, o.dls⟩) (A := ⟨Y.c, da, Y.a6, dk, Y.k6⟩) HS6.out.1 ?_
                rw [HZ.out]
                exact ⟨_, rfl, HOI.out, HS6.out.2.1⟩
end Go.Proofs.YtpjikijfendmhaaGreat

/-! The reference of overlays: Delete, New. Nothing that was there turns. -/
namespace Go.Proofs.YtpjikijfendmhaaGreat
open Go.RowKit

theorem dropJ_snoc {n : Int} {l : List Aj} {i : Nat} (h : i < l.length) : dropJ (l.take (i + 1)) n = dropJ (l.take i) n ++ if l[i].2.2 = n then [] else [l[i]] := by
  unfold dropJ
  rw [List.take_succ_eq_append_getElem h, List.filter_append]
  congr 1
  by_cases g : l[i].2.2 = n
  · rw [if_pos g, List.filter_cons_of_neg (by simpa using g)]; rfl
  · rw [if_neg g, List.filter_cons_of_pos (by simpa using g)]; rfl
def wthPI (l : List Int) (n : Int) (p : Bool) : List Int := if p = true then wthI l n else l
def PutI (l : List Int) (n : Int) (i : Nat) (p : Bool) : Prop := (p = true → ∃ x ∈ l.take i, n < x) ∧ (p = false → ∀ x ∈ l.take i, ¬ n < x)
theorem takeI_snoc (l : List Int) {i : Nat} (h : i < l.length) : l.take (i + 1) = l.take i ++ [l[i]] := List.take_succ_eq_append_getElem h
theorem putI_tt {l : List Int} {a : Int} {i : Nat} (h : i < l.length) (hp : PutI l a i true) : wthPI (l.take (i + 1)) a true = wthPI (l.take i) a true ++ [l[i]] ∧ PutI l a (i + 1) true := by
  rw [takeI_snoc l h]
  unfold PutI
  rw [takeI_snoc l h]
  refine ⟨wthI_put [l[i]] (hp.1 rfl), fun _ => ?_, fun e => by cases e⟩
  obtain ⟨x, hx, k⟩ := hp.1 rfl
  exact ⟨x, List.mem_append.2 (.inl hx), k⟩
theorem putI_ft {l : List Int} {a : Int} {i : Nat} (h : i < l.length) (hp : PutI l a i false) (hq : a < l[i]) : wthPI (l.take (i + 1)) a true = (wthPI (l.take i) a false ++ [a]) ++ [l[i]] ∧ PutI l a (i + 1) true := by
  unfold PutI
  rw [takeI_snoc l h]
  refine ⟨?_, fun _ => ⟨l[i], List.mem_append.2 (.inr List.mem_cons_self), hq⟩, fun e => by cases e⟩
  show wthI (l.take i ++ [l[i]]) a = _
  rw [wthI_skip [l[i]] (hp.2 rfl), List.append_assoc]
  show l.take i ++ (if a < l[i] then a :: l[i] :: [] else _) = _
  rw [if_pos hq]; rfl
theorem putI_ff {l : List Int} {a : Int} {i : Nat} (h : i < l.length) (hp : PutI l a i false) (hq : ¬ a < l[i]) : wthPI (l.take (i + 1)) a false = wthPI (l.take i) a false ++ [l[i]] ∧ PutI l a (i + 1) false := by
  unfold PutI
  rw [takeI_snoc l h]
  refine ⟨rfl, fun e => (by cases e), fun _ x hx => ?_⟩
  rcases List.mem_append.1 hx with k | k
  · exact hp.2 rfl x k
  · have : x = l[i] := by simpa using k
    subst this; exact hq
theorem putI_end {l : List Int} {a : Int} (hp : PutI l a l.length false) : wthI l a = l ++ [a] := by
  have := wthI_skip (n := a) (p := l) [] (by have := hp.2 rfl; rwa [List.take_length] at this)
  rwa [List.append_nil] at this
theorem wthI_perm (n : Int) : ∀ l, (wthI l n).Perm (n :: l)
  | [] => List.Perm.refl _
  | x :: r => by
    show (if n < x then n :: x :: r else x :: wthI r n).Perm _
    by_cases g : n < x
    · rw [if_pos g]
    · rw [if_neg g]
      exact ((wthI_perm n r).cons x).trans (List.Perm.swap n x r)
theorem wthPI_len {l : List Int} {a : Int} (p : Bool) : (wthPI l a p).length ≤ l.length + 1 := by
  unfold wthPI
  by_cases h : p = true
  · rw [if_pos h, (wthI_perm a l).length_eq]; exact Nat.le_refl _
  · rw [if_neg h]; exact Nat.le_succ _
theorem delE {o : Ov} (n : Int) (h : valO o = false) : delV o n = (emO, 19) := by unfold delV; rw [if_pos h]
theorem delN {o : Ov} (n : Int) (h : valO o = true) (hn : (edg (entR o)).contains n = false) : delV o n = (emO, 11) := by
  rw [edgR_has h] at hn
  unfold delV; rw [if_neg (by rw [h]; decide), if_pos hn]
set_option maxHeartbeats 25600000 in
set_option maxRecDepth 100000 in
theorem rdel_any (o : Ov) (A : OA) (n : Int) (wt : World) (hO : OIn wt o A) (ht : Tiny o) (hn64 : I64 n) (hz : o.c.ts.length + o.ads.length ≤ 50000) :
    Calls Tryz.prog 24 #[ovv o A, .int .i64 n] wt (RetP wt (delV o n)) := by
  obtain ⟨wa, hwa⟩ : ∃ wa, wt.alloc (.cells (ovC o A) 27) = wa := ⟨_, rfl⟩
  obtain ⟨w0, hw0⟩ : ∃ w0, wa.alloc (.cells #[.slice none 0 0, .slice none 0 0, .slice none 0 0, .slice none 0 0, .slice none 0 0, .slice none 0 0] 27) = w0 := ⟨_, rfl⟩
  have Fa := Lib.hid (show Fuw wt wa by rw [← hwa]; exact fuwA _ _)
  have Fc := Lib.hid (show Fuw wa w0 by rw [← hw0]; exact fuwA _ _)
  have FT := Lib.hid (Fa.out.trans Fc.out)
  obtain ⟨B1, hB1⟩ : ∃ B1, B1 = wt.heap.size := ⟨_, rfl⟩
  obtain ⟨R, hR⟩ : ∃ R, R = wa.heap.size := ⟨_, rfl⟩
  have B0 := Lib.hid (show OB w0 B1 o A from (show OB wa B1 o A from ⟨by rw [hB1, ← hwa]; exact Bk.new _ _ _⟩).on Fc.out)
  have BR := Lib.hid (show Bk w0 R emV 27 by rw [hR, ← hw0]; exact Bk.new _ _ _)
  have HRb := Lib.hid (show wt.heap.size ≤ R by rw [hR]; exact Fa.out.size)
  have HO := Lib.hid (hO.on FT.out)
  have HV := Lib.hid (rvalid13_any o A w0 HO.out ht.sm hz)
  have HEn := Lib.hid (fun w' (hf : Fuw w0 w') (h : valO o = true) => rents_any o A w' (HO.out.on hf) ht.sm (valC_iff.2 (valO_iff.1 h).c) hz)
  have HI64R := Lib.hid (fun h : valO o = true => show ∀ x ∈ entR o, I64 x.1 ∧ I64 x.2.1 ∧ I64 x.2.2 by
    have := entR_i64 HO.out (valC_iff.2 (valO_iff.1 h).c) o.ads.length
    rw [List.take_length] at this; exact this)
  have HCp := Lib.hid (fun w' (hf : Fuw w0 w') => rcopied_any o A w' (HO.out.on hf) ht)
  have HEd := Lib.hid (fun w' (hf : Fuw w0 w') => redge_any o.ads A.a5 A.k5 n w' (slJ_on hf HO.out.a))
  have HOI64 := Lib.hid hO.i64
  have HN := Lib.hid hn64
  have hal := ht.a
  have hdl := ht.d
  obtain ⟨P, hP⟩ : ∃ P, delV o n = P := ⟨_, rfl⟩
  rw [hP]
  have P1 := Lib.hid (fun h => show P = (emO, 19) by rw [← hP]; exact delE n h)
  have P2 := Lib.hid (fun h h2 => show P = (emO, 11) by rw [← hP]; exact delN n h h2)
  have P4 := Lib.hid (fun h h2 => show P = if (edg o.ads).contains n = true then (⟨o.c, dropJ o.ads n, o.dls⟩, 0) else (⟨o.c, o.ads, wthI o.dls n⟩, 0) by rw [← hP]; exact delR n h h2)
  obtain ⟨i0, hi0, hz0, hz1, hz2⟩ := info_parts infoI
  obtain ⟨j0, hj0, hy0, hy1, hy2⟩ := info_parts infoJ
  have x1 := B0.out.c1; have x2 := B0.out.c2; have x3 := B0.out.c3; have x4 := B0.out.c4; have x5 := B0.out.c5; have x6 := B0.out.c6
  unfold ovv RetP
  unfold ovv ovC at HV HEn HCp
  unfold RetCp ovv ovC at HCp
  unfold ovC at hwa ⊢
  clear hO ht hP hz hn64
  obtain ⟨q, hq⟩ : ∃ q, valO o = q := ⟨_, rfl⟩
  have HQ := Lib.hid hq
  rw [hq] at HV
  clear hq
  go_enter Tryz.func24, Tryz.ntmps24
  go_upto_region 1 with fail
  rw [← hB1, ← hR]
  clear hwa hw0 hB1 hR
  go_wp2_with fail
  go_at_call 13; refine HV.out.mono ?_; rintro e1 w1 ⟨rfl, f1⟩
  have F1 := Lib.hid f1
  clear f1 x1 x2 x3 x4 x5 x6
  cases q with
  | false =>
    have HZ := Lib.hid (P1.out HQ.out)
    have E := BR.out.on F1.out
    unfold emV at E
    have q0 := E.c 0; have q1 := E.c 1; have q2 := E.c 2; have q3 := E.c 3; have q4 := E.c 4; have q5 := E.c 5
    have t0 := E.f 0; have t1 := E.f 1; have t2 := E.f 2; have t3 := E.f 3; have t4 := E.f 4; have t5 := E.f 5
    simp only [List.getElem?_toArray, List.getElem?_cons_zero, List.getElem?_cons_succ] at q0 q1 q2 q3 q4 q5
    have HE := Lib.hid E
    clear E 
    go_wp2
    refine o_ret2 rfl rfl rfl (o := emO) (A := A0) ⟨(((((HE.out.set_ 0 (.slice none 0 0)).set_ 1 (.slice none 0 0)).set_ 2 (.slice none 0 0)).set_ 3 (.slice none 0 0)).set_ 4 (.slice none 0 0)).set_ 5 (.slice none 0 0)⟩ ?_
    rw [HZ.out]
    exact ⟨A0, rfl, em_in _, fuwS (fuwS (fuwS (fuwS (fuwS (fuwS (FT.out.trans F1.out) HRb.out) HRb.out) HRb.out) HRb.out) HRb.out) HRb.out⟩
  | true =>
    have x1 := (B0.out.on F1.out).c1; have x2 := (B0.out.on F1.out).c2; have x3 := (B0.out.on F1.out).c3; have x4 := (B0.out.on F1.out).c4; have x5 := (B0.out.on F1.out).c5; have x6 := (B0.out.on F1.out).c6
    go_wp2_with fail
    go_at_call 30; refine (HEn.out _ F1.out HQ.out).mono ?_; rintro e9 w2 ⟨v2, rfl, ho2, f2⟩
    obtain ⟨ea, ek, hv2, -, hE2⟩ := slJ_own ho2 (HI64R.out HQ.out)
    subst hv2
    have F2 := Lib.hid (F1.out.trans f2)
    have HE2 := Lib.hid (redge_any (entR o) ea ek n w2 hE2)
    obtain ⟨qe, hqe⟩ : ∃ qe, (edg (entR o)).contains n = qe := ⟨_, rfl⟩
    have HQE := Lib.hid hqe
    rw [hqe] at HE2
    clear ho2 hE2 f2 hqe x1 x2 x3 x4 x5 x6
    go_wp2_with fail
    go_at_call 44; refine HE2.out.mono ?_; rintro e9 w9 ⟨rfl, rfl⟩
    cases qe with
    | false =>
      have HZ := Lib.hid (P2.out HQ.out HQE.out)
      have E := BR.out.on F2.out
      unfold emV at E
      have q0 := E.c 0; have q1 := E.c 1; have q2 := E.c 2; have q3 := E.c 3; have q4 := E.c 4; have q5 := E.c 5
      have t0 := E.f 0; have t1 := E.f 1; have t2 := E.f 2; have t3 := E.f 3; have t4 := E.f 4; have t5 := E.f 5
      simp only [List.getElem?_toArray, List.getElem?_cons_zero, List.getElem?_cons_succ] at q0 q1 q2 q3 q4 q5
      have HE := Lib.hid E
      clear E 
      go_wp2
      refine o_ret2 rfl rfl rfl (o := emO) (A := A0) ⟨(((((HE.out.set_ 0 (.slice none 0 0)).set_ 1 (.slice none 0 0)).set_ 2 (.slice none 0 0)).set_ 3 (.slice none 0 0)).set_ 4 (.slice none 0 0)).set_ 5 (.slice none 0 0)⟩ ?_
      rw [HZ.out]
      exact ⟨A0, rfl, em_in _, fuwS (fuwS (fuwS (fuwS (fuwS (fuwS (FT.out.trans F2.out) HRb.out) HRb.out) HRb.out) HRb.out) HRb.out) HRb.out⟩
    | true =>
      have HP := Lib.hid (P4.out HQ.out HQE.out)
      have x1 := (B0.out.on F2.out).c1; have x2 := (B0.out.on F2.out).c2; have x3 := (B0.out.on F2.out).c3; have x4 := (B0.out.on F2.out).c4; have x5 := (B0.out.on F2.out).c5; have x6 := (B0.out.on F2.out).c6
      go_wp2_with fail
      go_at_call 34; refine (HCp.out _ F2.out).mono ?_; rintro e3 w3 ⟨Y, rfl, hyi, f3⟩
      have F3 := Lib.hid (F2.out.trans f3)
      have HYI := Lib.hid hyi
      clear hyi f3 x1 x2 x3 x4 x5 x6 HE2
      go_upto_region 6 with fail
      obtain ⟨w5, hw4⟩ : ∃ w5, w3.alloc (.cells (ovC o Y) 27) = w5 := ⟨_, rfl⟩
      obtain ⟨C, hC⟩ : ∃ C, C = w3.heap.size := ⟨_, rfl⟩
      have G4 := Lib.hid (show Fuw w3 w5 by rw [← hw4]; exact fuwA _ _)
      have BX5 := Lib.hid (show OB w5 C o Y from ⟨by rw [hC, ← hw4]; exact Bk.new _ _ _⟩)
      have HCb := Lib.hid (show w0.heap.size ≤ C by rw [hC]; exact F3.out.size)
      unfold ovC at hw4
      rw [hw4, ← hC]
      clear hw4 hC
      have F5 := Lib.hid (F3.out.trans G4.out)
      have HYI5 := Lib.hid (HYI.out.on G4.out)
      have HEa := Lib.hid (HEd.out _ F5.out)
      obtain ⟨qa, hqa⟩ : ∃ qa, (edg o.ads).contains n = qa := ⟨_, rfl⟩
      rw [hqa] at HEa HP
      clear hqa
      have x5 := (B0.out.on F5.out).c5
      go_wp2_with fail
      go_at_call 44; refine HEa.out.mono ?_; rintro e9 w9 ⟨rfl, rfl⟩
      cases qa with
      | true =>
        have HZ := Lib.hid (show P = (⟨o.c, dropJ o.ads n, o.dls⟩, 0) by rw [HP.out]; rfl)
        go_wp2
        clear x5
        go_loopw [7, 8] (fun lv iv wr => ∃ i : Nat, iv = .int .i64 i ∧ i ≤ o.ads.length ∧ Hid (OwnJ w5 wr lv (dropJ (o.ads.take i) n)) ∧ Hid (Fuw w5 wr)) (fun _ iv _ => o.ads.length - (RowKit.intOf iv).toNat)
        case atStart => exact ⟨0, rfl, Nat.zero_le _, Lib.hid (World.ownsRow_nil _ _ _ _), Lib.hid (Fuw.refl _)⟩
        case round =>
          obtain ⟨i, rfl, hi, HOw, hf⟩ := hrel
          have FX := Lib.hid (F5.out.trans hf.out)
          have x5 := (B0.out.on FX.out).c5
          by_cases hlt : i < o.ads.length
          · obtain ⟨b, f, e5, -, -, -, c0, c1, c2⟩ := (slJ_on FX.out HO.out.a).get hlt
            rw [e5] at x5
            have HT := Lib.hid (dropJ_snoc (n := n) hlt)
            have hL : (dropJ (o.ads.take i) n).length ≤ 5000 := by
              have h1 : (dropJ (o.ads.take i) n).length ≤ (o.ads.take i).length := List.length_filter_le _ _
              rw [List.length_take] at h1; omega
            generalize dropJ (o.ads.take i) n = L at *
            generalize o.ads[i] = y at *
            obtain ⟨y0, y1, y2⟩ := y
            simp only at c0 c1 c2 HT
            have z1 : (i : Int) < (o.ads.length : Int) := by omega
            clear e5
            by_cases hx : y2 = n
            · have p : (y2 != n) = false := by rw [bne_eq_false_iff_eq]; exact hx
              have HO2 := Lib.hid (show OwnJ w5 wr _ (dropJ (o.ads.take (i + 1)) n) from by rw [HT.out, if_pos hx, List.append_nil]; exact HOw.out)
              clear hx
              go_wp2
              go_roundw
              case rel => exact ⟨i + 1, by go_num, by omega, HO2, hf⟩
              case measure => simp [RowKit.intOf]; omega
            · have p : (y2 != n) = true := by rw [bne_iff_ne]; exact hx
              have HT2 := Lib.hid (show dropJ (o.ads.take (i + 1)) n = L ++ [(y0, y1, y2)] by rw [HT.out, if_neg hx])
              clear hx
              go_wp2_with (at_builtin; refine wpList_append_own_at _ rfl (.tmp 43) (.tmp 49) 25 rfl w5.heap.size 42 j0 (.agg #[.int .i64 0, .int .i64 0, .int .i64 0]) 3 24 Tryz.underlying25 hj0 hy0 hy1 hy2 rfl (by decide) _ L.length (aC L) rfl (own_on HOw.out (fuwA _ _)) ⟨wr.heap.size, 0, none⟩ 1 1 (aE (y0, y1, y2)) rfl rfl (World.news_of_block (heap_alloc_new wr _)) (one_adj _) (by unfold maxLen; omega) (by omega) (Nat.le_trans hf.out.size (by simp)) ?_; intro v' w9 hown5 hgrow _ _)
              have HG := Lib.hid (fuw_grown (hf.out.trans (fuwA _ _)) (own_on HOw.out (fuwA _ _)) hgrow)
              have HO2 := Lib.hid (show OwnJ w5 w9 v' (dropJ (o.ads.take (i + 1)) n) from by
                unfold OwnJ
                rw [HT2.out, aC_app, List.length_append]; exact hown5)
              clear hown5 hgrow c0 c1 c2 p x5
              go_wp2
              go_roundw
              case rel => exact ⟨i + 1, by go_num, by omega, HO2, HG⟩
              case measure => simp [RowKit.intOf]; omega
          · have hge : ¬ (i : Int) < (o.ads.length : Int) := by omega
            have hL2 : dropJ (o.ads.take i) n = dropJ o.ads n := by rw [List.take_of_length_le (by omega)]
            rw [hL2] at HOw
            obtain ⟨da, dk, hv7, -, hD7⟩ := slJ_own HOw.out (fun x hx => HOI64.out.a x (List.mem_filter.1 hx).1)
            subst hv7
            have F7 := FX
            have BX7 := Lib.hid (BX5.out.on hf.out)
            have HYI7 := Lib.hid (HYI5.out.on hf.out)
            have HD7 := Lib.hid hD7
            have k5 := BX7.out.c5
            have t5 := BX7.out.k.f 4
            generalize dropJ o.ads n = al at *
            clear hD7 HOw hL2
            go_upto_region 14 with fail
            obtain ⟨w8, hw8⟩ : ∃ w8, wr.setCell ⟨C, 4, none⟩ (.slice da al.length dk) = w8 := ⟨_, rfl⟩
            have F8 := Lib.hid (show Fuw w0 w8 by rw [← hw8]; exact fuwS F7.out HCb.out)
            have BX := Lib.hid (show OB w8 C ⟨o.c, al, o.dls⟩ ⟨Y.c, da, Y.a6, dk, Y.k6⟩ from ⟨by rw [← hw8]; exact BX7.out.k.set_ 4 _⟩)
            have HXI := Lib.hid (show OIn w8 ⟨o.c, al, o.dls⟩ ⟨Y.c, da, Y.a6, dk, Y.k6⟩ from by
              have q := oin_far BX7.out.k (slc_ov _ _) HYI7.out 4 (.slice da al.length dk)
              rw [hw8] at q
              have q2 := slJ_far BX7.out.k (slc_ov _ _) HD7.out 4 (.slice da al.length dk)
              rw [hw8] at q2
              exact ⟨q.c, q2, q.d⟩)
            rw [hw8]
            clear hw8 k5 t5 x5
            have E := BR.out.on F8.out
            unfold emV at E
            have q0 := E.c 0; have q1 := E.c 1; have q2 := E.c 2; have q3 := E.c 3; have q4 := E.c 4; have q5 := E.c 5
            have t0 := E.f 0; have t1 := E.f 1; have t2 := E.f 2; have t3 := E.f 3; have t4 := E.f 4; have t5 := E.f 5
            simp only [List.getElem?_toArray, List.getElem?_cons_zero, List.getElem?_cons_succ] at q0 q1 q2 q3 q4 q5
            have s1 := BX.out.c1; have s2 := BX.out.c2; have s3 := BX.out.c3; have s4 := BX.out.c4; have s5 := BX.out.c5; have s6 := BX.out.c6
            have hs6 := set6_ok (w0 := wt) (o := emO) (A := A0) (o' := ⟨o.c, al, o.dls⟩) (A' := ⟨Y.c, da, Y.a6, dk, Y.k6⟩) (em_bk (BR.out.on F8.out)) HRb.out (FT.out.trans F8.out)
            have hoi := hs6.2.2 ⟨o.c, al, o.dls⟩ ⟨Y.c, da, Y.a6, dk, Y.k6⟩ HXI.out
            unfold set6 at hs6 hoi
            have HS6 := Lib.hid hs6
            have HOI := Lib.hid hoi
            clear hs6 hoi E 
            go_wp2
            refine o_ret2 rfl rfl rfl (o := ⟨o.c, al, o.dls⟩) (A := ⟨Y.c, da, Y.a6, dk, Y.k6⟩) HS6.out.1 ?_
            rw [HZ.out]
            exact ⟨_, rfl, HOI.out, HS6.out.2.1⟩
      | false =>
        have HZ := Lib.hid (show P = (⟨o.c, o.ads, wthI o.dls n⟩, 0) by rw [HP.out]; rfl)
        go_wp2
        clear x5
        go_loopw [9, 10, 11] (fun lv pv iv wr => ∃ (i : Nat) (p : Bool), iv = .int .i64 i ∧ pv = .bool p ∧ i ≤ o.dls.length ∧ Hid (OwnI w5 wr lv (wthPI (o.dls.take i) n p)) ∧ Hid (PutI o.dls n i p) ∧ Hid (Fuw w5 wr)) (fun _ _ iv _ => o.dls.length - (RowKit.intOf iv).toNat)
        case atStart => exact ⟨0, false, rfl, rfl, Nat.zero_le _, Lib.hid (World.ownsRow_nil _ _ _ _), Lib.hid ⟨fun e => (by cases e), fun _ x hx => absurd hx (by simp)⟩, Lib.hid (Fuw.refl _)⟩
        case round =>
          obtain ⟨i, p, rfl, rfl, hi, HOw, HPu, hf⟩ := hrel
          have FX := Lib.hid (F5.out.trans hf.out)
          have x6 := (B0.out.on FX.out).c6
          have hLl := wthPI_len (l := o.dls.take i) (a := n) p
          rw [List.length_take] at hLl
          by_cases hlt : i < o.dls.length
          · obtain ⟨b, f, e6, -, c0⟩ := (slI_on FX.out HO.out.d).get hlt
            rw [e6] at x6
            rw [Nat.mul_one] at c0
            have z1 : (i : Int) < (o.dls.length : Int) := by omega
            have HX6 := Lib.hid x6
            have E6 := Lib.hid e6
            clear e6
            cases p with
            | true =>
              have HTP := putI_tt hlt HPu.out
              have HT := Lib.hid HTP.1
              have HPp := Lib.hid HTP.2
              generalize o.dls[i] = y at *
              have hL : (wthPI (o.dls.take i) n true).length ≤ 6000 := by omega
              generalize wthPI (o.dls.take i) n true = L at *
              clear HTP hLl
              go_wp2_with (at_builtin; refine wpList_append_own_at _ rfl (.tmp 76) (.tmp 82) 22 rfl w5.heap.size 3 i0 (.int .i64 0) 1 8 Tryz.underlying22 hi0 hz0 hz1 hz2 rfl (by decide) _ L.length (cs L) rfl (own_on HOw.out (fuwA _ _)) ⟨wr.heap.size, 0, none⟩ 1 1 [.int .i64 y] rfl rfl (World.news_of_block (heap_alloc_new wr _)) (one_i _) (by unfold maxLen; omega) (by omega) (Nat.le_trans hf.out.size (by simp)) ?_; intro v9 w9 hown5 hgrow _ _)
              have HG := Lib.hid (fuw_grown (hf.out.trans (fuwA _ _)) (own_on HOw.out (fuwA _ _)) hgrow)
              have HO3 := Lib.hid (show OwnI w5 w9 v9 (wthPI (o.dls.take (i + 1)) n true) from by
                unfold OwnI
                rw [HT.out, cs_app, List.length_append]; exact hown5)
              clear hown5 hgrow c0
              go_wp2
              go_roundw
              case rel => exact ⟨i + 1, true, by go_num, rfl, by omega, HO3, HPp, HG⟩
              case measure => simp [RowKit.intOf]; omega
            | false =>
              have HPt := Lib.hid (fun h => putI_ft hlt HPu.out h)
              have HPf := Lib.hid (fun h => putI_ff hlt HPu.out h)
              have hL : (wthPI (o.dls.take i) n false).length ≤ 6000 := by omega
              obtain ⟨y, hy⟩ : ∃ y, o.dls[i] = y := ⟨_, rfl⟩
              rw [hy] at c0 HPt HPf
              have HY := Lib.hid hy
              generalize wthPI (o.dls.take i) n false = L1 at *
              clear hy hLl
              by_cases hny : n < y
              · have p1 : decide (n < y) = true := decide_eq_true hny
                have HTP := HPt.out hny
                have HT := Lib.hid HTP.1
                have HPp := Lib.hid HTP.2
                clear HTP hny
                go_upto_region 23 with (at_builtin; refine wpList_append_own_at _ rfl (.tmp 72) (.tmp 74) 22 rfl w5.heap.size 3 i0 (.int .i64 0) 1 8 Tryz.underlying22 hi0 hz0 hz1 hz2 rfl (by decide) _ L1.length (cs L1) rfl (own_on HOw.out (fuwA _ _)) ⟨wr.heap.size, 0, none⟩ 1 1 [.int .i64 n] rfl rfl (World.news_of_block (heap_alloc_new wr _)) (one_i _) (by unfold maxLen; omega) (by omega) (Nat.le_trans hf.out.size (by simp)) ?_; intro v8 w6 hown5 hgrow _ _)
                have FV6 := Lib.hid (fuw_grown (hf.out.trans (fuwA _ _)) (own_on HOw.out (fuwA _ _)) hgrow)
                have HO2 := Lib.hid (show OwnI w5 w6 v8 (L1 ++ [n]) from by
                  unfold OwnI
                  rw [cs_app, List.length_append]; exact hown5)
                have hL : (L1 ++ [n]).length ≤ 6001 := by rw [List.length_append]; simp; omega
                generalize L1 ++ [n] = L at *
                clear hown5 hgrow c0 x6 p1
                obtain ⟨b', f', e', -, c0⟩ := (slI_on (F5.out.trans FV6.out) HO.out.d).get hlt
                rw [E6.out] at e'
                cases e'
                rw [Nat.mul_one, HY.out] at c0
                have x6 := (B0.out.on (F5.out.trans FV6.out)).c6
                rw [E6.out] at x6
                go_wp2_with (at_builtin; refine wpList_append_own_at _ rfl (.tmp 76) (.tmp 82) 22 rfl w5.heap.size 3 i0 (.int .i64 0) 1 8 Tryz.underlying22 hi0 hz0 hz1 hz2 rfl (by decide) _ L.length (cs L) rfl (own_on HO2.out (fuwA _ _)) ⟨w6.heap.size, 0, none⟩ 1 1 [.int .i64 y] rfl rfl (World.news_of_block (heap_alloc_new w6 _)) (one_i _) (by unfold maxLen; omega) (by omega) (Nat.le_trans FV6.out.size (by simp)) ?_; intro v9 w9 hown5 hgrow _ _)
                have HG := Lib.hid (fuw_grown (FV6.out.trans (fuwA _ _)) (own_on HO2.out (fuwA _ _)) hgrow)
                have HO3 := Lib.hid (show OwnI w5 w9 v9 (wthPI (o.dls.take (i + 1)) n true) from by
                  unfold OwnI
                  rw [HT.out, cs_app, List.length_append]; exact hown5)
                clear hown5 hgrow c0
                go_wp2
                go_roundw
                case rel => exact ⟨i + 1, true, by go_num, rfl, by omega, HO3, HPp, HG⟩
                case measure => simp [RowKit.intOf]; omega
              · have p1 : decide (n < y) = false := decide_eq_false hny
                have HTP := HPf.out hny
                have HT := Lib.hid HTP.1
                have HPp := Lib.hid HTP.2
                clear HTP hny
                go_wp2_with (at_builtin; refine wpList_append_own_at _ rfl (.tmp 76) (.tmp 82) 22 rfl w5.heap.size 3 i0 (.int .i64 0) 1 8 Tryz.underlying22 hi0 hz0 hz1 hz2 rfl (by decide) _ L1.length (cs L1) rfl (own_on HOw.out (fuwA _ _)) ⟨wr.heap.size, 0, none⟩ 1 1 [.int .i64 y] rfl rfl (World.news_of_block (heap_alloc_new wr _)) (one_i _) (by unfold maxLen; omega) (by omega) (Nat.le_trans hf.out.size (by simp)) ?_; intro v9 w9 hown5 hgrow _ _)
                have HG := Lib.hid (fuw_grown (hf.out.trans (fuwA _ _)) (own_on HOw.out (fuwA _ _)) hgrow)
                have HO3 := Lib.hid (show OwnI w5 w9 v9 (wthPI (o.dls.take (i + 1)) n false) from by
                  unfold OwnI
                  rw [HT.out, cs_app, List.length_append]; exact hown5)
                clear hown5 hgrow c0
                go_wp2
                go_roundw
                case rel => exact ⟨i + 1, false, by go_num, rfl, by omega, HO3, HPp, HG⟩
                case measure => simp [RowKit.intOf]; omega
          · have hge : ¬ (i : Int) < (o.dls.length : Int) := by omega
            have e : i = o.dls.length := by omega
            cases p with
            | true =>
              have HR := Lib.hid (show wthPI (o.dls.take i) n true = wthI o.dls n by rw [e, List.take_length]; rfl)
              have HOz := Lib.hid (show OwnI w5 wr _ (wthI o.dls n) by rw [← HR.out]; exact HOw.out)
              clear e hLl
              have F7 := FX
              have FY := hf
              have HWI := Lib.hid (show ∀ x ∈ wthI o.dls n, I64 x from fun x hx => by
                rcases List.mem_cons.1 ((wthI_perm n o.dls).mem_iff.1 hx) with e | h
                · subst e; exact HN.out
                · exact HOI64.out.d x h)
              obtain ⟨da, dk, hv7, -, hD7⟩ := slI_own HOz.out HWI.out
              subst hv7
              have BX7 := Lib.hid (BX5.out.on FY.out)
              have HYI7 := Lib.hid (HYI5.out.on FY.out)
              have HD7 := Lib.hid hD7
              have k6 := BX7.out.c6
              have t6 := BX7.out.k.f 5
              generalize wthI o.dls n = dl at *
              clear hD7 HOz
              go_upto_region 27 with fail
              obtain ⟨w8, hw8⟩ : ∃ w8, wr.setCell ⟨C, 5, none⟩ (.slice da dl.length dk) = w8 := ⟨_, rfl⟩
              have F8 := Lib.hid (show Fuw w0 w8 by rw [← hw8]; exact fuwS F7.out HCb.out)
              have BX := Lib.hid (show OB w8 C ⟨o.c, o.ads, dl⟩ ⟨Y.c, Y.a5, da, Y.k5, dk⟩ from ⟨by rw [← hw8]; exact BX7.out.k.set_ 5 _⟩)
              have HXI := Lib.hid (show OIn w8 ⟨o.c, o.ads, dl⟩ ⟨Y.c, Y.a5, da, Y.k5, dk⟩ from by
                have q := oin_far BX7.out.k (slc_ov _ _) HYI7.out 5 (.slice da dl.length dk)
                rw [hw8] at q
                have q2 := slI_far BX7.out.k (slc_ov _ _) HD7.out 5 (.slice da dl.length dk)
                rw [hw8] at q2
                exact ⟨q.c, q.a, q2⟩)
              rw [hw8]
              clear hw8 k6 t6
              have E := BR.out.on F8.out
              unfold emV at E
              have q0 := E.c 0; have q1 := E.c 1; have q2 := E.c 2; have q3 := E.c 3; have q4 := E.c 4; have q5 := E.c 5
              have t0 := E.f 0; have t1 := E.f 1; have t2 := E.f 2; have t3 := E.f 3; have t4 := E.f 4; have t5 := E.f 5
              simp only [List.getElem?_toArray, List.getElem?_cons_zero, List.getElem?_cons_succ] at q0 q1 q2 q3 q4 q5
              have s1 := BX.out.c1; have s2 := BX.out.c2; have s3 := BX.out.c3; have s4 := BX.out.c4; have s5 := BX.out.c5; have s6 := BX.out.c6
              have hs6 := set6_ok (w0 := wt) (o := emO) (A := A0) (o' := ⟨o.c, o.ads, dl⟩) (A' := ⟨Y.c, Y.a5, da, Y.k5, dk⟩) (em_bk (BR.out.on F8.out)) HRb.out (FT.out.trans F8.out)
              have hoi := hs6.2.2 ⟨o.c, o.ads, dl⟩ ⟨Y.c, Y.a5, da, Y.k5, dk⟩ HXI.out
              unfold set6 at hs6 hoi
              have HS6 := Lib.hid hs6
              have HOI := Lib.hid hoi
              clear hs6 hoi E 
              go_wp2
              refine o_ret2 rfl rfl rfl (o := ⟨o.c, o.ads, dl⟩) (A := ⟨Y.c, Y.a5, da, Y.k5, dk⟩) HS6.out.1 ?_
              rw [HZ.out]
              exact ⟨_, rfl, HOI.out, HS6.out.2.1⟩
            | false =>
              have HR := Lib.hid (show wthPI (o.dls.take i) n false ++ [n] = wthI o.dls n by
                rw [e] at HPu ⊢
                rw [putI_end HPu.out, List.take_length]; rfl)
              have hl1 : (wthPI (o.dls.take i) n false).length ≤ 6000 := by omega
              generalize wthPI (o.dls.take i) n false = L1 at *
              clear e hLl
              go_upto_region 26 with (at_builtin; refine wpList_append_own_at _ rfl (.tmp 86) (.tmp 88) 22 rfl w5.heap.size 3 i0 (.int .i64 0) 1 8 Tryz.underlying22 hi0 hz0 hz1 hz2 rfl (by decide) _ L1.length (cs L1) rfl (own_on HOw.out (fuwA _ _)) ⟨wr.heap.size, 0, none⟩ 1 1 [.int .i64 n] rfl rfl (World.news_of_block (heap_alloc_new wr _)) (one_i _) (by unfold maxLen; omega) (by omega) (Nat.le_trans hf.out.size (by simp)) ?_; intro v9 w7 hown5 hgrow _ _)
              have HG := Lib.hid (fuw_grown (hf.out.trans (fuwA _ _)) (own_on HOw.out (fuwA _ _)) hgrow)
              have HOz := Lib.hid (show OwnI w5 w7 v9 (wthI o.dls n) from by
                unfold OwnI
                rw [← HR.out, cs_app, List.length_append]; exact hown5)
              have F7 := Lib.hid (F5.out.trans HG.out)
              have FY := HG
              clear hown5 hgrow
              have HWI := Lib.hid (show ∀ x ∈ wthI o.dls n, I64 x from fun x hx => by
                rcases List.mem_cons.1 ((wthI_perm n o.dls).mem_iff.1 hx) with e | h
                · subst e; exact HN.out
                · exact HOI64.out.d x h)
              obtain ⟨da, dk, hv7, -, hD7⟩ := slI_own HOz.out HWI.out
              subst hv7
              have BX7 := Lib.hid (BX5.out.on FY.out)
              have HYI7 := Lib.hid (HYI5.out.on FY.out)
              have HD7 := Lib.hid hD7
              have k6 := BX7.out.c6
              have t6 := BX7.out.k.f 5
              generalize wthI o.dls n = dl at *
              clear hD7 HOz
              go_upto_region 27 with fail
              obtain ⟨w8, hw8⟩ : ∃ w8, w7.setCell ⟨C, 5, none⟩ (.slice da dl.length dk) = w8 := ⟨_, rfl⟩
              have F8 := Lib.hid (show Fuw w0 w8 by rw [← hw8]; exact fuwS F7.out HCb.out)
              have BX := Lib.hid (show OB w8 C ⟨o.c, o.ads, dl⟩ ⟨Y.c, Y.a5, da, Y.k5, dk⟩ from ⟨by rw [← hw8]; exact BX7.out.k.set_ 5 _⟩)
              have HXI := Lib.hid (show OIn w8 ⟨o.c, o.ads, dl⟩ ⟨Y.c, Y.a5, da, Y.k5, dk⟩ from by
                have q := oin_far BX7.out.k (slc_ov _ _) HYI7.out 5 (.slice da dl.length dk)
                rw [hw8] at q
                have q2 := slI_far BX7.out.k (slc_ov _ _) HD7.out 5 (.slice da dl.length dk)
                rw [hw8] at q2
                exact ⟨q.c, q.a, q2⟩)
              rw [hw8]
              clear hw8 k6 t6
              have E := BR.out.on F8.out
              unfold emV at E
              have q0 := E.c 0; have q1 := E.c 1; have q2 := E.c 2; have q3 := E.c 3; have q4 := E.c 4; have q5 := E.c 5
              have t0 := E.f 0; have t1 := E.f 1; have t2 := E.f 2; have t3 := E.f 3; have t4 := E.f 4; have t5 := E.f 5
              simp only [List.getElem?_toArray, List.getElem?_cons_zero, List.getElem?_cons_succ] at q0 q1 q2 q3 q4 q5
              have s1 := BX.out.c1; have s2 := BX.out.c2; have s3 := BX.out.c3; have s4 := BX.out.c4; have s5 := BX.out.c5; have s6 := BX.out.c6
              have hs6 := set6_ok (w0 := wt) (o := emO) (A := A0) (o' := ⟨o.c, o.ads, dl⟩) (A' := ⟨Y.c, Y.a5, da, Y.k5, dk⟩) (em_bk (BR.out.on F8.out)) HRb.out (FT.out.trans F8.out)
              have hoi := hs6.2.2 ⟨o.c, o.ads, dl⟩ ⟨Y.c, Y.a5, da, Y.k5, dk⟩ HXI.out
              unfold set6 at hs6 hoi
              have HS6 := Lib.hid hs6
              have HOI := Lib.hid hoi
              clear hs6 hoi E 
              go_wp2
              refine o_ret2 rfl rfl rfl (o := ⟨o.c, o.ads, dl⟩) (A := ⟨Y.c, Y.a5, da, Y.k5, dk⟩) HS6.out.1 ?_
              rw [HZ.out]
              exact ⟨_, rfl, HOI.out, HS6.out.2.1⟩
set_option maxHeartbeats 6400000 in
set_option maxRecDepth 100000 in
theorem rnew_any (c : Cm) (A : CA) (w : World) (hC : CIn w c A) (ht : Tiny ⟨c, [], []⟩) : Calls Tryz.prog 11 #[colv c A] w (RetP w (newV c)) := by
  obtain ⟨w0, hw0⟩ : ∃ w0, w.alloc (.cells (colC c A) 24) = w0 := ⟨_, rfl⟩
  obtain ⟨w1, hw1⟩ : ∃ w1, w0.alloc (.cells #[.slice none 0 0, .slice none 0 0, .slice none 0 0, .slice none 0 0, .slice none 0 0, .slice none 0 0] 27) = w1 := ⟨_, rfl⟩
  have F0 := Lib.hid (show Fuw w w0 by rw [← hw0]; exact fuwA _ _)
  have F1 := Lib.hid (show Fuw w0 w1 by rw [← hw1]; exact fuwA _ _)
  have B0 := Lib.hid (show Bk w0 w.heap.size (colC c A) 24 by rw [← hw0]; exact Bk.new _ _ _)
  have B1 := Lib.hid (show Bk w1 w0.heap.size emV 27 by rw [← hw1]; exact Bk.new _ _ _)
  have HC := Lib.hid (hC.on (F0.out.trans F1.out))
  have HV := Lib.hid (rvalid12_any c A w1 HC.out ht.sm.c)
  have HCl := Lib.hid (fun w' (hf : Fuw w1 w') => rcopied_any ⟨c, [], []⟩ ⟨A, none, none, 0, 0⟩ w' ⟨HC.out.on hf, Sl.empty _, Sl.empty _⟩ ht)
  obtain ⟨R, hR⟩ : ∃ R, R = newV c := ⟨_, rfl⟩
  have HR := Lib.hid (show R = if valC c = true then (⟨c, [], []⟩, 0) else (emO, 1) from hR)
  rw [← hR]
  have d1 := cellOnw F1.out (B0.out.c 0); have d2 := cellOnw F1.out (B0.out.c 1); have d3 := cellOnw F1.out (B0.out.c 2); have d4 := cellOnw F1.out (B0.out.c 3)
  unfold colv at HV ⊢
  unfold colC at hw0 HV ⊢
  unfold RetCp ovv ovC at HCl
  unfold RetP
  simp only [List.length_nil] at HCl
  clear hC hR
  generalize valC c = q at *
  go_enter Tryz.func11, Tryz.ntmps11
  go_upto_region 1 with fail
  clear hw0 hw1
  go_wp2_with fail
  go_at_call 33; refine HV.out.mono ?_; rintro e1 w2 ⟨rfl, f1⟩
  have D1 := Lib.hid d1; have D2 := Lib.hid d2; have D3 := Lib.hid d3; have D4 := Lib.hid d4
  have G1 := Lib.hid f1
  replace d1 := cellOnw G1.out D1.out; replace d2 := cellOnw G1.out D2.out; replace d3 := cellOnw G1.out D3.out; replace d4 := cellOnw G1.out D4.out
  clear f1
  cases q with
  | false =>
    have HZ := Lib.hid (show R = (emO, 1) by rw [HR.out]; rfl)
    have E := B1.out.on G1.out
    unfold emV at E
    have q0 := E.c 0; have q1 := E.c 1; have q2 := E.c 2; have q3 := E.c 3; have q4 := E.c 4; have q5 := E.c 5
    have t0 := E.f 0; have t1 := E.f 1; have t2 := E.f 2; have t3 := E.f 3; have t4 := E.f 4; have t5 := E.f 5
    simp only [List.getElem?_toArray, List.getElem?_cons_zero, List.getElem?_cons_succ] at q0 q1 q2 q3 q4 q5
    have HE := Lib.hid E
    clear E d1 d2 d3 d4
    go_wp2
    refine o_ret2 rfl rfl rfl (o := emO) (A := A0) ⟨(((((HE.out.set_ 0 (.slice none 0 0)).set_ 1 (.slice none 0 0)).set_ 2 (.slice none 0 0)).set_ 3 (.slice none 0 0)).set_ 4 (.slice none 0 0)).set_ 5 (.slice none 0 0)⟩ ?_
    rw [HZ.out]
    have hb := F0.out.size
    exact ⟨A0, rfl, em_in _, fuwS (fuwS (fuwS (fuwS (fuwS (fuwS (F0.out.trans (F1.out.trans G1.out)) hb) hb) hb) hb) hb) hb⟩
  | true =>
    have HZ := Lib.hid (show R = (⟨c, [], []⟩, 0) by rw [HR.out]; rfl)
    go_wp2_with fail
    go_at_call 34; refine (HCl.out _ G1.out).mono ?_; rintro e2 w3 ⟨Y, rfl, hyi, f3⟩
    have G3 := Lib.hid f3
    have HYI := Lib.hid hyi
    have E := (B1.out.on G1.out).on G3.out
    have HE := Lib.hid E
    unfold emV at E
    have q0 := E.c 0; have q1 := E.c 1; have q2 := E.c 2; have q3 := E.c 3; have q4 := E.c 4; have q5 := E.c 5
    have t0 := E.f 0; have t1 := E.f 1; have t2 := E.f 2; have t3 := E.f 3; have t4 := E.f 4; have t5 := E.f 5
    simp only [List.getElem?_toArray, List.getElem?_cons_zero, List.getElem?_cons_succ] at q0 q1 q2 q3 q4 q5
    have hs6 := set6_ok (w0 := w) (o := emO) (A := A0) (o' := ⟨c, [], []⟩) (A' := Y) (em_bk HE.out) F0.out.size (F0.out.trans (F1.out.trans (G1.out.trans G3.out)))
    have hoi := hs6.2.2 ⟨c, [], []⟩ Y HYI.out
    unfold set6 at hs6 hoi
    simp only [List.length_nil] at hs6 hoi
    have HS6 := Lib.hid hs6
    have HOI := Lib.hid hoi
    clear E d1 d2 d3 d4 f3 hyi hs6 hoi
    go_wp2
    refine o_ret2 rfl rfl rfl (o := ⟨c, [], []⟩) (A := Y) HS6.out.1 ?_
    rw [HZ.out]
    exact ⟨_, rfl, HOI.out, HS6.out.2.1⟩
end Go.Proofs.YtpjikijfendmhaaGreat
