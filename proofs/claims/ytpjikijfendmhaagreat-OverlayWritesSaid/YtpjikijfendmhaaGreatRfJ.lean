/-
  The reference of overlays: a copy of an overlay in rows of the call's own. Nothing that was there turns.
-/
import Derived.Test.YtpjikijfendmhaaGreatRfI
import Derived.Test.YtpjikijfendmhaaGreatCoP
import Derived.Test.YtpjikijfendmhaaGreatDagX
namespace Go.Proofs.YtpjikijfendmhaaGreat
open Go.RowKit

section
variable {P : Program} {ops : Array Oper} {Q : Exit → Act → World → Prop} (w : World)
theorem run_append_empty (base : Nat) (t ty e : TypeId) (i : TypeInfo) (z : Value) (size bytes : Nat) (ht : P.underlying t = some (.slice e)) (hi : P.info? e = some i) (hz : i.zero = some z)
    (hsize : i.size = size) (hby : i.bytes = bytes) (hzs : z.cells.size = size) (hsz : 0 < size)
    (g : Nat) (hg : w.heap[g]? = some (.cells #[] e (0, 0))) (hbg : base ≤ g)
    (a : Addr) (m c : Nat) (news : List Value) (hl : news.length = m * size) (hnews : ∀ j u, news[j]? = some u → w.cell? (a.add j) = some u) (h1 : ∀ u ∈ news, u.oneCell' = true)
    (h63 : m ≤ maxLen) (hbytes : m * bytes ≤ 140737488355328) (hbase : base ≤ w.heap.size) :
    ∃ v' w', (Builtin.append_ #[t, t] ty #[.slice (some ⟨g, 0, none⟩) 0 0, .slice (some a) m c]).run P w = .ok v' w' ∧ w'.ownsRow base e size v' m news ∧ Fuw w w' := by
  have hown : w.ownsRow base e size (.slice (some ⟨g, 0, none⟩) 0 0) 0 [] := ⟨by simp, .inr ⟨g, 0, #[], rfl, hbg, hg, Nat.le_refl _, Nat.zero_le _, by simp, by simp⟩⟩
  obtain ⟨v', w', hr, h2, h3, _, h5⟩ := run_append_own_at (P := P) w base t ty e i z size bytes ht hi hz hsize hby hzs hsz (.slice (some ⟨g, 0, none⟩) 0 0) 0 [] hown a m c news hl hnews h1 (by omega) (by rw [Nat.zero_add]; exact hbytes) hbase
  rw [Nat.zero_add, List.nil_append] at h2
  refine ⟨v', w', hr, h2, ?_⟩
  subst hsize
  have hglt : g < w.heap.size := by
    rcases Nat.lt_or_ge g w.heap.size with q | q
    · exact q
    · rw [Array.getElem?_eq_none q] at hg; cases hg
  -- the row g is empty: it holds what it held
  have hgg : w'.heap[g]? = w.heap[g]? := by
    rcases Nat.eq_zero_or_pos m with hm | hm
    · subst hm
      have hn : news = [] := List.eq_nil_of_length_eq_zero (by simpa using hl)
      subst hn
      have hr2 := run_append_room (P := P) w t ty e i ht hi g 0 0 #[] hg a 0 c [] (by simp) (by simp) (by simp) (by simp) (by simp)
      rw [hr] at hr2
      injection hr2 with _ e2
      rw [e2, setRow_heap w g #[] _ e _ hg, hg]
      simp
    · have hr2 := run_append_grow (P := P) w t ty e i z ht hi hz ⟨g, 0, none⟩ 0 0 [] (by simp) (by simp) a m c news hl hnews (by omega) (by simp only [maxLen] at h63; omega) (growslice_fits (by omega) (by rw [Nat.zero_add, hby]; exact hbytes))
      rw [hr] at hr2
      injection hr2 with _ e2
      rw [e2]
      exact heap_alloc_old w.drew _ hglt
  exact ⟨h3.os, h3.tape, h3.output, h3.size, fun b hb => by
    by_cases hbg : b = g
    · rw [hbg]; exact hgg
    · exact h3.block b hb (by intro q; injection q with q; exact hbg q)⟩
theorem wpOp_append_empty {i : Nat} {op : Oper} {a : Act} {K : Act → World → Prop} (hoi : ops[i]? = some op) (hgd : op.guard = none) (s x : Operand) (t : TypeId)
    (ho : op.op = .call { callee := .builtin .append, args := #[s, x], argTypes := #[t, t] })
    (base : Nat) (e : TypeId) (i0 : TypeInfo) (z : Value) (size bytes : Nat) (ht : P.underlying t = some (.slice e)) (hi : P.info? e = some i0) (hz : i0.zero = some z)
    (hsize : i0.size = size) (hby : i0.bytes = bytes) (hzs : z.cells.size = size) (hsz : 0 < size)
    (g : Nat) (hs : a.eval s = .slice (some ⟨g, 0, none⟩) 0 0) (hg : w.heap[g]? = some (.cells #[] e (0, 0))) (hbg : base ≤ g)
    (ad : Addr) (m c : Nat) (news : List Value) (hx : a.eval x = .slice (some ad) m c) (hl : news.length = m * size) (hnews : ∀ j u, news[j]? = some u → w.cell? (ad.add j) = some u) (h1 : ∀ u ∈ news, u.oneCell' = true)
    (h63 : m ≤ maxLen) (hbytes : m * bytes ≤ 140737488355328) (hbase : base ≤ w.heap.size)
    (h : ∀ v' w', w'.ownsRow base e size v' m news → Fuw w w' → K (a.put op.dst v') w') : wpOp P ops Q i K a w := by
  obtain ⟨v', w', hr, h2, h3⟩ := run_append_empty (P := P) w base t op.type e i0 z size bytes ht hi hz hsize hby hzs hsz g hg hbg ad m c news hl hnews h1 h63 hbytes hbase
  refine wpOp_step hoi fun K' hK' => ?_
  have hw : Region.wanted op (yielded ops a.tmps) = true := by simp [Region.wanted, hgd]
  rw [if_pos hw]
  unfold Oper.wp execOp
  simp only [ho, resolve, invoke, builtin, Sem.run_bind, Sem.run_pure, Result.andThen_ok, List.map_toArray, List.map_cons, List.map_nil, hs, hx, hr]
  exact hK' _ _ (h v' w' h2 h3)
end

/-- What a call owns of a column. -/
def OwnC (base : Nat) (c : Cm) (X : CA) (w : World) : Prop := w.ownsRow base 3 1 (.slice X.a1 c.ns.length X.k1) c.ns.length (cs c.ns) ∧ w.ownsRow base 3 1 (.slice X.a2 c.fs.length X.k2) c.fs.length (cs c.fs) ∧ w.ownsRow base 3 1 (.slice X.a3 c.ts.length X.k3) c.ts.length (cs c.ts) ∧ w.ownsRow base 3 1 (.slice X.a4 c.es.length X.k4) c.es.length (cs c.es)
theorem OwnC.on {base : Nat} {c : Cm} {X : CA} {w w' : World} (h : OwnC base c X w) (hf : Fuw w w') : OwnC base c X w' := ⟨own_on h.1 hf, own_on h.2.1 hf, own_on h.2.2.1 hf, own_on h.2.2.2 hf⟩
theorem OwnC.far {base : Nat} {c : Cm} {X : CA} {w : World} {B : Nat} {xs : Array Value} {t : TypeId} (h : OwnC base c X w) (hb : Bk w B xs t) (ht : t ≠ 3) (j : Nat) (u : Value) : OwnC base c X (w.setCell ⟨B, j, none⟩ u) :=
  ⟨ownsRow_setCell_other h.1 (own_ne h.1 hb ht) _, ownsRow_setCell_other h.2.1 (own_ne h.2.1 hb ht) _, ownsRow_setCell_other h.2.2.1 (own_ne h.2.2.1 hb ht) _, ownsRow_setCell_other h.2.2.2 (own_ne h.2.2.2 hb ht) _⟩
theorem OwnC.cin {base : Nat} {c : Cm} {X : CA} {w : World} (h : OwnC base c X w) (hn : ∀ x ∈ c.ns, I64 x) (hf : ∀ x ∈ c.fs, I64 x) (ht : ∀ x ∈ c.ts, I64 x) (he : ∀ x ∈ c.es, I64 x) : CIn w c X := by
  obtain ⟨h1, h2, h3, h4⟩ := h
  obtain ⟨a1, k1, e1, -, s1⟩ := slI_own h1 hn
  obtain ⟨a2, k2, e2, -, s2⟩ := slI_own h2 hf
  obtain ⟨a3, k3, e3, -, s3⟩ := slI_own h3 ht
  obtain ⟨a4, k4, e4, -, s4⟩ := slI_own h4 he
  cases e1; cases e2; cases e3; cases e4
  exact ⟨s1, s2, s3, s4⟩
/-- Where a slice's cells lie, for append: nowhere, or somewhere. -/
def Src (w0 : World) (a : Option Addr) (n k : Nat) (xs : List Value) : Prop := (a = none ∧ n = 0 ∧ k = 0 ∧ xs = []) ∨ ∃ ad, a = some ad ∧ ∀ j u, xs[j]? = some u → w0.cell? (ad.add j) = some u
theorem srcI {w : World} {a : Option Addr} {l : List Int} {k : Nat} (h : SlI w a l k) : Src w a l.length k (cs l) := by
  cases a with
  | none =>
    have h1 := h.nil rfl
    have h2 := h.le
    have e : l = [] := List.length_eq_zero_iff.1 (by omega)
    subst e
    exact .inl ⟨rfl, rfl, h1, rfl⟩
  | some ad =>
    refine .inr ⟨ad, rfl, fun j u hu => ?_⟩
    have hj : j < l.length := by
      have := (List.getElem?_eq_some_iff.1 hu).1
      rwa [cs_len] at this
    obtain ⟨b, o, e, -, hc⟩ := h.get hj
    cases e
    rw [Nat.mul_one] at hc
    rw [Addr.add_lit, hc, ← hu, cs_get hj]
theorem srcJ {w : World} {a : Option Addr} {l : List Aj} {k : Nat} (h : SlJ w a l k) : Src w a l.length k (aC l) := by
  cases a with
  | none =>
    have h1 := h.nil rfl
    have h2 := h.le
    have e : l = [] := List.length_eq_zero_iff.1 (by omega)
    subst e
    exact .inl ⟨rfl, rfl, h1, rfl⟩
  | some ad =>
    refine .inr ⟨ad, rfl, fun j u hu => ?_⟩
    have hj : j < l.length * 3 := by
      have := (List.getElem?_eq_some_iff.1 hu).1
      rwa [aC_len] at this
    obtain ⟨b, o, e, -⟩ := h.at_ (by omega)
    cases e
    exact slJ_news h j u hu
def CpU (B base : Nat) (o : Ov) (A : OA) : Nat → World → Value → Prop
  | 1, w, v => ∃ g, v = .slice (some ⟨g, 0, none⟩) 0 0 ∧ w.heap[g]? = some (.cells #[] 3 (0, 0)) ∧ base ≤ g
  | 2, _, v => v = .pointer (some ⟨B, 0, none⟩)
  | 3, _, v => v = .pointer (some ⟨B, 1, none⟩)
  | 4, _, v => v = .pointer (some ⟨B, 2, none⟩)
  | 5, _, v => v = .pointer (some ⟨B, 3, none⟩)
  | 6, _, v => v = .slice A.c.a1 o.c.ns.length A.c.k1
  | 7, _, v => v = .slice A.c.a2 o.c.fs.length A.c.k2
  | 8, _, v => v = .slice A.c.a3 o.c.ts.length A.c.k3
  | 9, _, v => v = .slice A.c.a4 o.c.es.length A.c.k4
  | 10, w, v => ∃ a k, v = .slice a o.c.ns.length k ∧ w.ownsRow base 3 1 (.slice a o.c.ns.length k) o.c.ns.length (cs o.c.ns)
  | 11, w, v => ∃ a k, v = .slice a o.c.fs.length k ∧ w.ownsRow base 3 1 (.slice a o.c.fs.length k) o.c.fs.length (cs o.c.fs)
  | 12, w, v => ∃ a k, v = .slice a o.c.ts.length k ∧ w.ownsRow base 3 1 (.slice a o.c.ts.length k) o.c.ts.length (cs o.c.ts)
  | 13, w, v => ∃ a k, v = .slice a o.c.es.length k ∧ w.ownsRow base 3 1 (.slice a o.c.es.length k) o.c.es.length (cs o.c.es)
  | 14, w, v => ∃ X : CA, v = .agg #[.slice X.a1 o.c.ns.length X.k1, .slice X.a2 o.c.fs.length X.k2, .slice X.a3 o.c.ts.length X.k3, .slice X.a4 o.c.es.length X.k4] ∧ OwnC base o.c X w
  | 15, w, v => ∃ C, v = .pointer (some ⟨C, 0, none⟩) ∧ Bk w C #[.slice none 0 0, .slice none 0 0, .slice none 0 0, .slice none 0 0] 24 ∧ base ≤ C
  | 16, w, v => ∃ C X, v = .pointer (some ⟨C, 0, none⟩) ∧ Bk w C (colC o.c X) 24 ∧ OwnC base o.c X w ∧ base ≤ C
  | _, _, _ => True
def kCpF : List Nat := [0, 0, 0, 15, 1, 2, 2, 6, 10, 1, 2, 3, 7, 11, 1, 2, 4, 8, 12, 1, 2, 5, 9, 13, 14, 0, 0, 0, 0, 0, 0, 0, 0, 0, 0]
def kCp (b : Bool) (t : Nat) : Nat := match b with | true => if t = 3 then 16 else 0 | false => kCpF.getD t 0
theorem kT0 {t : Nat} (h : t ≠ 3) : kCp true t = 0 := if_neg h
theorem heap_on {w w' : World} (hf : Fuw w w') {g : Nat} {o : Obj} (h : w.heap[g]? = some o) : w'.heap[g]? = some o := by
  rw [Below.block hf g (Array.getElem?_eq_some_iff.1 h).1]; exact h
theorem cpu_on {B base : Nat} {o : Ov} {A : OA} {w w' : World} (hf : Fuw w w') :
    ∀ (k : Nat) (u : Value), CpU B base o A k w u → CpU B base o A k w' u := by
  intro k u h
  match k, h with
  | 0, h => exact h
  | 1, ⟨g, h1, h2, h3⟩ => exact ⟨g, h1, heap_on hf h2, h3⟩
  | 2, h => exact h
  | 3, h => exact h
  | 4, h => exact h
  | 5, h => exact h
  | 6, h => exact h
  | 7, h => exact h
  | 8, h => exact h
  | 9, h => exact h
  | 10, ⟨a, k, h1, h2⟩ => exact ⟨a, k, h1, own_on h2 hf⟩
  | 11, ⟨a, k, h1, h2⟩ => exact ⟨a, k, h1, own_on h2 hf⟩
  | 12, ⟨a, k, h1, h2⟩ => exact ⟨a, k, h1, own_on h2 hf⟩
  | 13, ⟨a, k, h1, h2⟩ => exact ⟨a, k, h1, own_on h2 hf⟩
  | 14, ⟨X, h1, h2⟩ => exact ⟨X, h1, h2.on hf⟩
  | 15, ⟨C, h1, h2, h3⟩ => exact ⟨C, h1, h2.on hf, h3⟩
  | 16, ⟨C, X, h1, h2, h3, h4⟩ => exact ⟨C, X, h1, h2.on hf, h3.on hf, h4⟩
  | _ + 17, h => exact h
theorem frameD35 (x : Nat → Value) : frameD 35 x = ⟨#[x 0, x 1, x 2, x 3, x 4, x 5, x 6, x 7, x 8, x 9, x 10, x 11, x 12, x 13, x 14, x 15, x 16, x 17, x 18, x 19, x 20, x 21, x 22, x 23, x 24, x 25, x 26, x 27, x 28, x 29, x 30, x 31, x 32, x 33, x 34], []⟩ := rfl
def CqU (B base : Nat) (o : Ov) (A : OA) (X : CA) : Nat → World → Value → Prop
  | 1, _, v => v = .agg #[.slice X.a1 o.c.ns.length X.k1, .slice X.a2 o.c.fs.length X.k2, .slice X.a3 o.c.ts.length X.k3, .slice X.a4 o.c.es.length X.k4]
  | 2, w, v => ∃ g, v = .slice (some ⟨g, 0, none⟩) 0 0 ∧ w.heap[g]? = some (.cells #[] 42 (0, 0)) ∧ base ≤ g
  | 3, _, v => v = .pointer (some ⟨B, 4, none⟩)
  | 4, _, v => v = .slice A.a5 o.ads.length A.k5
  | 5, w, v => ∃ a k, v = .slice a o.ads.length k ∧ w.ownsRow base 42 3 (.slice a o.ads.length k) o.ads.length (aC o.ads)
  | 6, w, v => ∃ g, v = .slice (some ⟨g, 0, none⟩) 0 0 ∧ w.heap[g]? = some (.cells #[] 3 (0, 0)) ∧ base ≤ g
  | 7, _, v => v = .pointer (some ⟨B, 5, none⟩)
  | 8, _, v => v = .slice A.a6 o.dls.length A.k6
  | 9, w, v => ∃ a k, v = .slice a o.dls.length k ∧ w.ownsRow base 3 1 (.slice a o.dls.length k) o.dls.length (cs o.dls)
  | 10, w, v => ∃ a k b m, v = .agg #[.slice X.a1 o.c.ns.length X.k1, .slice X.a2 o.c.fs.length X.k2, .slice X.a3 o.c.ts.length X.k3, .slice X.a4 o.c.es.length X.k4, .slice a o.ads.length k, .slice b o.dls.length m] ∧ w.ownsRow base 42 3 (.slice a o.ads.length k) o.ads.length (aC o.ads) ∧ w.ownsRow base 3 1 (.slice b o.dls.length m) o.dls.length (cs o.dls)
  | _, _, _ => True
def kCqF : List Nat := [0, 0, 0, 0, 0, 0, 0, 0, 0, 0, 0, 0, 0, 0, 0, 0, 0, 0, 0, 0, 0, 0, 0, 0, 0, 1, 2, 3, 4, 5, 6, 7, 8, 9, 10]
def kCq (b : Bool) (t : Nat) : Nat := match b with | true => 0 | false => kCqF.getD t 0
theorem cqu_on {B base : Nat} {o : Ov} {A : OA} {X : CA} {w w' : World} (hf : Fuw w w') :
    ∀ (k : Nat) (u : Value), CqU B base o A X k w u → CqU B base o A X k w' u := by
  intro k u h
  match k, h with
  | 0, h => exact h
  | 1, h => exact h
  | 2, ⟨g, h1, h2, h3⟩ => exact ⟨g, h1, heap_on hf h2, h3⟩
  | 3, h => exact h
  | 4, h => exact h
  | 5, ⟨a, k, h1, h2⟩ => exact ⟨a, k, h1, own_on h2 hf⟩
  | 6, ⟨g, h1, h2, h3⟩ => exact ⟨g, h1, heap_on hf h2, h3⟩
  | 7, h => exact h
  | 8, h => exact h
  | 9, ⟨a, k, h1, h2⟩ => exact ⟨a, k, h1, own_on h2 hf⟩
  | 10, ⟨a, k, b, m, h1, h2, h3⟩ => exact ⟨a, k, b, m, h1, own_on h2 hf, own_on h3 hf⟩
  | _ + 11, h => exact h
def SqS (wt w1 : World) (B2 : Nat) (o : Ov) (b : Bool) (w : World) : Prop := match b with | true => (∃ Y, OB w B2 o Y ∧ OIn w o Y) ∧ Fuw wt w | false => Fuw w1 w
def RetCp (w : World) (o : Ov) (e : Ending) (w' : World) : Prop := ∃ A, e = .returned (ovv o A) ∧ OIn w' o A ∧ Fuw w w'
set_option maxHeartbeats 25600000 in
set_option maxRecDepth 100000 in
theorem rcopied_any (o : Ov) (A : OA) (wt : World) (hO : OIn wt o A) (ht : Tiny o) : Calls Tryz.prog 34 #[ovv o A] wt (RetCp wt o) := by
  obtain ⟨wa, hwa⟩ : ∃ wa, wt.alloc (.cells (ovC o A) 27) = wa := ⟨_, rfl⟩
  obtain ⟨w0, hw0⟩ : ∃ w0, wa.alloc (.cells #[.slice none 0 0, .slice none 0 0, .slice none 0 0, .slice none 0 0, .slice none 0 0, .slice none 0 0] 27) = w0 := ⟨_, rfl⟩
  have Fa := Lib.hid (show Fuw wt wa by rw [← hwa]; exact fuwA _ _)
  have Fb := Lib.hid (show Fuw wa w0 by rw [← hw0]; exact fuwA _ _)
  have FT0 := Lib.hid (Fa.out.trans Fb.out)
  obtain ⟨B1, hB1⟩ : ∃ B1, B1 = wt.heap.size := ⟨_, rfl⟩
  obtain ⟨B2, hB2e⟩ : ∃ B2, B2 = wa.heap.size := ⟨_, rfl⟩
  have B0 := Lib.hid (show OB w0 B1 o A from (show OB wa B1 o A from ⟨by rw [hB1, ← hwa]; exact Bk.new _ _ _⟩).on Fb.out)
  have BR0 := Lib.hid (show Bk w0 B2 emV 27 by rw [hB2e, ← hw0]; exact Bk.new _ _ _)
  have hB2 := Lib.hid (show wt.heap.size ≤ B2 by rw [hB2e]; exact Fa.out.size)
  have HO := Lib.hid (hO.on FT0.out)
  have HI := Lib.hid hO.i64
  have HL := Lib.hid ht
  have H1 := Lib.hid (srcI HO.out.c.n)
  have H2 := Lib.hid (srcI HO.out.c.f)
  have H3 := Lib.hid (srcI HO.out.c.t)
  have H4 := Lib.hid (srcI HO.out.c.e)
  have tyC : 24 ≠ 3 := by decide
  obtain ⟨i0, hi0, hz0, hz1, hz2⟩ := info_parts infoI
  obtain ⟨j0, hj0, hy0, hy1, hy2⟩ := info_parts infoJ
  unfold ovv
  unfold ovC at hwa ⊢
  clear hO ht
  go_enter Tryz.func34, Tryz.ntmps34
  go_upto_region 1 with fail
  rw [← hB1, ← hB2e]
  clear hwa hw0 hB1 hB2e
  refine region_midB (N := 35) (S := fun _ w => Fuw w0 w) (U := fun σ t => CpU B1 w0.heap.size o A (kCp (σ 22) t)) (V := fun _ _ => True) (by kernel_rfl) (by kernel_rfl) (by kernel_rfl) ?base (fun H1 => uptoD_succ (n := 22) (uptoD_succ (n := 21) (uptoD_succ (n := 20) (uptoD_succ (n := 19) (uptoD_succ (n := 18) (uptoD_succ (n := 17) (uptoD_succ (n := 16) (uptoD_succ (n := 15) (uptoD_succ (n := 14) (uptoD_succ (n := 13) (uptoD_succ (n := 12) (uptoD_succ (n := 11) (uptoD_succ (n := 10) (uptoD_succ (n := 9) (uptoD_succ (n := 8) (uptoD_succ (n := 7) (uptoD_succ (n := 6) (uptoD_succ (n := 5) (uptoD_succ (n := 4) (uptoD_succ (n := 3) (uptoD_succ (n := 2) (uptoD_succ (n := 1) (uptoD_succ (n := 0) (uptoD_nil) ?s0) ?s1) ?s2) ?s3) ?s4) ?s5) ?s6) ?s7) ?s8) ?s9) ?s10) ?s11) ?s12) ?s13) ?s14) ?s15) ?s16) ?s17) ?s18) ?s19) ?s20) ?s21) ?s22) ?fin
  case s0 =>
    refine stepB_of [22] [] [] [] H1 rfl rfl (by kernel_rfl) (by kernel_rfl) (by kernel_rfl) (by kernel_rfl) ?_
    intro σ hp hq x w5 hS hU hV hA Lv hLv K hK
    have m22 : σ 22 = false := hp 22 (by simp)
    simp only [m22, upB_ne (show (0 : Nat) ≠ 22 by decide)] at hS hU hK
    clear hp hq m22
    clear hU hV hA H1 hLv
    rw [frameD35] at hK ⊢
    refine wpOp_step rfl (fun K' hK' => ?_)
    have hS2 : Fuw w0 w5 := hS
    have hsz := hS2.size
    go_simp
    exact hK' _ _ (hK _ _ (show Fuw w0 _ from (show Fuw w0 w5 from hS).alloc _) (fun _ _ _ h => cpu_on (fuwA _ _) _ _ h) (fun e he => by cases he; exact ⟨_, rfl, Bk.new _ _ _, hsz⟩))
  case s1 =>
    refine stepB_of [22] [] [] [] H1 rfl rfl (by kernel_rfl) (by kernel_rfl) (by kernel_rfl) (by kernel_rfl) ?_
    intro σ hp hq x w5 hS hU hV hA Lv hLv K hK
    have m22 : σ 22 = false := hp 22 (by simp)
    simp only [m22, upB_ne (show (1 : Nat) ≠ 22 by decide)] at hS hU hK
    clear hp hq m22
    have u1 : x 1 = .pointer (some ⟨B1, 0, none⟩) := hA 1 (by kernel_rfl)
    clear hU hV hA H1 hLv
    rw [frameD35] at hK ⊢
    simp only [u1] at hK ⊢
    refine wpOp_step rfl (fun K' hK' => ?_)
    go_simp
    exact hK' _ _ (hK _ _ hS (fun _ _ _ h => h) (fun e he => by cases he; exact rfl))
  case s2 =>
    refine stepB_of [22] [] [5] [] H1 rfl rfl (by kernel_rfl) (by kernel_rfl) (by kernel_rfl) (by kernel_rfl) ?_
    intro σ hp hq x w5 hS hU hV hA Lv hLv K hK
    have m22 : σ 22 = false := hp 22 (by simp)
    simp only [m22, upB_ne (show (2 : Nat) ≠ 22 by decide)] at hS hU hK
    clear hp hq m22
    have u5 : x 5 = .pointer (some ⟨B1, 0, none⟩) := hU 5 (by simp)
    clear hU hV hA H1 hLv
    rw [frameD35] at hK ⊢
    simp only [u5] at hK ⊢
    refine wpOp_step rfl (fun K' hK' => ?_)
    go_simp
    exact hK' _ _ (hK _ _ hS (fun _ _ _ h => h) (fun e he => by cases he; exact rfl))
  case s3 =>
    refine stepB_of [22] [] [6] [] H1 rfl rfl (by kernel_rfl) (by kernel_rfl) (by kernel_rfl) (by kernel_rfl) ?_
    intro σ hp hq x w5 hS hU hV hA Lv hLv K hK
    have m22 : σ 22 = false := hp 22 (by simp)
    simp only [m22, upB_ne (show (3 : Nat) ≠ 22 by decide)] at hS hU hK
    clear hp hq m22
    have u6 : x 6 = .pointer (some ⟨B1, 0, none⟩) := hU 6 (by simp)
    clear hU hV hA H1 hLv
    rw [frameD35] at hK ⊢
    simp only [u6] at hK ⊢
    refine wpOp_step rfl (fun K' hK' => ?_)
    have hS2 : Fuw w0 w5 := hS
    have h0 := B0.out.on hS2
    have q1 := h0.c1
    go_simp
    exact hK' _ _ (hK _ _ hS (fun _ _ _ h => h) (fun e he => by cases he; exact rfl))
  case s4 =>
    refine stepB_of [22] [] [4, 7] [] H1 rfl rfl (by kernel_rfl) (by kernel_rfl) (by kernel_rfl) (by kernel_rfl) ?_
    intro σ hp hq x w5 hS hU hV hA Lv hLv K hK
    have m22 : σ 22 = false := hp 22 (by simp)
    simp only [m22, upB_ne (show (4 : Nat) ≠ 22 by decide)] at hS hU hK
    clear hp hq m22
    obtain ⟨g4, u4, hg, hgb⟩ : ∃ g, x 4 = .slice (some ⟨g, 0, none⟩) 0 0 ∧ w5.heap[g]? = some (.cells #[] 3 (0, 0)) ∧ w0.heap.size ≤ g := hU 4 (by simp)
    have u7 : x 7 = .slice A.c.a1 o.c.ns.length A.c.k1 := hU 7 (by simp)
    clear hU hV hA H1
    rw [frameD35] at hK ⊢
    simp only [u4, u7] at hK ⊢
    have hS2 : Fuw w0 w5 := hS
    have hst2 := hS2.size
    rcases H1.out with ⟨e1, e2, e3, e4⟩ | ⟨ad, e1, hn⟩
    · have e5 : o.c.ns = [] := List.length_eq_zero_iff.1 e2
      refine wpOp_append_none w5 rfl rfl (.tmp 4) (.tmp 7) 22 rfl w0.heap.size 3 i0 1 Tryz.underlying22 hi0 (.slice (some ⟨g4, 0, none⟩) 0 0) 0 [] rfl ⟨by simp, .inr ⟨g4, 0, #[], rfl, hgb, hg, Nat.le_refl _, Nat.zero_le _, by simp, by simp⟩⟩ (by show Value.slice A.c.a1 o.c.ns.length A.c.k1 = _; rw [e1, e2, e3]) ?_
      exact hK _ _ hS (fun _ _ _ h => h) (fun e he => by cases he; exact ⟨some ⟨g4, 0, none⟩, 0, by rw [e5]; rfl, by rw [e5]; exact ⟨by simp [cs], .inr ⟨g4, 0, #[], rfl, hgb, hg, Nat.le_refl _, Nat.zero_le _, by simp, by simp [cs]⟩⟩⟩)
    · refine wpOp_append_empty w5 rfl rfl (.tmp 4) (.tmp 7) 22 rfl w0.heap.size 3 i0 (.int .i64 0) 1 8 Tryz.underlying22 hi0 hz0 hz1 hz2 rfl (by decide) g4 rfl hg hgb ad o.c.ns.length A.c.k1 (cs o.c.ns) (by show Value.slice A.c.a1 o.c.ns.length A.c.k1 = _; rw [e1]) (by rw [cs_len, Nat.mul_one]) (fun j u hu => cellOnw hS2 (hn j u hu)) (cs_one _) (by have := HL.out.n; unfold maxLen; omega) (by have := HL.out.n; omega) hst2 ?_
      intro v6 w6 ho6 f6
      obtain ⟨a6, k6, e6⟩ := own_form ho6
      subst e6
      exact hK _ w6 (show Fuw w0 w6 from hS2.trans f6) (fun _ _ _ h => cpu_on f6 _ _ h) (fun e he => by cases he; exact ⟨a6, k6, rfl, ho6⟩)
  case s5 =>
    refine stepB_of [22] [] [] [] H1 rfl rfl (by kernel_rfl) (by kernel_rfl) (by kernel_rfl) (by kernel_rfl) ?_
    intro σ hp hq x w5 hS hU hV hA Lv hLv K hK
    have m22 : σ 22 = false := hp 22 (by simp)
    simp only [m22, upB_ne (show (5 : Nat) ≠ 22 by decide)] at hS hU hK
    clear hp hq m22
    clear hU hV hA H1 hLv
    rw [frameD35] at hK ⊢
    refine wpOp_step rfl (fun K' hK' => ?_)
    have hS2 : Fuw w0 w5 := hS
    have hsz := hS2.size
    go_simp
    exact hK' _ _ (hK _ _ (show Fuw w0 _ from (show Fuw w0 w5 from hS).alloc _) (fun _ _ _ h => cpu_on (fuwA _ _) _ _ h) (fun e he => by cases he; exact ⟨_, rfl, Bk.new _ _ _, hsz⟩))
  case s6 =>
    refine stepB_of [22] [] [] [] H1 rfl rfl (by kernel_rfl) (by kernel_rfl) (by kernel_rfl) (by kernel_rfl) ?_
    intro σ hp hq x w5 hS hU hV hA Lv hLv K hK
    have m22 : σ 22 = false := hp 22 (by simp)
    simp only [m22, upB_ne (show (6 : Nat) ≠ 22 by decide)] at hS hU hK
    clear hp hq m22
    have u1 : x 1 = .pointer (some ⟨B1, 0, none⟩) := hA 1 (by kernel_rfl)
    clear hU hV hA H1 hLv
    rw [frameD35] at hK ⊢
    simp only [u1] at hK ⊢
    refine wpOp_step rfl (fun K' hK' => ?_)
    go_simp
    exact hK' _ _ (hK _ _ hS (fun _ _ _ h => h) (fun e he => by cases he; exact rfl))
  case s7 =>
    refine stepB_of [22] [] [10] [] H1 rfl rfl (by kernel_rfl) (by kernel_rfl) (by kernel_rfl) (by kernel_rfl) ?_
    intro σ hp hq x w5 hS hU hV hA Lv hLv K hK
    have m22 : σ 22 = false := hp 22 (by simp)
    simp only [m22, upB_ne (show (7 : Nat) ≠ 22 by decide)] at hS hU hK
    clear hp hq m22
    have u10 : x 10 = .pointer (some ⟨B1, 0, none⟩) := hU 10 (by simp)
    clear hU hV hA H1 hLv
    rw [frameD35] at hK ⊢
    simp only [u10] at hK ⊢
    refine wpOp_step rfl (fun K' hK' => ?_)
    go_simp
    exact hK' _ _ (hK _ _ hS (fun _ _ _ h => h) (fun e he => by cases he; exact rfl))
  case s8 =>
    refine stepB_of [22] [] [11] [] H1 rfl rfl (by kernel_rfl) (by kernel_rfl) (by kernel_rfl) (by kernel_rfl) ?_
    intro σ hp hq x w5 hS hU hV hA Lv hLv K hK
    have m22 : σ 22 = false := hp 22 (by simp)
    simp only [m22, upB_ne (show (8 : Nat) ≠ 22 by decide)] at hS hU hK
    clear hp hq m22
    have u11 : x 11 = .pointer (some ⟨B1, 1, none⟩) := hU 11 (by simp)
    clear hU hV hA H1 hLv
    rw [frameD35] at hK ⊢
    simp only [u11] at hK ⊢
    refine wpOp_step rfl (fun K' hK' => ?_)
    have hS2 : Fuw w0 w5 := hS
    have h0 := B0.out.on hS2
    have q1 := h0.c2
    go_simp
    exact hK' _ _ (hK _ _ hS (fun _ _ _ h => h) (fun e he => by cases he; exact rfl))
  case s9 =>
    refine stepB_of [22] [] [9, 12] [] H1 rfl rfl (by kernel_rfl) (by kernel_rfl) (by kernel_rfl) (by kernel_rfl) ?_
    intro σ hp hq x w5 hS hU hV hA Lv hLv K hK
    have m22 : σ 22 = false := hp 22 (by simp)
    simp only [m22, upB_ne (show (9 : Nat) ≠ 22 by decide)] at hS hU hK
    clear hp hq m22
    obtain ⟨g9, u9, hg, hgb⟩ : ∃ g, x 9 = .slice (some ⟨g, 0, none⟩) 0 0 ∧ w5.heap[g]? = some (.cells #[] 3 (0, 0)) ∧ w0.heap.size ≤ g := hU 9 (by simp)
    have u12 : x 12 = .slice A.c.a2 o.c.fs.length A.c.k2 := hU 12 (by simp)
    clear hU hV hA H1
    rw [frameD35] at hK ⊢
    simp only [u9, u12] at hK ⊢
    have hS2 : Fuw w0 w5 := hS
    have hst2 := hS2.size
    rcases H2.out with ⟨e1, e2, e3, e4⟩ | ⟨ad, e1, hn⟩
    · have e5 : o.c.fs = [] := List.length_eq_zero_iff.1 e2
      refine wpOp_append_none w5 rfl rfl (.tmp 9) (.tmp 12) 22 rfl w0.heap.size 3 i0 1 Tryz.underlying22 hi0 (.slice (some ⟨g9, 0, none⟩) 0 0) 0 [] rfl ⟨by simp, .inr ⟨g9, 0, #[], rfl, hgb, hg, Nat.le_refl _, Nat.zero_le _, by simp, by simp⟩⟩ (by show Value.slice A.c.a2 o.c.fs.length A.c.k2 = _; rw [e1, e2, e3]) ?_
      exact hK _ _ hS (fun _ _ _ h => h) (fun e he => by cases he; exact ⟨some ⟨g9, 0, none⟩, 0, by rw [e5]; rfl, by rw [e5]; exact ⟨by simp [cs], .inr ⟨g9, 0, #[], rfl, hgb, hg, Nat.le_refl _, Nat.zero_le _, by simp, by simp [cs]⟩⟩⟩)
    · refine wpOp_append_empty w5 rfl rfl (.tmp 9) (.tmp 12) 22 rfl w0.heap.size 3 i0 (.int .i64 0) 1 8 Tryz.underlying22 hi0 hz0 hz1 hz2 rfl (by decide) g9 rfl hg hgb ad o.c.fs.length A.c.k2 (cs o.c.fs) (by show Value.slice A.c.a2 o.c.fs.length A.c.k2 = _; rw [e1]) (by rw [cs_len, Nat.mul_one]) (fun j u hu => cellOnw hS2 (hn j u hu)) (cs_one _) (by have := HL.out.f; unfold maxLen; omega) (by have := HL.out.f; omega) hst2 ?_
      intro v6 w6 ho6 f6
      obtain ⟨a6, k6, e6⟩ := own_form ho6
      subst e6
      exact hK _ w6 (show Fuw w0 w6 from hS2.trans f6) (fun _ _ _ h => cpu_on f6 _ _ h) (fun e he => by cases he; exact ⟨a6, k6, rfl, ho6⟩)
  case s10 =>
    refine stepB_of [22] [] [] [] H1 rfl rfl (by kernel_rfl) (by kernel_rfl) (by kernel_rfl) (by kernel_rfl) ?_
    intro σ hp hq x w5 hS hU hV hA Lv hLv K hK
    have m22 : σ 22 = false := hp 22 (by simp)
    simp only [m22, upB_ne (show (10 : Nat) ≠ 22 by decide)] at hS hU hK
    clear hp hq m22
    clear hU hV hA H1 hLv
    rw [frameD35] at hK ⊢
    refine wpOp_step rfl (fun K' hK' => ?_)
    have hS2 : Fuw w0 w5 := hS
    have hsz := hS2.size
    go_simp
    exact hK' _ _ (hK _ _ (show Fuw w0 _ from (show Fuw w0 w5 from hS).alloc _) (fun _ _ _ h => cpu_on (fuwA _ _) _ _ h) (fun e he => by cases he; exact ⟨_, rfl, Bk.new _ _ _, hsz⟩))
  case s11 =>
    refine stepB_of [22] [] [] [] H1 rfl rfl (by kernel_rfl) (by kernel_rfl) (by kernel_rfl) (by kernel_rfl) ?_
    intro σ hp hq x w5 hS hU hV hA Lv hLv K hK
    have m22 : σ 22 = false := hp 22 (by simp)
    simp only [m22, upB_ne (show (11 : Nat) ≠ 22 by decide)] at hS hU hK
    clear hp hq m22
    have u1 : x 1 = .pointer (some ⟨B1, 0, none⟩) := hA 1 (by kernel_rfl)
    clear hU hV hA H1 hLv
    rw [frameD35] at hK ⊢
    simp only [u1] at hK ⊢
    refine wpOp_step rfl (fun K' hK' => ?_)
    go_simp
    exact hK' _ _ (hK _ _ hS (fun _ _ _ h => h) (fun e he => by cases he; exact rfl))
  case s12 =>
    refine stepB_of [22] [] [15] [] H1 rfl rfl (by kernel_rfl) (by kernel_rfl) (by kernel_rfl) (by kernel_rfl) ?_
    intro σ hp hq x w5 hS hU hV hA Lv hLv K hK
    have m22 : σ 22 = false := hp 22 (by simp)
    simp only [m22, upB_ne (show (12 : Nat) ≠ 22 by decide)] at hS hU hK
    clear hp hq m22
    have u15 : x 15 = .pointer (some ⟨B1, 0, none⟩) := hU 15 (by simp)
    clear hU hV hA H1 hLv
    rw [frameD35] at hK ⊢
    simp only [u15] at hK ⊢
    refine wpOp_step rfl (fun K' hK' => ?_)
    go_simp
    exact hK' _ _ (hK _ _ hS (fun _ _ _ h => h) (fun e he => by cases he; exact rfl))
  case s13 =>
    refine stepB_of [22] [] [16] [] H1 rfl rfl (by kernel_rfl) (by kernel_rfl) (by kernel_rfl) (by kernel_rfl) ?_
    intro σ hp hq x w5 hS hU hV hA Lv hLv K hK
    have m22 : σ 22 = false := hp 22 (by simp)
    simp only [m22, upB_ne (show (13 : Nat) ≠ 22 by decide)] at hS hU hK
    clear hp hq m22
    have u16 : x 16 = .pointer (some ⟨B1, 2, none⟩) := hU 16 (by simp)
    clear hU hV hA H1 hLv
    rw [frameD35] at hK ⊢
    simp only [u16] at hK ⊢
    refine wpOp_step rfl (fun K' hK' => ?_)
    have hS2 : Fuw w0 w5 := hS
    have h0 := B0.out.on hS2
    have q1 := h0.c3
    go_simp
    exact hK' _ _ (hK _ _ hS (fun _ _ _ h => h) (fun e he => by cases he; exact rfl))
  case s14 =>
    refine stepB_of [22] [] [14, 17] [] H1 rfl rfl (by kernel_rfl) (by kernel_rfl) (by kernel_rfl) (by kernel_rfl) ?_
    intro σ hp hq x w5 hS hU hV hA Lv hLv K hK
    have m22 : σ 22 = false := hp 22 (by simp)
    simp only [m22, upB_ne (show (14 : Nat) ≠ 22 by decide)] at hS hU hK
    clear hp hq m22
    obtain ⟨g14, u14, hg, hgb⟩ : ∃ g, x 14 = .slice (some ⟨g, 0, none⟩) 0 0 ∧ w5.heap[g]? = some (.cells #[] 3 (0, 0)) ∧ w0.heap.size ≤ g := hU 14 (by simp)
    have u17 : x 17 = .slice A.c.a3 o.c.ts.length A.c.k3 := hU 17 (by simp)
    clear hU hV hA H1
    rw [frameD35] at hK ⊢
    simp only [u14, u17] at hK ⊢
    have hS2 : Fuw w0 w5 := hS
    have hst2 := hS2.size
    rcases H3.out with ⟨e1, e2, e3, e4⟩ | ⟨ad, e1, hn⟩
    · have e5 : o.c.ts = [] := List.length_eq_zero_iff.1 e2
      refine wpOp_append_none w5 rfl rfl (.tmp 14) (.tmp 17) 22 rfl w0.heap.size 3 i0 1 Tryz.underlying22 hi0 (.slice (some ⟨g14, 0, none⟩) 0 0) 0 [] rfl ⟨by simp, .inr ⟨g14, 0, #[], rfl, hgb, hg, Nat.le_refl _, Nat.zero_le _, by simp, by simp⟩⟩ (by show Value.slice A.c.a3 o.c.ts.length A.c.k3 = _; rw [e1, e2, e3]) ?_
      exact hK _ _ hS (fun _ _ _ h => h) (fun e he => by cases he; exact ⟨some ⟨g14, 0, none⟩, 0, by rw [e5]; rfl, by rw [e5]; exact ⟨by simp [cs], .inr ⟨g14, 0, #[], rfl, hgb, hg, Nat.le_refl _, Nat.zero_le _, by simp, by simp [cs]⟩⟩⟩)
    · refine wpOp_append_empty w5 rfl rfl (.tmp 14) (.tmp 17) 22 rfl w0.heap.size 3 i0 (.int .i64 0) 1 8 Tryz.underlying22 hi0 hz0 hz1 hz2 rfl (by decide) g14 rfl hg hgb ad o.c.ts.length A.c.k3 (cs o.c.ts) (by show Value.slice A.c.a3 o.c.ts.length A.c.k3 = _; rw [e1]) (by rw [cs_len, Nat.mul_one]) (fun j u hu => cellOnw hS2 (hn j u hu)) (cs_one _) (by have := HL.out.t; unfold maxLen; omega) (by have := HL.out.t; omega) hst2 ?_
      intro v6 w6 ho6 f6
      obtain ⟨a6, k6, e6⟩ := own_form ho6
      subst e6
      exact hK _ w6 (show Fuw w0 w6 from hS2.trans f6) (fun _ _ _ h => cpu_on f6 _ _ h) (fun e he => by cases he; exact ⟨a6, k6, rfl, ho6⟩)
  case s15 =>
    refine stepB_of [22] [] [] [] H1 rfl rfl (by kernel_rfl) (by kernel_rfl) (by kernel_rfl) (by kernel_rfl) ?_
    intro σ hp hq x w5 hS hU hV hA Lv hLv K hK
    have m22 : σ 22 = false := hp 22 (by simp)
    simp only [m22, upB_ne (show (15 : Nat) ≠ 22 by decide)] at hS hU hK
    clear hp hq m22
    clear hU hV hA H1 hLv
    rw [frameD35] at hK ⊢
    refine wpOp_step rfl (fun K' hK' => ?_)
    have hS2 : Fuw w0 w5 := hS
    have hsz := hS2.size
    go_simp
    exact hK' _ _ (hK _ _ (show Fuw w0 _ from (show Fuw w0 w5 from hS).alloc _) (fun _ _ _ h => cpu_on (fuwA _ _) _ _ h) (fun e he => by cases he; exact ⟨_, rfl, Bk.new _ _ _, hsz⟩))
  case s16 =>
    refine stepB_of [22] [] [] [] H1 rfl rfl (by kernel_rfl) (by kernel_rfl) (by kernel_rfl) (by kernel_rfl) ?_
    intro σ hp hq x w5 hS hU hV hA Lv hLv K hK
    have m22 : σ 22 = false := hp 22 (by simp)
    simp only [m22, upB_ne (show (16 : Nat) ≠ 22 by decide)] at hS hU hK
    clear hp hq m22
    have u1 : x 1 = .pointer (some ⟨B1, 0, none⟩) := hA 1 (by kernel_rfl)
    clear hU hV hA H1 hLv
    rw [frameD35] at hK ⊢
    simp only [u1] at hK ⊢
    refine wpOp_step rfl (fun K' hK' => ?_)
    go_simp
    exact hK' _ _ (hK _ _ hS (fun _ _ _ h => h) (fun e he => by cases he; exact rfl))
  case s17 =>
    refine stepB_of [22] [] [20] [] H1 rfl rfl (by kernel_rfl) (by kernel_rfl) (by kernel_rfl) (by kernel_rfl) ?_
    intro σ hp hq x w5 hS hU hV hA Lv hLv K hK
    have m22 : σ 22 = false := hp 22 (by simp)
    simp only [m22, upB_ne (show (17 : Nat) ≠ 22 by decide)] at hS hU hK
    clear hp hq m22
    have u20 : x 20 = .pointer (some ⟨B1, 0, none⟩) := hU 20 (by simp)
    clear hU hV hA H1 hLv
    rw [frameD35] at hK ⊢
    simp only [u20] at hK ⊢
    refine wpOp_step rfl (fun K' hK' => ?_)
    go_simp
    exact hK' _ _ (hK _ _ hS (fun _ _ _ h => h) (fun e he => by cases he; exact rfl))
  case s18 =>
    refine stepB_of [22] [] [21] [] H1 rfl rfl (by kernel_rfl) (by kernel_rfl) (by kernel_rfl) (by kernel_rfl) ?_
    intro σ hp hq x w5 hS hU hV hA Lv hLv K hK
    have m22 : σ 22 = false := hp 22 (by simp)
    simp only [m22, upB_ne (show (18 : Nat) ≠ 22 by decide)] at hS hU hK
    clear hp hq m22
    have u21 : x 21 = .pointer (some ⟨B1, 3, none⟩) := hU 21 (by simp)
    clear hU hV hA H1 hLv
    rw [frameD35] at hK ⊢
    simp only [u21] at hK ⊢
    refine wpOp_step rfl (fun K' hK' => ?_)
    have hS2 : Fuw w0 w5 := hS
    have h0 := B0.out.on hS2
    have q1 := h0.c4
    go_simp
    exact hK' _ _ (hK _ _ hS (fun _ _ _ h => h) (fun e he => by cases he; exact rfl))
  case s19 =>
    refine stepB_of [22] [] [19, 22] [] H1 rfl rfl (by kernel_rfl) (by kernel_rfl) (by kernel_rfl) (by kernel_rfl) ?_
    intro σ hp hq x w5 hS hU hV hA Lv hLv K hK
    have m22 : σ 22 = false := hp 22 (by simp)
    simp only [m22, upB_ne (show (19 : Nat) ≠ 22 by decide)] at hS hU hK
    clear hp hq m22
    obtain ⟨g19, u19, hg, hgb⟩ : ∃ g, x 19 = .slice (some ⟨g, 0, none⟩) 0 0 ∧ w5.heap[g]? = some (.cells #[] 3 (0, 0)) ∧ w0.heap.size ≤ g := hU 19 (by simp)
    have u22 : x 22 = .slice A.c.a4 o.c.es.length A.c.k4 := hU 22 (by simp)
    clear hU hV hA H1
    rw [frameD35] at hK ⊢
    simp only [u19, u22] at hK ⊢
    have hS2 : Fuw w0 w5 := hS
    have hst2 := hS2.size
    rcases H4.out with ⟨e1, e2, e3, e4⟩ | ⟨ad, e1, hn⟩
    · have e5 : o.c.es = [] := List.length_eq_zero_iff.1 e2
      refine wpOp_append_none w5 rfl rfl (.tmp 19) (.tmp 22) 22 rfl w0.heap.size 3 i0 1 Tryz.underlying22 hi0 (.slice (some ⟨g19, 0, none⟩) 0 0) 0 [] rfl ⟨by simp, .inr ⟨g19, 0, #[], rfl, hgb, hg, Nat.le_refl _, Nat.zero_le _, by simp, by simp⟩⟩ (by show Value.slice A.c.a4 o.c.es.length A.c.k4 = _; rw [e1, e2, e3]) ?_
      exact hK _ _ hS (fun _ _ _ h => h) (fun e he => by cases he; exact ⟨some ⟨g19, 0, none⟩, 0, by rw [e5]; rfl, by rw [e5]; exact ⟨by simp [cs], .inr ⟨g19, 0, #[], rfl, hgb, hg, Nat.le_refl _, Nat.zero_le _, by simp, by simp [cs]⟩⟩⟩)
    · refine wpOp_append_empty w5 rfl rfl (.tmp 19) (.tmp 22) 22 rfl w0.heap.size 3 i0 (.int .i64 0) 1 8 Tryz.underlying22 hi0 hz0 hz1 hz2 rfl (by decide) g19 rfl hg hgb ad o.c.es.length A.c.k4 (cs o.c.es) (by show Value.slice A.c.a4 o.c.es.length A.c.k4 = _; rw [e1]) (by rw [cs_len, Nat.mul_one]) (fun j u hu => cellOnw hS2 (hn j u hu)) (cs_one _) (by have := HL.out.e; unfold maxLen; omega) (by have := HL.out.e; omega) hst2 ?_
      intro v6 w6 ho6 f6
      obtain ⟨a6, k6, e6⟩ := own_form ho6
      subst e6
      exact hK _ w6 (show Fuw w0 w6 from hS2.trans f6) (fun _ _ _ h => cpu_on f6 _ _ h) (fun e he => by cases he; exact ⟨a6, k6, rfl, ho6⟩)
  case s20 =>
    refine stepB_of [22] [] [8, 13, 18, 23] [] H1 rfl rfl (by kernel_rfl) (by kernel_rfl) (by kernel_rfl) (by kernel_rfl) ?_
    intro σ hp hq x w5 hS hU hV hA Lv hLv K hK
    have m22 : σ 22 = false := hp 22 (by simp)
    simp only [m22, upB_ne (show (20 : Nat) ≠ 22 by decide)] at hS hU hK
    clear hp hq m22
    obtain ⟨a8, k8, u8, hB8⟩ : ∃ a k, x 8 = .slice a o.c.ns.length k ∧ w5.ownsRow w0.heap.size 3 1 (.slice a o.c.ns.length k) o.c.ns.length (cs o.c.ns) := hU 8 (by simp)
    obtain ⟨a13, k13, u13, hB13⟩ : ∃ a k, x 13 = .slice a o.c.fs.length k ∧ w5.ownsRow w0.heap.size 3 1 (.slice a o.c.fs.length k) o.c.fs.length (cs o.c.fs) := hU 13 (by simp)
    obtain ⟨a18, k18, u18, hB18⟩ : ∃ a k, x 18 = .slice a o.c.ts.length k ∧ w5.ownsRow w0.heap.size 3 1 (.slice a o.c.ts.length k) o.c.ts.length (cs o.c.ts) := hU 18 (by simp)
    obtain ⟨a23, k23, u23, hB23⟩ : ∃ a k, x 23 = .slice a o.c.es.length k ∧ w5.ownsRow w0.heap.size 3 1 (.slice a o.c.es.length k) o.c.es.length (cs o.c.es) := hU 23 (by simp)
    clear hU hV hA H1 hLv
    rw [frameD35] at hK ⊢
    simp only [u8, u13, u18, u23] at hK ⊢
    refine wpOp_step rfl (fun K' hK' => ?_)
    go_simp
    exact hK' _ _ (hK _ _ hS (fun _ _ _ h => h) (fun e he => by cases he; exact ⟨⟨a8, a13, a18, a23, k8, k13, k18, k23⟩, rfl, hB8, hB13, hB18, hB23⟩))
  case s21 =>
    refine stepB_of [22] [] [] [] H1 rfl rfl (by kernel_rfl) (by kernel_rfl) (by kernel_rfl) (by kernel_rfl) ?_
    intro σ hp hq x w5 hS hU hV hA Lv hLv K hK
    have m22 : σ 22 = false := hp 22 (by simp)
    simp only [m22, upB_ne (show (21 : Nat) ≠ 22 by decide)] at hS hU hK
    clear hp hq m22
    clear hU hV hA H1 hLv
    rw [frameD35] at hK ⊢
    refine wpOp_step rfl (fun K' hK' => ?_)
    have hS2 : Fuw w0 w5 := hS
    have hsz := hS2.size
    go_simp
    exact hK' _ _ (hK _ _ (show Fuw w0 _ from (show Fuw w0 w5 from hS).alloc _) (fun _ _ _ h => cpu_on (fuwA _ _) _ _ h) (fun e he => by cases he; exact ⟨_, rfl, Bk.new _ _ _, hsz⟩))
  case s22 =>
    refine stepB_of2 [22] [] [3, 24] [] H1 rfl rfl (by kernel_rfl) (by kernel_rfl) (by kernel_rfl) (by kernel_rfl) ?_
    intro σ hp hq x w5 hS hU hV hA Lv hLv K hK
    have m22 : σ 22 = false := hp 22 (by simp)
    simp only [m22, upB_eq] at hS hU hK
    clear hp hq m22
    obtain ⟨C, u3, hC, hCb⟩ : ∃ C, x 3 = .pointer (some ⟨C, 0, none⟩) ∧ Bk w5 C #[.slice none 0 0, .slice none 0 0, .slice none 0 0, .slice none 0 0] 24 ∧ w0.heap.size ≤ C := hU 3 (by simp)
    obtain ⟨X, u24, hX⟩ : ∃ X : CA, x 24 = .agg #[.slice X.a1 o.c.ns.length X.k1, .slice X.a2 o.c.fs.length X.k2, .slice X.a3 o.c.ts.length X.k3, .slice X.a4 o.c.es.length X.k4] ∧ OwnC w0.heap.size o.c X w5 := hU 24 (by simp)
    clear hU hV hA H1 hLv
    rw [frameD35] at hK ⊢
    simp only [u3, u24] at hK ⊢
    refine wpOp_step rfl (fun K' hK' => ?_)
    have hS2 : Fuw w0 w5 := hS
    have r0 := hC.c 0; have r1 := hC.c 1; have r2 := hC.c 2; have r3 := hC.c 3
    have t0 := hC.f 0; have t1 := hC.f 1; have t2 := hC.f 2; have t3 := hC.f 3
    simp only [List.getElem?_toArray, List.getElem?_cons_zero, List.getElem?_cons_succ] at r0 r1 r2 r3
    go_simp
    exact hK' _ _ (hK undef _ (show Fuw w0 _ from fuwS (fuwS (fuwS (fuwS hS2 hCb) hCb) hCb) hCb) (fun t hl hu => by
      by_cases e : t = 3
      · subst e
        show CpU _ _ _ _ 16 _ (x 3)
        rw [u3]
        exact ⟨C, X, rfl, (((hC.set_ 0 _).set_ 1 _).set_ 2 _).set_ 3 _, (((hX.far hC tyC 0 _).far (hC.set_ 0 _) tyC 1 _).far ((hC.set_ 0 _).set_ 1 _) tyC 2 _).far (((hC.set_ 0 _).set_ 1 _).set_ 2 _) tyC 3 _, hCb⟩
      · show CpU _ _ _ _ (kCp true t) _ _
        rw [kT0 e]; trivial) (fun e he => by cases he))
  case base =>
    refine midB_start rfl rfl (show Fuw w0 w0.drew from fuw_dr w0 1) (fun t ht hh => ?_) (fun t => trivial)
    rcases start_of (ks := kCpF) (L := []) (by kernel_rfl) t ht hh with e | e
    · show CpU _ _ _ _ (kCpF.getD t 0) _ _
      rw [e]; trivial
    · cases e
  case fin =>
    intro x w1 hS hU hA
    have F1 := Lib.hid (show Fuw w0 w1 from hS)
    obtain ⟨C, X, u3, hC, hX, hCb⟩ := hU 3 (by simp)
    have BC := Lib.hid hC
    have HX := Lib.hid (hX.cin HI.out.n HI.out.f HI.out.t HI.out.e)
    have FT := Lib.hid (FT0.out.trans F1.out)
    have B01 := Lib.hid (B0.out.on F1.out)
    have BR := Lib.hid (BR0.out.on F1.out)
    have H5 := Lib.hid (srcJ (HO.out.on F1.out).a)
    have H6 := Lib.hid (srcI (HO.out.on F1.out).d)
    have u1 : x 1 = .pointer (some ⟨B1, 0, none⟩) := hA 1 (by kernel_rfl)
    have u2 : x 2 = .pointer (some ⟨B2, 0, none⟩) := hA 2 (by kernel_rfl)
    clear hU hA hS hC hX H1 H2 H3 H4
    rw [frameD35]
    simp only [u1, u2, u3]
    clear u1 u2 u3
    go_upto_region 2 with fail
    refine region_midB (N := 35) (S := fun σ w => SqS wt w1 B2 o (σ 10) w) (U := fun σ t => CqU B1 w1.heap.size o A X (kCq (σ 10) t)) (V := fun _ _ => True) (by kernel_rfl) (by kernel_rfl) (by kernel_rfl) ?base (fun H1 => uptoD_succ (n := 10) (uptoD_succ (n := 9) (uptoD_succ (n := 8) (uptoD_succ (n := 7) (uptoD_succ (n := 6) (uptoD_succ (n := 5) (uptoD_succ (n := 4) (uptoD_succ (n := 3) (uptoD_succ (n := 2) (uptoD_succ (n := 1) (uptoD_succ (n := 0) (uptoD_nil) ?s0) ?s1) ?s2) ?s3) ?s4) ?s5) ?s6) ?s7) ?s8) ?s9) ?s10) ?fin
    case s0 =>
      refine stepB_of [10] [] [] [] H1 rfl rfl (by kernel_rfl) (by kernel_rfl) (by kernel_rfl) (by kernel_rfl) ?_
      intro σ hp hq x w5 hS hU hV hA Lv hLv K hK
      have m10 : σ 10 = false := hp 10 (by simp)
      simp only [m10, upB_ne (show (0 : Nat) ≠ 10 by decide)] at hS hU hK
      clear hp hq m10
      have u3 : x 3 = .pointer (some ⟨C, 0, none⟩) := hA 3 (by kernel_rfl)
      clear hU hV hA H1 hLv
      rw [frameD35] at hK ⊢
      simp only [u3] at hK ⊢
      refine wpOp_step rfl (fun K' hK' => ?_)
      have hS2 : Fuw w1 w5 := hS
      have hB := BC.out.on hS2
      have r0 := hB.c 0; have r1 := hB.c 1; have r2 := hB.c 2; have r3 := hB.c 3
      unfold colC at r0 r1 r2 r3
      simp only [List.getElem?_toArray, List.getElem?_cons_zero, List.getElem?_cons_succ] at r0 r1 r2 r3
      go_simp
      exact hK' _ _ (hK _ _ hS (fun _ _ _ h => h) (fun e he => by cases he; exact rfl))
    case s1 =>
      refine stepB_of [10] [] [] [] H1 rfl rfl (by kernel_rfl) (by kernel_rfl) (by kernel_rfl) (by kernel_rfl) ?_
      intro σ hp hq x w5 hS hU hV hA Lv hLv K hK
      have m10 : σ 10 = false := hp 10 (by simp)
      simp only [m10, upB_ne (show (1 : Nat) ≠ 10 by decide)] at hS hU hK
      clear hp hq m10
      clear hU hV hA H1 hLv
      rw [frameD35] at hK ⊢
      refine wpOp_step rfl (fun K' hK' => ?_)
      have hS2 : Fuw w1 w5 := hS
      have hsz := hS2.size
      go_simp
      exact hK' _ _ (hK _ _ (show Fuw w1 _ from (show Fuw w1 w5 from hS).alloc _) (fun _ _ _ h => cqu_on (fuwA _ _) _ _ h) (fun e he => by cases he; exact ⟨_, rfl, Bk.new _ _ _, hsz⟩))
    case s2 =>
      refine stepB_of [10] [] [] [] H1 rfl rfl (by kernel_rfl) (by kernel_rfl) (by kernel_rfl) (by kernel_rfl) ?_
      intro σ hp hq x w5 hS hU hV hA Lv hLv K hK
      have m10 : σ 10 = false := hp 10 (by simp)
      simp only [m10, upB_ne (show (2 : Nat) ≠ 10 by decide)] at hS hU hK
      clear hp hq m10
      have u1 : x 1 = .pointer (some ⟨B1, 0, none⟩) := hA 1 (by kernel_rfl)
      clear hU hV hA H1 hLv
      rw [frameD35] at hK ⊢
      simp only [u1] at hK ⊢
      refine wpOp_step rfl (fun K' hK' => ?_)
      go_simp
      exact hK' _ _ (hK _ _ hS (fun _ _ _ h => h) (fun e he => by cases he; exact rfl))
    case s3 =>
      refine stepB_of [10] [] [27] [] H1 rfl rfl (by kernel_rfl) (by kernel_rfl) (by kernel_rfl) (by kernel_rfl) ?_
      intro σ hp hq x w5 hS hU hV hA Lv hLv K hK
      have m10 : σ 10 = false := hp 10 (by simp)
      simp only [m10, upB_ne (show (3 : Nat) ≠ 10 by decide)] at hS hU hK
      clear hp hq m10
      have u27 : x 27 = .pointer (some ⟨B1, 4, none⟩) := hU 27 (by simp)
      clear hU hV hA H1 hLv
      rw [frameD35] at hK ⊢
      simp only [u27] at hK ⊢
      refine wpOp_step rfl (fun K' hK' => ?_)
      have hS2 : Fuw w1 w5 := hS
      have h0 := B01.out.on hS2
      have q1 := h0.c5
      go_simp
      exact hK' _ _ (hK _ _ hS (fun _ _ _ h => h) (fun e he => by cases he; exact rfl))
    case s4 =>
      refine stepB_of [10] [] [26, 28] [] H1 rfl rfl (by kernel_rfl) (by kernel_rfl) (by kernel_rfl) (by kernel_rfl) ?_
      intro σ hp hq x w5 hS hU hV hA Lv hLv K hK
      have m10 : σ 10 = false := hp 10 (by simp)
      simp only [m10, upB_ne (show (4 : Nat) ≠ 10 by decide)] at hS hU hK
      clear hp hq m10
      obtain ⟨g26, u26, hg, hgb⟩ : ∃ g, x 26 = .slice (some ⟨g, 0, none⟩) 0 0 ∧ w5.heap[g]? = some (.cells #[] 42 (0, 0)) ∧ w1.heap.size ≤ g := hU 26 (by simp)
      have u28 : x 28 = .slice A.a5 o.ads.length A.k5 := hU 28 (by simp)
      clear hU hV hA H1
      rw [frameD35] at hK ⊢
      simp only [u26, u28] at hK ⊢
      have hS2 : Fuw w1 w5 := hS
      have hst2 := hS2.size
      rcases H5.out with ⟨e1, e2, e3, e4⟩ | ⟨ad, e1, hn⟩
      · have e5 : o.ads = [] := List.length_eq_zero_iff.1 e2
        refine wpOp_append_none w5 rfl rfl (.tmp 26) (.tmp 28) 25 rfl w1.heap.size 42 j0 3 Tryz.underlying25 hj0 (.slice (some ⟨g26, 0, none⟩) 0 0) 0 [] rfl ⟨by simp, .inr ⟨g26, 0, #[], rfl, hgb, hg, Nat.le_refl _, Nat.zero_le _, by simp, by simp⟩⟩ (by show Value.slice A.a5 o.ads.length A.k5 = _; rw [e1, e2, e3]) ?_
        exact hK _ _ hS (fun _ _ _ h => h) (fun e he => by cases he; exact ⟨some ⟨g26, 0, none⟩, 0, by rw [e5]; rfl, by rw [e5]; exact ⟨by simp [aC], .inr ⟨g26, 0, #[], rfl, hgb, hg, Nat.le_refl _, Nat.zero_le _, by simp, by simp [aC]⟩⟩⟩)
      · refine wpOp_append_empty w5 rfl rfl (.tmp 26) (.tmp 28) 25 rfl w1.heap.size 42 j0 (.agg #[.int .i64 0, .int .i64 0, .int .i64 0]) 3 24 Tryz.underlying25 hj0 hy0 hy1 hy2 rfl (by decide) g26 rfl hg hgb ad o.ads.length A.k5 (aC o.ads) (by show Value.slice A.a5 o.ads.length A.k5 = _; rw [e1]) (aC_len _) (fun j u hu => cellOnw hS2 (hn j u hu)) (one_adjs _) (by have := HL.out.a; unfold maxLen; omega) (by have := HL.out.a; omega) hst2 ?_
        intro v6 w6 ho6 f6
        obtain ⟨a6, k6, e6⟩ := own_form ho6
        subst e6
        exact hK _ w6 (show Fuw w1 w6 from hS2.trans f6) (fun _ _ _ h => cqu_on f6 _ _ h) (fun e he => by cases he; exact ⟨a6, k6, rfl, ho6⟩)
    case s5 =>
      refine stepB_of [10] [] [] [] H1 rfl rfl (by kernel_rfl) (by kernel_rfl) (by kernel_rfl) (by kernel_rfl) ?_
      intro σ hp hq x w5 hS hU hV hA Lv hLv K hK
      have m10 : σ 10 = false := hp 10 (by simp)
      simp only [m10, upB_ne (show (5 : Nat) ≠ 10 by decide)] at hS hU hK
      clear hp hq m10
      clear hU hV hA H1 hLv
      rw [frameD35] at hK ⊢
      refine wpOp_step rfl (fun K' hK' => ?_)
      have hS2 : Fuw w1 w5 := hS
      have hsz := hS2.size
      go_simp
      exact hK' _ _ (hK _ _ (show Fuw w1 _ from (show Fuw w1 w5 from hS).alloc _) (fun _ _ _ h => cqu_on (fuwA _ _) _ _ h) (fun e he => by cases he; exact ⟨_, rfl, Bk.new _ _ _, hsz⟩))
    case s6 =>
      refine stepB_of [10] [] [] [] H1 rfl rfl (by kernel_rfl) (by kernel_rfl) (by kernel_rfl) (by kernel_rfl) ?_
      intro σ hp hq x w5 hS hU hV hA Lv hLv K hK
      have m10 : σ 10 = false := hp 10 (by simp)
      simp only [m10, upB_ne (show (6 : Nat) ≠ 10 by decide)] at hS hU hK
      clear hp hq m10
      have u1 : x 1 = .pointer (some ⟨B1, 0, none⟩) := hA 1 (by kernel_rfl)
      clear hU hV hA H1 hLv
      rw [frameD35] at hK ⊢
      simp only [u1] at hK ⊢
      refine wpOp_step rfl (fun K' hK' => ?_)
      go_simp
      exact hK' _ _ (hK _ _ hS (fun _ _ _ h => h) (fun e he => by cases he; exact rfl))
    case s7 =>
      refine stepB_of [10] [] [31] [] H1 rfl rfl (by kernel_rfl) (by kernel_rfl) (by kernel_rfl) (by kernel_rfl) ?_
      intro σ hp hq x w5 hS hU hV hA Lv hLv K hK
      have m10 : σ 10 = false := hp 10 (by simp)
      simp only [m10, upB_ne (show (7 : Nat) ≠ 10 by decide)] at hS hU hK
      clear hp hq m10
      have u31 : x 31 = .pointer (some ⟨B1, 5, none⟩) := hU 31 (by simp)
      clear hU hV hA H1 hLv
      rw [frameD35] at hK ⊢
      simp only [u31] at hK ⊢
      refine wpOp_step rfl (fun K' hK' => ?_)
      have hS2 : Fuw w1 w5 := hS
      have h0 := B01.out.on hS2
      have q1 := h0.c6
      go_simp
      exact hK' _ _ (hK _ _ hS (fun _ _ _ h => h) (fun e he => by cases he; exact rfl))
    case s8 =>
      refine stepB_of [10] [] [30, 32] [] H1 rfl rfl (by kernel_rfl) (by kernel_rfl) (by kernel_rfl) (by kernel_rfl) ?_
      intro σ hp hq x w5 hS hU hV hA Lv hLv K hK
      have m10 : σ 10 = false := hp 10 (by simp)
      simp only [m10, upB_ne (show (8 : Nat) ≠ 10 by decide)] at hS hU hK
      clear hp hq m10
      obtain ⟨g30, u30, hg, hgb⟩ : ∃ g, x 30 = .slice (some ⟨g, 0, none⟩) 0 0 ∧ w5.heap[g]? = some (.cells #[] 3 (0, 0)) ∧ w1.heap.size ≤ g := hU 30 (by simp)
      have u32 : x 32 = .slice A.a6 o.dls.length A.k6 := hU 32 (by simp)
      clear hU hV hA H1
      rw [frameD35] at hK ⊢
      simp only [u30, u32] at hK ⊢
      have hS2 : Fuw w1 w5 := hS
      have hst2 := hS2.size
      rcases H6.out with ⟨e1, e2, e3, e4⟩ | ⟨ad, e1, hn⟩
      · have e5 : o.dls = [] := List.length_eq_zero_iff.1 e2
        refine wpOp_append_none w5 rfl rfl (.tmp 30) (.tmp 32) 22 rfl w1.heap.size 3 i0 1 Tryz.underlying22 hi0 (.slice (some ⟨g30, 0, none⟩) 0 0) 0 [] rfl ⟨by simp, .inr ⟨g30, 0, #[], rfl, hgb, hg, Nat.le_refl _, Nat.zero_le _, by simp, by simp⟩⟩ (by show Value.slice A.a6 o.dls.length A.k6 = _; rw [e1, e2, e3]) ?_
        exact hK _ _ hS (fun _ _ _ h => h) (fun e he => by cases he; exact ⟨some ⟨g30, 0, none⟩, 0, by rw [e5]; rfl, by rw [e5]; exact ⟨by simp [cs], .inr ⟨g30, 0, #[], rfl, hgb, hg, Nat.le_refl _, Nat.zero_le _, by simp, by simp [cs]⟩⟩⟩)
      · refine wpOp_append_empty w5 rfl rfl (.tmp 30) (.tmp 32) 22 rfl w1.heap.size 3 i0 (.int .i64 0) 1 8 Tryz.underlying22 hi0 hz0 hz1 hz2 rfl (by decide) g30 rfl hg hgb ad o.dls.length A.k6 (cs o.dls) (by show Value.slice A.a6 o.dls.length A.k6 = _; rw [e1]) (by rw [cs_len, Nat.mul_one]) (fun j u hu => cellOnw hS2 (hn j u hu)) (cs_one _) (by have := HL.out.d; unfold maxLen; omega) (by have := HL.out.d; omega) hst2 ?_
        intro v6 w6 ho6 f6
        obtain ⟨a6, k6, e6⟩ := own_form ho6
        subst e6
        exact hK _ w6 (show Fuw w1 w6 from hS2.trans f6) (fun _ _ _ h => cqu_on f6 _ _ h) (fun e he => by cases he; exact ⟨a6, k6, rfl, ho6⟩)
    case s9 =>
      refine stepB_of [10] [] [25, 29, 33] [] H1 rfl rfl (by kernel_rfl) (by kernel_rfl) (by kernel_rfl) (by kernel_rfl) ?_
      intro σ hp hq x w5 hS hU hV hA Lv hLv K hK
      have m10 : σ 10 = false := hp 10 (by simp)
      simp only [m10, upB_ne (show (9 : Nat) ≠ 10 by decide)] at hS hU hK
      clear hp hq m10
      have u25 : x 25 = .agg #[.slice X.a1 o.c.ns.length X.k1, .slice X.a2 o.c.fs.length X.k2, .slice X.a3 o.c.ts.length X.k3, .slice X.a4 o.c.es.length X.k4] := hU 25 (by simp)
      obtain ⟨a29, k29, u29, hB29⟩ : ∃ a k, x 29 = .slice a o.ads.length k ∧ w5.ownsRow w1.heap.size 42 3 (.slice a o.ads.length k) o.ads.length (aC o.ads) := hU 29 (by simp)
      obtain ⟨a33, k33, u33, hB33⟩ : ∃ a k, x 33 = .slice a o.dls.length k ∧ w5.ownsRow w1.heap.size 3 1 (.slice a o.dls.length k) o.dls.length (cs o.dls) := hU 33 (by simp)
      clear hU hV hA H1 hLv
      rw [frameD35] at hK ⊢
      simp only [u25, u29, u33] at hK ⊢
      refine wpOp_step rfl (fun K' hK' => ?_)
      go_simp
      exact hK' _ _ (hK _ _ hS (fun _ _ _ h => h) (fun e he => by cases he; exact ⟨a29, k29, a33, k33, rfl, hB29, hB33⟩))
    case s10 =>
      refine stepB_of [10] [] [34] [] H1 rfl rfl (by kernel_rfl) (by kernel_rfl) (by kernel_rfl) (by kernel_rfl) ?_
      intro σ hp hq x w5 hS hU hV hA Lv hLv K hK
      have m10 : σ 10 = false := hp 10 (by simp)
      simp only [m10, upB_eq] at hS hU hK
      clear hp hq m10
      obtain ⟨a, k, b, m, u34, hOa, hOd⟩ : ∃ a k b m, x 34 = .agg #[.slice X.a1 o.c.ns.length X.k1, .slice X.a2 o.c.fs.length X.k2, .slice X.a3 o.c.ts.length X.k3, .slice X.a4 o.c.es.length X.k4, .slice a o.ads.length k, .slice b o.dls.length m] ∧ w5.ownsRow w1.heap.size 42 3 (.slice a o.ads.length k) o.ads.length (aC o.ads) ∧ w5.ownsRow w1.heap.size 3 1 (.slice b o.dls.length m) o.dls.length (cs o.dls) := hU 34 (by simp)
      have u2 : x 2 = .pointer (some ⟨B2, 0, none⟩) := hA 2 (by kernel_rfl)
      clear hU hV hA H1 hLv
      rw [frameD35] at hK ⊢
      simp only [u34, u2] at hK ⊢
      refine wpOp_step rfl (fun K' hK' => ?_)
      have hS2 : Fuw w1 w5 := hS
      have E := BR.out.on hS2
      unfold emV at E
      have q0 := E.c 0; have q1 := E.c 1; have q2 := E.c 2; have q3 := E.c 3; have q4 := E.c 4; have q5 := E.c 5
      have t0 := E.f 0; have t1 := E.f 1; have t2 := E.f 2; have t3 := E.f 3; have t4 := E.f 4; have t5 := E.f 5
      simp only [List.getElem?_toArray, List.getElem?_cons_zero, List.getElem?_cons_succ] at q0 q1 q2 q3 q4 q5
      obtain ⟨aa, ak, ea, -, sa⟩ := slJ_own hOa HI.out.a
      cases ea
      obtain ⟨ba, bk, eb, -, sb⟩ := slI_own hOd HI.out.d
      cases eb
      have hs6 := set6_ok (w0 := wt) (o := emO) (A := A0) (o' := o) (A' := ⟨X, a, b, k, m⟩) (em_bk (BR.out.on hS2)) hB2.out (FT.out.trans hS2)
      have hoi := hs6.2.2 o ⟨X, a, b, k, m⟩ ⟨HX.out.on hS2, sa, sb⟩
      unfold set6 at hs6 hoi
      go_simp
      exact hK' _ _ (hK undef _ (show SqS wt w1 B2 o true _ from ⟨⟨_, hs6.1, hoi⟩, hs6.2.1⟩) (fun _ _ _ _ => trivial) (fun e he => by cases he))
    case base =>
      refine midB_start rfl rfl (show Fuw w1 w1.drew from fuw_dr w1 1) (fun t ht hh => ?_) (fun t => trivial)
      rcases start_of (ks := kCqF) (L := []) (by kernel_rfl) t ht hh with e | e
      · show CqU _ _ _ _ _ (kCqF.getD t 0) _ _
        rw [e]; trivial
      · cases e
    case fin =>
      intro x w2 hS hU hA
      obtain ⟨⟨Y, hOB, hOI⟩, hF⟩ : (∃ Y, OB w2 B2 o Y ∧ OIn w2 o Y) ∧ Fuw wt w2 := hS
      have u2 : x 2 = .pointer (some ⟨B2, 0, none⟩) := hA 2 (by kernel_rfl)
      have HOB := Lib.hid hOB
      clear hU hA hOB
      rw [frameD35]
      simp only [u2]
      clear u2
      go_wp2
      exact o_ret rfl rfl HOB.out ⟨Y, rfl, hOI, hF⟩
end Go.Proofs.YtpjikijfendmhaaGreat
