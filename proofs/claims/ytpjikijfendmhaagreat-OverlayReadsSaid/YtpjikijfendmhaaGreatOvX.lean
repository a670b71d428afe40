/-
  An argument that is an overlay, or an entry, opened: whatever can be read at the type is one in memory. No statement is proved here.
-/
import Derived.Test.YtpjikijfendmhaaGreatOvL
import Derived.ProofKit
import Derived.OpenShut
import Derived.SizedLaws
import Derived.Carry
import Derived.ChangeMaps5
import Derived.Lib.SmallJoins
import Derived.Deep.Slices
import Derived.ChangeSame
namespace Go.Proofs.YtpjikijfendmhaaGreat
open Go.ChangeShapes Go.WideShapes Go.ChangeAt Go.RowKit Go.Joins

theorem i64_of {n : Int} (h : (Lit.int .i64 n).wf = true) : -9223372036854775808 ≤ n ∧ n ≤ 9223372036854775807 := by
  simp [Lit.wf, IntKind.min, IntKind.max, IntKind.signed, IntKind.bits] at h
  omega
theorem u8_of {n : Int} (h : (Lit.int .u8 n).wf = true) : ∃ u : Nat, n = (u : Int) ∧ u < 256 := by
  simp [Lit.wf, IntKind.min, IntKind.max, IntKind.signed, IntKind.bits] at h
  exact ⟨n.toNat, by omega, by omega⟩
theorem at_plain {w : World} {a : Addr} {v : Value} (h : w.cell? (a.add 0) = some v) : ∃ b o, a = ⟨b, o, none⟩ := by
  obtain ⟨b, o, spot⟩ := a
  have hspot : spot = none := by simpa [Addr.add] using World.cell?_spot h
  subst hspot
  exact ⟨b, o, rfl⟩
theorem list_of {α : Type} (Q : Nat → α → Prop) : ∀ n, (∀ i, i < n → ∃ x, Q i x) → ∃ l : List α, l.length = n ∧ ∀ (i : Nat) (h : i < l.length), Q i l[i]
  | 0, _ => ⟨[], rfl, fun i h => absurd h (Nat.not_lt_zero i)⟩
  | n + 1, h => by
    obtain ⟨l, hl, hq⟩ := list_of Q n (fun i hi => h i (by omega))
    obtain ⟨x, hx⟩ := h n (by omega)
    refine ⟨l ++ [x], by rw [List.length_append, hl]; rfl, fun i hi => ?_⟩
    rw [List.length_append, hl] at hi
    have hi' : i < n + 1 := hi
    by_cases g : i < n
    · rw [List.getElem_append_left (by omega)]; exact hq i (by omega)
    · obtain rfl : i = n := by omega
      rw [List.getElem_append_right (by omega)]
      simpa [hl] using hx
section
variable {H : Type} {enc : TypeId × Value → H} {w : World} {sp : Nat → Bool}
set_option maxRecDepth 100000 in
/-- A slice whose elements can be read. -/
theorem tr_sl {α : Type} {P : World → α → Nat → Nat → Prop} {t e : TypeId} {k fuel : Nat} {cs : List Value} {x : DataW H × List MemPlace} (ht : Tryz.prog.underlying t = some (.slice e)) (hk : Tryz.prog.cellsOf e = k) (k0 : 0 < k)
    (hQ : ∀ n cs y, DataW.trod enc Tryz.prog w 0 sp true n e cs = some y → ∀ b o, (∀ j, j < k → w.cell? ⟨b, o + j, none⟩ = cs[j]?) → ∃ x, P w x b o)
    (h : DataW.trod enc Tryz.prog w 0 sp true fuel t cs = some x) : ∃ ao l cap, cs = [.slice ao l.length cap] ∧ Sl k P w ao l cap := by
  rcases DataW.trod_slice ht h with ⟨rfl, -⟩ | ⟨a, len, cap, elems, rest, n, hn, rfl, -, -, hl, hm, hlen, hel, -⟩
  · exact ⟨none, [], 0, rfl, Sl.empty _⟩
  · have hc : ∀ i, i < len → ∃ cs' y, w.cells? 0 (a.add (i * k)) k = some cs' ∧ DataW.trod enc Tryz.prog w 0 sp true n e cs' = some y := fun i hi => by
      have e := hel i hi
      rw [hk, List.getElem?_eq_getElem (by omega)] at e
      obtain ⟨cs', h1, h2⟩ := Option.bind_eq_some_iff.1 e
      exact ⟨cs', _, h1, h2⟩
    rcases Nat.eq_zero_or_pos len with hz | hp
    · subst hz
      exact ⟨some a, [], cap, rfl, ⟨hl, hm, (fun e => by cases e), fun h => absurd h (Nat.lt_irrefl 0)⟩⟩
    · have hpl : ∃ b o, a = ⟨b, o, none⟩ := by
        obtain ⟨cs', y, h1, -⟩ := hc 0 hp
        obtain ⟨-, hln, hat⟩ := World.cells?_some h1
        have q := hat 0 k0
        rw [Nat.zero_mul] at q
        have e : a.add 0 = a := by simp [Addr.add]
        rw [e] at q
        have hcs : 0 < cs'.length := by omega
        rw [List.getElem?_eq_getElem hcs] at q
        exact at_plain q
      obtain ⟨b, o, rfl⟩ := hpl
      obtain ⟨l, hl2, hv⟩ := list_of (fun i x => P w x b (o + i * k)) len (fun i hi => by
        obtain ⟨cs', y, h1, h2⟩ := hc i hi
        obtain ⟨-, -, hat⟩ := World.cells?_some h1
        refine hQ n cs' y h2 b (o + i * k) fun j hj => ?_
        have := hat j hj
        rw [Go.WideShapes.add_plain, Go.WideShapes.add_plain] at this
        exact this)
      subst hl2
      exact ⟨_, l, cap, rfl, ⟨hl, hm, (fun e => by cases e), fun _ => ⟨b, o, rfl, hv⟩⟩⟩
theorem cellsO : Tryz.prog.cellsOf 3 = 1 ∧ Tryz.prog.cellsOf 42 = 3 ∧ Tryz.prog.cellsOf 24 = 4 ∧ Tryz.prog.cellsOf 27 = 6 ∧ Tryz.prog.cellsOf 22 = 1 ∧ Tryz.prog.cellsOf 25 = 1 := ⟨by kernel_rfl, by kernel_rfl, by kernel_rfl, by kernel_rfl, by kernel_rfl, by kernel_rfl⟩
theorem tr_ints {fuel : Nat} {cs : List Value} {x : DataW H × List MemPlace} (h : DataW.trod enc Tryz.prog w 0 sp true fuel 22 cs = some x) : ∃ ao l cap, cs = [.slice ao l.length cap] ∧ SlI w ao l cap :=
  tr_sl Tryz.underlying22 cellsO.1 (by decide) (fun n cs y hy b o hc => by
    obtain ⟨k, hk, -, wk⟩ := DataW.trod_int Tryz.underlying3 hy
    subst hk
    exact ⟨k, i64_of wk, hc 0 (by decide)⟩) h
set_option maxRecDepth 100000 in
theorem tr_adj {m : Nat} {cs : List Value} {y : DataW H × List MemPlace} (h : DataW.trod enc Tryz.prog w 0 sp true m 42 cs = some y) : ∃ a b c : Int, cs = [.int .i64 a, .int .i64 b, .int .i64 c] ∧ I64 a ∧ I64 b ∧ I64 c := by
  obtain ⟨xs, n, -, -, hlen, hxl, hf⟩ := DataW.trod_struct Tryz.underlying42 h
  rw [cellsO.2.1] at hlen
  match cs, hlen with
  | [v0, v1, v2], _ =>
    have f0 : DataW.trod enc Tryz.prog w 0 sp true n 3 (([v0, v1, v2].drop 0).take (Tryz.prog.cellsOf 3)) = xs[0]? := hf 0 _ rfl
    have f1 : DataW.trod enc Tryz.prog w 0 sp true n 3 (([v0, v1, v2].drop 1).take (Tryz.prog.cellsOf 3)) = xs[1]? := hf 1 _ rfl
    have f2 : DataW.trod enc Tryz.prog w 0 sp true n 3 (([v0, v1, v2].drop 2).take (Tryz.prog.cellsOf 3)) = xs[2]? := hf 2 _ rfl
    simp only [cellsO.1, List.drop_zero, List.drop_succ_cons, List.take_succ_cons, List.take_zero] at f0 f1 f2
    have hx3 : xs.length = 3 := hxl
    rw [List.getElem?_eq_getElem (show 0 < xs.length by omega)] at f0
    rw [List.getElem?_eq_getElem (show 1 < xs.length by omega)] at f1
    rw [List.getElem?_eq_getElem (show 2 < xs.length by omega)] at f2
    obtain ⟨k0, hk0, -, wk0⟩ := DataW.trod_int Tryz.underlying3 f0
    obtain ⟨k1, hk1, -, wk1⟩ := DataW.trod_int Tryz.underlying3 f1
    obtain ⟨k2, hk2, -, wk2⟩ := DataW.trod_int Tryz.underlying3 f2
    obtain rfl : v0 = .int .i64 k0 := by simpa using hk0
    obtain rfl : v1 = .int .i64 k1 := by simpa using hk1
    obtain rfl : v2 = .int .i64 k2 := by simpa using hk2
    exact ⟨k0, k1, k2, rfl, i64_of wk0, i64_of wk1, i64_of wk2⟩
theorem tr_adjs {fuel : Nat} {cs : List Value} {x : DataW H × List MemPlace} (h : DataW.trod enc Tryz.prog w 0 sp true fuel 25 cs = some x) : ∃ ao l cap, cs = [.slice ao l.length cap] ∧ SlJ w ao l cap :=
  tr_sl Tryz.underlying25 cellsO.2.1 (by decide) (fun n cs y hy b o hc => by
    obtain ⟨k0, k1, k2, rfl, i0, i1, i2⟩ := tr_adj hy
    exact ⟨(k0, k1, k2), i0, i1, i2, hc 0 (by decide), hc 1 (by decide), hc 2 (by decide)⟩) h
set_option maxRecDepth 100000 in
theorem tr_col {m : Nat} {v0 v1 v2 v3 : Value} {y : DataW H × List MemPlace} (h : DataW.trod enc Tryz.prog w 0 sp true m 24 [v0, v1, v2, v3] = some y) : ∃ c A, [v0, v1, v2, v3] = (colC c A).toList ∧ CIn w c A := by
  obtain ⟨xs, n, -, -, hlen, hxl, hf⟩ := DataW.trod_struct Tryz.underlying24 h
  have f0 : DataW.trod enc Tryz.prog w 0 sp true n 22 (([v0, v1, v2, v3].drop 0).take (Tryz.prog.cellsOf 22)) = xs[0]? := hf 0 _ rfl
  have f1 : DataW.trod enc Tryz.prog w 0 sp true n 22 (([v0, v1, v2, v3].drop 1).take (Tryz.prog.cellsOf 22)) = xs[1]? := hf 1 _ rfl
  have f2 : DataW.trod enc Tryz.prog w 0 sp true n 22 (([v0, v1, v2, v3].drop 2).take (Tryz.prog.cellsOf 22)) = xs[2]? := hf 2 _ rfl
  have f3 : DataW.trod enc Tryz.prog w 0 sp true n 22 (([v0, v1, v2, v3].drop 3).take (Tryz.prog.cellsOf 22)) = xs[3]? := hf 3 _ rfl
  simp only [cellsO.2.2.2.2.1, List.drop_zero, List.drop_succ_cons, List.take_succ_cons, List.take_zero] at f0 f1 f2 f3
  have hx4 : xs.length = 4 := hxl
  rw [List.getElem?_eq_getElem (show 0 < xs.length by omega)] at f0
  rw [List.getElem?_eq_getElem (show 1 < xs.length by omega)] at f1
  rw [List.getElem?_eq_getElem (show 2 < xs.length by omega)] at f2
  rw [List.getElem?_eq_getElem (show 3 < xs.length by omega)] at f3
  obtain ⟨a0, l0, c0, e0, s0⟩ := tr_ints f0
  obtain ⟨a1, l1, c1, e1, s1⟩ := tr_ints f1
  obtain ⟨a2, l2, c2, e2, s2⟩ := tr_ints f2
  obtain ⟨a3, l3, c3, e3, s3⟩ := tr_ints f3
  obtain rfl : v0 = .slice a0 l0.length c0 := by simpa using e0
  obtain rfl : v1 = .slice a1 l1.length c1 := by simpa using e1
  obtain rfl : v2 = .slice a2 l2.length c2 := by simpa using e2
  obtain rfl : v3 = .slice a3 l3.length c3 := by simpa using e3
  exact ⟨⟨l0, l1, l2, l3⟩, ⟨a0, a1, a2, a3, c0, c1, c2, c3⟩, rfl, s0, s1, s2, s3⟩
set_option maxRecDepth 100000 in
theorem open_ov {v : Value} {base : Nat} {d : DataW H} {p : List MemPlace} (hv : Value.okWide Tryz.prog w .any base 27 v) (h : DataW.Trod enc Tryz.prog w 0 sp true 27 v d p) :
    ∃ o A, v = ovv o A ∧ OIn w o A := by
  obtain ⟨cs, rfl, hsz⟩ := okWide_struct Tryz.underlying27 hv
  obtain ⟨l⟩ := cs
  obtain ⟨fuel, hf0⟩ := h
  obtain ⟨xs, n, -, -, hlen, hxl, hf⟩ := DataW.trod_struct Tryz.underlying27 hf0
  match l, hsz.trans cellsO.2.2.2.1 with
  | [v0, v1, v2, v3, v4, v5], _ =>
    have f0 : DataW.trod enc Tryz.prog w 0 sp true n 24 (([v0, v1, v2, v3, v4, v5].drop 0).take (Tryz.prog.cellsOf 24)) = xs[0]? := hf 0 _ rfl
    have f1 : DataW.trod enc Tryz.prog w 0 sp true n 25 (([v0, v1, v2, v3, v4, v5].drop 4).take (Tryz.prog.cellsOf 25)) = xs[1]? := hf 1 _ rfl
    have f2 : DataW.trod enc Tryz.prog w 0 sp true n 22 (([v0, v1, v2, v3, v4, v5].drop 5).take (Tryz.prog.cellsOf 22)) = xs[2]? := hf 2 _ rfl
    simp only [cellsO.2.2.1, cellsO.2.2.2.2.1, cellsO.2.2.2.2.2, List.drop_zero, List.drop_succ_cons, List.take_succ_cons, List.take_zero] at f0 f1 f2
    have hx3 : xs.length = 3 := hxl
    rw [List.getElem?_eq_getElem (show 0 < xs.length by omega)] at f0
    rw [List.getElem?_eq_getElem (show 1 < xs.length by omega)] at f1
    rw [List.getElem?_eq_getElem (show 2 < xs.length by omega)] at f2
    obtain ⟨c, A, ec, hc⟩ := tr_col f0
    obtain ⟨a1, l1, c1, e1, s1⟩ := tr_adjs f1
    obtain ⟨a2, l2, c2, e2, s2⟩ := tr_ints f2
    obtain rfl : v4 = .slice a1 l1.length c1 := by simpa using e1
    obtain rfl : v5 = .slice a2 l2.length c2 := by simpa using e2
    unfold colC at ec
    simp only [List.cons.injEq, and_true] at ec
    obtain ⟨rfl, rfl, rfl, rfl⟩ := ec
    exact ⟨⟨c, l1, l2⟩, ⟨A, a1, a2, c1, c2⟩, rfl, hc, s1, s2⟩
set_option maxRecDepth 100000 in
theorem open_adj {v : Value} {base : Nat} {d : DataW H} {p : List MemPlace} (hv : Value.okWide Tryz.prog w .any base 42 v) (h : DataW.Trod enc Tryz.prog w 0 sp true 42 v d p) :
    ∃ a : Aj, v = adv a ∧ I64 a.1 ∧ I64 a.2.1 ∧ I64 a.2.2 := by
  obtain ⟨cs, rfl, hsz⟩ := okWide_struct Tryz.underlying42 hv
  obtain ⟨l⟩ := cs
  obtain ⟨fuel, hf0⟩ := h
  obtain ⟨k0, k1, k2, e, hi⟩ := tr_adj hf0
  have e' : l = [.int .i64 k0, .int .i64 k1, .int .i64 k2] := e
  subst e'
  exact ⟨(k0, k1, k2), rfl, hi⟩
end
end Go.Proofs.YtpjikijfendmhaaGreat
