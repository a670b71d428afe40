/-
  M39; ChFr: texts of one kind in one file; each part says what it holds.
-/
import Derived.Test.YtfbijdoomkgodaaGreatDoorTK01
import Derived.ProofKit
import Derived.Lib.SmallJoins
import Derived.OpenShut
import Derived.Deep.Slices
import Derived.ChangeSame
import Derived.Carry
import Derived.Test.YtfbijdoomkgodaaGreatDoorRows
import Derived.Test.YtfbijdoomkgodaaGreatDoorTK34
import Derived.Test.YtfbijdoomkgodaaGreatDoorTK26
import Derived.SizedLaws
import Derived.LaidMore
import Derived.Lay
import Derived.Stop.Joined
import Derived.Stop.LaidErr
import Derived.HandedShaped
import Derived.Shelf.Vars

/-! GrV; GrOp: texts of one kind in one file; each part says what it holds. -/

/-! An argument that is a value, opened: whatever can be read at the type of values is a value in memory (Vx). No statement is proved here. -/
namespace Go.Proofs.YtfbijdoomkgodaaGreatDoor
open Go.ChangeShapes Go.WideShapes Go.ChangeAt Go.RowKit Go.Joins

theorem i64_of {n : Int} (h : (Lit.int .i64 n).wf = true) : -9223372036854775808 ≤ n ∧ n ≤ 9223372036854775807 := by
  simp [Lit.wf, IntKind.min, IntKind.max, IntKind.signed, IntKind.bits] at h
  omega
theorem cellsV : Tryz.prog.cellsOf 28 = 5 := by kernel_rfl
theorem cells1 : Tryz.prog.cellsOf 3 = 1 ∧ Tryz.prog.cellsOf 9 = 1 ∧ Tryz.prog.cellsOf 26 = 1 := ⟨by kernel_rfl, by kernel_rfl, by kernel_rfl⟩
/-- Values one behind the other, one at a time. -/
theorem VE_all (w : World) : ∀ (len b o : Nat), (∀ i, i < len → ∃ x, VC w x b (o + i * 5)) → ∃ l : List Vl, l.length = len ∧ VE w l b o
  | 0, _, _, _ => ⟨[], rfl, by unfold VE; trivial⟩
  | n + 1, b, o, h => by
    obtain ⟨x, hx⟩ := h 0 (by omega)
    obtain ⟨l, hl, hv⟩ := VE_all w n b (o + 5) (fun i hi => by
      obtain ⟨y, hy⟩ := h (i + 1) (by omega)
      exact ⟨y, by rwa [show o + 5 + i * 5 = o + (i + 1) * 5 by omega]⟩)
    refine ⟨x :: l, by rw [List.length_cons, hl], ?_⟩
    unfold VE
    exact ⟨by simpa using hx, hv⟩
theorem at_plain {w : World} {a : Addr} {v : Value} (h : w.cell? (a.add 0) = some v) : ∃ b o, a = ⟨b, o, none⟩ := by
  obtain ⟨b, o, spot⟩ := a
  have hspot : spot = none := by simpa [Addr.add] using World.cell?_spot h
  subst hspot
  exact ⟨b, o, rfl⟩
/-- The cells of a value. -/
def Cells5 (w : World) (cs : List Value) : Prop := ∃ x ao cap, cs = [.int .i64 x.kd, .int .i64 x.nn, .int .i64 x.dd, .string (bs x.ss), .slice ao x.ll.length cap] ∧ Vin x ∧ SlV w ao x.ll cap
set_option maxRecDepth 100000 in
/-- A slice of values that can be read. -/
theorem tr_slice {H : Type} {enc : TypeId × Value → H} {w : World} {sp : Nat → Bool} {fuel : Nat} {cs : List Value} {x : DataW H × List MemPlace}
    (ih : ∀ n cs y, n < fuel → DataW.trod enc Tryz.prog w 0 sp true n 28 cs = some y → Cells5 w cs)
    (h : DataW.trod enc Tryz.prog w 0 sp true fuel 26 cs = some x) : ∃ ao l cap, cs = [.slice ao l.length cap] ∧ SlV w ao l cap := by
  rcases DataW.trod_slice Tryz.underlying26 h with ⟨rfl, -⟩ | ⟨a, len, cap, elems, rest, n, hn, rfl, -, -, hl, hm, hlen, hel, -⟩
  · exact ⟨none, [], 0, rfl, ⟨Nat.le_refl _, Nat.zero_le _, fun _ => rfl, fun h => absurd h (by decide)⟩⟩
  · have hc : ∀ i, i < len → ∃ cs', w.cells? 0 (a.add (i * 5)) 5 = some cs' ∧ Cells5 w cs' := fun i hi => by
      have e := hel i hi
      rw [cellsV, List.getElem?_eq_getElem (by omega)] at e
      obtain ⟨cs', h1, h2⟩ := Option.bind_eq_some_iff.1 e
      exact ⟨cs', h1, ih n cs' _ (by omega) h2⟩
    rcases Nat.eq_zero_or_pos len with hz | hp
    · subst hz
      exact ⟨some a, [], cap, rfl, ⟨hl, hm, (fun e => by cases e), fun h => absurd h (by decide)⟩⟩
    · have hpl : ∃ b o, a = ⟨b, o, none⟩ := by
        obtain ⟨cs', h1, x0, ao0, cap0, rfl, -⟩ := hc 0 hp
        obtain ⟨-, -, hat⟩ := World.cells?_some h1
        have k := hat 0 (by decide)
        rw [Nat.zero_mul] at k
        have e : a.add 0 = a := by simp [Addr.add]
        rw [e] at k
        exact at_plain k
      obtain ⟨b, o, rfl⟩ := hpl
      obtain ⟨l, hl2, hv⟩ := VE_all w len b o (fun i hi => by
        obtain ⟨cs', h1, x0, ao0, cap0, rfl, hi0, hs0⟩ := hc i hi
        obtain ⟨-, -, hat⟩ := World.cells?_some h1
        have k : ∀ j, j < 5 → w.cell? ⟨b, o + i * 5 + j, none⟩ = ([.int .i64 x0.kd, .int .i64 x0.nn, .int .i64 x0.dd, .string (bs x0.ss), .slice ao0 x0.ll.length cap0] : List Value)[j]? := fun j hj => by
          have := hat j hj
          rw [Go.WideShapes.add_plain, Go.WideShapes.add_plain] at this
          exact this
        exact ⟨x0, VC_mk hi0 (k 0 (by decide)) (k 1 (by decide)) (k 2 (by decide)) (k 3 (by decide)) (k 4 (by decide)) hs0⟩)
      subst hl2
      exact ⟨_, l, cap, rfl, ⟨hl, hm, (fun e => by cases e), fun _ => ⟨b, o, rfl, hv⟩⟩⟩
set_option maxRecDepth 100000 in
theorem tr_val {H : Type} {enc : TypeId × Value → H} {w : World} {sp : Nat → Bool} : ∀ (fuel m : Nat), m ≤ fuel → ∀ (cs : List Value) (y : DataW H × List MemPlace), DataW.trod enc Tryz.prog w 0 sp true m 28 cs = some y → Cells5 w cs := by
  intro fuel
  induction fuel with
  | zero =>
    intro m hm cs y h
    obtain rfl : m = 0 := by omega
    simp [DataW.trod] at h
  | succ f ih =>
    intro m hm cs y h
    obtain ⟨xs, n, rfl, -, hlen, hxl, hf⟩ := DataW.trod_struct Tryz.underlying28 h
    rw [cellsV] at hlen
    match cs, hlen with
    | [v0, v1, v2, v3, v4], _ =>
      have f0 : DataW.trod enc Tryz.prog w 0 sp true n 3 (([v0, v1, v2, v3, v4].drop 0).take (Tryz.prog.cellsOf 3)) = xs[0]? := hf 0 _ rfl
      have f1 : DataW.trod enc Tryz.prog w 0 sp true n 3 (([v0, v1, v2, v3, v4].drop 1).take (Tryz.prog.cellsOf 3)) = xs[1]? := hf 1 _ rfl
      have f2 : DataW.trod enc Tryz.prog w 0 sp true n 3 (([v0, v1, v2, v3, v4].drop 2).take (Tryz.prog.cellsOf 3)) = xs[2]? := hf 2 _ rfl
      have f3 : DataW.trod enc Tryz.prog w 0 sp true n 9 (([v0, v1, v2, v3, v4].drop 3).take (Tryz.prog.cellsOf 9)) = xs[3]? := hf 3 _ rfl
      have f4 : DataW.trod enc Tryz.prog w 0 sp true n 26 (([v0, v1, v2, v3, v4].drop 4).take (Tryz.prog.cellsOf 26)) = xs[4]? := hf 4 _ rfl
      simp only [cells1.1, cells1.2.1, cells1.2.2, List.drop_zero, List.drop_succ_cons, List.take_succ_cons, List.take_zero] at f0 f1 f2 f3 f4
      have g : ∀ (j : Nat), j < 5 → ∃ z, xs[j]? = some z := fun j hj => by
        refine ⟨_, List.getElem?_eq_getElem ?_⟩
        have : xs.length = 5 := hxl
        omega
      obtain ⟨z0, e0⟩ := g 0 (by decide)
      obtain ⟨z1, e1⟩ := g 1 (by decide)
      obtain ⟨z2, e2⟩ := g 2 (by decide)
      obtain ⟨z3, e3⟩ := g 3 (by decide)
      obtain ⟨z4, e4⟩ := g 4 (by decide)
      rw [e0] at f0; rw [e1] at f1; rw [e2] at f2; rw [e3] at f3; rw [e4] at f4
      obtain ⟨k, hk, -, wk⟩ := DataW.trod_int Tryz.underlying3 f0
      obtain ⟨a, ha, -, wa⟩ := DataW.trod_int Tryz.underlying3 f1
      obtain ⟨d, hd, -, wd⟩ := DataW.trod_int Tryz.underlying3 f2
      obtain ⟨s, hs, -, ws⟩ := DataW.trod_string Tryz.underlying9 f3
      obtain ⟨ao, l, cap, hl, hsl⟩ := tr_slice (fun n' cs' y' hn' h' => ih n' (by omega) cs' y' h') f4
      obtain rfl : v0 = .int .i64 k := by simpa using hk
      obtain rfl : v1 = .int .i64 a := by simpa using ha
      obtain rfl : v2 = .int .i64 d := by simpa using hd
      obtain rfl : v3 = .string s := by simpa using hs
      obtain rfl : v4 = .slice ao l.length cap := by simpa using hl
      refine ⟨.mk k a d s.data.toList l, ao, cap, rfl, ⟨i64_of wk, i64_of wa, i64_of wd, ?_⟩, hsl⟩
      show s.data.toList.length ≤ maxLen
      rw [Array.length_toList]; exact ws
end Go.Proofs.YtfbijdoomkgodaaGreatDoor

/-! An argument that is a graph, or a slice of strings, opened: whatever can be read at the type is a graph, or a list of strings, in memory. No statement is proved here. -/
namespace Go.Proofs.YtfbijdoomkgodaaGreatDoor
open Go.ChangeShapes Go.WideShapes Go.ChangeAt Go.RowKit Go.Joins

section
variable {H : Type} {enc : TypeId × Value → H} {w : World} {sp : Nat → Bool}
theorem tr_str {n : Nat} {cs : List Value} {y : DataW H × List MemPlace} (h : DataW.trod enc Tryz.prog w 0 sp true n 9 cs = some y) : ∃ s : List UInt8, cs = [.string (bs s)] ∧ s.length ≤ maxLen := by
  obtain ⟨s, hs, -, ws⟩ := DataW.trod_string Tryz.underlying9 h
  refine ⟨s.data.toList, by rw [hs]; simp [bs], ?_⟩
  rw [Array.length_toList]; exact ws
end
end Go.Proofs.YtfbijdoomkgodaaGreatDoor

/-! What the rows of this seat have in common: an argument that is a change, opened; from the listed variables' condition to the walks (Good); a start that meets it. No statement is proved here. -/
namespace Go.Proofs.YtfbijdoomkgodaaGreatDoor
open Go.ChangeShapes Go.WideShapes Go.ChangeAt Go.RowKit Go.Joins

theorem laidOut : laidOutB Tryz.prog = true := by kernel_rfl
theorem own : ownKnob Tryz.prog.godebug = none := by kernel_rfl
theorem gPT : Tryz.prog.globalNamed "internal/strconv.uint64pow10" = some 0 := by kernel_rfl
theorem tPT : (Tryz.prog.globals[0]?).map (·.type) = some 209 := by kernel_rfl
def laid5 : List (String × DataW Unit) := [("math/bits.deBruijn32tab", Rows.laid_math_bits_deBruijn32tab), ("math/bits.deBruijn64tab", Rows.laid_math_bits_deBruijn64tab), ("internal/strconv.uint64pow10", Rows.laid_internal_strconv_uint64pow10), ("unicode/utf8.acceptRanges", Rows.laid_unicode_utf8_acceptRanges), ("unicode/utf8.first", Rows.laid_unicode_utf8_first)]
theorem laid_plain (W : World) : laidMetH Tryz.prog laid5 W = laidMet Tryz.prog laid5 W := MakeChecks.laidMetH_plain _ _ _ (by kernel_rfl)
/-- A world in which the listed variables are laid. -/
theorem lay_met (os : Os) (args : Array Value) : laidMetH Tryz.prog laid5 ((World.laidAll Tryz.prog os laid5).forCall (fun _ _ => 0) ⟨#[], args, []⟩).memory := by
  rw [laid_plain]
  exact laidMet_laidAll _ (by kernel_rfl) (by kernel_rfl)
theorem good_of {W : World} (h : laidMetH Tryz.prog laid5 W) (hsh : W.ShapedOpen Tryz.prog) : Good W := by
  rw [laid_plain] at h
  have h2 := h.tail.tail
  have e : (Rows.laid_internal_strconv_uint64pow10 : DataW Unit) = Lib.tabData .u64 Lib.pow10Tab := by kernel_rfl
  rw [e] at h2
  exact ⟨Lib.tabIs_of_head gPT tPT Tryz.underlying209 Tryz.underlying182 (by kernel_rfl) (by kernel_rfl) h2,
    Go.Proofs.cell_of_shapedOpen_int (zero := #[.int .i64 0]) (t := 3) hsh (of_decide_eq_true (by kernel_rfl)) (by kernel_rfl) rfl (by kernel_rfl) (by kernel_rfl) Tryz.underlying3⟩
theorem cellsC : Tryz.prog.cellsOf 30 = 10 := by kernel_rfl
section
variable {H : Type} {enc : TypeId × Value → H} {w : World} {sp : Nat → Bool}
set_option maxRecDepth 100000 in
theorem tr_change {m : Nat} {cs : List Value} {y : DataW H × List MemPlace} (h : DataW.trod enc Tryz.prog w 0 sp true m 30 cs = some y) : ∃ c a k, cs = (chC c a k).toList ∧ ChIn w c a k := by
  obtain ⟨xs, n, -, -, hlen, hxl, hf⟩ := DataW.trod_struct Tryz.underlying30 h
  rw [cellsC] at hlen
  match cs, hlen with
  | [v0, v1, v2, v3, v4, v5, v6, v7, v8, v9], _ =>
    have f0 : DataW.trod enc Tryz.prog w 0 sp true n 3 (([v0, v1, v2, v3, v4, v5, v6, v7, v8, v9].drop 0).take (Tryz.prog.cellsOf 3)) = xs[0]? := hf 0 _ rfl
    have f1 : DataW.trod enc Tryz.prog w 0 sp true n 3 (([v0, v1, v2, v3, v4, v5, v6, v7, v8, v9].drop 1).take (Tryz.prog.cellsOf 3)) = xs[1]? := hf 1 _ rfl
    have f2 : DataW.trod enc Tryz.prog w 0 sp true n 3 (([v0, v1, v2, v3, v4, v5, v6, v7, v8, v9].drop 2).take (Tryz.prog.cellsOf 3)) = xs[2]? := hf 2 _ rfl
    have f3 : DataW.trod enc Tryz.prog w 0 sp true n 3 (([v0, v1, v2, v3, v4, v5, v6, v7, v8, v9].drop 3).take (Tryz.prog.cellsOf 3)) = xs[3]? := hf 3 _ rfl
    have f4 : DataW.trod enc Tryz.prog w 0 sp true n 9 (([v0, v1, v2, v3, v4, v5, v6, v7, v8, v9].drop 4).take (Tryz.prog.cellsOf 9)) = xs[4]? := hf 4 _ rfl
    have f5 : DataW.trod enc Tryz.prog w 0 sp true n 28 (([v0, v1, v2, v3, v4, v5, v6, v7, v8, v9].drop 5).take (Tryz.prog.cellsOf 28)) = xs[5]? := hf 5 _ rfl
    simp only [cells1.1, cells1.2.1, cellsV, List.drop_zero, List.drop_succ_cons, List.take_succ_cons, List.take_zero] at f0 f1 f2 f3 f4 f5
    have hx6 : xs.length = 6 := hxl
    rw [List.getElem?_eq_getElem (show 0 < xs.length by omega)] at f0
    rw [List.getElem?_eq_getElem (show 1 < xs.length by omega)] at f1
    rw [List.getElem?_eq_getElem (show 2 < xs.length by omega)] at f2
    rw [List.getElem?_eq_getElem (show 3 < xs.length by omega)] at f3
    rw [List.getElem?_eq_getElem (show 4 < xs.length by omega)] at f4
    rw [List.getElem?_eq_getElem (show 5 < xs.length by omega)] at f5
    obtain ⟨k0, e0, -, w0⟩ := DataW.trod_int Tryz.underlying3 f0
    obtain ⟨k1, e1, -, w1⟩ := DataW.trod_int Tryz.underlying3 f1
    obtain ⟨k2, e2, -, w2⟩ := DataW.trod_int Tryz.underlying3 f2
    obtain ⟨k3, e3, -, w3⟩ := DataW.trod_int Tryz.underlying3 f3
    obtain ⟨s, hs, hl⟩ := tr_str f4
    obtain ⟨z, ao, cap, he, hi, hsl⟩ := tr_val n n (Nat.le_refl _) _ _ f5
    obtain rfl : v0 = .int .i64 k0 := by simpa using e0
    obtain rfl : v1 = .int .i64 k1 := by simpa using e1
    obtain rfl : v2 = .int .i64 k2 := by simpa using e2
    obtain rfl : v3 = .int .i64 k3 := by simpa using e3
    obtain rfl : v4 = .string (bs s) := by simpa using hs
    simp only [List.cons.injEq, and_true] at he
    obtain ⟨rfl, rfl, rfl, rfl, rfl⟩ := he
    exact ⟨⟨k0, k1, k2, k3, s, z⟩, ao, cap, rfl, ⟨i64_of w0, i64_of w1, i64_of w2, i64_of w3, hl, hi, hsl⟩⟩
set_option maxRecDepth 100000 in
theorem open_change {v : Value} {base : Nat} {d : DataW H} {p : List MemPlace} (hv : Value.okWide Tryz.prog w .any base 30 v) (h : DataW.Trod enc Tryz.prog w 0 sp true 30 v d p) : ∃ c a k, v = .agg (chC c a k) ∧ ChIn w c a k := by
  obtain ⟨cs, rfl, hsz⟩ := okWide_struct Tryz.underlying30 hv
  obtain ⟨l⟩ := cs
  obtain ⟨fuel, hf0⟩ := h
  obtain ⟨c, a, k, e, hr⟩ := tr_change (cs := l) hf0
  subst e
  exact ⟨c, a, k, rfl, hr⟩
end
end Go.Proofs.YtfbijdoomkgodaaGreatDoor
