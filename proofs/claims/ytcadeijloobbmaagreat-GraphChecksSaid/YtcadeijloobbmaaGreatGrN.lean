/-
  The reference of package graph: the entry of an edge at a node; whether two slices of entries are equal; few. Nothing that was there turns.
-/
import Derived.Test.YtcadeijloobbmaaGreatGrL
import Derived.Laws.StructEq
namespace Go.Proofs.YtcadeijloobbmaaGreat
open Go.RowKit

theorem load_adj (w : World) (b : Nat) (x y z : Int) (h0 : w.cell? ⟨b, 0, none⟩ = some (.int .i64 x)) (h1 : w.cell? ⟨b, 1, none⟩ = some (.int .i64 y)) (h2 : w.cell? ⟨b, 2, none⟩ = some (.int .i64 z)) :
    (loadVar 48 ⟨b, 0, none⟩).run Tryz.prog w = .ok (.agg #[.int .i64 x, .int .i64 y, .int .i64 z]) w := by
  go_simp
theorem j_ret {fn : Func} {p u : Tmp} (hres : fn.results = #[.cell p 48, .tmp u]) {tmps : Array Value} {B : Nat} {x y z : Int} {c : Bool} {w : World} {t : TypeId} {Q : Ending → World → Prop}
    (hp : tmps.getD p undef = .pointer (some ⟨B, 0, none⟩)) (hu : tmps.getD u undef = .bool c) (h : Bk w B #[.int .i64 x, .int .i64 y, .int .i64 z] t)
    (hQ : Q (.returned (.tuple #[.agg #[.int .i64 x, .int .i64 y, .int .i64 z], .bool c])) w) : bodyPost Tryz.prog fn Q Exit.ret { tmps := tmps, defers := [] } w := by
  refine bodyPost_ret (v := .tuple #[.agg #[.int .i64 x, .int .i64 y, .int .i64 z], .bool c]) ?_ rfl hQ
  rw [results_cell_tmp hres, hp, hu]
  have e : (asAddr (.pointer (some ⟨B, 0, none⟩))).run Tryz.prog w = .ok ⟨B, 0, none⟩ w := by go_simp
  rw [e]
  simp only [Result.andThen]
  rw [load_adj w B x y z (h.c 0) (h.c 1) (h.c 2)]
theorem bk2 (w : World) (o : Obj) (cs : Array Value) (t : TypeId) : Bk ((w.alloc o).alloc (.cells cs t)) (w.heap.size + 1) cs t := by
  have k := Bk.new (w.alloc o) cs t
  rwa [show (w.alloc o).heap.size = w.heap.size + 1 by simp] at k
theorem ret_j {u b b' v : Int} {c : Bool} (h : b = b') : Ending.returned (.tuple #[.agg #[.int .i64 u, .int .i64 b, .int .i64 v], .bool c]) = .returned (.tuple #[.agg #[.int .i64 u, .int .i64 b', .int .i64 v], .bool c]) := by rw [h]
/-! Two slices of entries. -/
def eqJ (x y : Int × Int × Int) : Bool := (x.1 == y.1) && ((x.2.1 == y.2.1) && (x.2.2 == y.2.2))
def samJ (a b : List (Int × Int × Int)) : Bool := al2 eqJ a b
theorem samJ_self (a : List (Int × Int × Int)) : samJ a a = true := al2_self _ a (fun x _ => by unfold eqJ; simp)
theorem neq_adj (x y : Int × Int × Int) (w : World) : (binOp .neq 48 (.agg #[.int .i64 x.1, .int .i64 x.2.1, .int .i64 x.2.2]) (.agg #[.int .i64 y.1, .int .i64 y.2.1, .int .i64 y.2.2])).run Tryz.prog w = .ok (.bool (!eqJ x y)) w := by
  have u3 := Tryz.underlying3
  have a3 := Tryz.isAgg3
  have z3 := Tryz.sizeOf3
  have hS : Tryz.prog.underlying 48 = some (.struct (Tryz.prog.fieldsOf 48)) := by kernel_rfl
  have hp : Tryz.prog.stoodInHeld 48 = false := by kernel_rfl
  rw [run_neq_struct, show (10000 : Nat) = 9999 + 1 from rfl, run_equalIn_agg w 9999 48 _ _ hS hp]
  unfold eqJ
  simp only [Program.fieldsOf, Tryz.underlying48]
  go_simp
  by_cases h1 : x.1 = y.1 <;> by_cases h2 : x.2.1 = y.2.1 <;> by_cases h3 : x.2.2 = y.2.2 <;> simp [h1, h2, h3]
theorem eql_adj (x y : Int × Int × Int) (w : World) : (binOp .eql 48 (.agg #[.int .i64 x.1, .int .i64 x.2.1, .int .i64 x.2.2]) (.agg #[.int .i64 y.1, .int .i64 y.2.1, .int .i64 y.2.2])).run Tryz.prog w = .ok (.bool (eqJ x y)) w := by
  have u3 := Tryz.underlying3
  have a3 := Tryz.isAgg3
  have z3 := Tryz.sizeOf3
  have hS : Tryz.prog.underlying 48 = some (.struct (Tryz.prog.fieldsOf 48)) := by kernel_rfl
  have hp : Tryz.prog.stoodInHeld 48 = false := by kernel_rfl
  rw [run_eql_struct, show (10000 : Nat) = 9999 + 1 from rfl, run_equalIn_agg w 9999 48 _ _ hS hp]
  unfold eqJ
  simp only [Program.fieldsOf, Tryz.underlying48]
  go_simp
  by_cases h1 : x.1 = y.1 <;> by_cases h2 : x.2.1 = y.2.1 <;> by_cases h3 : x.2.2 = y.2.2 <;> simp [h1, h2, h3]
theorem guard_adj : Tryz.prog.eqGuardType Tryz.prog.depth 48 = false := by kernel_rfl
set_option maxHeartbeats 1600000 in
set_option maxRecDepth 100000 in
theorem samj_any (a b : List (Int × Int × Int)) (ao bo : Option Addr) (ca cb : Nat) (w : World) (ha : SlJ w ao a ca) (hb : SlJ w bo b cb) :
    Calls Tryz.prog 20 #[.slice ao a.length ca, .slice bo b.length cb] w (FwB w (samJ a b)) := by
  have la := ha.len
  have lb := hb.len
  have HA := Lib.hid ha
  have HB := Lib.hid hb
  clear ha hb
  obtain ⟨R, hR⟩ : ∃ R, R = samJ a b := ⟨_, rfl⟩
  rw [← hR]
  have HR := Lib.hid hR
  clear hR
  by_cases hl : a.length = b.length
  · have HL := Lib.hid hl
    have hq : ((a.length : Int) != (b.length : Int)) = false := by rw [hl]; simp
    have hS := Lib.hid (show R = al2 eqJ (a.drop 0) (b.drop 0) from HR.out)
    clear hl
    go_enter Tryz.func20, Tryz.ntmps20
    go_wp2
    clear hq
    go_loopw [5] (fun iv wr => ∃ i : Nat, iv = .int .i64 i ∧ i ≤ a.length ∧ Hid (R = al2 eqJ (a.drop i) (b.drop i)) ∧ Hid (Fuw w wr)) (fun iv _ => a.length - (RowKit.intOf iv).toNat)
    case atStart => exact ⟨0, rfl, Nat.zero_le _, hS, Fuw.refl _⟩
    case round =>
      obtain ⟨i, rfl, hi, HQ, hf⟩ := hrel
      by_cases hlt : i < a.length
      · have hlb : i < b.length := by have := HL.out; omega
        obtain ⟨g, o, rfl, c0, c1, c2⟩ := (slJ_on hf.out HA.out).get hlt
        obtain ⟨g', o', rfl, d0, d1, d2⟩ := (slJ_on hf.out HB.out).get hlb
        have HD := Lib.hid (HQ.out.trans (al2_drop eqJ a b i hlt hlb))
        have hne := neq_adj a[i] b[i]
        have hgd := fun (op : BinOp) (p q : Operand) (xs ys : Array Value) (w' : World) => run_eqGuard_agg w' op 48 p q xs ys guard_adj
        generalize eqJ a[i] b[i] = r at *
        generalize a[i].1 = x0 at *
        generalize a[i].2.1 = x1 at *
        generalize a[i].2.2 = x2 at *
        generalize b[i].1 = y0 at *
        generalize b[i].2.1 = y1 at *
        generalize b[i].2.2 = y2 at *
        cases r
        · have HZ := Lib.hid (show R = false from HD.out)
          go_wp2
          go_quiet (fail)
          clear hne hgd
          go_wp2
          go_ret
          exact ⟨ret_bool HZ.out.symm, hf.out.trans (fuw_dr _ _)⟩
        · have HZ := Lib.hid (show R = al2 eqJ (a.drop (i + 1)) (b.drop (i + 1)) from HD.out)
          go_wp2
          go_quiet (fail)
          clear hne hgd
          go_wp2
          go_roundw
          case rel => exact ⟨i + 1, by go_num, by omega, HZ, hf.out.trans (fuw_dr _ _)⟩
          case measure => simp [RowKit.intOf]; omega
      · have HZ := Lib.hid (show R = true by rw [HQ.out, al2_end _ _ _ _ (by omega) (by have := HL.out; omega)])
        go_wp2
        go_ret
        exact ⟨ret_bool HZ.out.symm, hf.out⟩
  · have HZ := Lib.hid (show R = false by rw [HR.out]; exact al2_len _ _ _ hl)
    have hq : ((a.length : Int) != (b.length : Int)) = true := by rw [bne_iff_ne]; omega
    clear hl
    go_enter Tryz.func20, Tryz.ntmps20
    go_wp2
    go_ret
    exact ⟨ret_bool HZ.out.symm, Fuw.refl _⟩
end Go.Proofs.YtcadeijloobbmaaGreat
