
/-
  The law's small functions: whether an entry is below another, whether two lists are the same, whether an overlay is small. Nothing that was there turns.
-/
import Derived.Test.YtpjikijfendmhaaGreatOvJ
namespace Go.Proofs.YtpjikijfendmhaaGreat
open Go.RowKit

theorem neq_adj (x y : Int × Int × Int) (w : World) : (binOp .neq 42 (.agg #[.int .i64 x.1, .int .i64 x.2.1, .int .i64 x.2.2]) (.agg #[.int .i64 y.1, .int .i64 y.2.1, .int .i64 y.2.2])).run Tryz.prog w = .ok (.bool (!eqJ x y)) w := by
  have u3 := Tryz.underlying3
  have a3 := Tryz.isAgg3
  have z3 := Tryz.sizeOf3
  have hS : Tryz.prog.underlying 42 = some (.struct (Tryz.prog.fieldsOf 42)) := by kernel_rfl
  have hp : Tryz.prog.stoodInHeld 42 = false := by kernel_rfl
  rw [run_neq_struct, show (10000 : Nat) = 9999 + 1 from rfl, run_equalIn_agg w 9999 42 _ _ hS hp]
  unfold eqJ
  simp only [Program.fieldsOf, Tryz.underlying42]
  go_simp
  by_cases h1 : x.1 = y.1 <;> by_cases h2 : x.2.1 = y.2.1 <;> by_cases h3 : x.2.2 = y.2.2 <;> simp [h1, h2, h3]
theorem list_ne {l m : List Aj} {i : Nat} (h1 : i < l.length) (h2 : i < m.length) (h : l[i] ≠ m[i]) : l ≠ m := fun e => h (by subst e; rfl)
set_option maxHeartbeats 3200000 in
set_option maxRecDepth 100000 in
theorem adjs_any (l m : List Aj) (a1 a2 : Option Addr) (k1 k2 : Nat) (w : World) (hs : SlJ w a1 l k1) (hm : SlJ w a2 m k2) :
    Calls Tryz.prog 14 #[.slice a1 l.length k1, .slice a2 m.length k2] w (FwB w (decide (l = m))) := by
  have hl := hs.len
  have hl2 := hm.len
  have HS := Lib.hid hs
  have HM := Lib.hid hm
  obtain ⟨R, hR⟩ : ∃ R, R = decide (l = m) := ⟨_, rfl⟩
  rw [← hR]
  have HR := Lib.hid hR
  clear hs hm hR
  go_enter Tryz.func14, Tryz.ntmps14
  by_cases hlen : l.length = m.length
  · have hi : (l.length : Int) = (m.length : Int) := by omega
    go_wp2
    go_loopw [5] (fun iv wr => ∃ i : Nat, iv = .int .i64 i ∧ i ≤ l.length ∧ Hid (∀ (j : Nat) (h : j < l.length) (h' : j < m.length), j < i → l[j] = m[j]) ∧ Hid (Fuw w wr)) (fun iv _ => l.length - (RowKit.intOf iv).toNat)
    case atStart => exact ⟨0, rfl, Nat.zero_le _, Lib.hid (fun j _ _ h => absurd h (Nat.not_lt_zero _)), Lib.hid (Fuw.refl _)⟩
    case round =>
      obtain ⟨i, rfl, hi2, HQ, hf⟩ := hrel
      by_cases hlt : i < l.length
      · have hlt2 : i < m.length := by omega
        obtain ⟨b, o, rfl, -, -, -, c0, c1, c2⟩ := (slJ_on hf.out HS.out).get hlt
        obtain ⟨b', o', rfl, -, -, -, d0, d1, d2⟩ := (slJ_on hf.out HM.out).get hlt2
        have heq := fun w' => neq_adj l[i] m[i] w'
        have hgd := fun (op : BinOp) (p q : Operand) (xs ys : Array Value) (w' : World) => run_eqGuard_agg w' op 42 p q xs ys guard_adj
        obtain ⟨q, hq⟩ : ∃ q, eqJ l[i] m[i] = q := ⟨_, rfl⟩
        simp only [hq] at heq
        have HQ2 := Lib.hid (show (q = true ↔ l[i] = m[i]) by rw [← hq]; exact eqJ_iff _ _)
        clear hq
        generalize l[i].1 = x0 at *
        generalize l[i].2.1 = x1 at *
        generalize l[i].2.2 = x2 at *
        generalize m[i].1 = y0 at *
        generalize m[i].2.1 = y1 at *
        generalize m[i].2.2 = y2 at *
        have z1 : (i : Int) < (l.length : Int) := by omega
        have z2 : (i : Int) < (m.length : Int) := by omega
        have HF := Lib.hid hf.out.drew
        cases q
        · have HZ := Lib.hid (show R = false from by rw [HR.out]; exact decide_eq_false (list_ne hlt hlt2 fun e => by have := HQ2.out.2 e; cases this))
          go_upto_region 6 with fail
          go_region
          go_wp2
          go_ret
          exact ⟨ret_bool HZ.out.symm, HF.out⟩
        · have HZ := Lib.hid (show ∀ (j : Nat) (h : j < l.length) (h' : j < m.length), j < i + 1 → l[j] = m[j] from fun j h h' hj => by
            rcases Nat.lt_or_eq_of_le (Nat.le_of_lt_succ hj) with g | g
            · exact HQ.out j h h' g
            · subst g; exact HQ2.out.1 rfl)
          go_upto_region 6 with fail
          go_region
          go_wp2
          go_roundw
          case rel => exact ⟨i + 1, by go_num, by omega, HZ, HF⟩
          case measure => simp [RowKit.intOf]; omega
      · have HZ := Lib.hid (show R = true from by rw [HR.out]; exact decide_eq_true (List.ext_getElem hlen fun j h h' => HQ.out j h h' (by omega)))
        have hge : ¬ (i : Int) < (l.length : Int) := by omega
        go_wp2
        go_ret
        exact ⟨ret_bool HZ.out.symm, hf.out⟩
  · have hi : ¬ (l.length : Int) = (m.length : Int) := by omega
    have HZ := Lib.hid (show R = false from by rw [HR.out]; exact decide_eq_false (fun e => hlen (by rw [e])))
    go_wp2
    go_ret
    exact ⟨ret_bool HZ.out.symm, Fuw.refl _⟩
/-- A list that fits the law's bounds. -/
structure Few (o : Ov) : Prop where
  n : o.c.ns.length ≤ 100
  f : o.c.fs.length ≤ 101
  t : o.c.ts.length ≤ 100
  e : o.c.es.length ≤ 100
  a : o.ads.length ≤ 60
  d : o.dls.length ≤ 60
def RetFew (w : World) (o : Ov) (e : Ending) (w' : World) : Prop := ∃ q, e = .returned (.bool q) ∧ (q = true → Few o) ∧ Fuw w w'
set_option maxHeartbeats 3200000 in
set_option maxRecDepth 100000 in
theorem few_any (o : Ov) (A : OA) (w : World) : Calls Tryz.prog 6 #[ovv o A] w (RetFew w o) := by
  obtain ⟨w0, hw0⟩ : ∃ w0, w.alloc (.cells (ovC o A) 27) = w0 := ⟨_, rfl⟩
  have B0 := Lib.hid (show OB w0 w.heap.size o A from ⟨by rw [← hw0]; exact Bk.new _ _ _⟩)
  have F0 := Lib.hid (show Fuw w w0 by rw [← hw0]; exact fuwA _ _)
  have d1 := B0.out.c1; have d2 := B0.out.c2; have d3 := B0.out.c3; have d4 := B0.out.c4; have d5 := B0.out.c5; have d6 := B0.out.c6
  have HFew := Lib.hid (fun (h1 : (o.c.ns.length : Int) ≤ 100) (h2 : (o.c.fs.length : Int) ≤ 101) (h3 : (o.c.ts.length : Int) ≤ 100) (h4 : (o.c.es.length : Int) ≤ 100) (h5 : (o.ads.length : Int) ≤ 60) (h6 : (o.dls.length : Int) ≤ 60) => (show Few o from ⟨by omega, by omega, by omega, by omega, by omega, by omega⟩))
  unfold ovv
  unfold ovC at hw0 ⊢
  generalize o.c.ns.length = n1 at *
  generalize o.c.fs.length = n2 at *
  generalize o.c.ts.length = n3 at *
  generalize o.c.es.length = n4 at *
  generalize o.ads.length = n5 at *
  generalize o.dls.length = n6 at *
  go_enter Tryz.func6, Tryz.ntmps6
  go_upto_region 1 with fail
  clear hw0
  by_cases g1 : (n1 : Int) ≤ 100
  · skip
    by_cases g2 : (n2 : Int) ≤ 101
    · skip
      by_cases g3 : (n3 : Int) ≤ 100
      · skip
        by_cases g4 : (n4 : Int) ≤ 100
        · skip
          by_cases g5 : (n5 : Int) ≤ 60
          · skip
            by_cases g6 : (n6 : Int) ≤ 60
            · skip
              go_wp2
              go_ret
              exact ⟨true, ret_bool (by simp_all), fun _ => HFew.out g1 g2 g3 g4 g5 g6, F0.out⟩
            · go_wp2
              go_ret
              exact ⟨false, ret_bool (by simp_all), fun h => (by cases h), F0.out⟩
          · go_wp2
            go_ret
            exact ⟨false, ret_bool (by simp_all), fun h => (by cases h), F0.out⟩
        · go_wp2
          go_ret
          exact ⟨false, ret_bool (by simp_all), fun h => (by cases h), F0.out⟩
      · go_wp2
        go_ret
        exact ⟨false, ret_bool (by simp_all), fun h => (by cases h), F0.out⟩
    · go_wp2
      go_ret
      exact ⟨false, ret_bool (by simp_all), fun h => (by cases h), F0.out⟩
  · go_wp2
    go_ret
    exact ⟨false, ret_bool (by simp_all), fun h => (by cases h), F0.out⟩
end Go.Proofs.YtpjikijfendmhaaGreat
