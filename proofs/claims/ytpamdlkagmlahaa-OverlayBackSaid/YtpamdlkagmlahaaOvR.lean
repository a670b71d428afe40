
/-
  The law's small functions: whether an entry is below another, whether two lists are the same, whether an overlay is small. Nothing that was there turns.
-/
import Derived.Test.YtpamdlkagmlahaaOvJ
namespace Go.Proofs.Ytpamdlkagmlahaa
open Go.RowKit

set_option maxHeartbeats 3200000 in
set_option maxRecDepth 100000 in
theorem less_any (a b : Aj) (w : World) : Calls Try.prog 35 #[adv a, adv b] w (FwB w (adjL a b)) := by
  obtain ⟨f1, t1, e1⟩ := a
  obtain ⟨f2, t2, e2⟩ := b
  have HJ := Lib.hid (show adjL (f1, t1, e1) (f2, t2, e2) = (decide (f1 < f2) || (decide (f1 = f2) && (decide (t1 < t2) || (decide (t1 = t2) && decide (e1 < e2))))) from rfl)
  generalize adjL (f1, t1, e1) (f2, t2, e2) = R at *
  unfold adv
  obtain ⟨w0, hw0⟩ : ∃ w0, w.alloc (.cells #[.int .i64 f1, .int .i64 t1, .int .i64 e1] 29) = w0 := ⟨_, rfl⟩
  obtain ⟨w1, hw1⟩ : ∃ w1, w0.alloc (.cells #[.int .i64 f2, .int .i64 t2, .int .i64 e2] 29) = w1 := ⟨_, rfl⟩
  have F0 := Lib.hid (show Fuw w w0 by rw [← hw0]; exact fuwA _ _)
  have F1 := Lib.hid (show Fuw w0 w1 by rw [← hw1]; exact fuwA _ _)
  have B0 := Lib.hid (show Bk w1 w.heap.size #[.int .i64 f1, .int .i64 t1, .int .i64 e1] 29 from (show Bk w0 w.heap.size _ _ by rw [← hw0]; exact Bk.new _ _ _).on F1.out)
  have B1 := Lib.hid (show Bk w1 w0.heap.size #[.int .i64 f2, .int .i64 t2, .int .i64 e2] 29 by rw [← hw1]; exact Bk.new _ _ _)
  have c0 := B0.out.c 0; have c1 := B0.out.c 1; have c2 := B0.out.c 2
  have d0 := B1.out.c 0; have d1 := B1.out.c 1; have d2 := B1.out.c 2
  simp only [List.getElem?_toArray, List.getElem?_cons_zero, List.getElem?_cons_succ] at c0 c1 c2 d0 d1 d2
  have FF := Lib.hid (F0.out.trans F1.out)
  go_enter Try.func35, Try.ntmps35
  go_upto_region 1 with fail
  clear hw0 hw1
  by_cases h1 : f1 = f2
  · by_cases h2 : t1 = t2
    · have HZ := Lib.hid (show R = decide (e1 < e2) by rw [HJ.out, decide_eq_true h1, decide_eq_true h2, decide_eq_false (show ¬ f1 < f2 by omega), decide_eq_false (show ¬ t1 < t2 by omega)]; simp)
      subst h1; subst h2
      go_wp2
      go_ret
      exact ⟨ret_bool HZ.out.symm, FF.out⟩
    · have HZ := Lib.hid (show R = decide (t1 < t2) by rw [HJ.out, decide_eq_true h1, decide_eq_false h2, decide_eq_false (show ¬ f1 < f2 by omega)]; simp)
      subst h1
      go_wp2
      go_ret
      exact ⟨ret_bool HZ.out.symm, FF.out⟩
  · have HZ := Lib.hid (show R = decide (f1 < f2) by rw [HJ.out, decide_eq_false h1]; simp)
    go_wp2
    go_ret
    exact ⟨ret_bool HZ.out.symm, FF.out⟩
theorem neq_adj (x y : Int × Int × Int) (w : World) : (binOp .neq 29 (.agg #[.int .i64 x.1, .int .i64 x.2.1, .int .i64 x.2.2]) (.agg #[.int .i64 y.1, .int .i64 y.2.1, .int .i64 y.2.2])).run Try.prog w = .ok (.bool (!eqJ x y)) w := by
  have u3 := Try.underlying3
  have a3 := Try.isAgg3
  have z3 := Try.sizeOf3
  have hS : Try.prog.underlying 29 = some (.struct (Try.prog.fieldsOf 29)) := by kernel_rfl
  have hp : Try.prog.stoodInHeld 29 = false := by kernel_rfl
  rw [run_neq_struct, show (10000 : Nat) = 9999 + 1 from rfl, run_equalIn_agg w 9999 29 _ _ hS hp]
  unfold eqJ
  simp only [Program.fieldsOf, Try.underlying29]
  go_simp
  by_cases h1 : x.1 = y.1 <;> by_cases h2 : x.2.1 = y.2.1 <;> by_cases h3 : x.2.2 = y.2.2 <;> simp [h1, h2, h3]
theorem list_ne {l m : List Aj} {i : Nat} (h1 : i < l.length) (h2 : i < m.length) (h : l[i] ≠ m[i]) : l ≠ m := fun e => h (by subst e; rfl)
set_option maxHeartbeats 3200000 in
set_option maxRecDepth 100000 in
theorem adjs_any (l m : List Aj) (a1 a2 : Option Addr) (k1 k2 : Nat) (w : World) (hs : SlJ w a1 l k1) (hm : SlJ w a2 m k2) :
    Calls Try.prog 10 #[.slice a1 l.length k1, .slice a2 m.length k2] w (FwB w (decide (l = m))) := by
  have hl := hs.len
  have hl2 := hm.len
  have HS := Lib.hid hs
  have HM := Lib.hid hm
  obtain ⟨R, hR⟩ : ∃ R, R = decide (l = m) := ⟨_, rfl⟩
  rw [← hR]
  have HR := Lib.hid hR
  clear hs hm hR
  go_enter Try.func10, Try.ntmps10
  by_cases hlen : l.length = m.length
  · have hi : (l.length : Int) = (m.length : Int) := by omega
    go_wp2
    go_loopw [5] (fun iv wr => ∃ i : Nat, iv = .int .i64 i ∧ i ≤ l.length ∧ Hid (∀ (j : Nat) (h : j < l.length) (h' : j < m.length), j < i → l[j] = m[j]) ∧ Hid (Fuw w wr)) (fun iv _ => l.length - (RowKit.intOf iv).toNat)
    case atStart => exact ⟨0, rfl, Nat.zero_le _, Lib.hid (fun j _ _ h => absurd h (Nat.not_lt_zero _)), Lib.hid (Fuw.refl _)⟩
    case round =>
      obtain ⟨i, rfl, hi2, HQ, hf⟩ := hrel
      by_cases hlt : i < l.length
      · have hlt2 : i < m.length := by omega
        obtain ⟨b, o, rfl, -, -, -, c0, c1, c2⟩ := (slJ_on hf.out HS.out).get hlt
        obtain ⟨b', o', rfl, -, -, -, d0, d1, d2⟩ := (slJ_on hf.out HM.out).get hlt2
        have heq := fun w' => neq_adj l[i] m[i] w'
        have hgd := fun (op : BinOp) (p q : Operand) (xs ys : Array Value) (w' : World) => run_eqGuard_agg w' op 29 p q xs ys guard_adj
        obtain ⟨q, hq⟩ : ∃ q, eqJ l[i] m[i] = q := ⟨_, rfl⟩
        simp only [hq] at heq
        have HQ2 := Lib.hid (show (q = true ↔ l[i] = m[i]) by rw [← hq]; exact eqJ_iff _ _)
        clear hq
        generalize l[i].1 = x0 at *
        generalize l[i].2.1 = x1 at *
        generalize l[i].2.2 = x2 at *
        generalize m[i].1 = y0 at *
        generalize m[i].2.1 = y1 at *
        generalize m[i].2.2 = y2 at *
        have z1 : (i : Int) < (l.length : Int) := by omega
        have z2 : (i : Int) < (m.length : Int) := by omega
        have HF := Lib.hid hf.out.drew
        cases q
        · have HZ := Lib.hid (show R = false from by rw [HR.out]; exact decide_eq_false (list_ne hlt hlt2 fun e => by have := HQ2.out.2 e; cases this))
          go_upto_region 6 with fail
          go_region
          go_wp2
          go_ret
          exact ⟨ret_bool HZ.out.symm, HF.out⟩
        · have HZ := Lib.hid (show ∀ (j : Nat) (h : j < l.length) (h' : j < m.length), j < i + 1 → l[j] = m[j] from fun j h h' hj => by
            rcases Nat.lt_or_eq_of_le (Nat.le_of_lt_succ hj) with g | g
            · exact HQ.out j h h' g
            · subst g; exact HQ2.out.1 rfl)
          go_upto_region 6 with fail
          go_region
          go_wp2
          go_roundw
          case rel => exact ⟨i + 1, by go_num, by omega, HZ, HF⟩
          case measure => simp [RowKit.intOf]; omega
      · have HZ := Lib.hid (show R = true from by rw [HR.out]; exact decide_eq_true (List.ext_getElem hlen fun j h h' => HQ.out j h h' (by omega)))
        have hge : ¬ (i : Int) < (l.length : Int) := by omega
        go_wp2
        go_ret
        exact ⟨ret_bool HZ.out.symm, hf.out⟩
  · have hi : ¬ (l.length : Int) = (m.length : Int) := by omega
    have HZ := Lib.hid (show R = false from by rw [HR.out]; exact decide_eq_false (fun e => hlen (by rw [e])))
    go_wp2
    go_ret
    exact ⟨ret_bool HZ.out.symm, Fuw.refl _⟩
/-- A list that fits the law's bounds. -/
structure Few (o : Ov) : Prop where
  n : o.c.ns.length ≤ 100
  f : o.c.fs.length ≤ 101
  t : o.c.ts.length ≤ 100
  e : o.c.es.length ≤ 100
  a : o.ads.length ≤ 60
  d : o.dls.length ≤ 60
def RetFew (w : World) (o : Ov) (e : Ending) (w' : World) : Prop := ∃ q, e = .returned (.bool q) ∧ (q = true → Few o) ∧ Fuw w w'
set_option maxHeartbeats 3200000 in
set_option maxRecDepth 100000 in
theorem few_any (o : Ov) (A : OA) (w : World) : Calls Try.prog 4 #[ovv o A] w (RetFew w o) := by
  obtain ⟨w0, hw0⟩ : ∃ w0, w.alloc (.cells (ovC o A) 27) = w0 := ⟨_, rfl⟩
  have B0 := Lib.hid (show OB w0 w.heap.size o A from ⟨by rw [← hw0]; exact Bk.new _ _ _⟩)
  have F0 := Lib.hid (show Fuw w w0 by rw [← hw0]; exact fuwA _ _)
  have d1 := B0.out.c1; have d2 := B0.out.c2; have d3 := B0.out.c3; have d4 := B0.out.c4; have d5 := B0.out.c5; have d6 := B0.out.c6
  have HFew := Lib.hid (fun (h1 : (o.c.ns.length : Int) ≤ 100) (h2 : (o.c.fs.length : Int) ≤ 101) (h3 : (o.c.ts.length : Int) ≤ 100) (h4 : (o.c.es.length : Int) ≤ 100) (h5 : (o.ads.length : Int) ≤ 60) (h6 : (o.dls.length : Int) ≤ 60) => (show Few o from ⟨by omega, by omega, by omega, by omega, by omega, by omega⟩))
  unfold ovv
  unfold ovC at hw0 ⊢
  generalize o.c.ns.length = n1 at *
  generalize o.c.fs.length = n2 at *
  generalize o.c.ts.length = n3 at *
  generalize o.c.es.length = n4 at *
  generalize o.ads.length = n5 at *
  generalize o.dls.length = n6 at *
  go_enter Try.func4, Try.ntmps4
  go_upto_region 1 with fail
  clear hw0
  by_cases g1 : (n1 : Int) ≤ 100
  · skip
    by_cases g2 : (n2 : Int) ≤ 101
    · skip
      by_cases g3 : (n3 : Int) ≤ 100
      · skip
        by_cases g4 : (n4 : Int) ≤ 100
        · skip
          by_cases g5 : (n5 : Int) ≤ 60
          · skip
            by_cases g6 : (n6 : Int) ≤ 60
            · skip
              go_wp2
              go_ret
              exact ⟨true, ret_bool (by simp_all), fun _ => HFew.out g1 g2 g3 g4 g5 g6, F0.out⟩
            · go_wp2
              go_ret
              exact ⟨false, ret_bool (by simp_all), fun h => (by cases h), F0.out⟩
          · go_wp2
            go_ret
            exact ⟨false, ret_bool (by simp_all), fun h => (by cases h), F0.out⟩
        · go_wp2
          go_ret
          exact ⟨false, ret_bool (by simp_all), fun h => (by cases h), F0.out⟩
      · go_wp2
        go_ret
        exact ⟨false, ret_bool (by simp_all), fun h => (by cases h), F0.out⟩
    · go_wp2
      go_ret
      exact ⟨false, ret_bool (by simp_all), fun h => (by cases h), F0.out⟩
  · go_wp2
    go_ret
    exact ⟨false, ret_bool (by simp_all), fun h => (by cases h), F0.out⟩
end Go.Proofs.Ytpamdlkagmlahaa
