
/-
  Package overlay: where an edge stands in a list of entries, whether an entry stands in it, where it would stand in order. Nothing that was there turns.
-/
import Derived.Test.YtpjikijfendmhaaGreatOvH
import Derived.Deep.CutRange
namespace Go.Proofs.YtpjikijfendmhaaGreat
open Go.RowKit

def eqJ (x y : Int × Int × Int) : Bool := (x.1 == y.1) && ((x.2.1 == y.2.1) && (x.2.2 == y.2.2))
theorem eqJ_iff (x y : Aj) : eqJ x y = true ↔ x = y := by
  unfold eqJ
  simp only [Bool.and_eq_true, beq_iff_eq]
  constructor
  · rintro ⟨a, b, c⟩; exact adj3_eq a b c
  · rintro rfl; exact ⟨rfl, rfl, rfl⟩
theorem eql_adj (x y : Int × Int × Int) (w : World) : (binOp .eql 42 (.agg #[.int .i64 x.1, .int .i64 x.2.1, .int .i64 x.2.2]) (.agg #[.int .i64 y.1, .int .i64 y.2.1, .int .i64 y.2.2])).run Tryz.prog w = .ok (.bool (eqJ x y)) w := by
  have u3 := Tryz.underlying3
  have a3 := Tryz.isAgg3
  have z3 := Tryz.sizeOf3
  have hS : Tryz.prog.underlying 42 = some (.struct (Tryz.prog.fieldsOf 42)) := by kernel_rfl
  have hp : Tryz.prog.stoodInHeld 42 = false := by kernel_rfl
  rw [run_eql_struct, show (10000 : Nat) = 9999 + 1 from rfl, run_equalIn_agg w 9999 42 _ _ hS hp]
  unfold eqJ
  simp only [Program.fieldsOf, Tryz.underlying42]
  go_simp
  by_cases h1 : x.1 = y.1 <;> by_cases h2 : x.2.1 = y.2.1 <;> by_cases h3 : x.2.2 = y.2.2 <;> simp [h1, h2, h3]
theorem guard_adj : Tryz.prog.eqGuardType Tryz.prog.depth 42 = false := by kernel_rfl

set_option maxHeartbeats 3200000 in
set_option maxRecDepth 100000 in
/-- The closure of indexOf. -/
theorem idx1_any (x : Aj) (e : Int) (B : Nat) (w : World) (hB : w.cell? ⟨B, 0, none⟩ = some (.int .i64 e)) :
    Calls Tryz.prog 85 #[adv x, .pointer (some ⟨B, 0, none⟩)] w (FwB w (x.2.2 == e)) := by
  obtain ⟨f, t, g⟩ := x
  unfold adv
  obtain ⟨w0, hw0⟩ : ∃ w0, w.alloc (.cells #[.int .i64 f, .int .i64 t, .int .i64 g] 42) = w0 := ⟨_, rfl⟩
  have B0 := Lib.hid (show Bk w0 w.heap.size #[.int .i64 f, .int .i64 t, .int .i64 g] 42 by rw [← hw0]; exact Bk.new _ _ _)
  have F0 := Lib.hid (show Fuw w w0 by rw [← hw0]; exact fuwA _ _)
  have d2 := B0.out.c 2
  have dB := cellOnw F0.out hB
  simp only [List.getElem?_toArray, List.getElem?_cons_zero, List.getElem?_cons_succ] at d2
  simp only
  generalize hq : (g == e) = q
  have HQ := Lib.hid hq
  clear hB hq
  go_enter Tryz.func85, Tryz.ntmps85
  go_upto_region 1 with fail
  clear hw0
  go_wp2
  all_goals
    go_ret
    exact ⟨ret_bool (by first | exact HQ.out | (rw [← HQ.out]; simp_all)), F0.out⟩
/-- Where an edge stands in a list of entries; or minus one. -/
def IsPos (l : List Aj) (e k : Int) : Prop := ((edg l).contains e = false ∧ k = -1) ∨ ∃ (j : Nat) (h : j < l.length), k = j ∧ l[j].2.2 = e ∧ (edg l).contains e = true
def RetPos (w : World) (l : List Aj) (e : Int) (x : Ending) (w' : World) : Prop := ∃ k, x = .returned (.int .i64 k) ∧ IsPos l e k ∧ Fuw w w'
theorem edg_get {l : List Aj} {e : Int} : (edg l).contains e = true ↔ ∃ (j : Nat) (h : j < l.length), l[j].2.2 = e := by
  rw [List.contains_iff_mem]
  unfold edg
  constructor
  · intro h
    obtain ⟨x, hx, rfl⟩ := List.mem_map.1 h
    obtain ⟨j, hj, rfl⟩ := List.getElem_of_mem hx
    exact ⟨j, hj, rfl⟩
  · rintro ⟨j, h, rfl⟩
    exact List.mem_map_of_mem (List.getElem_mem h)
set_option maxHeartbeats 3200000 in
set_option maxRecDepth 100000 in
theorem idxf_any (l : List Aj) (ao : Option Addr) (cap : Nat) (e : Int) (B : Nat) (w : World) (hs : SlJ w ao l cap) (hB : w.cell? ⟨B, 0, none⟩ = some (.int .i64 e)) :
    Calls Tryz.prog 84 #[.slice ao l.length cap, .func (.func 85) #[] #[.pointer (some ⟨B, 0, none⟩)]] w (RetPos w l e) := by
  have hl := hs.len
  have HS := Lib.hid hs
  have HB := Lib.hid hB
  clear hs hB
  go_enter Tryz.func84, Tryz.ntmps84
  go_wp2
  go_loopw [8] (fun iv wr => ∃ i : Nat, iv = .int .i64 i ∧ i ≤ l.length ∧ Hid (∀ (j : Nat) (h : j < l.length), j < i → l[j].2.2 ≠ e) ∧ Hid (Fuw w wr)) (fun iv _ => l.length - (RowKit.intOf iv).toNat)
  case atStart => exact ⟨0, rfl, Nat.zero_le _, Lib.hid (fun j _ h => absurd h (Nat.not_lt_zero _)), Lib.hid (Fuw.refl _)⟩
  case round =>
    obtain ⟨i, rfl, hi, HQ, hf⟩ := hrel
    by_cases hlt : i < l.length
    · obtain ⟨b, o, rfl, -, -, -, c0, c1, c2⟩ := (slJ_on hf.out HS.out).get hlt
      have HC := Lib.hid (idx1_any l[i] e B wr (cellOnw hf.out HB.out))
      obtain ⟨q, hq⟩ : ∃ q, (l[i].2.2 == e) = q := ⟨_, rfl⟩
      rw [hq] at HC
      have HQ2 := Lib.hid hq
      clear hq
      unfold adv at HC
      obtain ⟨x, hx⟩ : ∃ x, l[i] = x := ⟨_, rfl⟩
      rw [hx] at c0 c1 c2 HC
      clear hx
      obtain ⟨x0, x1, x2⟩ := x
      simp only at c0 c1 c2 HC
      go_wp2_with fail
      go_at_call 85; refine HC.out.mono ?_; rintro e1 w1 ⟨rfl, f1⟩
      have HF := Lib.hid (hf.out.trans f1)
      clear f1 c0 c1 c2
      cases q
      · have HZ := Lib.hid (show ∀ (j : Nat) (h : j < l.length), j < i + 1 → l[j].2.2 ≠ e from fun j h hj => by
          rcases Nat.lt_or_eq_of_le (Nat.le_of_lt_succ hj) with g | g
          · exact HQ.out j h g
          · subst g; simpa using HQ2.out)
        go_wp2
        go_roundw
        case rel => exact ⟨i + 1, by go_num, by omega, HZ, HF⟩
        case measure => simp [RowKit.intOf]; omega
      · have HZ := Lib.hid (show IsPos l e (i : Int) from .inr ⟨i, hlt, rfl, by simpa using HQ2.out, edg_get.2 ⟨i, hlt, by simpa using HQ2.out⟩⟩)
        go_wp2
        go_ret
        exact ⟨_, rfl, HZ.out, HF.out⟩
    · have HZ := Lib.hid (show IsPos l e (-1) from .inl ⟨by
        rw [Bool.eq_false_iff]
        intro h
        obtain ⟨j, hj, he⟩ := edg_get.1 h
        exact HQ.out j hj (by omega) he, rfl⟩)
      have hge : ¬ (i : Int) < (l.length : Int) := by omega
      go_wp2
      go_ret
      exact ⟨_, rfl, HZ.out, hf.out⟩
set_option maxHeartbeats 3200000 in
set_option maxRecDepth 100000 in
theorem idxof_any (l : List Aj) (ao : Option Addr) (cap : Nat) (e : Int) (w : World) (hs : SlJ w ao l cap) :
    Calls Tryz.prog 48 #[.slice ao l.length cap, .int .i64 e] w (RetPos w l e) := by
  obtain ⟨w0, hw0⟩ : ∃ w0, w.alloc (.cells #[.int .i64 e] 3) = w0 := ⟨_, rfl⟩
  have B0 := Lib.hid (show w0.cell? ⟨w.heap.size, 0, none⟩ = some (.int .i64 e) by rw [← hw0]; exact (Bk.new _ _ _).c 0)
  have F0 := Lib.hid (show Fuw w w0 by rw [← hw0]; exact fuwA _ _)
  have HC := Lib.hid (idxf_any l ao cap e w.heap.size w0 (slJ_on F0.out hs) B0.out)
  unfold RetPos at HC
  clear hs
  go_enter Tryz.func48, Tryz.ntmps48
  go_upto_region 1 with fail
  clear hw0
  go_wp2_with fail
  go_at_call 84; refine HC.out.mono ?_; rintro e1 w1 ⟨k, rfl, hp, f1⟩
  have HP := Lib.hid hp
  have HF := Lib.hid (F0.out.trans f1)
  clear hp f1
  go_wp2
  go_ret
  exact ⟨_, rfl, HP.out, HF.out⟩
def RetIx (w : World) (l : List Aj) (x : Aj) (y : Ending) (w' : World) : Prop := ∃ k : Int, y = .returned (.int .i64 k) ∧ decide (0 ≤ k) = l.contains x ∧ Fuw w w'
set_option maxHeartbeats 3200000 in
set_option maxRecDepth 100000 in
theorem index_any (l : List Aj) (ao : Option Addr) (cap : Nat) (x : Aj) (w : World) (hs : SlJ w ao l cap) :
    Calls Tryz.prog 86 #[.slice ao l.length cap, adv x] w (RetIx w l x) := by
  have hl := hs.len
  obtain ⟨w0, hw0⟩ : ∃ w0, w.alloc (.cells #[.int .i64 x.1, .int .i64 x.2.1, .int .i64 x.2.2] 42) = w0 := ⟨_, rfl⟩
  have B0 := Lib.hid (show Bk w0 w.heap.size #[.int .i64 x.1, .int .i64 x.2.1, .int .i64 x.2.2] 42 by rw [← hw0]; exact Bk.new _ _ _)
  have F0 := Lib.hid (show Fuw w w0 by rw [← hw0]; exact fuwA _ _)
  have HS := Lib.hid (slJ_on F0.out hs)
  unfold adv
  clear hs
  go_enter Tryz.func86, Tryz.ntmps86
  go_upto_region 1 with fail
  clear hw0
  go_wp2
  go_loopw [8] (fun iv wr => ∃ i : Nat, iv = .int .i64 i ∧ i ≤ l.length ∧ Hid (∀ (j : Nat) (h : j < l.length), j < i → l[j] ≠ x) ∧ Hid (Fuw w0 wr)) (fun iv _ => l.length - (RowKit.intOf iv).toNat)
  case atStart => exact ⟨0, rfl, Nat.zero_le _, Lib.hid (fun j _ h => absurd h (Nat.not_lt_zero _)), Lib.hid (Fuw.refl _)⟩
  case round =>
    obtain ⟨i, rfl, hi, HQ, hf⟩ := hrel
    by_cases hlt : i < l.length
    · obtain ⟨b, o, rfl, -, -, -, c0, c1, c2⟩ := (slJ_on hf.out HS.out).get hlt
      have d0 := (B0.out.on hf.out).c 0; have d1 := (B0.out.on hf.out).c 1; have d2 := (B0.out.on hf.out).c 2
      simp only [List.getElem?_toArray, List.getElem?_cons_zero, List.getElem?_cons_succ] at d0 d1 d2
      have heq := fun w' => eql_adj x l[i] w'
      have hgd := fun (op : BinOp) (p q : Operand) (xs ys : Array Value) (w' : World) => run_eqGuard_agg w' op 42 p q xs ys guard_adj
      obtain ⟨q, hq⟩ : ∃ q, eqJ x l[i] = q := ⟨_, rfl⟩
      simp only [hq] at heq
      have HQ2 := Lib.hid hq
      clear hq
      obtain ⟨y, hy⟩ : ∃ y, l[i] = y := ⟨_, rfl⟩
      rw [hy] at c0 c1 c2 heq
      clear hy
      generalize y.1 = y0 at *
      generalize y.2.1 = y1 at *
      generalize y.2.2 = y2 at *
      generalize hx0 : x.1 = x0 at *
      generalize hx1 : x.2.1 = x1 at *
      generalize hx2 : x.2.2 = x2 at *
      clear hx0 hx1 hx2
      have z1 : (i : Int) < (l.length : Int) := by omega
      have HF := Lib.hid hf.out.drew
      cases q
      · have HZ := Lib.hid (show ∀ (j : Nat) (h : j < l.length), j < i + 1 → l[j] ≠ x from fun j h hj => by
          rcases Nat.lt_or_eq_of_le (Nat.le_of_lt_succ hj) with g | g
          · exact HQ.out j h g
          · subst g
            intro e
            have := HQ2.out
            rw [(eqJ_iff x l[j]).2 e.symm] at this
            cases this)
        go_upto_region 4 with fail
        go_region
        go_wp2
        go_roundw
        case rel => exact ⟨i + 1, by go_num, by omega, HZ, HF⟩
        case measure => simp [RowKit.intOf]; omega
      · have HZ := Lib.hid (show decide (0 ≤ (i : Int)) = l.contains x from by
          rw [decide_eq_true (by omega)]
          have e := (eqJ_iff x l[i]).1 HQ2.out
          exact (List.contains_iff_mem.2 (e ▸ List.getElem_mem hlt)).symm)
        go_upto_region 4 with fail
        go_region
        go_wp2
        go_ret
        exact ⟨_, rfl, HZ.out, F0.out.trans HF.out⟩
    · have HZ := Lib.hid (show decide (0 ≤ (-1 : Int)) = l.contains x from by
        rw [decide_eq_false (by omega)]
        symm
        rw [containsJ_false]
        intro h
        obtain ⟨j, hj, he⟩ := List.getElem_of_mem h
        exact HQ.out j hj (by omega) he)
      have hge : ¬ (i : Int) < (l.length : Int) := by omega
      go_wp2
      go_ret
      exact ⟨_, rfl, HZ.out, F0.out.trans hf.out⟩
set_option maxHeartbeats 3200000 in
set_option maxRecDepth 100000 in
theorem contj_any (l : List Aj) (ao : Option Addr) (cap : Nat) (x : Aj) (w : World) (hs : SlJ w ao l cap) :
    Calls Tryz.prog 49 #[.slice ao l.length cap, adv x] w (FwB w (l.contains x)) := by
  obtain ⟨w0, hw0⟩ : ∃ w0, w.alloc (.cells #[.int .i64 x.1, .int .i64 x.2.1, .int .i64 x.2.2] 42) = w0 := ⟨_, rfl⟩
  have B0 := Lib.hid (show Bk w0 w.heap.size #[.int .i64 x.1, .int .i64 x.2.1, .int .i64 x.2.2] 42 by rw [← hw0]; exact Bk.new _ _ _)
  have F0 := Lib.hid (show Fuw w w0 by rw [← hw0]; exact fuwA _ _)
  have HC := Lib.hid (index_any l ao cap x w0 (slJ_on F0.out hs))
  have d0 := B0.out.c 0; have d1 := B0.out.c 1; have d2 := B0.out.c 2
  simp only [List.getElem?_toArray, List.getElem?_cons_zero, List.getElem?_cons_succ] at d0 d1 d2
  unfold adv at HC ⊢
  unfold RetIx at HC
  generalize l.contains x = q at *
  clear hs
  go_enter Tryz.func49, Tryz.ntmps49
  go_upto_region 1 with fail
  clear hw0
  go_wp2_with fail
  go_at_call 86; refine HC.out.mono ?_; rintro e1 w1 ⟨k, rfl, hk, f1⟩
  have HK := Lib.hid hk
  have HF := Lib.hid (F0.out.trans f1)
  clear hk f1
  go_wp2
  all_goals
    go_ret
    exact ⟨ret_bool (by first | exact HK.out | (rw [← HK.out]; simp_all)), HF.out⟩
end Go.Proofs.YtpjikijfendmhaaGreat
