/-
  Go's cmp.Or of two ints; package graph's order of the entries at a node. Nothing that was there turns.
-/
import Derived.Test.YtcadeijloobbmaaGreatGrF
namespace Go.Proofs.YtcadeijloobbmaaGreat
open Go.RowKit

set_option maxHeartbeats 1600000 in
set_option maxRecDepth 100000 in
theorem or2_any (a b : Int) (B : Nat) (w : World) (h0 : w.cell? ⟨B, 0, none⟩ = some (.int .i64 a)) (h1 : w.cell? ⟨B, 1, none⟩ = some (.int .i64 b)) :
    Calls Tryz.prog 57 #[.slice (some ⟨B, 0, none⟩) 2 2] w (PureI w (thn a b)) := by
  have HC : Hid (∀ i : Nat, i < 2 → w.cell? ⟨B, i, none⟩ = some (.int .i64 (if i = 0 then a else b))) := Lib.hid (fun i hi => by
    rcases (show i = 0 ∨ i = 1 by omega) with rfl | rfl
    · exact h0
    · exact h1)
  obtain ⟨R, hR⟩ : ∃ R, R = thn a b := ⟨_, rfl⟩
  rw [← hR]
  have HR := Lib.hid hR
  clear hR h0 h1
  go_enter Tryz.func57, Tryz.ntmps57
  go_wp2
  go_loop [8] (fun iv => ∃ i : Nat, iv = .int .i64 i ∧ i ≤ 2 ∧ Hid ((0 < i → a = 0) ∧ (1 < i → b = 0))) (fun iv => 2 - (RowKit.intOf iv).toNat)
  case atStart => exact ⟨0, rfl, by omega, ⟨fun h => absurd h (by omega), fun h => absurd h (by omega)⟩⟩
  case round =>
    obtain ⟨i, rfl, hi, HQ⟩ := hrel
    by_cases hlt : i < 2
    · have c0 := HC.out i hlt
      have hlt' : (i : Int) < 2 := by omega
      obtain ⟨v, hv⟩ : ∃ v, v = (if i = 0 then a else b) := ⟨_, rfl⟩
      rw [← hv] at c0
      have HV := Lib.hid hv
      clear hv HC
      by_cases hz : v = 0
      · subst hz
        have HZ := Lib.hid (show (0 < i + 1 → a = 0) ∧ (1 < i + 1 → b = 0) from by
          have h := HV.out
          refine ⟨fun _ => ?_, fun g => ?_⟩
          · rcases (show i = 0 ∨ i = 1 by omega) with e | e
            · rw [if_pos e] at h; exact h.symm
            · exact HQ.out.1 (by omega)
          · rw [if_neg (by omega)] at h; exact h.symm)
        go_wp2
        go_round
        case rel => exact ⟨i + 1, by go_num, by omega, HZ⟩
        case measure => simp [RowKit.intOf]; omega
      · have hz' : (v != 0) = true := by rw [bne_iff_ne]; exact hz
        have HZ := Lib.hid (show R = v by
          rw [HR.out, HV.out]
          rcases (show i = 0 ∨ i = 1 by omega) with e | e
          · have hz2 := hz
            rw [HV.out, if_pos e] at hz2
            rw [if_pos e]; exact thn_n hz2 _
          · rw [if_neg (by omega), HQ.out.1 (by omega)]; rfl)
        clear hz
        go_wp2
        go_ret
        exact ⟨ret_int HZ.out.symm, rfl⟩
    · have HZ := Lib.hid (show R = 0 by rw [HR.out, HQ.out.1 (by omega), HQ.out.2 (by omega)]; rfl)
      have hge : ¬ (i : Int) < 2 := by omega
      clear HQ HC
      go_wp2
      go_ret
      exact ⟨ret_int HZ.out.symm, rfl⟩

/-- An entry as the model has it. -/
def adv (f t e : Int) : Value := .agg #[.int .i64 f, .int .i64 t, .int .i64 e]
set_option maxHeartbeats 3200000 in
set_option maxRecDepth 100000 in
theorem ord_any (f1 t1 e1 f2 t2 e2 : Int) (w : World) : Calls Tryz.prog 40 #[adv f1 t1 e1, adv f2 t2 e2] w (RetI w (adjc (t1, e1) (t2, e2))) := by
  have HJ := Lib.hid (show adjc (t1, e1) (t2, e2) = thn (intc t1 t2) (intc e1 e2) from rfl)
  generalize adjc (t1, e1) (t2, e2) = R at *
  unfold adv
  have p1 := Bk.new w #[.int .i64 f1, .int .i64 t1, .int .i64 e1] 48
  have s1 : (w.alloc (.cells #[.int .i64 f1, .int .i64 t1, .int .i64 e1] 48)).heap.size = w.heap.size + 1 := by simp
  have p2 := Bk.new (w.alloc (.cells #[.int .i64 f1, .int .i64 t1, .int .i64 e1] 48)) #[.int .i64 f2, .int .i64 t2, .int .i64 e2] 48
  rw [s1] at p2
  replace p1 := p1.on (fuwA _ (.cells #[.int .i64 f2, .int .i64 t2, .int .i64 e2] 48))
  have f0 := ((Fur.refl w).alloc (.cells #[.int .i64 f1, .int .i64 t1, .int .i64 e1] 48)).alloc (.cells #[.int .i64 f2, .int .i64 t2, .int .i64 e2] 48)
  clear s1
  go_enter Tryz.func40, Tryz.ntmps40
  go_upto_region 1 with fail
  generalize (w.alloc (.cells #[.int .i64 f1, .int .i64 t1, .int .i64 e1] 48)).alloc (.cells #[.int .i64 f2, .int .i64 t2, .int .i64 e2] 48) = W at *
  have c1 : W.cell? ⟨w.heap.size, 1, none⟩ = some (.int .i64 t1) := p1.c 1
  have c2 : W.cell? ⟨w.heap.size, 2, none⟩ = some (.int .i64 e1) := p1.c 2
  have d1 : W.cell? ⟨w.heap.size + 1, 1, none⟩ = some (.int .i64 t2) := p2.c 1
  have d2 : W.cell? ⟨w.heap.size + 1, 2, none⟩ = some (.int .i64 e2) := p2.c 2
  have hk := f0.size
  have ff : Fur W W.drew := Fur.drew (Fur.refl W)
  have F0 := Lib.hid f0
  clear p1 p2 f0
  go_region_held3 (fun w' => Fur W w' ∧ w'.cell? ⟨w.heap.size, 1, none⟩ = some (.int .i64 t1) ∧ w'.cell? ⟨w.heap.size, 2, none⟩ = some (.int .i64 e1) ∧ w'.cell? ⟨w.heap.size + 1, 1, none⟩ = some (.int .i64 t2) ∧ w'.cell? ⟨w.heap.size + 1, 2, none⟩ = some (.int .i64 e2))
    (first | exact ⟨ff, c1, c2, d1, d2⟩ | exact ⟨ff.alloc _, cellOn (ff.alloc _) c1, cellOn (ff.alloc _) c2, cellOn (ff.alloc _) d1, cellOn (ff.alloc _) d2⟩)
    (first
      | (go_at_call 58; refine (cmpi_any _ _ _).mono ?_; rintro e w4 ⟨rfl, rfl⟩)
      | (go_at_call 57; refine (or2_any (intc t1 t2) (intc e1 e2) _ _ ((Bk.new _ _ _).c 0) ((Bk.new _ _ _).c 1)).mono ?_; rintro e w4 ⟨rfl, rfl⟩))
  all_goals
    go_wp2
    go_ret
    exact ⟨ret_int HJ.out.symm, F0.out.trans (ff.alloc _)⟩
end Go.Proofs.YtcadeijloobbmaaGreat
