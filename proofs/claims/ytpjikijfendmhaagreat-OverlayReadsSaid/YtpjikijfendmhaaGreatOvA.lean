
/-
  Package overlay: the order of entries, increasing lists, ids. Nothing that was there turns.
-/
import Derived.Test.YtpjikijfendmhaaGreatCoW
import Derived.Test.YtpjikijfendmhaaGreatOvM
namespace Go.Proofs.YtpjikijfendmhaaGreat
open Go.RowKit

set_option maxHeartbeats 3200000 in
set_option maxRecDepth 100000 in
theorem ordo_any : Ords 36 := by
  rintro ⟨f1, t1, e1⟩ ⟨f2, t2, e2⟩ w
  have HJ := Lib.hid (show adjc (f1, t1, e1) (f2, t2, e2) = thn (intc f1 f2) (thn (intc t1 t2) (intc e1 e2)) from rfl)
  generalize adjc (f1, t1, e1) (f2, t2, e2) = R at *
  unfold adv
  have p1 := Bk.new w #[.int .i64 f1, .int .i64 t1, .int .i64 e1] 42
  have s1 : (w.alloc (.cells #[.int .i64 f1, .int .i64 t1, .int .i64 e1] 42)).heap.size = w.heap.size + 1 := by simp
  have p2 := Bk.new (w.alloc (.cells #[.int .i64 f1, .int .i64 t1, .int .i64 e1] 42)) #[.int .i64 f2, .int .i64 t2, .int .i64 e2] 42
  rw [s1] at p2
  replace p1 := p1.on (fuwA _ (.cells #[.int .i64 f2, .int .i64 t2, .int .i64 e2] 42))
  have f0 := ((Fur.refl w).alloc (.cells #[.int .i64 f1, .int .i64 t1, .int .i64 e1] 42)).alloc (.cells #[.int .i64 f2, .int .i64 t2, .int .i64 e2] 42)
  clear s1
  go_enter Tryz.func36, Tryz.ntmps36
  go_upto_region 1 with fail
  generalize (w.alloc (.cells #[.int .i64 f1, .int .i64 t1, .int .i64 e1] 42)).alloc (.cells #[.int .i64 f2, .int .i64 t2, .int .i64 e2] 42) = W at *
  have c0 : W.cell? ⟨w.heap.size, 0, none⟩ = some (.int .i64 f1) := p1.c 0
  have c1 : W.cell? ⟨w.heap.size, 1, none⟩ = some (.int .i64 t1) := p1.c 1
  have c2 : W.cell? ⟨w.heap.size, 2, none⟩ = some (.int .i64 e1) := p1.c 2
  have d0 : W.cell? ⟨w.heap.size + 1, 0, none⟩ = some (.int .i64 f2) := p2.c 0
  have d1 : W.cell? ⟨w.heap.size + 1, 1, none⟩ = some (.int .i64 t2) := p2.c 1
  have d2 : W.cell? ⟨w.heap.size + 1, 2, none⟩ = some (.int .i64 e2) := p2.c 2
  have hk := f0.size
  have ff : Fur W W.drew := Fur.drew (Fur.refl W)
  have F0 := Lib.hid f0
  clear p1 p2 f0
  go_region_held3 (fun w' => Fur W w' ∧ w'.cell? ⟨w.heap.size, 0, none⟩ = some (.int .i64 f1) ∧ w'.cell? ⟨w.heap.size, 1, none⟩ = some (.int .i64 t1) ∧ w'.cell? ⟨w.heap.size, 2, none⟩ = some (.int .i64 e1) ∧ w'.cell? ⟨w.heap.size + 1, 0, none⟩ = some (.int .i64 f2) ∧ w'.cell? ⟨w.heap.size + 1, 1, none⟩ = some (.int .i64 t2) ∧ w'.cell? ⟨w.heap.size + 1, 2, none⟩ = some (.int .i64 e2))
    (first | exact ⟨ff, c0, c1, c2, d0, d1, d2⟩ | exact ⟨ff.alloc _, cellOn (ff.alloc _) c0, cellOn (ff.alloc _) c1, cellOn (ff.alloc _) c2, cellOn (ff.alloc _) d0, cellOn (ff.alloc _) d1, cellOn (ff.alloc _) d2⟩)
    (first
      | (go_at_call 38; refine (cmpi_any _ _ _).mono ?_; rintro e w4 ⟨rfl, rfl⟩)
      | (go_at_call 77; refine (or3_any (intc f1 f2) (intc t1 t2) (intc e1 e2) _ _ ((Bk.new _ _ _).c 0) ((Bk.new _ _ _).c 1) ((Bk.new _ _ _).c 2)).mono ?_; rintro e w4 ⟨rfl, rfl⟩))
  all_goals
    go_wp2
    go_ret
    exact ⟨ret_int HJ.out.symm, F0.out.trans (ff.alloc _)⟩
set_option maxHeartbeats 3200000 in
set_option maxRecDepth 100000 in
theorem inco_any (l : List Aj) (ao : Option Addr) (cap : Nat) (w : World) (hs : SlJ w ao l cap) :
    Calls Tryz.prog 35 #[.slice ao l.length cap, .func (.func 36) #[] #[]] w (FwB w (incJ l)) := by
  have hl := hs.le
  have hm := hs.max
  unfold maxLen at hm
  have HS := Lib.hid hs
  obtain ⟨R, hR⟩ : ∃ R, R = incJ l := ⟨_, rfl⟩
  rw [← hR]
  have HR := Lib.hid (show R = incJ (l.drop 0) from hR)
  clear hR hs
  go_enter Tryz.func35, Tryz.ntmps35
  go_wp2
  go_loopw [5] (fun iv wr => ∃ i : Nat, iv = .int .i64 ((i : Int) + 1) ∧ i ≤ l.length ∧ Hid (R = incJ (l.drop i)) ∧ Hid (Fuw w wr)) (fun iv _ => l.length + 1 - (RowKit.intOf iv).toNat)
  case atStart => exact ⟨0, rfl, Nat.zero_le _, HR, Lib.hid (Fuw.refl _)⟩
  case round =>
    obtain ⟨i, rfl, hi, HQ, hf⟩ := hrel
    by_cases hlt : i + 1 < l.length
    · obtain ⟨b, o, rfl, ⟨-, -, -, x0, x1, x2⟩, -, -, -, y0, y1, y2⟩ := (slJ_on hf.out HS.out).get2 (show i < l.length by omega) hlt
      have HA := Lib.hid (incJ_drop hlt)
      have HC := Lib.hid (fun w' => ordo_any l[i] l[i + 1] w')
      have HD := Lib.hid (adjc_lt l[i] l[i + 1])
      unfold adv at HC
      generalize l[i + 1] = y at *
      generalize l[i] = x at *
      obtain ⟨y0', y1', y2'⟩ := y
      obtain ⟨x0', x1', x2'⟩ := x
      simp only at x0 x1 x2 y0 y1 y2 HC
      obtain ⟨q, hq⟩ : ∃ q, q = adjc (x0', x1', x2') (y0', y1', y2') := ⟨_, rfl⟩
      rw [← hq] at HC HD
      clear hq
      have z5 : IntKind.i64.wrap (i : Int) = i := IntWalk.i64_in _ (by omega)
      have e1 : (i : Int) + 1 - 1 = i := by omega
      have e2 : ((i : Int) + 1).toNat = i + 1 := by omega
      have z1 : (i : Int) + 1 < (l.length : Int) := by omega
      have z2 : (i : Int) < (l.length : Int) := by omega
      have z4 : (0 : Int) ≤ (i : Int) + 1 := by omega
      go_upto_region 4 with fail
      obtain ⟨S, hS⟩ : ∃ S : World → Prop, S = (fun w8 => w8.cell? ⟨b, o + i * 3, none⟩ = some (.int .i64 x0') ∧ w8.cell? ⟨b, o + i * 3 + 1, none⟩ = some (.int .i64 x1') ∧ w8.cell? ⟨b, o + i * 3 + 2, none⟩ = some (.int .i64 x2') ∧ w8.cell? ⟨b, o + (i + 1) * 3, none⟩ = some (.int .i64 y0') ∧ w8.cell? ⟨b, o + (i + 1) * 3 + 1, none⟩ = some (.int .i64 y1') ∧ w8.cell? ⟨b, o + (i + 1) * 3 + 2, none⟩ = some (.int .i64 y2')) := ⟨_, rfl⟩
      have HS4 := Lib.hid hS
      clear hS
      refine lst_start [10] S (by kernel_rfl) ?_
      have hS0 : S wr.drew := by rw [HS4.out]; exact ⟨x0, x1, x2, y0, y1, y2⟩
      refine takeP (i := 0) (d := some 12) (v := ?_) rfl rfl (by kernel_rfl) (by kernel_rfl) (by kernel_rfl) (by kernel_rfl) (by kernel_rfl) (fun _ _ _ h => h) (Or.inl ⟨by rfl, ?_⟩) (by first | exact Or.inr (by assumption) | exact Or.inl (by kernel_rfl)) ?_
      rotate_left
      · ((intro w8 _; go_simp); try with_reducible rfl)
      try simp only [Act.put]
      try simp only [List.setIfInBounds_toArray]
      try simp only [List.set_cons_succ]
      try simp only [List.set_cons_zero]
      refine takeP (i := 1) (d := some 13) (v := ?_) rfl rfl (by kernel_rfl) (by kernel_rfl) (by kernel_rfl) (by kernel_rfl) (by kernel_rfl) (fun _ _ _ h => h) (Or.inl ⟨by rfl, ?_⟩) (by first | exact Or.inr (by assumption) | exact Or.inl (by kernel_rfl)) ?_
      rotate_left
      · ((intro w8 _; go_simp); try with_reducible rfl)
      try simp only [Act.put]
      try simp only [List.setIfInBounds_toArray]
      try simp only [List.set_cons_succ]
      try simp only [List.set_cons_zero]
      refine takeP (i := 2) (d := some 14) (v := ?_) rfl rfl (by kernel_rfl) (by kernel_rfl) (by kernel_rfl) (by kernel_rfl) (by kernel_rfl) (fun _ _ _ h => h) (Or.inl ⟨by rfl, ?_⟩) (by first | exact Or.inr (by assumption) | exact Or.inl (by kernel_rfl)) ?_
      rotate_left
      · ((intro w8 _; go_simp); try with_reducible rfl)
      try simp only [Act.put]
      try simp only [List.setIfInBounds_toArray]
      try simp only [List.set_cons_succ]
      try simp only [List.set_cons_zero]
      refine takeP (i := 3) (d := some 15) (v := ?_) rfl rfl (by kernel_rfl) (by kernel_rfl) (by kernel_rfl) (by kernel_rfl) (by kernel_rfl) (fun _ _ _ h => h) (Or.inl ⟨by rfl, ?_⟩) (by first | exact Or.inr (by assumption) | exact Or.inl (by kernel_rfl)) ?_
      rotate_left
      · ((intro w8 _; go_simp); try with_reducible rfl)
      try simp only [Act.put]
      try simp only [List.setIfInBounds_toArray]
      try simp only [List.set_cons_succ]
      try simp only [List.set_cons_zero]
      refine takeP (i := 4) (d := some 16) (v := ?_) rfl rfl (by kernel_rfl) (by kernel_rfl) (by kernel_rfl) (by kernel_rfl) (by kernel_rfl) (fun _ _ _ h => h) (Or.inl ⟨by rfl, ?_⟩) (by first | exact Or.inr (by assumption) | exact Or.inl (by kernel_rfl)) ?_
      rotate_left
      · ((intro w8 _; go_simp); try with_reducible rfl)
      try simp only [Act.put]
      try simp only [List.setIfInBounds_toArray]
      try simp only [List.set_cons_succ]
      try simp only [List.set_cons_zero]
      refine takeL (i := 5) (d := some 17) (v := ?_) rfl rfl (by kernel_rfl) (by kernel_rfl) (by kernel_rfl) (by kernel_rfl) (by kernel_rfl) (fun _ _ _ h => h) (Or.inl ⟨by rfl, ?_⟩) (by assumption) ?_
      rotate_left
      · ((intro w8 hSw; rw [HS4.out] at hSw; obtain ⟨y1, y2, y3, y4, y5, y6⟩ := hSw; go_simp); try with_reducible rfl)
      try simp only [Act.put]
      try simp only [List.setIfInBounds_toArray]
      try simp only [List.set_cons_succ]
      try simp only [List.set_cons_zero]
      refine takeP (i := 6) (d := some 18) (v := ?_) rfl rfl (by kernel_rfl) (by kernel_rfl) (by kernel_rfl) (by kernel_rfl) (by kernel_rfl) (fun _ _ _ h => h) (Or.inl ⟨by rfl, ?_⟩) (by first | exact Or.inr (by assumption) | exact Or.inl (by kernel_rfl)) ?_
      rotate_left
      · ((intro w8 _; go_simp); try with_reducible rfl)
      try simp only [Act.put]
      try simp only [List.setIfInBounds_toArray]
      try simp only [List.set_cons_succ]
      try simp only [List.set_cons_zero]
      refine takeP (i := 7) (d := some 19) (v := ?_) rfl rfl (by kernel_rfl) (by kernel_rfl) (by kernel_rfl) (by kernel_rfl) (by kernel_rfl) (fun _ _ _ h => h) (Or.inl ⟨by rfl, ?_⟩) (by first | exact Or.inr (by assumption) | exact Or.inl (by kernel_rfl)) ?_
      rotate_left
      · ((intro w8 _; go_simp); try with_reducible rfl)
      try simp only [Act.put]
      try simp only [List.setIfInBounds_toArray]
      try simp only [List.set_cons_succ]
      try simp only [List.set_cons_zero]
      refine takeP (i := 8) (d := some 20) (v := ?_) rfl rfl (by kernel_rfl) (by kernel_rfl) (by kernel_rfl) (by kernel_rfl) (by kernel_rfl) (fun _ _ _ h => h) (Or.inl ⟨by rfl, ?_⟩) (by first | exact Or.inr (by assumption) | exact Or.inl (by kernel_rfl)) ?_
      rotate_left
      · ((intro w8 _; go_simp); try with_reducible rfl)
      try simp only [Act.put]
      try simp only [List.setIfInBounds_toArray]
      try simp only [List.set_cons_succ]
      try simp only [List.set_cons_zero]
      refine takeL (i := 9) (d := some 21) (v := ?_) rfl rfl (by kernel_rfl) (by kernel_rfl) (by kernel_rfl) (by kernel_rfl) (by kernel_rfl) (fun _ _ _ h => h) (Or.inl ⟨by rfl, ?_⟩) (by assumption) ?_
      rotate_left
      · ((intro w8 hSw; rw [HS4.out] at hSw; obtain ⟨y1, y2, y3, y4, y5, y6⟩ := hSw; go_simp); try with_reducible rfl)
      try simp only [Act.put]
      try simp only [List.setIfInBounds_toArray]
      try simp only [List.set_cons_succ]
      try simp only [List.set_cons_zero]
      refine outL (i := 10) rfl (by kernel_rfl) (by kernel_rfl) (fun K8 hK8 => ?_)
      go_simp
      go_at_call 36; refine (HC.out _).mono ?_; rintro e9 w9 ⟨rfl, f9⟩
      have HF := Lib.hid ((hf.out.trans (fuw_dr wr 1)).trans f9.w)
      refine hK8 _ _ ?_
      try simp only [Act.put]
      try simp only [List.setIfInBounds_toArray]
      try simp only [List.set_cons_succ]
      try simp only [List.set_cons_zero]
      refine takeP (i := 11) (d := some 23) (v := ?_) rfl rfl (by kernel_rfl) (by kernel_rfl) (by kernel_rfl) (by kernel_rfl) (by kernel_rfl) (fun _ _ _ h => h) (Or.inl ⟨by rfl, ?_⟩) (by first | exact Or.inr (by assumption) | exact Or.inl (by kernel_rfl)) ?_
      rotate_left
      · ((intro w8 _; go_simp); try with_reducible rfl)
      try simp only [Act.put]
      try simp only [List.setIfInBounds_toArray]
      try simp only [List.set_cons_succ]
      try simp only [List.set_cons_zero]
      refine lst_done (by kernel_rfl) ?_ _
      by_cases hz : q < 0
      · have HT := Lib.hid (show adjL (x0', x1', x2') (y0', y1', y2') = true by rw [← HD.out, decide_eq_true hz])
        have HZ := Lib.hid (show R = incJ (l.drop (i + 1)) by rw [HQ.out, HA.out, HT.out, Bool.true_and])
        have hz2 : ¬ (0 : Int) ≤ q := by omega
        go_wp2
        go_roundw
        case rel => exact ⟨i + 1, by go_num, by omega, HZ, HF⟩
        case measure => simp [RowKit.intOf]; omega
      · have HT := Lib.hid (show adjL (x0', x1', x2') (y0', y1', y2') = false by rw [← HD.out, decide_eq_false hz])
        have HZ := Lib.hid (show R = false by rw [HQ.out, HA.out, HT.out, Bool.false_and])
        have hz2 : (0 : Int) ≤ q := by omega
        go_wp2
        go_ret
        exact ⟨ret_bool HZ.out.symm, HF.out⟩
    · have HZ := Lib.hid (show R = true by rw [HQ.out, incJ_end (by omega)])
      have hlt' : ¬ (i : Int) + 1 < (l.length : Int) := by omega
      go_wp2
      go_ret
      exact ⟨ret_bool HZ.out.symm, hf.out⟩
set_option maxHeartbeats 3200000 in
set_option maxRecDepth 100000 in
theorem inci_any (l : List Int) (ao : Option Addr) (cap : Nat) (w : World) (hs : SlI w ao l cap) :
    Calls Tryz.prog 37 #[.slice ao l.length cap, .func (.func 38) #[] #[]] w (FwB w (incI l)) := by
  have hl := hs.le
  have hm := hs.max
  unfold maxLen at hm
  have HS := Lib.hid hs
  obtain ⟨R, hR⟩ : ∃ R, R = incI l := ⟨_, rfl⟩
  rw [← hR]
  have HR := Lib.hid (show R = incI (l.drop 0) from hR)
  clear hR hs
  go_enter Tryz.func37, Tryz.ntmps37
  go_wp2
  go_loopw [5] (fun iv wr => ∃ i : Nat, iv = .int .i64 ((i : Int) + 1) ∧ i ≤ l.length ∧ Hid (R = incI (l.drop i)) ∧ Hid (Fuw w wr)) (fun iv _ => l.length + 1 - (RowKit.intOf iv).toNat)
  case atStart => exact ⟨0, rfl, Nat.zero_le _, HR, Lib.hid (Fuw.refl _)⟩
  case round =>
    obtain ⟨i, rfl, hi, HQ, hf⟩ := hrel
    by_cases hlt : i + 1 < l.length
    · obtain ⟨b, o, rfl, ⟨-, x0⟩, -, y0⟩ := (slI_on hf.out HS.out).get2 (show i < l.length by omega) hlt
      have HA := Lib.hid (incI_drop hlt)
      have HC := Lib.hid (fun w' => cmpi_any l[i] l[i + 1] w')
      have HD := Lib.hid (intc_lt l[i] l[i + 1])
      generalize l[i + 1] = y at *
      generalize l[i] = x at *
      rw [Nat.mul_one] at x0 y0
      obtain ⟨q, hq⟩ : ∃ q, q = intc x y := ⟨_, rfl⟩
      rw [← hq] at HC HD
      clear hq
      have z5 : IntKind.i64.wrap (i : Int) = i := IntWalk.i64_in _ (by omega)
      have e1 : (i : Int) + 1 - 1 = i := by omega
      have e2 : ((i : Int) + 1).toNat = i + 1 := by omega
      have z1 : (i : Int) + 1 < (l.length : Int) := by omega
      have z2 : (i : Int) < (l.length : Int) := by omega
      have z4 : (0 : Int) ≤ (i : Int) + 1 := by omega
      go_upto_region 4 with fail
      obtain ⟨S, hS⟩ : ∃ S : World → Prop, S = (fun w8 => w8.cell? ⟨b, o + i, none⟩ = some (.int .i64 x) ∧ w8.cell? ⟨b, o + (i + 1), none⟩ = some (.int .i64 y)) := ⟨_, rfl⟩
      have HS4 := Lib.hid hS
      clear hS
      refine lst_start [10] S (by kernel_rfl) ?_
      have hS0 : S wr.drew := by rw [HS4.out]; exact ⟨x0, y0⟩
      refine takeP (i := 0) (d := some 12) (v := ?_) rfl rfl (by kernel_rfl) (by kernel_rfl) (by kernel_rfl) (by kernel_rfl) (by kernel_rfl) (fun _ _ _ h => h) (Or.inl ⟨by rfl, ?_⟩) (by first | exact Or.inr (by assumption) | exact Or.inl (by kernel_rfl)) ?_
      rotate_left
      · ((intro w8 _; go_simp); try with_reducible rfl)
      try simp only [Act.put]
      try simp only [List.setIfInBounds_toArray]
      try simp only [List.set_cons_succ]
      try simp only [List.set_cons_zero]
      refine takeP (i := 1) (d := some 13) (v := ?_) rfl rfl (by kernel_rfl) (by kernel_rfl) (by kernel_rfl) (by kernel_rfl) (by kernel_rfl) (fun _ _ _ h => h) (Or.inl ⟨by rfl, ?_⟩) (by first | exact Or.inr (by assumption) | exact Or.inl (by kernel_rfl)) ?_
      rotate_left
      · ((intro w8 _; go_simp); try with_reducible rfl)
      try simp only [Act.put]
      try simp only [List.setIfInBounds_toArray]
      try simp only [List.set_cons_succ]
      try simp only [List.set_cons_zero]
      refine takeP (i := 2) (d := some 14) (v := ?_) rfl rfl (by kernel_rfl) (by kernel_rfl) (by kernel_rfl) (by kernel_rfl) (by kernel_rfl) (fun _ _ _ h => h) (Or.inl ⟨by rfl, ?_⟩) (by first | exact Or.inr (by assumption) | exact Or.inl (by kernel_rfl)) ?_
      rotate_left
      · ((intro w8 _; go_simp); try with_reducible rfl)
      try simp only [Act.put]
      try simp only [List.setIfInBounds_toArray]
      try simp only [List.set_cons_succ]
      try simp only [List.set_cons_zero]
      refine takeP (i := 3) (d := some 15) (v := ?_) rfl rfl (by kernel_rfl) (by kernel_rfl) (by kernel_rfl) (by kernel_rfl) (by kernel_rfl) (fun _ _ _ h => h) (Or.inl ⟨by rfl, ?_⟩) (by first | exact Or.inr (by assumption) | exact Or.inl (by kernel_rfl)) ?_
      rotate_left
      · ((intro w8 _; go_simp); try with_reducible rfl)
      try simp only [Act.put]
      try simp only [List.setIfInBounds_toArray]
      try simp only [List.set_cons_succ]
      try simp only [List.set_cons_zero]
      refine takeP (i := 4) (d := some 16) (v := ?_) rfl rfl (by kernel_rfl) (by kernel_rfl) (by kernel_rfl) (by kernel_rfl) (by kernel_rfl) (fun _ _ _ h => h) (Or.inl ⟨by rfl, ?_⟩) (by first | exact Or.inr (by assumption) | exact Or.inl (by kernel_rfl)) ?_
      rotate_left
      · ((intro w8 _; go_simp); try with_reducible rfl)
      try simp only [Act.put]
      try simp only [List.setIfInBounds_toArray]
      try simp only [List.set_cons_succ]
      try simp only [List.set_cons_zero]
      refine takeL (i := 5) (d := some 17) (v := ?_) rfl rfl (by kernel_rfl) (by kernel_rfl) (by kernel_rfl) (by kernel_rfl) (by kernel_rfl) (fun _ _ _ h => h) (Or.inl ⟨by rfl, ?_⟩) (by assumption) ?_
      rotate_left
      · ((intro w8 hSw; rw [HS4.out] at hSw; obtain ⟨y1, y2⟩ := hSw; go_simp); try with_reducible rfl)
      try simp only [Act.put]
      try simp only [List.setIfInBounds_toArray]
      try simp only [List.set_cons_succ]
      try simp only [List.set_cons_zero]
      refine takeP (i := 6) (d := some 18) (v := ?_) rfl rfl (by kernel_rfl) (by kernel_rfl) (by kernel_rfl) (by kernel_rfl) (by kernel_rfl) (fun _ _ _ h => h) (Or.inl ⟨by rfl, ?_⟩) (by first | exact Or.inr (by assumption) | exact Or.inl (by kernel_rfl)) ?_
      rotate_left
      · ((intro w8 _; go_simp); try with_reducible rfl)
      try simp only [Act.put]
      try simp only [List.setIfInBounds_toArray]
      try simp only [List.set_cons_succ]
      try simp only [List.set_cons_zero]
      refine takeP (i := 7) (d := some 19) (v := ?_) rfl rfl (by kernel_rfl) (by kernel_rfl) (by kernel_rfl) (by kernel_rfl) (by kernel_rfl) (fun _ _ _ h => h) (Or.inl ⟨by rfl, ?_⟩) (by first | exact Or.inr (by assumption) | exact Or.inl (by kernel_rfl)) ?_
      rotate_left
      · ((intro w8 _; go_simp); try with_reducible rfl)
      try simp only [Act.put]
      try simp only [List.setIfInBounds_toArray]
      try simp only [List.set_cons_succ]
      try simp only [List.set_cons_zero]
      refine takeP (i := 8) (d := some 20) (v := ?_) rfl rfl (by kernel_rfl) (by kernel_rfl) (by kernel_rfl) (by kernel_rfl) (by kernel_rfl) (fun _ _ _ h => h) (Or.inl ⟨by rfl, ?_⟩) (by first | exact Or.inr (by assumption) | exact Or.inl (by kernel_rfl)) ?_
      rotate_left
      · ((intro w8 _; go_simp); try with_reducible rfl)
      try simp only [Act.put]
      try simp only [List.setIfInBounds_toArray]
      try simp only [List.set_cons_succ]
      try simp only [List.set_cons_zero]
      refine takeL (i := 9) (d := some 21) (v := ?_) rfl rfl (by kernel_rfl) (by kernel_rfl) (by kernel_rfl) (by kernel_rfl) (by kernel_rfl) (fun _ _ _ h => h) (Or.inl ⟨by rfl, ?_⟩) (by assumption) ?_
      rotate_left
      · ((intro w8 hSw; rw [HS4.out] at hSw; obtain ⟨y1, y2⟩ := hSw; go_simp); try with_reducible rfl)
      try simp only [Act.put]
      try simp only [List.setIfInBounds_toArray]
      try simp only [List.set_cons_succ]
      try simp only [List.set_cons_zero]
      refine outL (i := 10) rfl (by kernel_rfl) (by kernel_rfl) (fun K8 hK8 => ?_)
      go_simp
      go_at_call 38; refine (HC.out _).mono ?_; rintro e9 w9 ⟨rfl, rfl⟩
      have HF := Lib.hid (hf.out.trans (fuw_dr wr 1))
      refine hK8 _ _ ?_
      try simp only [Act.put]
      try simp only [List.setIfInBounds_toArray]
      try simp only [List.set_cons_succ]
      try simp only [List.set_cons_zero]
      refine takeP (i := 11) (d := some 23) (v := ?_) rfl rfl (by kernel_rfl) (by kernel_rfl) (by kernel_rfl) (by kernel_rfl) (by kernel_rfl) (fun _ _ _ h => h) (Or.inl ⟨by rfl, ?_⟩) (by first | exact Or.inr (by assumption) | exact Or.inl (by kernel_rfl)) ?_
      rotate_left
      · ((intro w8 _; go_simp); try with_reducible rfl)
      try simp only [Act.put]
      try simp only [List.setIfInBounds_toArray]
      try simp only [List.set_cons_succ]
      try simp only [List.set_cons_zero]
      refine lst_done (by kernel_rfl) ?_ _
      by_cases hz : q < 0
      · have HT := Lib.hid (show decide (x < y) = true by rw [← HD.out, decide_eq_true hz])
        have HZ := Lib.hid (show R = incI (l.drop (i + 1)) by rw [HQ.out, HA.out, HT.out, Bool.true_and])
        have hz2 : ¬ (0 : Int) ≤ q := by omega
        go_wp2
        go_roundw
        case rel => exact ⟨i + 1, by go_num, by omega, HZ, HF⟩
        case measure => simp [RowKit.intOf]; omega
      · have HT := Lib.hid (show decide (x < y) = false by rw [← HD.out, decide_eq_false hz])
        have HZ := Lib.hid (show R = false by rw [HQ.out, HA.out, HT.out, Bool.false_and])
        have hz2 : (0 : Int) ≤ q := by omega
        go_wp2
        go_ret
        exact ⟨ret_bool HZ.out.symm, HF.out⟩
    · have HZ := Lib.hid (show R = true by rw [HQ.out, incI_end (by omega)])
      have hlt' : ¬ (i : Int) + 1 < (l.length : Int) := by omega
      go_wp2
      go_ret
      exact ⟨ret_bool HZ.out.symm, hf.out⟩
end Go.Proofs.YtpjikijfendmhaaGreat
