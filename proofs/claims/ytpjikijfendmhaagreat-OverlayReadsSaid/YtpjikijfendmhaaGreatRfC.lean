
/-
  The reference of columns: whether nodes and bounds fit together. Nothing that was there turns.
-/
import Derived.Test.YtpjikijfendmhaaGreatRfB
import Derived.BigQuiet
namespace Go.Proofs.YtpjikijfendmhaaGreat
open Go.RowKit

theorem rid12_q (x : Int) (w : World) : Calls Tryz.prog 65 #[.int .i64 x] w (QB w (idB x)) := (rid12_any x w).mono fun _ _ ⟨he, hw⟩ => ⟨he, 0, hw.symm⟩
theorem rid13_q (x : Int) (w : World) : Calls Tryz.prog 42 #[.int .i64 x] w (QB w (idB x)) := (rid13_any x w).mono fun _ _ ⟨he, hw⟩ => ⟨he, 0, hw.symm⟩
theorem rowOk_mk {c : Cm} {i : Nat} (h1 : i < c.ns.length) (h2 : i < c.fs.length) (h3 : i + 1 < c.fs.length) : rowOk c i = (decide (c.fs[i] < c.fs[i + 1]) && idB c.ns[i] && (decide (i = 0) || decide (c.ns.getD (i - 1) 0 < c.ns[i]))) := by
  unfold rowOk
  rw [gd h1, gd h2, gd h3]
theorem all_rng {n i : Nat} {p : Nat → Bool} (hi : i < n) (h : p i = false) : (List.range n).all p = false := by
  rw [Bool.eq_false_iff]
  intro k
  rw [List.all_eq_true] at k
  rw [k i (List.mem_range.2 hi)] at h; cases h
theorem all_rng1 {n : Nat} {p : Nat → Bool} (h : ∀ j, j < n → p j = true) : (List.range n).all p = true := List.all_eq_true.2 fun j hj => h j (List.mem_range.1 hj)
set_option maxHeartbeats 12800000 in
set_option maxRecDepth 100000 in
theorem rshape_any (c : Cm) (A : CA) (w : World) (hC : CIn w c A) (hn : c.ns.length ≤ 1000000) :
    Calls Tryz.prog 75 #[colv c A] w (FwB w (shpC c)) := by
  obtain ⟨w0, hw0⟩ : ∃ w0, w.alloc (.cells (colC c A) 24) = w0 := ⟨_, rfl⟩
  have B0 := Lib.hid (show Bk w0 w.heap.size (colC c A) 24 by rw [← hw0]; exact Bk.new _ _ _)
  have F0 := Lib.hid (show Fuw w w0 by rw [← hw0]; exact fuwA _ _)
  have HC := Lib.hid (hC.on F0.out)
  obtain ⟨R, hR⟩ : ∃ R, R = shpC c := ⟨_, rfl⟩
  have HR := Lib.hid (show R = (decide (c.ts.length = c.es.length) && (if c.ns.length = 0 ∧ c.fs.length = 0 then decide (c.ts.length = 0) else decide (c.fs.length = c.ns.length + 1) && decide (c.fs.getD 0 0 = 0) && decide (c.fs.getD c.ns.length 0 = (c.ts.length : Int)) && (List.range c.ns.length).all (rowOk c))) from hR)
  rw [← hR]
  have m1 := hC.n.cap_
  have m2 := hC.f.cap_
  have m3 := hC.t.cap_
  have m4 := hC.e.cap_
  have l1 := hC.n.le
  have l2 := hC.f.le
  have l3 := hC.t.le
  have l4 := hC.e.le
  have D1 := Lib.hid (B0.out.c 0); have D2 := Lib.hid (B0.out.c 1); have D3 := Lib.hid (B0.out.c 2); have D4 := Lib.hid (B0.out.c 3)
  unfold colv
  unfold colC at D1 D2 D3 D4 hw0 ⊢
  simp only [List.getElem?_toArray, List.getElem?_cons_zero, List.getElem?_cons_succ] at D1 D2 D3 D4
  clear hC hR
  have wn : IntKind.i64.wrap ((c.ns.length : Int) + 1) = (c.ns.length : Int) + 1 := IntWalk.i64_in _ (by omega)
  go_enter Tryz.func75, Tryz.ntmps75
  go_upto_region 1 with fail
  clear hw0
  have d1 := D1.out; have d2 := D2.out; have d3 := D3.out; have d4 := D4.out
  by_cases g0 : c.ts.length = c.es.length
  · have p0 : ((c.ts.length : Int) != (c.es.length : Int)) = false := by rw [bne_eq_false_iff_eq]; omega
    have G0 := Lib.hid g0
    clear g0
    by_cases g1 : c.ns.length = 0
    · have p1 : ((c.ns.length : Int) == 0) = true := by rw [beq_iff_eq]; omega
      by_cases g2 : c.fs.length = 0
      · have p2 : ((c.fs.length : Int) == 0) = true := by rw [beq_iff_eq]; omega
        have HZ := Lib.hid (show R = ((c.ts.length : Int) == 0) by
          rw [HR.out, decide_eq_true G0.out, if_pos ⟨g1, g2⟩, Bool.true_and, Bool.eq_iff_iff, beq_iff_eq, decide_eq_true_eq]; omega)
        clear g1 g2
        go_wp2
        all_goals
          go_ret
          exact ⟨ret_bool (by rw [HZ.out]), F0.out⟩
      · have p2 : ((c.fs.length : Int) == 0) = false := by rw [beq_eq_false_iff_ne]; omega
        have HZ := Lib.hid (show R = (decide (c.fs.length = c.ns.length + 1) && decide (c.fs.getD 0 0 = 0) && decide (c.fs.getD c.ns.length 0 = (c.ts.length : Int)) && (List.range c.ns.length).all (rowOk c)) by
          rw [HR.out, decide_eq_true G0.out, if_neg (fun h => g2 h.2), Bool.true_and])
        clear g1 g2
        go_upto_region 5 with fail
        clear p0 p1
        by_cases g3 : c.fs.length = c.ns.length + 1
        · have p3 : ((c.fs.length : Int) != (c.ns.length : Int) + 1) = false := by rw [bne_eq_false_iff_eq]; omega
          have hp : 0 < c.fs.length := by omega
          have hp0 : (0 : Int) < (c.fs.length : Int) := by omega
          have hpn : (c.ns.length : Int) < (c.fs.length : Int) := by omega
          have hn2 : c.ns.length < c.fs.length := by omega
          obtain ⟨b2, o2, e2, ⟨-, c0⟩, -, cl⟩ := HC.out.f.get2 hp hn2
          have E2 := Lib.hid e2
          have HZ1 := Lib.hid (show R = (decide (c.fs[0] = 0) && decide (c.fs[c.ns.length] = (c.ts.length : Int)) && (List.range c.ns.length).all (rowOk c)) by
            rw [HZ.out, decide_eq_true g3, Bool.true_and, gd hp, gd hn2])
          rw [e2] at d2
          rw [Nat.zero_mul, Nat.add_zero] at c0
          rw [Nat.mul_one] at cl
          have G3 := Lib.hid g3
          generalize c.fs[0] = x0 at *
          generalize c.fs[c.ns.length] = xl at *
          clear g3 e2 HZ
          by_cases g4 : x0 = 0
          · have p4 : (x0 != 0) = false := by rw [bne_eq_false_iff_eq]; exact g4
            have HZ2 := Lib.hid (show R = (decide (xl = (c.ts.length : Int)) && (List.range c.ns.length).all (rowOk c)) by rw [HZ1.out, decide_eq_true g4, Bool.true_and])
            clear g4 HZ1
            by_cases g5 : xl = (c.ts.length : Int)
            · have p5 : (xl != (c.ts.length : Int)) = false := by rw [bne_eq_false_iff_eq]; exact g5
              have HZ3 := Lib.hid (show R = (List.range c.ns.length).all (rowOk c) by rw [HZ2.out, decide_eq_true g5, Bool.true_and])
              clear g5 HZ2
              go_quiet (fail)
              clear c0 cl p3 p4 p5 d1 d2 d3 d4 hp0 hp
              go_wp2
              go_loopw [3] (fun iv wr => ∃ i : Nat, iv = .int .i64 i ∧ i ≤ c.ns.length ∧ Hid (∀ j, j < i → rowOk c j = true) ∧ Hid (Fuw w0 wr)) (fun iv _ => c.ns.length - (RowKit.intOf iv).toNat)
              case atStart => exact ⟨0, rfl, Nat.zero_le _, Lib.hid (fun j h => absurd h (Nat.not_lt_zero j)), Lib.hid (fuw_dr _ _)⟩
              case round =>
                obtain ⟨i, rfl, hi, HA, hf⟩ := hrel
                have d1 := cellOnw hf.out D1.out
                by_cases hlt : i < c.ns.length
                · have d2 := cellOnw hf.out D2.out
                  have y1 : i < c.fs.length := by omega
                  have y2 : i + 1 < c.fs.length := by have := G3.out; omega
                  have HRw := Lib.hid (rowOk_mk hlt y1 y2)
                  have HFl := Lib.hid (fun h : rowOk c i = false => show R = false by rw [HZ3.out]; exact all_rng hlt h)
                  have HTr := Lib.hid (fun h : rowOk c i = true => show ∀ j, j < i + 1 → rowOk c j = true from fun j hj => by
                    rcases Nat.lt_or_eq_of_le (Nat.le_of_lt_succ hj) with q | q
                    · exact HA.out j q
                    · rw [q]; exact h)
                  obtain ⟨b2', o2', e2', ⟨-, cf⟩, -, cg⟩ := (slI_on hf.out HC.out.f).get2 y1 y2
                  obtain ⟨b1, o1, e1, -, cn⟩ := (slI_on hf.out HC.out.n).get hlt
                  have HPv := Lib.hid (fun (j : Nat) (h : j < c.ns.length) => (slI_on hf.out HC.out.n).get h)
                  rw [e1] at HPv d1
                  rw [e2'] at d2
                  rw [Nat.mul_one] at cf cg cn
                  obtain ⟨f, hfe⟩ : ∃ f, c.fs[i] = f := ⟨_, rfl⟩
                  obtain ⟨g, hge⟩ : ∃ g, c.fs[i + 1] = g := ⟨_, rfl⟩
                  obtain ⟨n, hne⟩ : ∃ n, c.ns[i] = n := ⟨_, rfl⟩
                  rw [hfe, hge, hne] at HRw
                  rw [hfe] at cf
                  rw [hge] at cg
                  rw [hne] at cn
                  have hlt' : (i : Int) < (c.ns.length : Int) := by omega
                  have y1' : (i : Int) < (c.fs.length : Int) := by omega
                  have y2' : (i : Int) + 1 < (c.fs.length : Int) := by omega
                  have wi : IntKind.i64.wrap ((i : Int) + 1) = (i : Int) + 1 := IntWalk.i64_in _ (by omega)
                  have ti : ((i : Int) + 1).toNat = i + 1 := by omega
                  have HQ := Lib.hid (fun m => rid12_q n (wr.drewN m))
                  clear hfe hge hne e1 e2'
                  by_cases h1 : f < g
                  · have k1 : decide (g ≤ f) = false := decide_eq_false (by omega)
                    obtain ⟨q, hq⟩ : ∃ q, idB n = q := ⟨_, rfl⟩
                    have HRw2 := Lib.hid (show rowOk c i = (q && (decide (i = 0) || decide (c.ns.getD (i - 1) 0 < n))) by rw [HRw.out, decide_eq_true h1, hq, Bool.true_and])
                    rw [hq] at HQ
                    clear hq h1
                    cases q with
                    | false =>
                      have HY := Lib.hid (show R = false from HFl.out (by rw [HRw2.out]; rfl))
                      go_upto_region 10 with fail
                      go_quiet ((go_at_call 65; exact Calls.quiet_of (HQ.out _)))
                      clear cf cg cn k1 wi
                      go_wp2
                      go_ret
                      exact ⟨ret_bool HY.out.symm, F0.out.trans (hf.out.trans (fuw_dr _ _))⟩
                    | true =>
                      by_cases h2 : i = 0
                      · have k2 : decide (0 < i) = false := decide_eq_false (by omega)
                        have k3 : decide ((0 : Int) < (i : Int)) = false := decide_eq_false (by omega)
                        have HY := Lib.hid (HTr.out (by rw [HRw2.out, decide_eq_true h2]; rfl))
                        clear h2
                        go_upto_region 10 with fail
                        go_quiet ((go_at_call 65; exact Calls.quiet_of (HQ.out _)))
                        clear cf cg cn k1 k2 k3
                        go_wp2
                        go_roundw
                        case rel => exact ⟨i + 1, by go_num, by omega, HY, Lib.hid (hf.out.trans (fuw_dr _ _))⟩
                        case measure => simp [RowKit.intOf]; omega
                      · have k2 : decide (0 < i) = true := decide_eq_true (by omega)
                        have k3 : decide ((0 : Int) < (i : Int)) = true := decide_eq_true (by omega)
                        obtain ⟨p, hp⟩ : ∃ p, i = p + 1 := ⟨i - 1, by omega⟩
                        have hpl : p < c.ns.length := by omega
                        obtain ⟨bp, op, ep, -, cp⟩ := HPv.out p hpl
                        cases ep
                        rw [Nat.mul_one] at cp
                        have HRw3 := Lib.hid (show rowOk c i = decide (c.ns[p] < n) by
                          rw [HRw2.out, decide_eq_false h2, show i - 1 = p by omega, gd hpl]; simp)
                        have wp1 : IntKind.i64.wrap ((i : Int) - 1) = (p : Int) := by rw [show (i : Int) - 1 = p by omega]; exact IntWalk.i64_in _ (by omega)
                        have y3 : (p : Int) < (c.ns.length : Int) := by omega
                        generalize c.ns[p] = pv at *
                        clear h2 hp
                        by_cases h3 : pv < n
                        · have k4 : decide (n ≤ pv) = false := decide_eq_false (by omega)
                          have HY := Lib.hid (HTr.out (by rw [HRw3.out]; exact decide_eq_true h3))
                          clear h3
                          go_upto_region 10 with fail
                          go_quiet ((go_at_call 65; exact Calls.quiet_of (HQ.out _)))
                          clear cf cg cn k1 k2 k3 k4 cp wp1
                          go_wp2
                          go_roundw
                          case rel => exact ⟨i + 1, by go_num, by omega, HY, Lib.hid (hf.out.trans (fuw_dr _ _))⟩
                          case measure => simp [RowKit.intOf]; omega
                        · have k4 : decide (n ≤ pv) = true := decide_eq_true (by omega)
                          have HY := Lib.hid (show R = false from HFl.out (by rw [HRw3.out]; exact decide_eq_false h3))
                          clear h3
                          go_upto_region 10 with fail
                          go_quiet ((go_at_call 65; exact Calls.quiet_of (HQ.out _)))
                          clear cf cg cn k1 k2 k3 k4 cp wp1
                          go_wp2
                          go_ret
                          exact ⟨ret_bool HY.out.symm, F0.out.trans (hf.out.trans (fuw_dr _ _))⟩
                  · have k1 : decide (g ≤ f) = true := decide_eq_true (by omega)
                    have HY := Lib.hid (show R = false from HFl.out (by rw [HRw.out, decide_eq_false h1]; rfl))
                    clear h1
                    go_upto_region 10 with fail
                    go_quiet (fail)
                    clear cf cg cn k1
                    go_wp2
                    go_ret
                    exact ⟨ret_bool HY.out.symm, F0.out.trans (hf.out.trans (fuw_dr _ _))⟩
                · have HY := Lib.hid (show R = true by rw [HZ3.out]; exact all_rng1 fun j hj => HA.out j (by omega))
                  have hge : ¬ (i : Int) < (c.ns.length : Int) := by omega
                  go_wp2
                  go_ret
                  exact ⟨ret_bool HY.out.symm, F0.out.trans hf.out⟩
            · have p5 : (xl != (c.ts.length : Int)) = true := by rw [bne_iff_ne]; exact g5
              have HZ3 := Lib.hid (show R = false by rw [HZ2.out, decide_eq_false g5]; rfl)
              clear g5 HZ2
              go_quiet (fail)
              clear c0 cl
              go_wp2
              go_ret
              exact ⟨ret_bool HZ3.out.symm, F0.out.trans (fuw_dr _ _)⟩
          · have p4 : (x0 != 0) = true := by rw [bne_iff_ne]; exact g4
            have HZ2 := Lib.hid (show R = false by rw [HZ1.out, decide_eq_false g4]; rfl)
            clear g4 HZ1 cl
            go_quiet (fail)
            clear c0
            go_wp2
            go_ret
            exact ⟨ret_bool HZ2.out.symm, F0.out.trans (fuw_dr _ _)⟩
        · have p3 : ((c.fs.length : Int) != (c.ns.length : Int) + 1) = true := by rw [bne_iff_ne]; omega
          have HZ1 := Lib.hid (show R = false by rw [HZ.out, decide_eq_false g3]; rfl)
          clear g3 HZ
          go_quiet (fail)
          go_wp2
          go_ret
          exact ⟨ret_bool HZ1.out.symm, F0.out.trans (fuw_dr _ _)⟩
    · have p1 : ((c.ns.length : Int) == 0) = false := by rw [beq_eq_false_iff_ne]; omega
      have HZ := Lib.hid (show R = (decide (c.fs.length = c.ns.length + 1) && decide (c.fs.getD 0 0 = 0) && decide (c.fs.getD c.ns.length 0 = (c.ts.length : Int)) && (List.range c.ns.length).all (rowOk c)) by
        rw [HR.out, decide_eq_true G0.out, if_neg (fun h => g1 h.1), Bool.true_and])
      clear g1
      go_upto_region 5 with fail
      clear p0 p1
      by_cases g3 : c.fs.length = c.ns.length + 1
      · have p3 : ((c.fs.length : Int) != (c.ns.length : Int) + 1) = false := by rw [bne_eq_false_iff_eq]; omega
        have hp : 0 < c.fs.length := by omega
        have hp0 : (0 : Int) < (c.fs.length : Int) := by omega
        have hpn : (c.ns.length : Int) < (c.fs.length : Int) := by omega
        have hn2 : c.ns.length < c.fs.length := by omega
        obtain ⟨b2, o2, e2, ⟨-, c0⟩, -, cl⟩ := HC.out.f.get2 hp hn2
        have E2 := Lib.hid e2
        have HZ1 := Lib.hid (show R = (decide (c.fs[0] = 0) && decide (c.fs[c.ns.length] = (c.ts.length : Int)) && (List.range c.ns.length).all (rowOk c)) by
          rw [HZ.out, decide_eq_true g3, Bool.true_and, gd hp, gd hn2])
        rw [e2] at d2
        rw [Nat.zero_mul, Nat.add_zero] at c0
        rw [Nat.mul_one] at cl
        have G3 := Lib.hid g3
        generalize c.fs[0] = x0 at *
        generalize c.fs[c.ns.length] = xl at *
        clear g3 e2 HZ
        by_cases g4 : x0 = 0
        · have p4 : (x0 != 0) = false := by rw [bne_eq_false_iff_eq]; exact g4
          have HZ2 := Lib.hid (show R = (decide (xl = (c.ts.length : Int)) && (List.range c.ns.length).all (rowOk c)) by rw [HZ1.out, decide_eq_true g4, Bool.true_and])
          clear g4 HZ1
          by_cases g5 : xl = (c.ts.length : Int)
          · have p5 : (xl != (c.ts.length : Int)) = false := by rw [bne_eq_false_iff_eq]; exact g5
            have HZ3 := Lib.hid (show R = (List.range c.ns.length).all (rowOk c) by rw [HZ2.out, decide_eq_true g5, Bool.true_and])
            clear g5 HZ2
            go_quiet (fail)
            clear c0 cl p3 p4 p5 d1 d2 d3 d4 hp0 hp
            go_wp2
            go_loopw [3] (fun iv wr => ∃ i : Nat, iv = .int .i64 i ∧ i ≤ c.ns.length ∧ Hid (∀ j, j < i → rowOk c j = true) ∧ Hid (Fuw w0 wr)) (fun iv _ => c.ns.length - (RowKit.intOf iv).toNat)
            case atStart => exact ⟨0, rfl, Nat.zero_le _, Lib.hid (fun j h => absurd h (Nat.not_lt_zero j)), Lib.hid (fuw_dr _ _)⟩
            case round =>
              obtain ⟨i, rfl, hi, HA, hf⟩ := hrel
              have d1 := cellOnw hf.out D1.out
              by_cases hlt : i < c.ns.length
              · have d2 := cellOnw hf.out D2.out
                have y1 : i < c.fs.length := by omega
                have y2 : i + 1 < c.fs.length := by have := G3.out; omega
                have HRw := Lib.hid (rowOk_mk hlt y1 y2)
                have HFl := Lib.hid (fun h : rowOk c i = false => show R = false by rw [HZ3.out]; exact all_rng hlt h)
                have HTr := Lib.hid (fun h : rowOk c i = true => show ∀ j, j < i + 1 → rowOk c j = true from fun j hj => by
                  rcases Nat.lt_or_eq_of_le (Nat.le_of_lt_succ hj) with q | q
                  · exact HA.out j q
                  · rw [q]; exact h)
                obtain ⟨b2', o2', e2', ⟨-, cf⟩, -, cg⟩ := (slI_on hf.out HC.out.f).get2 y1 y2
                obtain ⟨b1, o1, e1, -, cn⟩ := (slI_on hf.out HC.out.n).get hlt
                have HPv := Lib.hid (fun (j : Nat) (h : j < c.ns.length) => (slI_on hf.out HC.out.n).get h)
                rw [e1] at HPv d1
                rw [e2'] at d2
                rw [Nat.mul_one] at cf cg cn
                obtain ⟨f, hfe⟩ : ∃ f, c.fs[i] = f := ⟨_, rfl⟩
                obtain ⟨g, hge⟩ : ∃ g, c.fs[i + 1] = g := ⟨_, rfl⟩
                obtain ⟨n, hne⟩ : ∃ n, c.ns[i] = n := ⟨_, rfl⟩
                rw [hfe, hge, hne] at HRw
                rw [hfe] at cf
                rw [hge] at cg
                rw [hne] at cn
                have hlt' : (i : Int) < (c.ns.length : Int) := by omega
                have y1' : (i : Int) < (c.fs.length : Int) := by omega
                have y2' : (i : Int) + 1 < (c.fs.length : Int) := by omega
                have wi : IntKind.i64.wrap ((i : Int) + 1) = (i : Int) + 1 := IntWalk.i64_in _ (by omega)
                have ti : ((i : Int) + 1).toNat = i + 1 := by omega
                have HQ := Lib.hid (fun m => rid12_q n (wr.drewN m))
                clear hfe hge hne e1 e2'
                by_cases h1 : f < g
                · have k1 : decide (g ≤ f) = false := decide_eq_false (by omega)
                  obtain ⟨q, hq⟩ : ∃ q, idB n = q := ⟨_, rfl⟩
                  have HRw2 := Lib.hid (show rowOk c i = (q && (decide (i = 0) || decide (c.ns.getD (i - 1) 0 < n))) by rw [HRw.out, decide_eq_true h1, hq, Bool.true_and])
                  rw [hq] at HQ
                  clear hq h1
                  cases q with
                  | false =>
                    have HY := Lib.hid (show R = false from HFl.out (by rw [HRw2.out]; rfl))
                    go_upto_region 10 with fail
                    go_quiet ((go_at_call 65; exact Calls.quiet_of (HQ.out _)))
                    clear cf cg cn k1 wi
                    go_wp2
                    go_ret
                    exact ⟨ret_bool HY.out.symm, F0.out.trans (hf.out.trans (fuw_dr _ _))⟩
                  | true =>
                    by_cases h2 : i = 0
                    · have k2 : decide (0 < i) = false := decide_eq_false (by omega)
                      have k3 : decide ((0 : Int) < (i : Int)) = false := decide_eq_false (by omega)
                      have HY := Lib.hid (HTr.out (by rw [HRw2.out, decide_eq_true h2]; rfl))
                      clear h2
                      go_upto_region 10 with fail
                      go_quiet ((go_at_call 65; exact Calls.quiet_of (HQ.out _)))
                      clear cf cg cn k1 k2 k3
                      go_wp2
                      go_roundw
                      case rel => exact ⟨i + 1, by go_num, by omega, HY, Lib.hid (hf.out.trans (fuw_dr _ _))⟩
                      case measure => simp [RowKit.intOf]; omega
                    · have k2 : decide (0 < i) = true := decide_eq_true (by omega)
                      have k3 : decide ((0 : Int) < (i : Int)) = true := decide_eq_true (by omega)
                      obtain ⟨p, hp⟩ : ∃ p, i = p + 1 := ⟨i - 1, by omega⟩
                      have hpl : p < c.ns.length := by omega
                      obtain ⟨bp, op, ep, -, cp⟩ := HPv.out p hpl
                      cases ep
                      rw [Nat.mul_one] at cp
                      have HRw3 := Lib.hid (show rowOk c i = decide (c.ns[p] < n) by
                        rw [HRw2.out, decide_eq_false h2, show i - 1 = p by omega, gd hpl]; simp)
                      have wp1 : IntKind.i64.wrap ((i : Int) - 1) = (p : Int) := by rw [show (i : Int) - 1 = p by omega]; exact IntWalk.i64_in _ (by omega)
                      have y3 : (p : Int) < (c.ns.length : Int) := by omega
                      generalize c.ns[p] = pv at *
                      clear h2 hp
                      by_cases h3 : pv < n
                      · have k4 : decide (n ≤ pv) = false := decide_eq_false (by omega)
                        have HY := Lib.hid (HTr.out (by rw [HRw3.out]; exact decide_eq_true h3))
                        clear h3
                        go_upto_region 10 with fail
                        go_quiet ((go_at_call 65; exact Calls.quiet_of (HQ.out _)))
                        clear cf cg cn k1 k2 k3 k4 cp wp1
                        go_wp2
                        go_roundw
                        case rel => exact ⟨i + 1, by go_num, by omega, HY, Lib.hid (hf.out.trans (fuw_dr _ _))⟩
                        case measure => simp [RowKit.intOf]; omega
                      · have k4 : decide (n ≤ pv) = true := decide_eq_true (by omega)
                        have HY := Lib.hid (show R = false from HFl.out (by rw [HRw3.out]; exact decide_eq_false h3))
                        clear h3
                        go_upto_region 10 with fail
                        go_quiet ((go_at_call 65; exact Calls.quiet_of (HQ.out _)))
                        clear cf cg cn k1 k2 k3 k4 cp wp1
                        go_wp2
                        go_ret
                        exact ⟨ret_bool HY.out.symm, F0.out.trans (hf.out.trans (fuw_dr _ _))⟩
                · have k1 : decide (g ≤ f) = true := decide_eq_true (by omega)
                  have HY := Lib.hid (show R = false from HFl.out (by rw [HRw.out, decide_eq_false h1]; rfl))
                  clear h1
                  go_upto_region 10 with fail
                  go_quiet (fail)
                  clear cf cg cn k1
                  go_wp2
                  go_ret
                  exact ⟨ret_bool HY.out.symm, F0.out.trans (hf.out.trans (fuw_dr _ _))⟩
              · have HY := Lib.hid (show R = true by rw [HZ3.out]; exact all_rng1 fun j hj => HA.out j (by omega))
                have hge : ¬ (i : Int) < (c.ns.length : Int) := by omega
                go_wp2
                go_ret
                exact ⟨ret_bool HY.out.symm, F0.out.trans hf.out⟩
          · have p5 : (xl != (c.ts.length : Int)) = true := by rw [bne_iff_ne]; exact g5
            have HZ3 := Lib.hid (show R = false by rw [HZ2.out, decide_eq_false g5]; rfl)
            clear g5 HZ2
            go_quiet (fail)
            clear c0 cl
            go_wp2
            go_ret
            exact ⟨ret_bool HZ3.out.symm, F0.out.trans (fuw_dr _ _)⟩
        · have p4 : (x0 != 0) = true := by rw [bne_iff_ne]; exact g4
          have HZ2 := Lib.hid (show R = false by rw [HZ1.out, decide_eq_false g4]; rfl)
          clear g4 HZ1 cl
          go_quiet (fail)
          clear c0
          go_wp2
          go_ret
          exact ⟨ret_bool HZ2.out.symm, F0.out.trans (fuw_dr _ _)⟩
      · have p3 : ((c.fs.length : Int) != (c.ns.length : Int) + 1) = true := by rw [bne_iff_ne]; omega
        have HZ1 := Lib.hid (show R = false by rw [HZ.out, decide_eq_false g3]; rfl)
        clear g3 HZ
        go_quiet (fail)
        go_wp2
        go_ret
        exact ⟨ret_bool HZ1.out.symm, F0.out.trans (fuw_dr _ _)⟩
  · have p0 : ((c.ts.length : Int) != (c.es.length : Int)) = true := by rw [bne_iff_ne]; omega
    have HZ := Lib.hid (show R = false by rw [HR.out, decide_eq_false g0]; rfl)
    clear g0
    go_wp2
    go_ret
    exact ⟨ret_bool HZ.out.symm, F0.out⟩
end Go.Proofs.YtpjikijfendmhaaGreat
