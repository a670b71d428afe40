
/-
  Package column: whether First divides the entries into rows; whether a column is valid. Nothing that was there turns.
-/
import Derived.Test.YtpjikijfendmhaaGreatCoT
import Derived.Deep.QuietTactic
import Derived.BigQuiet
namespace Go.Proofs.YtpjikijfendmhaaGreat
open Go.RowKit

theorem natI (a b : Nat) : ((a : Int) == (b : Int)) = decide (a = b) := by
  rw [Bool.eq_iff_iff, beq_iff_eq, decide_eq_true_eq]; omega
set_option maxHeartbeats 6400000 in
set_option maxRecDepth 100000 in
theorem hbnd_any (c : Cm) (A : CA) (w : World) (hC : CIn w c A) :
    Calls Tryz.prog 70 #[colv c A] w (FwB w (bndB c)) := by
  obtain ⟨w0, hw0⟩ : ∃ w0, w.alloc (.cells (colC c A) 24) = w0 := ⟨_, rfl⟩
  have B0 := Lib.hid (show Bk w0 w.heap.size (colC c A) 24 by rw [← hw0]; exact Bk.new _ _ _)
  have F0 := Lib.hid (show Fuw w w0 by rw [← hw0]; exact fuwA _ _)
  have HC := Lib.hid (hC.on F0.out)
  obtain ⟨R, hR⟩ : ∃ R, R = bndB c := ⟨_, rfl⟩
  have HR := Lib.hid (show R = if c.fs.length = 0 then decide (c.ns.length = 0) && decide (c.ts.length = 0) && decide (c.es.length = 0)
    else decide (c.fs.length = c.ns.length + 1) && decide (c.fs.getD 0 0 = 0) && incI c.fs && decide (c.fs.getD c.ns.length 0 = (c.ts.length : Int)) && decide (c.ts.length = c.es.length) from hR)
  rw [← hR]
  have m1 := hC.n.cap_
  have m2 := hC.f.cap_
  have m3 := hC.t.cap_
  have m4 := hC.e.cap_
  have l1 := hC.n.le
  have l2 := hC.f.le
  have l3 := hC.t.le
  have l4 := hC.e.le
  have d1 := B0.out.c 0; have d2 := B0.out.c 1; have d3 := B0.out.c 2; have d4 := B0.out.c 3
  unfold colv
  unfold colC at d1 d2 d3 d4 hw0 ⊢
  simp only [List.getElem?_toArray, List.getElem?_cons_zero, List.getElem?_cons_succ] at d1 d2 d3 d4
  clear hC hR
  have HL1 := Lib.hid (show ∀ n, c.ns.length = n → n = c.ns.length from fun _ h => h.symm)
  have ff : Fuw w0 w0 := Fuw.refl _
  obtain ⟨nn, hn⟩ : ∃ nn, nn = c.ns.length := ⟨_, rfl⟩
  obtain ⟨nt, ht⟩ : ∃ nt, nt = c.ts.length := ⟨_, rfl⟩
  obtain ⟨ne, he⟩ : ∃ ne, ne = c.es.length := ⟨_, rfl⟩
  rw [← hn] at HR d1 hw0 l1 ⊢
  rw [← ht] at HR d3 hw0 l3 ⊢
  rw [← he] at HR d4 hw0 l4 ⊢
  have HN := Lib.hid hn
  have HT := Lib.hid ht
  have HE := Lib.hid he
  clear hn ht he HL1
  by_cases h0 : c.fs.length = 0
  · have HZ := Lib.hid (show R = (decide (nn = 0) && decide (nt = 0) && decide (ne = 0)) by rw [HR.out, if_pos h0])
    rw [h0] at d2 hw0 ⊢
    clear h0 HR l2
    go_enter Tryz.func70, Tryz.ntmps70
    go_wp2
    all_goals
      go_ret
      exact ⟨ret_bool (by rw [HZ.out, Bool.eq_iff_iff]; simp; omega), F0.out⟩
  · have hp : 0 < c.fs.length := by omega
    obtain ⟨b2, o2, e2, ⟨-, cf⟩⟩ := HC.out.f.get hp
    have HZ := Lib.hid (show R = (decide (c.fs.length = nn + 1) && decide (c.fs[0] = 0) && incI c.fs && decide (c.fs.getD nn 0 = (nt : Int)) && decide (nt = ne)) by rw [HR.out, if_neg h0, gd hp])
    have HI := Lib.hid (areinc_q c.fs A.a2 A.k2)
    have HQ := Lib.hid (fun m => HI.out (w0.drewN m) (slI_on (fuw_dr w0 m) HC.out.f))
    have HL := Lib.hid (fun (h : nn < c.fs.length) => HC.out.f.get h)
    rw [e2] at d2 hw0 HQ HL ⊢
    rw [Nat.zero_mul, Nat.add_zero] at cf
    clear HI HR h0 e2
    generalize c.fs[0] = x0 at *
    generalize incI c.fs = q3 at *
    have hnf : ¬ ((c.fs.length : Nat) : Int) - 1 < 0 := by omega
    have hlt0 : (0 : Int) < (c.fs.length : Int) := by omega
    by_cases g1 : c.fs.length = nn + 1
    · have p1 : (((c.fs.length : Nat) : Int) - 1 == (nn : Int)) = true := by rw [beq_iff_eq]; omega
      obtain ⟨b', o', e', ⟨-, cl⟩⟩ := HL.out (by omega)
      cases e'
      rw [Nat.mul_one] at cl
      have HZ1 := Lib.hid (show R = (decide (x0 = 0) && q3 && decide (c.fs[nn]'(by omega) = (nt : Int)) && decide (nt = ne)) by
        rw [HZ.out, decide_eq_true g1, Bool.true_and, gd (show nn < c.fs.length by omega)])
      generalize c.fs[nn]'(by omega) = xl at *
      clear HZ HL
      by_cases g2 : x0 = 0
      · have p2 : (x0 == 0) = true := by rw [beq_iff_eq]; exact g2
        have HZ2 := Lib.hid (show R = (q3 && decide (xl = (nt : Int)) && decide (nt = ne)) by rw [HZ1.out, decide_eq_true g2, Bool.true_and])
        clear HZ1 g2
        have e3 : (((c.fs.length : Nat) : Int) - 1).toNat = nn := by omega
        have z1 : ((c.fs.length : Nat) : Int) - 1 < (c.fs.length : Int) := by omega
        have z2 : (0 : Int) ≤ ((c.fs.length : Nat) : Int) - 1 := by omega
        clear g1
        cases q3 with
        | false =>
          have HZ3 := Lib.hid (show R = false by rw [HZ2.out]; rfl)
          clear HZ2
          go_enter Tryz.func70, Tryz.ntmps70
          go_upto_region 4 with fail
          go_quiet ((go_at_call 69; exact Calls.quiet_of (HQ.out _)))
          go_wp2
          go_ret
          exact ⟨ret_bool HZ3.out.symm, F0.out.trans (fuw_dr _ _)⟩
        | true =>
          have HZ3 := Lib.hid (show R = (decide (xl = (nt : Int)) && decide (nt = ne)) by rw [HZ2.out, Bool.true_and])
          clear HZ2
          by_cases g4 : xl = (nt : Int)
          · have p4 : (xl == (nt : Int)) = true := by rw [beq_iff_eq]; exact g4
            have HZ4 := Lib.hid (show R = ((nt : Int) == (ne : Int)) by rw [HZ3.out, decide_eq_true g4, natI, Bool.true_and])
            clear HZ3 g4
            by_cases g5 : ((nt : Int) == (ne : Int)) = true
            · have HZ5 := Lib.hid (show R = true by rw [HZ4.out, g5])
              clear HZ4
              go_enter Tryz.func70, Tryz.ntmps70
              go_upto_region 4 with fail
              go_quiet ((go_at_call 69; exact Calls.quiet_of (HQ.out _)))
              go_wp2
              go_ret
              exact ⟨ret_bool HZ5.out.symm, F0.out.trans (fuw_dr _ _)⟩
            · have g5' : ((nt : Int) == (ne : Int)) = false := by simpa using g5
              have HZ5 := Lib.hid (show R = false by rw [HZ4.out, g5'])
              clear HZ4 g5
              go_enter Tryz.func70, Tryz.ntmps70
              go_upto_region 4 with fail
              go_quiet ((go_at_call 69; exact Calls.quiet_of (HQ.out _)))
              go_wp2
              go_ret
              exact ⟨ret_bool HZ5.out.symm, F0.out.trans (fuw_dr _ _)⟩
          · have p4 : (xl == (nt : Int)) = false := by rw [beq_eq_false_iff_ne]; exact g4
            have HZ4 := Lib.hid (show R = false by rw [HZ3.out, decide_eq_false g4]; rfl)
            clear HZ3 g4
            go_enter Tryz.func70, Tryz.ntmps70
            go_upto_region 4 with fail
            go_quiet ((go_at_call 69; exact Calls.quiet_of (HQ.out _)))
            go_wp2
            go_ret
            exact ⟨ret_bool HZ4.out.symm, F0.out.trans (fuw_dr _ _)⟩
      · have p2 : (x0 == 0) = false := by rw [beq_eq_false_iff_ne]; exact g2
        have HZ2 := Lib.hid (show R = false by rw [HZ1.out, decide_eq_false g2]; rfl)
        clear HZ1 g2 g1 HQ
        go_enter Tryz.func70, Tryz.ntmps70
        go_upto_region 4 with fail
        go_quiet (fail)
        go_wp2
        go_ret
        exact ⟨ret_bool HZ2.out.symm, F0.out.trans (fuw_dr _ _)⟩
    · have p1 : (((c.fs.length : Nat) : Int) - 1 == (nn : Int)) = false := by rw [beq_eq_false_iff_ne]; omega
      have HZ1 := Lib.hid (show R = false by rw [HZ.out, decide_eq_false g1]; rfl)
      clear HZ HL HQ g1
      go_enter Tryz.func70, Tryz.ntmps70
      go_upto_region 4 with fail
      go_quiet (fail)
      go_wp2
      go_ret
      exact ⟨ret_bool HZ1.out.symm, F0.out.trans (fuw_dr _ _)⟩
end Go.Proofs.YtpjikijfendmhaaGreat
