/-
  Package frac: Of, Floor and Text. For every pair of ints (Text: where the table of powers of ten reads as laid); nothing that was there turns.
-/
import Derived.Test.YtdkmfhlmeildmaaDoorFzA
import Derived.Test.YtdkmfhlmeildmaaDoorNumT
namespace Go.Proofs.YtdkmfhlmeildmaaDoor
open Go.RowKit

theorem gcd_in {n d : Int} (hn : inB n = true) (hd : inB d = true) : gcdV n d = ((Nat.gcd n.natAbs d.natAbs : Nat) : Int) := by
  unfold gcdV
  rw [if_pos ⟨hn, hd⟩]
  rfl
theorem gcd_neg {n d : Int} (hn : inB n = true) (hd : inB d = true) : gcdV (-n) (-d) = ((Nat.gcd n.natAbs d.natAbs : Nat) : Int) := by
  obtain ⟨a, b⟩ := inB_t hn
  obtain ⟨a', b'⟩ := inB_t hd
  rw [gcd_in (inB_mk (by omega) (by omega)) (inB_mk (by omega) (by omega)), Int.natAbs_neg, Int.natAbs_neg]
set_option maxHeartbeats 1600000 in
theorem nf_of (n d : Int) (w : World) : Calls Tryd.prog 9 #[.int .i64 n, .int .i64 d] w (RetFB w (rN (ofO n d)) (rD (ofO n d)) (rB (ofO n d))) := by
  have C1 := Lib.hid (fun w => num_in n w)
  have C2 := Lib.hid (fun w => num_in d w)
  cases hn : inB n
  · rw [ofO_none (fun h => inB_f hn ⟨h.1, h.2.1⟩), r_n.1, r_n.2.1, r_n.2.2]
    rw [hn] at C1
    clear hn
    go_enter Tryd.func9, Tryd.ntmps9
    go_wp2_with (go_at_call 33; refine (C1.out _).mono ?_; rintro e w' ⟨rfl, rfl⟩)
    try simp only [Exit.inBlock, Exit.then]
    exact fr_ret rfl rfl rfl (cell_new w _ _ _).1 (cell_new w _ _ _).2 ⟨rfl, (Fur.refl w).alloc _⟩
  cases hd : inB d
  · rw [ofO_none (fun h => inB_f hd ⟨h.2.2.1, h.2.2.2.1⟩), r_n.1, r_n.2.1, r_n.2.2]
    rw [hn] at C1
    rw [hd] at C2
    clear hn hd
    go_enter Tryd.func9, Tryd.ntmps9
    go_wp2_with fail
    go_at_call 33; refine (C1.out _).mono ?_; rintro e w' ⟨rfl, rfl⟩
    go_wp2_with fail
    go_at_call 33; refine (C2.out _).mono ?_; rintro e w' ⟨rfl, rfl⟩
    go_wp2
    try simp only [Exit.inBlock, Exit.then]
    exact fr_ret rfl rfl rfl (cell_new w _ _ _).1 (cell_new w _ _ _).2 ⟨rfl, (Fur.refl w).alloc _⟩
  by_cases hz : d = 0
  · subst hz
    rw [ofO_none (fun h => h.2.2.2.2 rfl), r_n.1, r_n.2.1, r_n.2.2]
    rw [hn] at C1
    rw [hd] at C2
    clear hn hd
    go_enter Tryd.func9, Tryd.ntmps9
    go_wp2_with fail
    go_at_call 33; refine (C1.out _).mono ?_; rintro e w' ⟨rfl, rfl⟩
    go_wp2_with fail
    go_at_call 33; refine (C2.out _).mono ?_; rintro e w' ⟨rfl, rfl⟩
    go_wp2
    try simp only [Exit.inBlock, Exit.then]
    exact fr_ret rfl rfl rfl (cell_new w _ _ _).1 (cell_new w _ _ _).2 ⟨rfl, (Fur.refl w).alloc _⟩
  obtain ⟨g1, g2⟩ := inB_t hn
  obtain ⟨g3, g4⟩ := inB_t hd
  obtain ⟨g, hg⟩ : ∃ g, g = Nat.gcd n.natAbs d.natAbs := ⟨_, rfl⟩
  obtain ⟨u, v, hu, hv, r1, r2, r3, u1, v0, v1, g0⟩ := of_low g1 g2 g3 g4 hz hg
  rw [r1, r2, r3]
  have hgI : (0 : Int) < g := by omega
  have hgz : ((g : Int) == 0) = false := by rw [beq_eq_false_iff_ne]; omega
  have hne : (d == 0) = false := by rw [beq_eq_false_iff_ne]; omega
  have hu1 : -1000000000000000 ≤ u ∧ u ≤ 1000000000000000 := by omega
  obtain ⟨hu2, hu3⟩ := hu1
  have hv2 : (v : Int) ≤ 1000000000000000 := by omega
  have hv3 : 0 < (v : Int) := by omega
  by_cases hp : 0 < d
  · rw [Int.sign_eq_one_of_pos hp, Int.mul_one] at hu
    have CG := Lib.hid (fun w => num_gcd n d w)
    rw [gcd_in hn hd, ← hg] at CG
    have q1 := Lib.hid (tdiv_ex g0 hu)
    have q2 := Lib.hid (show d / (g : Int) = v by
      have e := ediv_ex g0 hv
      rwa [show ((d.natAbs : Nat) : Int) = d by omega] at e)
    rw [hn] at C1
    rw [hd] at C2
    clear hn hd hu hv hg r1 r2 r3 hz u1 v0 v1 g0
    have hd0 : ¬ d < 0 := by omega
    go_enter Tryd.func9, Tryd.ntmps9
    go_wp2_with fail
    go_at_call 33; refine (C1.out _).mono ?_; rintro e w' ⟨rfl, rfl⟩
    go_wp2_with fail
    go_at_call 33; refine (C2.out _).mono ?_; rintro e w' ⟨rfl, rfl⟩
    go_wp2_with fail
    go_at_call 34; refine (CG.out _).mono ?_; rintro e w1 ⟨rfl, f1⟩
    have e1 := q1.out
    have e2 := q2.out
    obtain ⟨p0, f0⟩ := box1 w 0 0
    have p2' := p0.on f1
    have c20 := p2'.c0
    have c21 := p2'.c1
    have z20 := p2'.f0 0
    have z21 := p2'.f0 1
    generalize (g : Int) = G at *
    generalize (v : Int) = V at *
    go_wp2
    go_region
    go_wp2
    try simp only [Exit.inBlock, Exit.then]
    exact fr_ret_put rfl rfl rfl (p2'.drewN 1) ((f0.trans f1).trans (fur_drewN _ _)) (Nat.le_refl _)
  · have hd' : d < 0 := by omega
    rw [Int.sign_eq_neg_one_of_neg hd', Int.mul_neg_one] at hu
    have CG := Lib.hid (fun w => num_gcd (-n) (-d) w)
    rw [gcd_neg hn hd, ← hg] at CG
    have q1 := Lib.hid (tdiv_ex g0 hu)
    have q2 := Lib.hid (show (-d) / (g : Int) = v by
      have e := ediv_ex g0 hv
      rwa [show ((d.natAbs : Nat) : Int) = -d by omega] at e)
    have q3 := Lib.hid (show -(d.tdiv (g : Int)) = v by rw [← Int.neg_tdiv, Int.tdiv_eq_ediv_of_nonneg (by omega)]; exact q2.out)
    rw [hn] at C1
    rw [hd] at C2
    clear hn hd hu hv hg r1 r2 r3 hz u1 v0 v1 g0 hp
    go_enter Tryd.func9, Tryd.ntmps9
    go_wp2_with fail
    go_at_call 33; refine (C1.out _).mono ?_; rintro e w' ⟨rfl, rfl⟩
    go_wp2_with fail
    go_at_call 33; refine (C2.out _).mono ?_; rintro e w' ⟨rfl, rfl⟩
    go_wp2_with fail
    go_at_call 34; refine (CG.out _).mono ?_; rintro e w1 ⟨rfl, f1⟩
    have e1 := q1.out
    have e2 := q2.out
    have e3 := q3.out
    obtain ⟨p0, f0⟩ := box1 w 0 0
    have p2' := p0.on f1
    have c20 := p2'.c0
    have c21 := p2'.c1
    have z20 := p2'.f0 0
    have z21 := p2'.f0 1
    generalize (g : Int) = G at *
    generalize (v : Int) = V at *
    go_wp2
    go_region
    go_wp2
    try simp only [Exit.inBlock, Exit.then]
    exact fr_ret_put rfl rfl rfl (p2'.drewN 1) ((f0.trans f1).trans (fur_drewN _ _)) (Nat.le_refl _)
end Go.Proofs.YtdkmfhlmeildmaaDoor
