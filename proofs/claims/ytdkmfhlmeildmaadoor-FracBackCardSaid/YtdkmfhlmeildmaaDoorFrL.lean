/-
  The reference of package frac: Div gives the fraction of the quotient of two valid fractions and true, or no fraction and false; Floor gives the greatest int that is not greater. For every pairs of ints; nothing that was there turns.
-/
import Derived.Test.YtdkmfhlmeildmaaDoorFrK
namespace Go.Proofs.YtdkmfhlmeildmaaDoor
open Go.RowKit

theorem OkF.inv {n d : Int} (h : OkF n d) (hn : n ≠ 0) : OkF (n.sign * d) (n.natAbs : Int) ∧ fv (n.sign * d) (n.natAbs : Int) = (fv n d)⁻¹ := by
  have d1 := h.d1; have d2 := h.d2; have n1 := h.n1; have n2 := h.n2
  have sg : n.sign = 1 ∨ n.sign = -1 := by
    rcases sign_cases n with s | s | s
    · exact absurd (Int.sign_eq_zero_iff_zero.1 s) hn
    · exact .inl s
    · exact .inr s
  have ab : (n.sign * d).natAbs = d.toNat := by
    rcases sg with s | s <;> rw [s] <;> omega
  have co : Nat.gcd (n.sign * d).natAbs n.natAbs = 1 := by rw [ab, Nat.gcd_comm]; exact h.co
  refine ⟨⟨by omega, by omega, ?_, ?_, by rw [Int.toNat_natCast]; exact co⟩, ?_⟩
  · rcases sg with s | s <;> rw [s] <;> omega
  · rcases sg with s | s <;> rw [s] <;> omega
  · obtain ⟨a, b⟩ := h.v
    have c := Rat.num_inv (fv n d)
    have e := Rat.den_inv (fv n d)
    rw [a, b] at c
    rw [a, if_neg hn] at e
    rw [show ((d.toNat : Nat) : Int) = d by omega] at c
    have k := Rat.mkRat_self (fv n d)⁻¹
    rw [c, e] at k
    unfold fv at k ⊢
    rw [Int.toNat_natCast]
    exact k
theorem div_mul {an ad bn bd : Int} (vb : okF bn bd = true) (hn : bn ≠ 0) : mulO an ad (bn.sign * bd) (bn.natAbs : Int) = divO an ad bn bd := by
  obtain ⟨o, e⟩ := (okF_t vb).inv hn
  unfold mulO divO opO
  rw [o.b, vb, e]
  by_cases ha : okF an ad = true
  · rw [if_pos ⟨ha, rfl⟩, if_pos ⟨ha, rfl, hn⟩, Rat.div_def]
  · rw [if_neg (fun k => ha k.1), if_neg (fun k => ha k.1)]
theorem div_fb {an ad bn bd : Int} (vb : okF bn bd = false) : divO an ad bn bd = none := if_neg (by rw [vb]; intro h; cases h.2.1)
theorem div_f0 {an ad bd : Int} : divO an ad 0 bd = none := if_neg (fun h => h.2.2 rfl)

set_option maxHeartbeats 3200000 in
theorem rdiv_any (an ad bn bd : Int) (w : World) :
    Calls Tryd.prog 21 #[.agg #[.int .i64 an, .int .i64 ad], .agg #[.int .i64 bn, .int .i64 bd]] w (RetFB w (rN (divO an ad bn bd)) (rD (divO an ad bn bd)) (rB (divO an ad bn bd))) := by
  obtain ⟨p0, p1, p2, f0⟩ := box3 w an ad bn bd 0 0 23 rfl
  have VB := Lib.hid (fun w => rvalid_any bn bd w)
  cases vb : okF bn bd
  · rw [div_fb vb, r_n.1, r_n.2.1, r_n.2.2]
    rw [vb] at VB
    clear vb
    go_enter Tryd.func21, Tryd.ntmps21
    go_wp2_with fail
    go_at_call 12; refine (VB.out _).mono ?_; rintro e1 w1 ⟨rfl, f1⟩
    have p2' := p2.on f1
    have f04 := f0.trans f1
    have c20 := p2'.c0
    have c21 := p2'.c1
    have z20 := p2'.f0 0
    have z21 := p2'.f0 1
    clear p0 p1 p2 f0 f1
    go_wp2
    try simp only [Exit.inBlock, Exit.then]
    exact fr_ret_put rfl rfl rfl p2' f04 (by omega)
  rw [vb] at VB
  by_cases hn : bn = 0
  · subst hn
    rw [div_f0, r_n.1, r_n.2.1, r_n.2.2]
    clear vb
    go_enter Tryd.func21, Tryd.ntmps21
    go_wp2_with fail
    go_at_call 12; refine (VB.out _).mono ?_; rintro e1 w1 ⟨rfl, f1⟩
    have p2' := p2.on f1
    have p1' := p1.on f1
    have f04 := f0.trans f1
    have c10 := p1'.c0
    have c20 := p2'.c0
    have c21 := p2'.c1
    have z20 := p2'.f0 0
    have z21 := p2'.f0 1
    clear p0 p1 p2 f0 f1
    go_wp2
    try simp only [Exit.inBlock, Exit.then]
    exact fr_ret_put rfl rfl rfl p2' f04 (by omega)
  have CM := Lib.hid (fun w => rmul_any an ad (bn.sign * bd) (bn.natAbs : Int) w)
  rw [div_mul vb hn] at CM
  generalize rN (divO an ad bn bd) = N at *
  generalize rD (divO an ad bn bd) = D at *
  generalize rB (divO an ad bn bd) = c at *
  have hb := okF_t vb
  have b1 := hb.n1; have b2 := hb.n2; have b3 := hb.d1; have b4 := hb.d2
  have hw : IntKind.i64.wrap (bn.sign * bd) = bn.sign * bd := by
    rcases sign_cases bn with s | s | s <;> rw [s]
    · rw [Int.zero_mul]; rfl
    · rw [Int.one_mul]; exact IntWalk.i64_in _ (by omega)
    · rw [Int.neg_one_mul]; exact IntWalk.i64_in _ (by omega)
  obtain ⟨Q, hQ⟩ : ∃ Q, Q = bn.sign * bd := ⟨_, rfl⟩
  rw [← hQ] at hw CM
  rw [hQ] at hw
  rw [← hQ] at hw
  have hw2 : IntKind.i64.wrap (bn.sign * bd) = Q := by rw [← hQ]; exact hw
  have HW := Lib.hid hw2
  have hne : (bn == 0) = false := by rw [beq_eq_false_iff_ne]; exact hn
  clear vb hb hw hw2 hQ hn
  go_enter Tryd.func21, Tryd.ntmps21
  go_wp2_with fail
  go_at_call 12; refine (VB.out _).mono ?_; rintro e1 w1 ⟨rfl, f1⟩
  replace p0 := p0.on f1
  replace p1 := p1.on f1
  replace p2 := p2.on f1
  replace f0 := f0.trans f1
  have c00 := p0.c0
  have c01 := p0.c1
  have c10 := p1.c0
  have c11 := p1.c1
  clear f1
  have hw := HW.out
  go_wp2_with fail
  have n20 : ¬ (w.heap.size + 1 + 1 = w.heap.size) := by omega
  have n21 : ¬ (w.heap.size + 1 + 1 = w.heap.size + 1) := by omega
  go_region_held3 (fun w' => w'.cell? ⟨w.heap.size, 0, none⟩ = some (.int .i64 an) ∧ w'.cell? ⟨w.heap.size, 1, none⟩ = some (.int .i64 ad) ∧ w'.cell? ⟨w.heap.size + 1, 0, none⟩ = some (.int .i64 bn) ∧ w'.cell? ⟨w.heap.size + 1, 1, none⟩ = some (.int .i64 bd))
    (first
      | go_keep
      | (refine ⟨cellOn (by assumption) ?_, cellOn (by assumption) ?_, cellOn (by assumption) ?_, cellOn (by assumption) ?_⟩ <;> simp [*]))
    (first
      | (go_at_call 44; refine (rsign_any _ _).mono ?_; rintro e w' ⟨rfl, rfl⟩)
      | (go_at_call 36; refine (rsize_any _ ?_ ?_ _).mono ?_; (first | omega | skip); (first | omega | skip); rintro e w' ⟨rfl, rfl⟩)
      | (go_at_call 19; refine (CM.out _).mono ?_; rintro e1 w2 ⟨rfl, f2⟩; have p2' := p2.on ((Fur.refl _).drew.trans f2); have c20 := p2'.c0; have c21 := p2'.c1; have z20 := p2'.f0 0; have z21 := p2'.f0 1))
  go_wp2
  try simp only [Exit.inBlock, Exit.then]
  exact fr_ret_put rfl rfl rfl p2' (f0.trans ((Fur.refl _).drew.trans f2)) (by omega)

end Go.Proofs.YtdkmfhlmeildmaaDoor
