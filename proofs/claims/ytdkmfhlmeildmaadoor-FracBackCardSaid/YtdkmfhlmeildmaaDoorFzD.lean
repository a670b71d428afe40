/-
  Package frac: Mul gives the fraction of the product of two valid fractions and true, or no fraction and false. For every two pairs of ints; nothing that was there turns.
-/
import Derived.Test.YtdkmfhlmeildmaaDoorFzB
import Derived.Deep.RegionHeld3
namespace Go.Proofs.YtdkmfhlmeildmaaDoor
open Go.RowKit

/-- A call of two fractions ends where one is not valid. -/
theorem no_both {an ad bn bd : Int} (f : Rat → Rat → Rat) (h : okF an ad = false ∨ okF bn bd = false) : rN (opO f an ad bn bd) = 0 ∧ rD (opO f an ad bn bd) = 0 ∧ rB (opO f an ad bn bd) = false := by
  rcases h with h | h
  · rw [op_fa h]; exact r_n
  · rw [op_fb h]; exact r_n

set_option maxHeartbeats 3200000 in
set_option maxRecDepth 100000 in
theorem mul_walk (an ad bn bd g h X Y P Q : Int) (w : World) (va : okF an ad = true) (vb : okF bn bd = true)
    (CG : Hid (gcdV an bd = g)) (CH : Hid (gcdV bn ad = h))
    (g1 : 0 < g) (h1 : 0 < h) (qX : an.tdiv g = X) (qY : bn.tdiv h = Y) (qP : ad / h = P) (qP' : ad.tdiv h = P) (qQ : bd / g = Q) (qQ' : bd.tdiv g = Q)
    (x0 : -1000000000000000 ≤ X) (x1 : X ≤ 1000000000000000) (y0 : -1000000000000000 ≤ Y) (y1 : Y ≤ 1000000000000000) (p0' : 0 ≤ P) (p1' : P ≤ 1000000000000000) (q0' : 0 ≤ Q) (q1' : Q ≤ 1000000000000000) :
    Calls Tryd.prog 18 #[.agg #[.int .i64 an, .int .i64 ad], .agg #[.int .i64 bn, .int .i64 bd]] w (RetFB w (bothN (mulV X Y) (mulB X Y) (mulB P Q)) (bothN (mulV P Q) (mulB X Y) (mulB P Q)) (mulB X Y && mulB P Q)) := by
  obtain ⟨p0, p1, p2, f0⟩ := box3 w an ad bn bd 0 0 23 rfl
  have VA := Lib.hid (fun w => nf_valid an ad w)
  have VB := Lib.hid (fun w => nf_valid bn bd w)
  rw [va] at VA
  rw [vb] at VB
  have ha := okF_t va
  have hb := okF_t vb
  have a1 := ha.d1; have a2 := ha.d2; have a3 := ha.n1; have a4 := ha.n2
  have b1 := hb.d1; have b2 := hb.d2; have b3 := hb.n1; have b4 := hb.n2
  have gz : (g == 0) = false := by rw [beq_eq_false_iff_ne]; omega
  have hz : (h == 0) = false := by rw [beq_eq_false_iff_ne]; omega
  have CX := Lib.hid (fun w => num_mul X Y w)
  have CP := Lib.hid (fun w => num_mul P Q w)
  have CF := Lib.hid (fun w => fraction_any (mulV X Y) (mulV P Q) (mulB X Y) (mulB P Q) w)
  generalize mulV X Y = xv at *
  generalize mulV P Q = pv at *
  generalize mulB X Y = xb at *
  generalize mulB P Q = pb at *
  generalize bothN xv xb pb = rn at *
  generalize bothN pv xb pb = rd at *
  generalize (xb && pb) = rb at *
  have QX := Lib.hid (And.intro (And.intro qX qY) (And.intro (And.intro qP qP') (And.intro qQ qQ')))
  have BX := Lib.hid (And.intro (And.intro (And.intro x0 x1) (And.intro y0 y1)) (And.intro (And.intro p0' p1') (And.intro q0' q1')))
  have GX := Lib.hid (And.intro (And.intro g1 gz) (And.intro h1 hz))
  have AX := Lib.hid (And.intro (And.intro (And.intro a1 a2) (And.intro a3 a4)) (And.intro (And.intro b1 b2) (And.intro b3 b4)))
  clear va vb ha hb qX qY qP qP' qQ qQ' x0 x1 y0 y1 p0' p1' q0' q1' g1 h1 gz hz a1 a2 a3 a4 b1 b2 b3 b4
  have c00 := p0.c0
  have c01 := p0.c1
  go_enter Tryd.func18, Tryd.ntmps18
  go_wp2_with fail
  go_at_call 11; refine (VA.out _).mono ?_; rintro e1 w1 ⟨rfl, f1⟩
  clear c00 c01
  replace p0 := p0.on f1
  replace p1 := p1.on f1
  replace p2 := p2.on f1
  replace f0 := f0.trans f1
  have c10 := p1.c0
  have c11 := p1.c1
  go_wp2_with fail
  go_at_call 11; refine (VB.out _).mono ?_; rintro e1 w2 ⟨rfl, f2⟩
  clear c10 c11
  replace p0 := p0.on f2
  replace p1 := p1.on f2
  replace p2 := p2.on f2
  replace f0 := f0.trans f2
  clear f1 f2 VA VB
  have c00 := p0.c0
  have c01 := p0.c1
  have c10 := p1.c0
  have c11 := p1.c1
  go_upto_region 3 with fail
  go_region_held3 (fun w' => Fur w2 w' ∧ w'.cell? ⟨w.heap.size, 0, none⟩ = some (.int .i64 an) ∧ w'.cell? ⟨w.heap.size, 1, none⟩ = some (.int .i64 ad) ∧ w'.cell? ⟨w.heap.size + 1, 0, none⟩ = some (.int .i64 bn) ∧ w'.cell? ⟨w.heap.size + 1, 1, none⟩ = some (.int .i64 bd))
    (first
      | (refine ⟨Fur.drew (Fur.refl _), ?_, ?_, ?_, ?_⟩ <;> simp [*]; done)
      | go_keep
      | (refine ⟨Fur.trans ?_ (by assumption), cellOn (by assumption) ?_, cellOn (by assumption) ?_, cellOn (by assumption) ?_, cellOn (by assumption) ?_⟩ <;> simp [*]))
    (first | (go_at_call 34; refine (num_gcd _ _ _).mono ?_; rintro e w3 ⟨rfl, f3⟩))
  have hS : Fur w2 w3 ∧ w3.cell? ⟨w.heap.size, 0, none⟩ = some (.int .i64 an) ∧ w3.cell? ⟨w.heap.size, 1, none⟩ = some (.int .i64 ad) ∧ w3.cell? ⟨w.heap.size + 1, 0, none⟩ = some (.int .i64 bn) ∧ w3.cell? ⟨w.heap.size + 1, 1, none⟩ = some (.int .i64 bd) := by assumption
  clear c00 c01 c10 c11
  obtain ⟨f4, c00, c01, c10, c11⟩ := hS
  replace p2 := p2.on f4
  replace f0 := f0.trans f4
  clear p0 p1
  obtain ⟨⟨qX, qY⟩, ⟨qP, qP'⟩, ⟨qQ, qQ'⟩⟩ := QX.out
  obtain ⟨⟨⟨x0, x1⟩, ⟨y0, y1⟩⟩, ⟨⟨p0', p1'⟩, ⟨q0', q1'⟩⟩⟩ := BX.out
  obtain ⟨⟨g1, gz⟩, ⟨h1, hz⟩⟩ := GX.out
  obtain ⟨⟨⟨a1, a2⟩, ⟨a3, a4⟩⟩, ⟨⟨b1, b2⟩, ⟨b3, b4⟩⟩⟩ := AX.out
  simp only [CG.out, CH.out]
  have wX : IntKind.i64.wrap X = X := IntWalk.i64_in X (by omega)
  have wY : IntKind.i64.wrap Y = Y := IntWalk.i64_in Y (by omega)
  have wP : IntKind.i64.wrap P = P := IntWalk.i64_in P (by omega)
  have wQ : IntKind.i64.wrap Q = Q := IntWalk.i64_in Q (by omega)
  have gn : ¬ g = 0 := by omega
  have hn : ¬ h = 0 := by omega
  clear CG CH QX BX GX AX
  go_upto_region 4 with fail
  go_region_held3 (fun w' => Fur w3 w' ∧ w'.cell? ⟨w.heap.size, 0, none⟩ = some (.int .i64 an) ∧ w'.cell? ⟨w.heap.size, 1, none⟩ = some (.int .i64 ad) ∧ w'.cell? ⟨w.heap.size + 1, 0, none⟩ = some (.int .i64 bn) ∧ w'.cell? ⟨w.heap.size + 1, 1, none⟩ = some (.int .i64 bd))
    (first
      | (refine ⟨Fur.drew (Fur.refl _), ?_, ?_, ?_, ?_⟩ <;> simp [*]; done)
      | go_keep
      | (refine ⟨Fur.trans ?_ (by assumption), cellOn (by assumption) ?_, cellOn (by assumption) ?_, cellOn (by assumption) ?_, cellOn (by assumption) ?_⟩ <;> simp [*]))
    (first | (go_at_call 41; refine (CX.out _).mono ?_; rintro e w5 ⟨rfl, rfl⟩))
  have hS : Fur w3 w3.drew ∧ w3.drew.cell? ⟨w.heap.size, 0, none⟩ = some (.int .i64 an) ∧ w3.drew.cell? ⟨w.heap.size, 1, none⟩ = some (.int .i64 ad) ∧ w3.drew.cell? ⟨w.heap.size + 1, 0, none⟩ = some (.int .i64 bn) ∧ w3.drew.cell? ⟨w.heap.size + 1, 1, none⟩ = some (.int .i64 bd) := by assumption
  clear c00 c01 c10 c11
  obtain ⟨f5, c00, c01, c10, c11⟩ := hS
  replace p2 := p2.on f5
  replace f0 := f0.trans f5
  clear f5 CX
  generalize w3.drew = w5 at *
  go_upto_region 5 with fail
  go_region_held3 (fun w' => Fur w5 w' ∧ w'.cell? ⟨w.heap.size, 0, none⟩ = some (.int .i64 an) ∧ w'.cell? ⟨w.heap.size, 1, none⟩ = some (.int .i64 ad) ∧ w'.cell? ⟨w.heap.size + 1, 0, none⟩ = some (.int .i64 bn) ∧ w'.cell? ⟨w.heap.size + 1, 1, none⟩ = some (.int .i64 bd))
    (first
      | (refine ⟨Fur.drew (Fur.refl _), ?_, ?_, ?_, ?_⟩ <;> simp [*]; done)
      | go_keep
      | (refine ⟨Fur.trans ?_ (by assumption), cellOn (by assumption) ?_, cellOn (by assumption) ?_, cellOn (by assumption) ?_, cellOn (by assumption) ?_⟩ <;> simp [*]))
    (first | (go_at_call 41; refine (CP.out _).mono ?_; rintro e w6 ⟨rfl, rfl⟩))
  have hS : Fur w5 w5.drew ∧ w5.drew.cell? ⟨w.heap.size, 0, none⟩ = some (.int .i64 an) ∧ w5.drew.cell? ⟨w.heap.size, 1, none⟩ = some (.int .i64 ad) ∧ w5.drew.cell? ⟨w.heap.size + 1, 0, none⟩ = some (.int .i64 bn) ∧ w5.drew.cell? ⟨w.heap.size + 1, 1, none⟩ = some (.int .i64 bd) := by assumption
  clear c00 c01 c10 c11
  obtain ⟨f6, -, -, -, -⟩ := hS
  replace p2 := p2.on f6
  replace f0 := f0.trans f6
  clear f6 CP
  generalize w5.drew = w7 at *
  go_wp2_with fail
  go_at_call 42; refine (CF.out _).mono ?_; rintro e w8 ⟨rfl, f8⟩
  have p2' := p2.on f8
  have f04 := f0.trans f8
  have c20 := p2'.c0
  have c21 := p2'.c1
  have z20 := p2'.f0 0
  have z21 := p2'.f0 1
  go_wp2
  try simp only [Exit.inBlock, Exit.then]
  exact fr_ret_put rfl rfl rfl p2' f04 (by omega)

theorem both_fit {q : Rat} {nv dv : Int} {a b : Bool} (hn : a = true → nv = q.num) (ha : a = decide (q.num.natAbs ≤ 1000000000000000)) (hd : b = true → dv = q.den) (hb : b = decide (q.den ≤ 1000000000000000)) :
    bothN nv a b = rN (some q) ∧ bothN dv a b = rD (some q) ∧ (a && b) = rB (some q) := by
  have e : (a && b) = fit q := by rw [ha, hb]; rfl
  unfold bothN
  cases h : fit q
  · rw [h] at e
    rw [(r_f h).1, (r_f h).2.1, (r_f h).2.2, e]
    exact ⟨rfl, rfl, rfl⟩
  · rw [h] at e
    rw [(r_t h).1, (r_t h).2.1, (r_t h).2.2, e]
    rw [Bool.and_eq_true] at e
    exact ⟨hn e.1, hd e.2, rfl⟩
theorem inB_abs (z : Int) : inB z = decide (z.natAbs ≤ 1000000000000000) := by
  rw [Bool.eq_iff_iff, decide_eq_true_iff]
  constructor
  · intro h; have := inB_t h; omega
  · intro h; exact inB_mk (by omega) (by omega)
theorem mulB_in {X Y : Int} (hx : inB X = true) (hy : inB Y = true) : mulB X Y = decide ((X * Y).natAbs ≤ 1000000000000000) := by
  unfold mulB
  rw [hx, hy, inB_abs]; rfl
theorem mulV_of {X Y : Int} (h : mulB X Y = true) : mulV X Y = X * Y := by
  unfold mulV
  rw [if_pos h]
theorem nf_mul (an ad bn bd : Int) (w : World) :
    Calls Tryd.prog 18 #[.agg #[.int .i64 an, .int .i64 ad], .agg #[.int .i64 bn, .int .i64 bd]] w (RetFB w (rN (mulO an ad bn bd)) (rD (mulO an ad bn bd)) (rB (mulO an ad bn bd))) := by
  cases va : okF an ad
  · obtain ⟨r1, r2, r3⟩ := no_both (an := an) (ad := ad) (bn := bn) (bd := bd) (· * ·) (.inl va)
    rw [show mulO an ad bn bd = opO (· * ·) an ad bn bd from rfl, r1, r2, r3]
    obtain ⟨p0, p1, p2, f0⟩ := box3 w an ad bn bd 0 0 23 rfl
    have VA := Lib.hid (fun w => nf_valid an ad w)
    rw [va] at VA
    clear va r1 r2 r3
    have c00 := p0.c0
    have c01 := p0.c1
    go_enter Tryd.func18, Tryd.ntmps18
    go_wp2_with fail
    go_at_call 11; refine (VA.out _).mono ?_; rintro e1 w1 ⟨rfl, f1⟩
    have p2' := p2.on f1
    have f04 := f0.trans f1
    clear c00 c01
    have c20 := p2'.c0
    have c21 := p2'.c1
    have z20 := p2'.f0 0
    have z21 := p2'.f0 1
    clear p0 p1 p2 f0 f1
    go_wp2
    try simp only [Exit.inBlock, Exit.then]
    exact fr_ret_put rfl rfl rfl p2' f04 (by omega)
  cases vb : okF bn bd
  · obtain ⟨r1, r2, r3⟩ := no_both (an := an) (ad := ad) (bn := bn) (bd := bd) (· * ·) (.inr vb)
    rw [show mulO an ad bn bd = opO (· * ·) an ad bn bd from rfl, r1, r2, r3]
    obtain ⟨p0, p1, p2, f0⟩ := box3 w an ad bn bd 0 0 23 rfl
    have VA := Lib.hid (fun w => nf_valid an ad w)
    have VB := Lib.hid (fun w => nf_valid bn bd w)
    rw [va] at VA
    rw [vb] at VB
    clear va vb r1 r2 r3
    have c00 := p0.c0
    have c01 := p0.c1
    go_enter Tryd.func18, Tryd.ntmps18
    go_wp2_with fail
    go_at_call 11; refine (VA.out _).mono ?_; rintro e1 w1 ⟨rfl, f1⟩
    replace p1 := p1.on f1
    replace p2 := p2.on f1
    replace f0 := f0.trans f1
    clear c00 c01
    have c10 := p1.c0
    have c11 := p1.c1
    go_wp2_with fail
    go_at_call 11; refine (VB.out _).mono ?_; rintro e1 w2 ⟨rfl, f2⟩
    have p2' := p2.on f2
    have f04 := f0.trans f2
    clear c10 c11 p0 p1 p2 f0 f1 f2
    have c20 := p2'.c0
    have c21 := p2'.c1
    have z20 := p2'.f0 0
    have z21 := p2'.f0 1
    go_wp2
    try simp only [Exit.inBlock, Exit.then]
    exact fr_ret_put rfl rfl rfl p2' f04 (by omega)
  have ha := okF_t va
  have hb := okF_t vb
  have a1 := ha.d1; have a2 := ha.d2; have a3 := ha.n1; have a4 := ha.n2
  have b1 := hb.d1; have b2 := hb.d2; have b3 := hb.n1; have b4 := hb.n2
  obtain ⟨AD, rfl⟩ : ∃ AD : Nat, ad = (AD : Int) := ⟨ad.toNat, by omega⟩
  obtain ⟨BD, rfl⟩ : ∃ BD : Nat, bd = (BD : Int) := ⟨bd.toNat, by omega⟩
  obtain ⟨n1, n2⟩ := ha.v
  obtain ⟨m1, m2⟩ := hb.v
  rw [Int.toNat_natCast] at n2 m2
  obtain ⟨g, hg⟩ : ∃ g, g = an.natAbs.gcd BD := ⟨_, rfl⟩
  obtain ⟨h, hh⟩ : ∃ h, h = bn.natAbs.gcd AD := ⟨_, rfl⟩
  have g0 : 0 < g := by rw [hg]; exact Nat.gcd_pos_of_pos_right _ (by omega)
  have h0 : 0 < h := by rw [hh]; exact Nat.gcd_pos_of_pos_right _ (by omega)
  have K := mul_low (fv an AD) (fv bn BD) g h (by rw [n1, m2, hg]) (by rw [m1, n2, hh])
  rw [n1, n2, m1, m2] at K
  obtain ⟨u, hu⟩ := Int.ofNat_dvd_left.2 (show g ∣ an.natAbs from hg ▸ Nat.gcd_dvd_left ..)
  obtain ⟨v, hv⟩ := Int.ofNat_dvd_left.2 (show h ∣ bn.natAbs from hh ▸ Nat.gcd_dvd_left ..)
  obtain ⟨Pn, hPn⟩ : ∃ Pn, AD / h = Pn := ⟨_, rfl⟩
  obtain ⟨Qn, hQn⟩ : ∃ Qn, BD / g = Qn := ⟨_, rfl⟩
  have qX : an.tdiv (g : Int) = an / (g : Int) := by rw [hu, Int.mul_tdiv_cancel_left _ (by omega), Int.mul_ediv_cancel_left _ (by omega)]
  have qY : bn.tdiv (h : Int) = bn / (h : Int) := by rw [hv, Int.mul_tdiv_cancel_left _ (by omega), Int.mul_ediv_cancel_left _ (by omega)]
  have X0 := Int.natAbs_tdiv_le_natAbs an g
  have Y0 := Int.natAbs_tdiv_le_natAbs bn h
  rw [qX] at X0
  rw [qY] at Y0
  rw [hPn, hQn] at K
  have qP : ((AD : Int) / (h : Int)) = ((Pn : Nat) : Int) := by rw [← hPn]; exact (Int.natCast_ediv _ _).symm
  have qQ : ((BD : Int) / (g : Int)) = ((Qn : Nat) : Int) := by rw [← hQn]; exact (Int.natCast_ediv _ _).symm
  have P0 : Pn ≤ AD := by rw [← hPn]; exact Nat.div_le_self _ _
  have Q0 : Qn ≤ BD := by rw [← hQn]; exact Nat.div_le_self _ _
  clear hPn hQn
  have CG : gcdV an (BD : Int) = (g : Int) := by rw [gcd_in (inB_mk (by omega) (by omega)) (inB_mk (by omega) (by omega)), hg]; rfl
  have CH : gcdV bn (AD : Int) = (h : Int) := by rw [gcd_in (inB_mk (by omega) (by omega)) (inB_mk (by omega) (by omega)), hh]; rfl
  have M := mul_walk an AD bn BD g h (an / (g : Int)) (bn / (h : Int)) ((Pn : Nat) : Int) ((Qn : Nat) : Int) w va vb (Lib.hid CG) (Lib.hid CH) (by omega) (by omega) qX qY qP (by rw [Int.tdiv_eq_ediv_of_nonneg (by omega), qP]) qQ (by rw [Int.tdiv_eq_ediv_of_nonneg (by omega), qQ]) (by omega) (by omega) (by omega) (by omega) (by omega) (by omega) (by omega) (by omega)
  rw [show mulO an AD bn BD = some (fv an AD * fv bn BD) from op_t va vb]
  obtain ⟨k1, k2, k3⟩ := both_fit (q := fv an AD * fv bn BD) (nv := mulV (an / (g : Int)) (bn / (h : Int))) (dv := mulV ((Pn : Nat) : Int) ((Qn : Nat) : Int)) (a := mulB (an / (g : Int)) (bn / (h : Int))) (b := mulB ((Pn : Nat) : Int) ((Qn : Nat) : Int))
    (fun t => by rw [mulV_of t, K.1]) (by rw [mulB_in (inB_mk (by omega) (by omega)) (inB_mk (by omega) (by omega)), K.1]) (fun t => by rw [mulV_of t, K.2, Int.natCast_mul]) (by rw [mulB_in (inB_mk (by omega) (by omega)) (inB_mk (by omega) (by omega)), K.2, ← Int.natCast_mul, Int.natAbs_natCast])
  rw [k1, k2, k3] at M
  exact M
end Go.Proofs.YtdkmfhlmeildmaaDoor
