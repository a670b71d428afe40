/-
  Package frac: Add gives the fraction of the sum of two valid fractions and true, or no fraction and false. For every two pairs of ints; nothing that was there turns.
-/
import Derived.Test.YtdkmfhlmeildmaaDoorFzD
import Derived.Test.YtdkmfhlmeildmaaDoorFrY
namespace Go.Proofs.YtdkmfhlmeildmaaDoor
open Go.RowKit

theorem WBox.put {W : World} {B : Nat} {a b : Int} (h : WBox W B a b) (n d : Int) : WBox ((W.setCell ⟨B, 0, none⟩ (.int .u64 n)).setCell ⟨B, 1, none⟩ (.int .u64 d)) B n d := by
  unfold WBox at *
  simp [World.setCell, Array.getElem?_modify, h]
theorem mul_bound {x p : Int} (a : -1000000000000000 ≤ x) (b : x ≤ 1000000000000000) (c : 0 ≤ p) (d : p ≤ 1000000000000000) : (x * p).natAbs ≤ 1000000000000000000000000000000 := by
  rw [Int.natAbs_mul]
  have k := Nat.mul_le_mul (show x.natAbs ≤ 1000000000000000 by omega) (show p.natAbs ≤ 1000000000000000 by omega)
  omega
theorem sum_bound {x y : Int} {p q : Nat} (a : -1000000000000000 ≤ x) (b : x ≤ 1000000000000000) (c : -1000000000000000 ≤ y) (d : y ≤ 1000000000000000) (e : (p : Int) ≤ 1000000000000000) (f : (q : Int) ≤ 1000000000000000) :
    (x * (p : Int) + y * (q : Int)).natAbs ≤ 2000000000000000000000000000000 := by
  have k1 := mul_bound a b (Int.natCast_nonneg p) e
  have k2 := mul_bound c d (Int.natCast_nonneg q) f
  omega
theorem keep4 {v v' : World} {p0 p1 p2 p3 : Addr} {x0 x1 x2 x3 : Value} (hf : Fur v v') (h0 : v.cell? p0 = some x0) (h1 : v.cell? p1 = some x1) (h2 : v.cell? p2 = some x2) (h3 : v.cell? p3 = some x3) :
    Fur v v' ∧ v'.cell? p0 = some x0 ∧ v'.cell? p1 = some x1 ∧ v'.cell? p2 = some x2 ∧ v'.cell? p3 = some x3 := ⟨hf, cellOn hf h0, cellOn hf h1, cellOn hf h2, cellOn hf h3⟩
set_option maxHeartbeats 1600000 in
set_option maxRecDepth 100000 in
theorem add_walk (an ad bn bd g h P Q E T nv dv : Int) (nb db : Bool) (rn rd : Int) (rb : Bool) (w : World) (va : okF an ad = true) (vb : okF bn bd = true)
    (CG : Hid (∀ w : World, Calls Tryd.prog 34 #[.int .i64 ad, .int .i64 bd] w (RetI w g)))
    (CW : Hid (∀ w : World, Calls Tryd.prog 39 #[.agg #[.int .u64 (hiW T), .int .u64 (loW T)], .int .i64 g] w (RetI w h)))
    (CO : Hid (∀ w : World, Calls Tryd.prog 40 #[.agg #[.int .u64 (hiW T), .int .u64 (loW T)], .int .i64 h] w (RetIB w nv nb)))
    (CM : Hid (∀ w : World, Calls Tryd.prog 41 #[.int .i64 P, .int .i64 E] w (RetIB w dv db)))
    (CF : Hid (∀ w : World, Calls Tryd.prog 42 #[.int .i64 nv, .bool nb, .int .i64 dv, .bool db] w (RetFB w rn rd rb)))
    (eT : Hid (an * Q + bn * P = T))
    (g1 : 0 < g) (h1 : 0 < h) (qP : ad / g = P) (qP' : ad.tdiv g = P) (qQ : bd / g = Q) (qQ' : bd.tdiv g = Q) (qE : bd / h = E) (qE' : bd.tdiv h = E)
    (p0' : 0 ≤ P) (p1' : P ≤ 1000000000000000) (q0' : 0 ≤ Q) (q1' : Q ≤ 1000000000000000) (e0' : 0 ≤ E) (e1' : E ≤ 1000000000000000) :
    Calls Tryd.prog 14 #[.agg #[.int .i64 an, .int .i64 ad], .agg #[.int .i64 bn, .int .i64 bd]] w (RetFB w rn rd rb) := by
  obtain ⟨p0, p1, p2, f0⟩ := box3 w an ad bn bd 0 0 23 rfl
  have VA := Lib.hid (fun w => nf_valid an ad w)
  have VB := Lib.hid (fun w => nf_valid bn bd w)
  rw [va] at VA
  rw [vb] at VB
  have ha := okF_t va
  have hb := okF_t vb
  have a1 := ha.d1; have a2 := ha.d2; have a3 := ha.n1; have a4 := ha.n2
  have b1 := hb.d1; have b2 := hb.d2; have b3 := hb.n1; have b4 := hb.n2
  have wP : IntKind.i64.wrap P = P := IntWalk.i64_in P (by omega)
  have wQ : IntKind.i64.wrap Q = Q := IntWalk.i64_in Q (by omega)
  have wE : IntKind.i64.wrap E = E := IntWalk.i64_in E (by omega)
  have gn : ¬ g = 0 := by omega
  have hn : ¬ h = 0 := by omega
  have QX := Lib.hid (And.intro (And.intro qP qP') (And.intro qQ qQ'))
  have QE := Lib.hid (And.intro qE qE')
  have WX := Lib.hid (And.intro wP (And.intro wQ wE))
  clear va vb ha hb qP qP' qQ qQ' qE qE' wP wQ wE
  have c00 := p0.c0
  have c01 := p0.c1
  go_enter Tryd.func14, Tryd.ntmps14
  go_wp2_with fail
  go_at_call 11; refine (VA.out _).mono ?_; rintro e1 w1 ⟨rfl, f1⟩
  clear c00 c01
  replace p0 := p0.on f1
  replace p1 := p1.on f1
  replace p2 := p2.on f1
  replace f0 := f0.trans f1
  have c10 := p1.c0
  have c11 := p1.c1
  go_wp2_with fail
  go_at_call 11; refine (VB.out _).mono ?_; rintro e1 w2 ⟨rfl, f2⟩
  clear c10 c11
  replace p0 := p0.on f2
  replace p1 := p1.on f2
  replace p2 := p2.on f2
  replace f0 := f0.trans f2
  clear f1 f2 VA VB
  have c00 := p0.c0
  have c01 := p0.c1
  have c10 := p1.c0
  have c11 := p1.c1
  go_wp2_with fail
  go_at_call 34; refine (CG.out _).mono ?_; rintro e1 w3 ⟨rfl, f3⟩
  clear c00 c01 c10 c11
  replace p0 := p0.on f3
  replace p1 := p1.on f3
  replace p2 := p2.on f3
  replace f0 := f0.trans f3
  clear f3 CG
  have c00 := p0.c0
  have c01 := p0.c1
  have c10 := p1.c0
  have c11 := p1.c1
  obtain ⟨⟨qP, qP'⟩, ⟨qQ, qQ'⟩⟩ := QX.out
  obtain ⟨wP, wQ, wE⟩ := WX.out
  go_upto_region 4 with fail
  have ff : Fur w3 w3.drew := Fur.drew (Fur.refl w3)
  go_cut [7] from 27 to 41 (fun pv wx => ∃ b : Nat, pv = .pointer (some ⟨b, 0, none⟩) ∧ WBox wx b (hiW (an * Q + bn * P)) (loW (an * Q + bn * P)) ∧ Fur w3 wx)
  case first =>
    clear CW CO CM CF
    go_region_held3 (fun w' => Fur w3 w' ∧ w'.cell? ⟨w.heap.size, 0, none⟩ = some (.int .i64 an) ∧ w'.cell? ⟨w.heap.size, 1, none⟩ = some (.int .i64 ad) ∧ w'.cell? ⟨w.heap.size + 1, 0, none⟩ = some (.int .i64 bn) ∧ w'.cell? ⟨w.heap.size + 1, 1, none⟩ = some (.int .i64 bd))
      (first
        | exact keep4 ff c00 c01 c10 c11
        | exact keep4 (ff.alloc _) c00 c01 c10 c11
        | exact keep4 (Fur.drew ((Fur.refl w3).alloc _)) c00 c01 c10 c11
        | exact keep4 (fur_put ff hb _ _) c00 c01 c10 c11)
      (first
        | (go_at_call 37; refine (product_any _ _ ?_ ?_ ?_ ?_ _).mono ?_; omega; omega; omega; omega; rintro e w4 ⟨rfl, f4⟩
           first
             | (have pz := WBox.on (W := (w3.alloc (.cells #[.int .u64 0, .int .u64 0] 43)).drew) (wbox1 w3 0 0).1 f4; have hb := Nat.le_refl w3.heap.size; replace ff := Fur.trans (Fur.drew ((Fur.refl w3).alloc _)) f4)
             | (have pz := (wbox1 _ 0 0).1.on f4; have hb := ff.size; replace ff := (ff.alloc _).trans f4)
             | (replace pz := pz.on f4; replace ff := ff.trans f4)
             | (replace ff := ff.trans f4))
        | (go_at_call 38; refine (plus_any _ _ _).mono ?_; rintro e w5 ⟨rfl, f5⟩
           first
             | (have pz := WBox.on (W := (w3.alloc (.cells #[.int .u64 0, .int .u64 0] 43)).drew) (wbox1 w3 0 0).1 f5; have hb := Nat.le_refl w3.heap.size; replace ff := Fur.trans (Fur.drew ((Fur.refl w3).alloc _)) f5; have zc0 := pz.c0; have zc1 := pz.c1; have zf0 := pz.f0 0; have zf1 := pz.f0 1)
             | (have pz := (wbox1 _ 0 0).1.on f5; have hb := ff.size; replace ff := (ff.alloc _).trans f5; have zc0 := pz.c0; have zc1 := pz.c1; have zf0 := pz.f0 0; have zf1 := pz.f0 1)
             | (replace pz := pz.on f5; replace ff := ff.trans f5; have zc0 := pz.c0; have zc1 := pz.c1; have zf0 := pz.f0 0; have zf1 := pz.f0 1)
             | (replace ff := ff.trans f5)))
    all_goals (go_wp2_with fail; go_meet)
    all_goals (first | exact ⟨_, rfl, (wbox1 w5 _ _).1, ff.alloc _⟩ | exact ⟨_, rfl, pz.put _ _, fur_put ff hb _ _⟩)
  case rest =>
    obtain ⟨b, rfl, pb, fb⟩ := hcut
    rw [eT.out] at pb
    replace p0 := p0.on fb
    replace p1 := p1.on fb
    replace p2 := p2.on fb
    replace f0 := f0.trans fb
    clear fb ff c00 c01 c10 c11 eT qP qP' qQ qQ' wP wQ
    have cb0 := pb.c0
    have cb1 := pb.c1
    go_wp2_with fail
    go_at_call 39; refine (CW.out _).mono ?_; rintro e w4 ⟨rfl, f4⟩
    clear cb0 cb1 CW
    replace p0 := p0.on f4
    replace p1 := p1.on f4
    replace p2 := p2.on f4
    replace f0 := f0.trans f4
    replace pb := pb.on f4
    clear f4
    have cb0 := pb.c0
    have cb1 := pb.c1
    go_wp2_with fail
    go_at_call 40; refine (CO.out _).mono ?_; rintro e v5 ⟨rfl, f5⟩
    clear cb0 cb1 CO pb
    replace p0 := p0.on f5
    replace p1 := p1.on f5
    replace p2 := p2.on f5
    replace f0 := f0.trans f5
    clear f5
    have c00 := p0.c0
    have c01 := p0.c1
    have c10 := p1.c0
    have c11 := p1.c1
    obtain ⟨⟨qP, qP'⟩, -⟩ := QX.out
    obtain ⟨wP, -, -⟩ := WX.out
    obtain ⟨qE, qE'⟩ := QE.out
    clear QX WX QE
    go_upto_region 7 with fail
    have ff : Fur v5 v5.drew := Fur.drew (Fur.refl v5)
    go_region_held3 (fun w' => Fur v5 w' ∧ w'.cell? ⟨w.heap.size, 0, none⟩ = some (.int .i64 an) ∧ w'.cell? ⟨w.heap.size, 1, none⟩ = some (.int .i64 ad) ∧ w'.cell? ⟨w.heap.size + 1, 0, none⟩ = some (.int .i64 bn) ∧ w'.cell? ⟨w.heap.size + 1, 1, none⟩ = some (.int .i64 bd))
      (first
        | exact keep4 ff c00 c01 c10 c11)
      (first
        | (go_at_call 41; refine (CM.out _).mono ?_; rintro e w6 ⟨rfl, f6⟩; replace ff := ff.trans f6))
    replace p2 := p2.on ff
    replace f0 := f0.trans ff
    clear ff c00 c01 c10 c11 p0 p1 CM f6
    go_wp2_with fail
    go_at_call 42; refine (CF.out _).mono ?_; rintro e w8 ⟨rfl, f8⟩
    have p2' := p2.on f8
    have f04 := f0.trans f8
    have c20 := p2'.c0
    have c21 := p2'.c1
    have z20 := p2'.f0 0
    have z21 := p2'.f0 1
    go_wp2
    try simp only [Exit.inBlock, Exit.then]
    exact fr_ret_put rfl rfl rfl p2' f04 (by omega)
theorem nf_add (an ad bn bd : Int) (w : World) :
    Calls Tryd.prog 14 #[.agg #[.int .i64 an, .int .i64 ad], .agg #[.int .i64 bn, .int .i64 bd]] w (RetFB w (rN (addO an ad bn bd)) (rD (addO an ad bn bd)) (rB (addO an ad bn bd))) := by
  cases va : okF an ad
  · obtain ⟨r1, r2, r3⟩ := no_both (an := an) (ad := ad) (bn := bn) (bd := bd) (· + ·) (.inl va)
    rw [show addO an ad bn bd = opO (· + ·) an ad bn bd from rfl, r1, r2, r3]
    obtain ⟨p0, p1, p2, f0⟩ := box3 w an ad bn bd 0 0 23 rfl
    have VA := Lib.hid (fun w => nf_valid an ad w)
    rw [va] at VA
    clear va r1 r2 r3
    have c00 := p0.c0
    have c01 := p0.c1
    go_enter Tryd.func14, Tryd.ntmps14
    go_wp2_with fail
    go_at_call 11; refine (VA.out _).mono ?_; rintro e1 w1 ⟨rfl, f1⟩
    have p2' := p2.on f1
    have f04 := f0.trans f1
    clear c00 c01
    have c20 := p2'.c0
    have c21 := p2'.c1
    have z20 := p2'.f0 0
    have z21 := p2'.f0 1
    clear p0 p1 p2 f0 f1
    go_wp2
    try simp only [Exit.inBlock, Exit.then]
    exact fr_ret_put rfl rfl rfl p2' f04 (by omega)
  cases vb : okF bn bd
  · obtain ⟨r1, r2, r3⟩ := no_both (an := an) (ad := ad) (bn := bn) (bd := bd) (· + ·) (.inr vb)
    rw [show addO an ad bn bd = opO (· + ·) an ad bn bd from rfl, r1, r2, r3]
    obtain ⟨p0, p1, p2, f0⟩ := box3 w an ad bn bd 0 0 23 rfl
    have VA := Lib.hid (fun w => nf_valid an ad w)
    have VB := Lib.hid (fun w => nf_valid bn bd w)
    rw [va] at VA
    rw [vb] at VB
    clear va vb r1 r2 r3
    have c00 := p0.c0
    have c01 := p0.c1
    go_enter Tryd.func14, Tryd.ntmps14
    go_wp2_with fail
    go_at_call 11; refine (VA.out _).mono ?_; rintro e1 w1 ⟨rfl, f1⟩
    replace p1 := p1.on f1
    replace p2 := p2.on f1
    replace f0 := f0.trans f1
    clear c00 c01
    have c10 := p1.c0
    have c11 := p1.c1
    go_wp2_with fail
    go_at_call 11; refine (VB.out _).mono ?_; rintro e1 w2 ⟨rfl, f2⟩
    have p2' := p2.on f2
    have f04 := f0.trans f2
    clear c10 c11 p0 p1 p2 f0 f1 f2
    have c20 := p2'.c0
    have c21 := p2'.c1
    have z20 := p2'.f0 0
    have z21 := p2'.f0 1
    go_wp2
    try simp only [Exit.inBlock, Exit.then]
    exact fr_ret_put rfl rfl rfl p2' f04 (by omega)
  have ha := okF_t va
  have hb := okF_t vb
  have a1 := ha.d1; have a2 := ha.d2; have a3 := ha.n1; have a4 := ha.n2
  have b1 := hb.d1; have b2 := hb.d2; have b3 := hb.n1; have b4 := hb.n2
  obtain ⟨AD, rfl⟩ : ∃ AD : Nat, ad = (AD : Int) := ⟨ad.toNat, by omega⟩
  obtain ⟨BD, rfl⟩ : ∃ BD : Nat, bd = (BD : Int) := ⟨bd.toNat, by omega⟩
  obtain ⟨n1, n2⟩ := ha.v
  obtain ⟨m1, m2⟩ := hb.v
  rw [Int.toNat_natCast] at n2 m2
  obtain ⟨g, hg⟩ : ∃ g, g = AD.gcd BD := ⟨_, rfl⟩
  have g0 : 0 < g := by rw [hg]; exact Nat.gcd_pos_of_pos_left _ (by omega)
  have gle : g ≤ AD := by rw [hg]; exact Nat.gcd_le_left _ (by omega)
  obtain ⟨Pn, hPn⟩ : ∃ Pn, AD / g = Pn := ⟨_, rfl⟩
  obtain ⟨Qn, hQn⟩ : ∃ Qn, BD / g = Qn := ⟨_, rfl⟩
  have P0 : Pn ≤ AD := by rw [← hPn]; exact Nat.div_le_self _ _
  have Q0 : Qn ≤ BD := by rw [← hQn]; exact Nat.div_le_self _ _
  obtain ⟨T, hT⟩ : ∃ T, an * (Qn : Int) + bn * (Pn : Int) = T := ⟨_, rfl⟩
  have tb := sum_bound (x := an) (y := bn) (p := Qn) (q := Pn) a3 a4 b3 b4 (by omega) (by omega)
  rw [hT] at tb
  obtain ⟨h, hh⟩ : ∃ h, h = T.natAbs.gcd g := ⟨_, rfl⟩
  have h0 : 0 < h := by rw [hh]; exact Nat.gcd_pos_of_pos_right _ g0
  have hle : h ≤ g := by rw [hh]; exact Nat.gcd_le_right _ g0
  have K := add_low (fv an AD) (fv bn BD) g h T (by rw [n2, m2, hg]) (by rw [n1, n2, m1, m2, hPn, hQn, hT]) hh
  rw [n2, m2, hPn] at K
  obtain ⟨En, hEn⟩ : ∃ En, BD / h = En := ⟨_, rfl⟩
  rw [hEn] at K
  have E0 : En ≤ BD := by rw [← hEn]; exact Nat.div_le_self _ _
  have qP : ((AD : Int) / (g : Int)) = ((Pn : Nat) : Int) := by rw [← hPn]; exact (Int.natCast_ediv _ _).symm
  have qQ : ((BD : Int) / (g : Int)) = ((Qn : Nat) : Int) := by rw [← hQn]; exact (Int.natCast_ediv _ _).symm
  have qE : ((BD : Int) / (h : Int)) = ((En : Nat) : Int) := by rw [← hEn]; exact (Int.natCast_ediv _ _).symm
  have CG : gcdV (AD : Int) (BD : Int) = (g : Int) := by rw [gcd_in (inB_mk (by omega) (by omega)) (inB_mk (by omega) (by omega)), hg]; rfl
  have CGc := Lib.hid (fun w => num_gcd (AD : Int) (BD : Int) w)
  rw [CG] at CGc
  have CWc := Lib.hid (fun w => wgcd_any T g (by omega) (by omega) g0 (by omega) w)
  rw [← hh] at CWc
  have M := add_walk an AD bn BD g h Pn Qn En T (ovV T h) (mulV Pn En) (ovB T h) (mulB Pn En) _ _ _ w va vb CGc CWc
    (Lib.hid (fun w => over_any T h (by omega) (by omega) h0 (by omega) w)) (Lib.hid (fun w => (num_mul Pn En w).mono fun _ _ k => ⟨k.1, k.2 ▸ Fur.refl _⟩))
    (Lib.hid (fun w => fraction_any (ovV T h) (mulV Pn En) (ovB T h) (mulB Pn En) w)) (Lib.hid hT) (by omega) (by omega)
    qP (by rw [Int.tdiv_eq_ediv_of_nonneg (by omega), qP]) qQ (by rw [Int.tdiv_eq_ediv_of_nonneg (by omega), qQ]) qE (by rw [Int.tdiv_eq_ediv_of_nonneg (by omega), qE])
    (by omega) (by omega) (by omega) (by omega) (by omega) (by omega)
  rw [show addO an AD bn BD = some (fv an AD + fv bn BD) from op_t va vb]
  obtain ⟨u, hu⟩ := Int.ofNat_dvd_left.2 (show h ∣ T.natAbs from hh ▸ Nat.gcd_dvd_left ..)
  have eu : T / (h : Int) = u := by rw [hu, Int.mul_ediv_cancel_left _ (by omega)]
  have na : T.natAbs / h = u.natAbs := by rw [hu, Int.natAbs_mul, Int.natAbs_natCast, Nat.mul_div_cancel_left _ h0]
  have sg : T.sign * (u.natAbs : Int) = u := by
    rw [hu, Int.sign_mul, Int.sign_eq_one_of_pos (by omega), Int.one_mul]
    exact Int.sign_mul_natAbs u
  obtain ⟨k1, k2, k3⟩ := both_fit (q := fv an AD + fv bn BD) (nv := ovV T h) (dv := mulV (Pn : Int) (En : Int)) (a := ovB T h) (b := mulB (Pn : Int) (En : Int))
    (fun t => by unfold ovV; rw [if_pos t, na, sg, K.1, eu]) (by unfold ovB; rw [na, K.1, eu])
    (fun t => by rw [mulV_of t, K.2, Int.natCast_mul]) (by rw [mulB_in (inB_mk (by omega) (by omega)) (inB_mk (by omega) (by omega)), K.2, ← Int.natCast_mul, Int.natAbs_natCast])
  rw [k1, k2, k3] at M
  exact M
end Go.Proofs.YtdkmfhlmeildmaaDoor
