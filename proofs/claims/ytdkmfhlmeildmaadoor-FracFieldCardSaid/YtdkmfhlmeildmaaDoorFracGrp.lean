/-
  The helpers of FracField, group, product and spreads, give true by the contracts of package frac.
-/
import Derived.Test.YtdkmfhlmeildmaaDoorFracAlive
import Derived.Test.YtdkmfhlmeildmaaDoorFrPut
namespace Go.Proofs.YtdkmfhlmeildmaaDoor
open Go.RowKit

/-- The world behind four boxes. -/
theorem box4 (w : World) (a b c d e f g h : Int) :
    Box ((((w.alloc (.cells #[.int .i64 a, .int .i64 b] 23)).alloc (.cells #[.int .i64 c, .int .i64 d] 23)).alloc (.cells #[.int .i64 e, .int .i64 f] 23)).alloc (.cells #[.int .i64 g, .int .i64 h] 23)) w.heap.size a b ∧
    Box ((((w.alloc (.cells #[.int .i64 a, .int .i64 b] 23)).alloc (.cells #[.int .i64 c, .int .i64 d] 23)).alloc (.cells #[.int .i64 e, .int .i64 f] 23)).alloc (.cells #[.int .i64 g, .int .i64 h] 23)) (w.heap.size + 1) c d ∧
    Box ((((w.alloc (.cells #[.int .i64 a, .int .i64 b] 23)).alloc (.cells #[.int .i64 c, .int .i64 d] 23)).alloc (.cells #[.int .i64 e, .int .i64 f] 23)).alloc (.cells #[.int .i64 g, .int .i64 h] 23)) (w.heap.size + 1 + 1) e f ∧
    Box ((((w.alloc (.cells #[.int .i64 a, .int .i64 b] 23)).alloc (.cells #[.int .i64 c, .int .i64 d] 23)).alloc (.cells #[.int .i64 e, .int .i64 f] 23)).alloc (.cells #[.int .i64 g, .int .i64 h] 23)) (w.heap.size + 1 + 1 + 1) g h ∧
    Fur w ((((w.alloc (.cells #[.int .i64 a, .int .i64 b] 23)).alloc (.cells #[.int .i64 c, .int .i64 d] 23)).alloc (.cells #[.int .i64 e, .int .i64 f] 23)).alloc (.cells #[.int .i64 g, .int .i64 h] 23)) := by
  obtain ⟨p0, p1, p2, f0⟩ := box3 w a b c d e f 23 rfl
  have s0 : ((((w.alloc (.cells #[.int .i64 a, .int .i64 b] 23)).alloc (.cells #[.int .i64 c, .int .i64 d] 23)).alloc (.cells #[.int .i64 e, .int .i64 f] 23))).heap.size = w.heap.size + 1 + 1 + 1 := by simp
  generalize (((w.alloc (.cells #[.int .i64 a, .int .i64 b] 23)).alloc (.cells #[.int .i64 c, .int .i64 d] 23)).alloc (.cells #[.int .i64 e, .int .i64 f] 23)) = w1 at *
  obtain ⟨p3, f1⟩ := box1 w1 g h
  rw [s0] at p3
  exact ⟨p0.on f1, p1.on f1, p2.on f1, p3, f0.trans f1⟩


set_option maxHeartbeats 4000000 in
theorem group_core (xn xd an ad bn bd cn cd N1 D1 N2 D2 : Int) (e B1 B2 : Bool) (w : World)
    (C1 : Hid (∀ w : World, Calls Tryd.prog 14 #[.agg #[.int .i64 bn, .int .i64 bd], .agg #[.int .i64 cn, .int .i64 cd]] w (RetFB w N1 D1 B1)))
    (C2 : Hid (e = true → B1 = true → ∀ w : World, Calls Tryd.prog 14 #[.agg #[.int .i64 xn, .int .i64 xd], .agg #[.int .i64 cn, .int .i64 cd]] w (RetFB w N2 D2 B2)))
    (C3 : Hid (e = true → B1 = true → ∀ w : World, Calls Tryd.prog 14 #[.agg #[.int .i64 an, .int .i64 ad], .agg #[.int .i64 N1, .int .i64 D1]] w (RetFB w N2 D2 B2))) :
    Calls Tryd.prog 30 #[.agg #[.int .i64 xn, .int .i64 xd], .bool e, .agg #[.int .i64 an, .int .i64 ad], .agg #[.int .i64 bn, .int .i64 bd], .agg #[.int .i64 cn, .int .i64 cd]] w (RetB w true) := by
  obtain ⟨px, pa, pb, pc, f0⟩ := box4 w xn xd an ad bn bd cn cd
  cases e
  · go_enter Tryd.func30, Tryd.ntmps30
    go_wp2_with fail
    generalize (((w.alloc (.cells #[.int .i64 xn, .int .i64 xd] 23)).alloc (.cells #[.int .i64 an, .int .i64 ad] 23)).alloc (.cells #[.int .i64 bn, .int .i64 bd] 23)).alloc (.cells #[.int .i64 cn, .int .i64 cd] 23) = v0 at *
    go_at_call 14; refine (C1.out _).mono ?_; rintro e1 w1 ⟨rfl, h⟩
    replace px := px.on h
    replace pa := pa.on h
    replace pb := pb.on h
    replace pc := pc.on h
    replace f0 := f0.trans h
    clear h
    go_upto_region 2 with fail
    obtain ⟨py, h⟩ := box1 w1 N1 D1
    replace px := px.on h
    replace pa := pa.on h
    replace pb := pb.on h
    replace pc := pc.on h
    replace f0 := f0.trans h
    clear h
    generalize w1.alloc (.cells #[.int .i64 N1, .int .i64 D1] 23) = v1 at *
    clear px pa pb pc py C1 C2 C3
    go_wp2
    go_ret
    exact ⟨rfl, f0⟩
  cases B1
  · go_enter Tryd.func30, Tryd.ntmps30
    go_wp2_with fail
    generalize (((w.alloc (.cells #[.int .i64 xn, .int .i64 xd] 23)).alloc (.cells #[.int .i64 an, .int .i64 ad] 23)).alloc (.cells #[.int .i64 bn, .int .i64 bd] 23)).alloc (.cells #[.int .i64 cn, .int .i64 cd] 23) = v0 at *
    go_at_call 14; refine (C1.out _).mono ?_; rintro e1 w1 ⟨rfl, h⟩
    replace px := px.on h
    replace pa := pa.on h
    replace pb := pb.on h
    replace pc := pc.on h
    replace f0 := f0.trans h
    clear h
    go_upto_region 2 with fail
    obtain ⟨py, h⟩ := box1 w1 N1 D1
    replace px := px.on h
    replace pa := pa.on h
    replace pb := pb.on h
    replace pc := pc.on h
    replace f0 := f0.trans h
    clear h
    generalize w1.alloc (.cells #[.int .i64 N1, .int .i64 D1] 23) = v1 at *
    clear px pa pb pc py C1 C2 C3
    go_wp2
    go_ret
    exact ⟨rfl, f0⟩
  go_enter Tryd.func30, Tryd.ntmps30
  go_wp2_with fail
  generalize (((w.alloc (.cells #[.int .i64 xn, .int .i64 xd] 23)).alloc (.cells #[.int .i64 an, .int .i64 ad] 23)).alloc (.cells #[.int .i64 bn, .int .i64 bd] 23)).alloc (.cells #[.int .i64 cn, .int .i64 cd] 23) = v0 at *
  go_at_call 14; refine (C1.out _).mono ?_; rintro e1 w1 ⟨rfl, h⟩
  replace px := px.on h
  replace pa := pa.on h
  replace pb := pb.on h
  replace pc := pc.on h
  replace f0 := f0.trans h
  clear h
  go_upto_region 2 with fail
  obtain ⟨py, h⟩ := box1 w1 N1 D1
  replace px := px.on h
  replace pa := pa.on h
  replace pb := pb.on h
  replace pc := pc.on h
  replace f0 := f0.trans h
  clear h
  generalize w1.alloc (.cells #[.int .i64 N1, .int .i64 D1] 23) = v1 at *
  have px0 := px.c0
  have px1 := px.c1
  have pa0 := pa.c0
  have pa1 := pa.c1
  have pb0 := pb.c0
  have pb1 := pb.c1
  have pc0 := pc.c0
  have pc1 := pc.c1
  have py0 := py.c0
  have py1 := py.c1
  go_wp2_with fail
  go_at_call 14; refine (C2.out (by simp) (by simp) _).mono ?_; rintro e2 w2 ⟨rfl, h⟩
  clear px0 px1 pa0 pa1 pb0 pb1 pc0 pc1 py0 py1
  replace px := px.on h
  replace pa := pa.on h
  replace pb := pb.on h
  replace pc := pc.on h
  replace py := py.on h
  replace f0 := f0.trans h
  clear h
  go_upto_region 5 with fail
  obtain ⟨ps, h⟩ := box1 w2 N2 D2
  replace px := px.on h
  replace pa := pa.on h
  replace pb := pb.on h
  replace pc := pc.on h
  replace py := py.on h
  replace f0 := f0.trans h
  clear h
  generalize w2.alloc (.cells #[.int .i64 N2, .int .i64 D2] 23) = v2 at *
  have px0 := px.c0
  have px1 := px.c1
  have pa0 := pa.c0
  have pa1 := pa.c1
  have pb0 := pb.c0
  have pb1 := pb.c1
  have pc0 := pc.c0
  have pc1 := pc.c1
  have py0 := py.c0
  have py1 := py.c1
  have ps0 := ps.c0
  have ps1 := ps.c1
  go_wp2_with fail
  go_at_call 14; refine (C3.out (by simp) (by simp) _).mono ?_; rintro e3 w3 ⟨rfl, h⟩
  clear px0 px1 pa0 pa1 pb0 pb1 pc0 pc1 py0 py1 ps0 ps1
  replace px := px.on h
  replace pa := pa.on h
  replace pb := pb.on h
  replace pc := pc.on h
  replace py := py.on h
  replace ps := ps.on h
  replace f0 := f0.trans h
  clear h
  go_upto_region 6 with fail
  obtain ⟨pt, h⟩ := box1 w3 N2 D2
  replace px := px.on h
  replace pa := pa.on h
  replace pb := pb.on h
  replace pc := pc.on h
  replace py := py.on h
  replace ps := ps.on h
  replace f0 := f0.trans h
  clear h
  generalize w3.alloc (.cells #[.int .i64 N2, .int .i64 D2] 23) = v3 at *
  have px0 := px.c0
  have px1 := px.c1
  have pa0 := pa.c0
  have pa1 := pa.c1
  have pb0 := pb.c0
  have pb1 := pb.c1
  have pc0 := pc.c0
  have pc1 := pc.c1
  have py0 := py.c0
  have py1 := py.c1
  have ps0 := ps.c0
  have ps1 := ps.c1
  have pt0 := pt.c0
  have pt1 := pt.c1
  go_wp2
  go_ret
  exact ⟨rfl, f0⟩

set_option maxHeartbeats 4000000 in
theorem product_core (xn xd an ad bn bd cn cd N1 D1 N2 D2 : Int) (e B1 B2 : Bool) (w : World)
    (C1 : Hid (∀ w : World, Calls Tryd.prog 18 #[.agg #[.int .i64 bn, .int .i64 bd], .agg #[.int .i64 cn, .int .i64 cd]] w (RetFB w N1 D1 B1)))
    (C2 : Hid (e = true → B1 = true → ∀ w : World, Calls Tryd.prog 18 #[.agg #[.int .i64 xn, .int .i64 xd], .agg #[.int .i64 cn, .int .i64 cd]] w (RetFB w N2 D2 B2)))
    (C3 : Hid (e = true → B1 = true → ∀ w : World, Calls Tryd.prog 18 #[.agg #[.int .i64 an, .int .i64 ad], .agg #[.int .i64 N1, .int .i64 D1]] w (RetFB w N2 D2 B2))) :
    Calls Tryd.prog 31 #[.agg #[.int .i64 xn, .int .i64 xd], .bool e, .agg #[.int .i64 an, .int .i64 ad], .agg #[.int .i64 bn, .int .i64 bd], .agg #[.int .i64 cn, .int .i64 cd]] w (RetB w true) := by
  obtain ⟨px, pa, pb, pc, f0⟩ := box4 w xn xd an ad bn bd cn cd
  cases e
  · go_enter Tryd.func31, Tryd.ntmps31
    go_wp2_with fail
    generalize (((w.alloc (.cells #[.int .i64 xn, .int .i64 xd] 23)).alloc (.cells #[.int .i64 an, .int .i64 ad] 23)).alloc (.cells #[.int .i64 bn, .int .i64 bd] 23)).alloc (.cells #[.int .i64 cn, .int .i64 cd] 23) = v0 at *
    go_at_call 18; refine (C1.out _).mono ?_; rintro e1 w1 ⟨rfl, h⟩
    replace px := px.on h
    replace pa := pa.on h
    replace pb := pb.on h
    replace pc := pc.on h
    replace f0 := f0.trans h
    clear h
    go_upto_region 2 with fail
    obtain ⟨py, h⟩ := box1 w1 N1 D1
    replace px := px.on h
    replace pa := pa.on h
    replace pb := pb.on h
    replace pc := pc.on h
    replace f0 := f0.trans h
    clear h
    generalize w1.alloc (.cells #[.int .i64 N1, .int .i64 D1] 23) = v1 at *
    clear px pa pb pc py C1 C2 C3
    go_wp2
    go_ret
    exact ⟨rfl, f0⟩
  cases B1
  · go_enter Tryd.func31, Tryd.ntmps31
    go_wp2_with fail
    generalize (((w.alloc (.cells #[.int .i64 xn, .int .i64 xd] 23)).alloc (.cells #[.int .i64 an, .int .i64 ad] 23)).alloc (.cells #[.int .i64 bn, .int .i64 bd] 23)).alloc (.cells #[.int .i64 cn, .int .i64 cd] 23) = v0 at *
    go_at_call 18; refine (C1.out _).mono ?_; rintro e1 w1 ⟨rfl, h⟩
    replace px := px.on h
    replace pa := pa.on h
    replace pb := pb.on h
    replace pc := pc.on h
    replace f0 := f0.trans h
    clear h
    go_upto_region 2 with fail
    obtain ⟨py, h⟩ := box1 w1 N1 D1
    replace px := px.on h
    replace pa := pa.on h
    replace pb := pb.on h
    replace pc := pc.on h
    replace f0 := f0.trans h
    clear h
    generalize w1.alloc (.cells #[.int .i64 N1, .int .i64 D1] 23) = v1 at *
    clear px pa pb pc py C1 C2 C3
    go_wp2
    go_ret
    exact ⟨rfl, f0⟩
  go_enter Tryd.func31, Tryd.ntmps31
  go_wp2_with fail
  generalize (((w.alloc (.cells #[.int .i64 xn, .int .i64 xd] 23)).alloc (.cells #[.int .i64 an, .int .i64 ad] 23)).alloc (.cells #[.int .i64 bn, .int .i64 bd] 23)).alloc (.cells #[.int .i64 cn, .int .i64 cd] 23) = v0 at *
  go_at_call 18; refine (C1.out _).mono ?_; rintro e1 w1 ⟨rfl, h⟩
  replace px := px.on h
  replace pa := pa.on h
  replace pb := pb.on h
  replace pc := pc.on h
  replace f0 := f0.trans h
  clear h
  go_upto_region 2 with fail
  obtain ⟨py, h⟩ := box1 w1 N1 D1
  replace px := px.on h
  replace pa := pa.on h
  replace pb := pb.on h
  replace pc := pc.on h
  replace f0 := f0.trans h
  clear h
  generalize w1.alloc (.cells #[.int .i64 N1, .int .i64 D1] 23) = v1 at *
  have px0 := px.c0
  have px1 := px.c1
  have pa0 := pa.c0
  have pa1 := pa.c1
  have pb0 := pb.c0
  have pb1 := pb.c1
  have pc0 := pc.c0
  have pc1 := pc.c1
  have py0 := py.c0
  have py1 := py.c1
  go_wp2_with fail
  go_at_call 18; refine (C2.out (by simp) (by simp) _).mono ?_; rintro e2 w2 ⟨rfl, h⟩
  clear px0 px1 pa0 pa1 pb0 pb1 pc0 pc1 py0 py1
  replace px := px.on h
  replace pa := pa.on h
  replace pb := pb.on h
  replace pc := pc.on h
  replace py := py.on h
  replace f0 := f0.trans h
  clear h
  go_upto_region 5 with fail
  obtain ⟨ps, h⟩ := box1 w2 N2 D2
  replace px := px.on h
  replace pa := pa.on h
  replace pb := pb.on h
  replace pc := pc.on h
  replace py := py.on h
  replace f0 := f0.trans h
  clear h
  generalize w2.alloc (.cells #[.int .i64 N2, .int .i64 D2] 23) = v2 at *
  have px0 := px.c0
  have px1 := px.c1
  have pa0 := pa.c0
  have pa1 := pa.c1
  have pb0 := pb.c0
  have pb1 := pb.c1
  have pc0 := pc.c0
  have pc1 := pc.c1
  have py0 := py.c0
  have py1 := py.c1
  have ps0 := ps.c0
  have ps1 := ps.c1
  go_wp2_with fail
  go_at_call 18; refine (C3.out (by simp) (by simp) _).mono ?_; rintro e3 w3 ⟨rfl, h⟩
  clear px0 px1 pa0 pa1 pb0 pb1 pc0 pc1 py0 py1 ps0 ps1
  replace px := px.on h
  replace pa := pa.on h
  replace pb := pb.on h
  replace pc := pc.on h
  replace py := py.on h
  replace ps := ps.on h
  replace f0 := f0.trans h
  clear h
  go_upto_region 6 with fail
  obtain ⟨pt, h⟩ := box1 w3 N2 D2
  replace px := px.on h
  replace pa := pa.on h
  replace pb := pb.on h
  replace pc := pc.on h
  replace py := py.on h
  replace ps := ps.on h
  replace f0 := f0.trans h
  clear h
  generalize w3.alloc (.cells #[.int .i64 N2, .int .i64 D2] 23) = v3 at *
  have px0 := px.c0
  have px1 := px.c1
  have pa0 := pa.c0
  have pa1 := pa.c1
  have pb0 := pb.c0
  have pb1 := pb.c1
  have pc0 := pc.c0
  have pc1 := pc.c1
  have py0 := py.c0
  have py1 := py.c1
  have ps0 := ps.c0
  have ps1 := ps.c1
  have pt0 := pt.c0
  have pt1 := pt.c1
  go_wp2
  go_ret
  exact ⟨rfl, f0⟩

set_option maxHeartbeats 4000000 in
theorem spreads_core (an ad bn bd cn cd N1 D1 N2 D2 N3 D3 N4 D4 : Int) (B1 B2 B3 B4 : Bool) (w : World)
    (C1 : Hid (∀ w : World, Calls Tryd.prog 14 #[.agg #[.int .i64 bn, .int .i64 bd], .agg #[.int .i64 cn, .int .i64 cd]] w (RetFB w N1 D1 B1)))
    (C2 : Hid (∀ w : World, Calls Tryd.prog 18 #[.agg #[.int .i64 an, .int .i64 ad], .agg #[.int .i64 bn, .int .i64 bd]] w (RetFB w N2 D2 B2)))
    (C3 : Hid (∀ w : World, Calls Tryd.prog 18 #[.agg #[.int .i64 an, .int .i64 ad], .agg #[.int .i64 cn, .int .i64 cd]] w (RetFB w N3 D3 B3)))
    (C4 : Hid (B1 = true → B2 = true → B3 = true → ∀ w : World, Calls Tryd.prog 18 #[.agg #[.int .i64 an, .int .i64 ad], .agg #[.int .i64 N1, .int .i64 D1]] w (RetFB w N4 D4 B4)))
    (C5 : Hid (B1 = true → B2 = true → B3 = true → ∀ w : World, Calls Tryd.prog 14 #[.agg #[.int .i64 N2, .int .i64 D2], .agg #[.int .i64 N3, .int .i64 D3]] w (RetFB w N4 D4 B4))) :
    Calls Tryd.prog 32 #[.agg #[.int .i64 an, .int .i64 ad], .agg #[.int .i64 bn, .int .i64 bd], .agg #[.int .i64 cn, .int .i64 cd]] w (RetB w true) := by
  obtain ⟨pa, pb, pc, f0⟩ := box3 w an ad bn bd cn cd 23 rfl
  cases B1
  · go_enter Tryd.func32, Tryd.ntmps32
    go_wp2_with fail
    generalize ((w.alloc (.cells #[.int .i64 an, .int .i64 ad] 23)).alloc (.cells #[.int .i64 bn, .int .i64 bd] 23)).alloc (.cells #[.int .i64 cn, .int .i64 cd] 23) = v0 at *
    go_at_call 14; refine (C1.out _).mono ?_; rintro e1 w1 ⟨rfl, h⟩
    replace pa := pa.on h
    replace pb := pb.on h
    replace pc := pc.on h
    replace f0 := f0.trans h
    clear h
    go_upto_region 2 with fail
    obtain ⟨ps, h⟩ := box1 w1 N1 D1
    replace pa := pa.on h
    replace pb := pb.on h
    replace pc := pc.on h
    replace f0 := f0.trans h
    clear h
    generalize w1.alloc (.cells #[.int .i64 N1, .int .i64 D1] 23) = v1 at *
    have pa0 := pa.c0
    have pa1 := pa.c1
    have pb0 := pb.c0
    have pb1 := pb.c1
    have pc0 := pc.c0
    have pc1 := pc.c1
    have ps0 := ps.c0
    have ps1 := ps.c1
    go_wp2_with fail
    go_at_call 18; refine (C2.out _).mono ?_; rintro e2 w2 ⟨rfl, h⟩
    clear pa0 pa1 pb0 pb1 pc0 pc1 ps0 ps1
    replace pa := pa.on h
    replace pb := pb.on h
    replace pc := pc.on h
    replace ps := ps.on h
    replace f0 := f0.trans h
    clear h
    go_upto_region 3 with fail
    obtain ⟨pp, h⟩ := box1 w2 N2 D2
    replace pa := pa.on h
    replace pb := pb.on h
    replace pc := pc.on h
    replace ps := ps.on h
    replace f0 := f0.trans h
    clear h
    generalize w2.alloc (.cells #[.int .i64 N2, .int .i64 D2] 23) = v2 at *
    have pa0 := pa.c0
    have pa1 := pa.c1
    have pb0 := pb.c0
    have pb1 := pb.c1
    have pc0 := pc.c0
    have pc1 := pc.c1
    have ps0 := ps.c0
    have ps1 := ps.c1
    have pp0 := pp.c0
    have pp1 := pp.c1
    go_wp2_with fail
    go_at_call 18; refine (C3.out _).mono ?_; rintro e3 w3 ⟨rfl, h⟩
    clear pa0 pa1 pb0 pb1 pc0 pc1 ps0 ps1 pp0 pp1
    replace pa := pa.on h
    replace pb := pb.on h
    replace pc := pc.on h
    replace ps := ps.on h
    replace pp := pp.on h
    replace f0 := f0.trans h
    clear h
    go_upto_region 4 with fail
    obtain ⟨pq, h⟩ := box1 w3 N3 D3
    replace pa := pa.on h
    replace pb := pb.on h
    replace pc := pc.on h
    replace ps := ps.on h
    replace pp := pp.on h
    replace f0 := f0.trans h
    clear h
    generalize w3.alloc (.cells #[.int .i64 N3, .int .i64 D3] 23) = v3 at *
    clear pa pb pc ps pp pq C1 C2 C3 C4 C5
    go_wp2
    go_ret
    exact ⟨rfl, f0⟩
  cases B2
  · go_enter Tryd.func32, Tryd.ntmps32
    go_wp2_with fail
    generalize ((w.alloc (.cells #[.int .i64 an, .int .i64 ad] 23)).alloc (.cells #[.int .i64 bn, .int .i64 bd] 23)).alloc (.cells #[.int .i64 cn, .int .i64 cd] 23) = v0 at *
    go_at_call 14; refine (C1.out _).mono ?_; rintro e1 w1 ⟨rfl, h⟩
    replace pa := pa.on h
    replace pb := pb.on h
    replace pc := pc.on h
    replace f0 := f0.trans h
    clear h
    go_upto_region 2 with fail
    obtain ⟨ps, h⟩ := box1 w1 N1 D1
    replace pa := pa.on h
    replace pb := pb.on h
    replace pc := pc.on h
    replace f0 := f0.trans h
    clear h
    generalize w1.alloc (.cells #[.int .i64 N1, .int .i64 D1] 23) = v1 at *
    have pa0 := pa.c0
    have pa1 := pa.c1
    have pb0 := pb.c0
    have pb1 := pb.c1
    have pc0 := pc.c0
    have pc1 := pc.c1
    have ps0 := ps.c0
    have ps1 := ps.c1
    go_wp2_with fail
    go_at_call 18; refine (C2.out _).mono ?_; rintro e2 w2 ⟨rfl, h⟩
    clear pa0 pa1 pb0 pb1 pc0 pc1 ps0 ps1
    replace pa := pa.on h
    replace pb := pb.on h
    replace pc := pc.on h
    replace ps := ps.on h
    replace f0 := f0.trans h
    clear h
    go_upto_region 3 with fail
    obtain ⟨pp, h⟩ := box1 w2 N2 D2
    replace pa := pa.on h
    replace pb := pb.on h
    replace pc := pc.on h
    replace ps := ps.on h
    replace f0 := f0.trans h
    clear h
    generalize w2.alloc (.cells #[.int .i64 N2, .int .i64 D2] 23) = v2 at *
    have pa0 := pa.c0
    have pa1 := pa.c1
    have pb0 := pb.c0
    have pb1 := pb.c1
    have pc0 := pc.c0
    have pc1 := pc.c1
    have ps0 := ps.c0
    have ps1 := ps.c1
    have pp0 := pp.c0
    have pp1 := pp.c1
    go_wp2_with fail
    go_at_call 18; refine (C3.out _).mono ?_; rintro e3 w3 ⟨rfl, h⟩
    clear pa0 pa1 pb0 pb1 pc0 pc1 ps0 ps1 pp0 pp1
    replace pa := pa.on h
    replace pb := pb.on h
    replace pc := pc.on h
    replace ps := ps.on h
    replace pp := pp.on h
    replace f0 := f0.trans h
    clear h
    go_upto_region 4 with fail
    obtain ⟨pq, h⟩ := box1 w3 N3 D3
    replace pa := pa.on h
    replace pb := pb.on h
    replace pc := pc.on h
    replace ps := ps.on h
    replace pp := pp.on h
    replace f0 := f0.trans h
    clear h
    generalize w3.alloc (.cells #[.int .i64 N3, .int .i64 D3] 23) = v3 at *
    clear pa pb pc ps pp pq C1 C2 C3 C4 C5
    go_wp2
    go_ret
    exact ⟨rfl, f0⟩
  cases B3
  · go_enter Tryd.func32, Tryd.ntmps32
    go_wp2_with fail
    generalize ((w.alloc (.cells #[.int .i64 an, .int .i64 ad] 23)).alloc (.cells #[.int .i64 bn, .int .i64 bd] 23)).alloc (.cells #[.int .i64 cn, .int .i64 cd] 23) = v0 at *
    go_at_call 14; refine (C1.out _).mono ?_; rintro e1 w1 ⟨rfl, h⟩
    replace pa := pa.on h
    replace pb := pb.on h
    replace pc := pc.on h
    replace f0 := f0.trans h
    clear h
    go_upto_region 2 with fail
    obtain ⟨ps, h⟩ := box1 w1 N1 D1
    replace pa := pa.on h
    replace pb := pb.on h
    replace pc := pc.on h
    replace f0 := f0.trans h
    clear h
    generalize w1.alloc (.cells #[.int .i64 N1, .int .i64 D1] 23) = v1 at *
    have pa0 := pa.c0
    have pa1 := pa.c1
    have pb0 := pb.c0
    have pb1 := pb.c1
    have pc0 := pc.c0
    have pc1 := pc.c1
    have ps0 := ps.c0
    have ps1 := ps.c1
    go_wp2_with fail
    go_at_call 18; refine (C2.out _).mono ?_; rintro e2 w2 ⟨rfl, h⟩
    clear pa0 pa1 pb0 pb1 pc0 pc1 ps0 ps1
    replace pa := pa.on h
    replace pb := pb.on h
    replace pc := pc.on h
    replace ps := ps.on h
    replace f0 := f0.trans h
    clear h
    go_upto_region 3 with fail
    obtain ⟨pp, h⟩ := box1 w2 N2 D2
    replace pa := pa.on h
    replace pb := pb.on h
    replace pc := pc.on h
    replace ps := ps.on h
    replace f0 := f0.trans h
    clear h
    generalize w2.alloc (.cells #[.int .i64 N2, .int .i64 D2] 23) = v2 at *
    have pa0 := pa.c0
    have pa1 := pa.c1
    have pb0 := pb.c0
    have pb1 := pb.c1
    have pc0 := pc.c0
    have pc1 := pc.c1
    have ps0 := ps.c0
    have ps1 := ps.c1
    have pp0 := pp.c0
    have pp1 := pp.c1
    go_wp2_with fail
    go_at_call 18; refine (C3.out _).mono ?_; rintro e3 w3 ⟨rfl, h⟩
    clear pa0 pa1 pb0 pb1 pc0 pc1 ps0 ps1 pp0 pp1
    replace pa := pa.on h
    replace pb := pb.on h
    replace pc := pc.on h
    replace ps := ps.on h
    replace pp := pp.on h
    replace f0 := f0.trans h
    clear h
    go_upto_region 4 with fail
    obtain ⟨pq, h⟩ := box1 w3 N3 D3
    replace pa := pa.on h
    replace pb := pb.on h
    replace pc := pc.on h
    replace ps := ps.on h
    replace pp := pp.on h
    replace f0 := f0.trans h
    clear h
    generalize w3.alloc (.cells #[.int .i64 N3, .int .i64 D3] 23) = v3 at *
    clear pa pb pc ps pp pq C1 C2 C3 C4 C5
    go_wp2
    go_ret
    exact ⟨rfl, f0⟩
  go_enter Tryd.func32, Tryd.ntmps32
  go_wp2_with fail
  generalize ((w.alloc (.cells #[.int .i64 an, .int .i64 ad] 23)).alloc (.cells #[.int .i64 bn, .int .i64 bd] 23)).alloc (.cells #[.int .i64 cn, .int .i64 cd] 23) = v0 at *
  go_at_call 14; refine (C1.out _).mono ?_; rintro e1 w1 ⟨rfl, h⟩
  replace pa := pa.on h
  replace pb := pb.on h
  replace pc := pc.on h
  replace f0 := f0.trans h
  clear h
  go_upto_region 2 with fail
  obtain ⟨ps, h⟩ := box1 w1 N1 D1
  replace pa := pa.on h
  replace pb := pb.on h
  replace pc := pc.on h
  replace f0 := f0.trans h
  clear h
  generalize w1.alloc (.cells #[.int .i64 N1, .int .i64 D1] 23) = v1 at *
  have pa0 := pa.c0
  have pa1 := pa.c1
  have pb0 := pb.c0
  have pb1 := pb.c1
  have pc0 := pc.c0
  have pc1 := pc.c1
  have ps0 := ps.c0
  have ps1 := ps.c1
  go_wp2_with fail
  go_at_call 18; refine (C2.out _).mono ?_; rintro e2 w2 ⟨rfl, h⟩
  clear pa0 pa1 pb0 pb1 pc0 pc1 ps0 ps1
  replace pa := pa.on h
  replace pb := pb.on h
  replace pc := pc.on h
  replace ps := ps.on h
  replace f0 := f0.trans h
  clear h
  go_upto_region 3 with fail
  obtain ⟨pp, h⟩ := box1 w2 N2 D2
  replace pa := pa.on h
  replace pb := pb.on h
  replace pc := pc.on h
  replace ps := ps.on h
  replace f0 := f0.trans h
  clear h
  generalize w2.alloc (.cells #[.int .i64 N2, .int .i64 D2] 23) = v2 at *
  have pa0 := pa.c0
  have pa1 := pa.c1
  have pb0 := pb.c0
  have pb1 := pb.c1
  have pc0 := pc.c0
  have pc1 := pc.c1
  have ps0 := ps.c0
  have ps1 := ps.c1
  have pp0 := pp.c0
  have pp1 := pp.c1
  go_wp2_with fail
  go_at_call 18; refine (C3.out _).mono ?_; rintro e3 w3 ⟨rfl, h⟩
  clear pa0 pa1 pb0 pb1 pc0 pc1 ps0 ps1 pp0 pp1
  replace pa := pa.on h
  replace pb := pb.on h
  replace pc := pc.on h
  replace ps := ps.on h
  replace pp := pp.on h
  replace f0 := f0.trans h
  clear h
  go_upto_region 4 with fail
  obtain ⟨pq, h⟩ := box1 w3 N3 D3
  replace pa := pa.on h
  replace pb := pb.on h
  replace pc := pc.on h
  replace ps := ps.on h
  replace pp := pp.on h
  replace f0 := f0.trans h
  clear h
  generalize w3.alloc (.cells #[.int .i64 N3, .int .i64 D3] 23) = v3 at *
  have pa0 := pa.c0
  have pa1 := pa.c1
  have pb0 := pb.c0
  have pb1 := pb.c1
  have pc0 := pc.c0
  have pc1 := pc.c1
  have ps0 := ps.c0
  have ps1 := ps.c1
  have pp0 := pp.c0
  have pp1 := pp.c1
  have pq0 := pq.c0
  have pq1 := pq.c1
  go_wp2_with fail
  go_at_call 18; refine (C4.out (by simp) (by simp) (by simp) _).mono ?_; rintro e4 w4 ⟨rfl, h⟩
  clear pa0 pa1 pb0 pb1 pc0 pc1 ps0 ps1 pp0 pp1 pq0 pq1
  replace pa := pa.on h
  replace pb := pb.on h
  replace pc := pc.on h
  replace ps := ps.on h
  replace pp := pp.on h
  replace pq := pq.on h
  replace f0 := f0.trans h
  clear h
  go_upto_region 7 with fail
  obtain ⟨px, h⟩ := box1 w4 N4 D4
  replace pa := pa.on h
  replace pb := pb.on h
  replace pc := pc.on h
  replace ps := ps.on h
  replace pp := pp.on h
  replace pq := pq.on h
  replace f0 := f0.trans h
  clear h
  generalize w4.alloc (.cells #[.int .i64 N4, .int .i64 D4] 23) = v4 at *
  have pa0 := pa.c0
  have pa1 := pa.c1
  have pb0 := pb.c0
  have pb1 := pb.c1
  have pc0 := pc.c0
  have pc1 := pc.c1
  have ps0 := ps.c0
  have ps1 := ps.c1
  have pp0 := pp.c0
  have pp1 := pp.c1
  have pq0 := pq.c0
  have pq1 := pq.c1
  have px0 := px.c0
  have px1 := px.c1
  go_wp2_with fail
  go_at_call 14; refine (C5.out (by simp) (by simp) (by simp) _).mono ?_; rintro e5 w5 ⟨rfl, h⟩
  clear pa0 pa1 pb0 pb1 pc0 pc1 ps0 ps1 pp0 pp1 pq0 pq1 px0 px1
  replace pa := pa.on h
  replace pb := pb.on h
  replace pc := pc.on h
  replace ps := ps.on h
  replace pp := pp.on h
  replace pq := pq.on h
  replace px := px.on h
  replace f0 := f0.trans h
  clear h
  go_upto_region 8 with fail
  obtain ⟨py, h⟩ := box1 w5 N4 D4
  replace pa := pa.on h
  replace pb := pb.on h
  replace pc := pc.on h
  replace ps := ps.on h
  replace pp := pp.on h
  replace pq := pq.on h
  replace px := px.on h
  replace f0 := f0.trans h
  clear h
  generalize w5.alloc (.cells #[.int .i64 N4, .int .i64 D4] 23) = v5 at *
  have pa0 := pa.c0
  have pa1 := pa.c1
  have pb0 := pb.c0
  have pb1 := pb.c1
  have pc0 := pc.c0
  have pc1 := pc.c1
  have ps0 := ps.c0
  have ps1 := ps.c1
  have pp0 := pp.c0
  have pp1 := pp.c1
  have pq0 := pq.c0
  have pq1 := pq.c1
  have px0 := px.c0
  have px1 := px.c1
  have py0 := py.c0
  have py1 := py.c1
  go_wp2
  go_ret
  exact ⟨rfl, f0⟩
end Go.Proofs.YtdkmfhlmeildmaaDoor
