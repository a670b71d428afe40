/-
  FracField gives true, told by what its calls answer.
-/
import Derived.Test.YtdkmfhlmeildmaaDoorFracGrp
namespace Go.Proofs.YtdkmfhlmeildmaaDoor
open Go.RowKit

set_option maxHeartbeats 8000000 in
theorem field_core (an ad bn bd cn cd N1 D1 N2 D2 : Int) (E H : Bool) (w : World) (G : Good w)
    (CA : Hid (∀ w : World, Calls Tryd.prog 14 #[.agg #[.int .i64 an, .int .i64 ad], .agg #[.int .i64 bn, .int .i64 bd]] w (RetFB w N1 D1 E)))
    (CB : Hid (∀ w : World, Calls Tryd.prog 14 #[.agg #[.int .i64 bn, .int .i64 bd], .agg #[.int .i64 an, .int .i64 ad]] w (RetFB w N1 D1 E)))
    (CS : Hid (E = true → ∀ w : World, Calls Tryd.prog 16 #[.agg #[.int .i64 N1, .int .i64 D1], .agg #[.int .i64 bn, .int .i64 bd]] w (RetFB w an ad true)))
    (CM : Hid (∀ w : World, Calls Tryd.prog 18 #[.agg #[.int .i64 an, .int .i64 ad], .agg #[.int .i64 bn, .int .i64 bd]] w (RetFB w N2 D2 H)))
    (CN : Hid (∀ w : World, Calls Tryd.prog 18 #[.agg #[.int .i64 bn, .int .i64 bd], .agg #[.int .i64 an, .int .i64 ad]] w (RetFB w N2 D2 H)))
    (CD : Hid (H = true → bn ≠ 0 → ∀ w : World, Calls Tryd.prog 20 #[.agg #[.int .i64 N2, .int .i64 D2], .agg #[.int .i64 bn, .int .i64 bd]] w (RetFB w an ad true)))
    (CG : Hid (∀ w : World, Calls Tryd.prog 30 #[.agg #[.int .i64 N1, .int .i64 D1], .bool E, .agg #[.int .i64 an, .int .i64 ad], .agg #[.int .i64 bn, .int .i64 bd], .agg #[.int .i64 cn, .int .i64 cd]] w (RetB w true)))
    (CP : Hid (∀ w : World, Calls Tryd.prog 31 #[.agg #[.int .i64 N2, .int .i64 D2], .bool H, .agg #[.int .i64 an, .int .i64 ad], .agg #[.int .i64 bn, .int .i64 bd], .agg #[.int .i64 cn, .int .i64 cd]] w (RetB w true)))
    (CQ : Hid (∀ w : World, Calls Tryd.prog 32 #[.agg #[.int .i64 an, .int .i64 ad], .agg #[.int .i64 bn, .int .i64 bd], .agg #[.int .i64 cn, .int .i64 cd]] w (RetB w true))) :
    Calls Tryd.prog 6 #[.agg #[.int .i64 an, .int .i64 ad], .agg #[.int .i64 bn, .int .i64 bd], .agg #[.int .i64 cn, .int .i64 cd]] w (RetB w true) := by
  have GG := Lib.hid G
  clear G
  obtain ⟨pa, pb, pc, f0⟩ := box3 w an ad bn bd cn cd 23 rfl
  cases E
  · cases H
    · go_enter Tryd.func6, Tryd.ntmps6
      go_wp2_with fail
      generalize ((w.alloc (.cells #[.int .i64 an, .int .i64 ad] 23)).alloc (.cells #[.int .i64 bn, .int .i64 bd] 23)).alloc (.cells #[.int .i64 cn, .int .i64 cd] 23) = v0 at *
      go_at_call 14; refine (CA.out _).mono ?_; rintro e1 w1 ⟨rfl, h⟩
      replace pa := pa.on h
      replace pb := pb.on h
      replace pc := pc.on h
      replace f0 := f0.trans h
      clear h
      go_upto_region 2 with fail
      obtain ⟨px, h⟩ := box1 w1 N1 D1
      replace pa := pa.on h
      replace pb := pb.on h
      replace pc := pc.on h
      replace f0 := f0.trans h
      clear h
      generalize w1.alloc (.cells #[.int .i64 N1, .int .i64 D1] 23) = v1 at *
      have pa0 := pa.c0
      have pa1 := pa.c1
      have pb0 := pb.c0
      have pb1 := pb.c1
      have pc0 := pc.c0
      have pc1 := pc.c1
      have px0 := px.c0
      have px1 := px.c1
      go_wp2_with fail
      go_at_call 14; refine (CB.out _).mono ?_; rintro e2 w2 ⟨rfl, h⟩
      clear pa0 pa1 pb0 pb1 pc0 pc1 px0 px1
      replace pa := pa.on h
      replace pb := pb.on h
      replace pc := pc.on h
      replace px := px.on h
      replace f0 := f0.trans h
      clear h
      go_upto_region 3 with fail
      obtain ⟨py, h⟩ := box1 w2 N1 D1
      replace pa := pa.on h
      replace pb := pb.on h
      replace pc := pc.on h
      replace px := px.on h
      replace f0 := f0.trans h
      clear h
      generalize w2.alloc (.cells #[.int .i64 N1, .int .i64 D1] 23) = v2 at *
      have pa0 := pa.c0
      have pa1 := pa.c1
      have pb0 := pb.c0
      have pb1 := pb.c1
      have pc0 := pc.c0
      have pc1 := pc.c1
      have px0 := px.c0
      have px1 := px.c1
      have py0 := py.c0
      have py1 := py.c1
      go_wp2_with fail
      go_at_call 18; refine (CM.out _).mono ?_; rintro e4 w4 ⟨rfl, h⟩
      clear pa0 pa1 pb0 pb1 pc0 pc1 px0 px1 py0 py1
      replace pa := pa.on h
      replace pb := pb.on h
      replace pc := pc.on h
      replace px := px.on h
      replace py := py.on h
      replace f0 := f0.trans h
      clear h
      go_upto_region 10 with fail
      obtain ⟨pp, h⟩ := box1 w4 N2 D2
      replace pa := pa.on h
      replace pb := pb.on h
      replace pc := pc.on h
      replace px := px.on h
      replace py := py.on h
      replace f0 := f0.trans h
      clear h
      generalize w4.alloc (.cells #[.int .i64 N2, .int .i64 D2] 23) = v4 at *
      have pa0 := pa.c0
      have pa1 := pa.c1
      have pb0 := pb.c0
      have pb1 := pb.c1
      have pc0 := pc.c0
      have pc1 := pc.c1
      have px0 := px.c0
      have px1 := px.c1
      have py0 := py.c0
      have py1 := py.c1
      have pp0 := pp.c0
      have pp1 := pp.c1
      go_wp2_with fail
      go_at_call 18; refine (CN.out _).mono ?_; rintro e5 w5 ⟨rfl, h⟩
      clear pa0 pa1 pb0 pb1 pc0 pc1 px0 px1 py0 py1 pp0 pp1
      replace pa := pa.on h
      replace pb := pb.on h
      replace pc := pc.on h
      replace px := px.on h
      replace py := py.on h
      replace pp := pp.on h
      replace f0 := f0.trans h
      clear h
      go_upto_region 11 with fail
      obtain ⟨pq, h⟩ := box1 w5 N2 D2
      replace pa := pa.on h
      replace pb := pb.on h
      replace pc := pc.on h
      replace px := px.on h
      replace py := py.on h
      replace pp := pp.on h
      replace f0 := f0.trans h
      clear h
      generalize w5.alloc (.cells #[.int .i64 N2, .int .i64 D2] 23) = v5 at *
      have pa0 := pa.c0
      have pa1 := pa.c1
      have pb0 := pb.c0
      have pb1 := pb.c1
      have pc0 := pc.c0
      have pc1 := pc.c1
      have px0 := px.c0
      have px1 := px.c1
      have py0 := py.c0
      have py1 := py.c1
      have pp0 := pp.c0
      have pp1 := pp.c1
      have pq0 := pq.c0
      have pq1 := pq.c1
      go_wp2_with fail
      go_at_call 30; refine (CG.out _).mono ?_; rintro e7 w7 ⟨rfl, h⟩
      clear pa0 pa1 pb0 pb1 pc0 pc1 px0 px1 py0 py1 pp0 pp1 pq0 pq1
      replace pa := pa.on h
      replace pb := pb.on h
      replace pc := pc.on h
      replace px := px.on h
      replace py := py.on h
      replace pp := pp.on h
      replace pq := pq.on h
      replace f0 := f0.trans h
      clear h
      have pa0 := pa.c0
      have pa1 := pa.c1
      have pb0 := pb.c0
      have pb1 := pb.c1
      have pc0 := pc.c0
      have pc1 := pc.c1
      have px0 := px.c0
      have px1 := px.c1
      have py0 := py.c0
      have py1 := py.c1
      have pp0 := pp.c0
      have pp1 := pp.c1
      have pq0 := pq.c0
      have pq1 := pq.c1
      go_wp2_with fail
      go_at_call 31; refine (CP.out _).mono ?_; rintro e8 w8 ⟨rfl, h⟩
      clear pa0 pa1 pb0 pb1 pc0 pc1 px0 px1 py0 py1 pp0 pp1 pq0 pq1
      replace pa := pa.on h
      replace pb := pb.on h
      replace pc := pc.on h
      replace px := px.on h
      replace py := py.on h
      replace pp := pp.on h
      replace pq := pq.on h
      replace f0 := f0.trans h
      clear h
      have pa0 := pa.c0
      have pa1 := pa.c1
      have pb0 := pb.c0
      have pb1 := pb.c1
      have pc0 := pc.c0
      have pc1 := pc.c1
      have px0 := px.c0
      have px1 := px.c1
      have py0 := py.c0
      have py1 := py.c1
      have pp0 := pp.c0
      have pp1 := pp.c1
      have pq0 := pq.c0
      have pq1 := pq.c1
      go_wp2_with fail
      go_at_call 32; refine (CQ.out _).mono ?_; rintro e9 w9 ⟨rfl, h⟩
      clear pa0 pa1 pb0 pb1 pc0 pc1 px0 px1 py0 py1 pp0 pp1 pq0 pq1
      replace pa := pa.on h
      replace pb := pb.on h
      replace pc := pc.on h
      replace px := px.on h
      replace py := py.on h
      replace pp := pp.on h
      replace pq := pq.on h
      replace f0 := f0.trans h
      clear h
      have pa0 := pa.c0
      have pa1 := pa.c1
      have pb0 := pb.c0
      have pb1 := pb.c1
      have pc0 := pc.c0
      have pc1 := pc.c1
      have px0 := px.c0
      have px1 := px.c1
      have py0 := py.c0
      have py1 := py.c1
      have pp0 := pp.c0
      have pp1 := pp.c1
      have pq0 := pq.c0
      have pq1 := pq.c1
      go_wp2_with fail
      go_at_call 13; refine (lives_any _ (GG.out.on f0)).mono ?_; rintro e10 w10 ⟨rfl, h⟩
      clear pa0 pa1 pb0 pb1 pc0 pc1 px0 px1 py0 py1 pp0 pp1 pq0 pq1
      replace pa := pa.on h
      replace pb := pb.on h
      replace pc := pc.on h
      replace px := px.on h
      replace py := py.on h
      replace pp := pp.on h
      replace pq := pq.on h
      replace f0 := f0.trans h
      clear h
      go_wp2
      go_ret
      exact ⟨rfl, f0⟩
    · by_cases hb : bn = 0
      · subst hb
        go_enter Tryd.func6, Tryd.ntmps6
        go_wp2_with fail
        generalize ((w.alloc (.cells #[.int .i64 an, .int .i64 ad] 23)).alloc (.cells #[.int .i64 0, .int .i64 bd] 23)).alloc (.cells #[.int .i64 cn, .int .i64 cd] 23) = v0 at *
        go_at_call 14; refine (CA.out _).mono ?_; rintro e1 w1 ⟨rfl, h⟩
        replace pa := pa.on h
        replace pb := pb.on h
        replace pc := pc.on h
        replace f0 := f0.trans h
        clear h
        go_upto_region 2 with fail
        obtain ⟨px, h⟩ := box1 w1 N1 D1
        replace pa := pa.on h
        replace pb := pb.on h
        replace pc := pc.on h
        replace f0 := f0.trans h
        clear h
        generalize w1.alloc (.cells #[.int .i64 N1, .int .i64 D1] 23) = v1 at *
        have pa0 := pa.c0
        have pa1 := pa.c1
        have pb0 := pb.c0
        have pb1 := pb.c1
        have pc0 := pc.c0
        have pc1 := pc.c1
        have px0 := px.c0
        have px1 := px.c1
        go_wp2_with fail
        go_at_call 14; refine (CB.out _).mono ?_; rintro e2 w2 ⟨rfl, h⟩
        clear pa0 pa1 pb0 pb1 pc0 pc1 px0 px1
        replace pa := pa.on h
        replace pb := pb.on h
        replace pc := pc.on h
        replace px := px.on h
        replace f0 := f0.trans h
        clear h
        go_upto_region 3 with fail
        obtain ⟨py, h⟩ := box1 w2 N1 D1
        replace pa := pa.on h
        replace pb := pb.on h
        replace pc := pc.on h
        replace px := px.on h
        replace f0 := f0.trans h
        clear h
        generalize w2.alloc (.cells #[.int .i64 N1, .int .i64 D1] 23) = v2 at *
        have pa0 := pa.c0
        have pa1 := pa.c1
        have pb0 := pb.c0
        have pb1 := pb.c1
        have pc0 := pc.c0
        have pc1 := pc.c1
        have px0 := px.c0
        have px1 := px.c1
        have py0 := py.c0
        have py1 := py.c1
        go_wp2_with fail
        go_at_call 18; refine (CM.out _).mono ?_; rintro e4 w4 ⟨rfl, h⟩
        clear pa0 pa1 pb0 pb1 pc0 pc1 px0 px1 py0 py1
        replace pa := pa.on h
        replace pb := pb.on h
        replace pc := pc.on h
        replace px := px.on h
        replace py := py.on h
        replace f0 := f0.trans h
        clear h
        go_upto_region 10 with fail
        obtain ⟨pp, h⟩ := box1 w4 N2 D2
        replace pa := pa.on h
        replace pb := pb.on h
        replace pc := pc.on h
        replace px := px.on h
        replace py := py.on h
        replace f0 := f0.trans h
        clear h
        generalize w4.alloc (.cells #[.int .i64 N2, .int .i64 D2] 23) = v4 at *
        have pa0 := pa.c0
        have pa1 := pa.c1
        have pb0 := pb.c0
        have pb1 := pb.c1
        have pc0 := pc.c0
        have pc1 := pc.c1
        have px0 := px.c0
        have px1 := px.c1
        have py0 := py.c0
        have py1 := py.c1
        have pp0 := pp.c0
        have pp1 := pp.c1
        go_wp2_with fail
        go_at_call 18; refine (CN.out _).mono ?_; rintro e5 w5 ⟨rfl, h⟩
        clear pa0 pa1 pb0 pb1 pc0 pc1 px0 px1 py0 py1 pp0 pp1
        replace pa := pa.on h
        replace pb := pb.on h
        replace pc := pc.on h
        replace px := px.on h
        replace py := py.on h
        replace pp := pp.on h
        replace f0 := f0.trans h
        clear h
        go_upto_region 11 with fail
        obtain ⟨pq, h⟩ := box1 w5 N2 D2
        replace pa := pa.on h
        replace pb := pb.on h
        replace pc := pc.on h
        replace px := px.on h
        replace py := py.on h
        replace pp := pp.on h
        replace f0 := f0.trans h
        clear h
        generalize w5.alloc (.cells #[.int .i64 N2, .int .i64 D2] 23) = v5 at *
        have pa0 := pa.c0
        have pa1 := pa.c1
        have pb0 := pb.c0
        have pb1 := pb.c1
        have pc0 := pc.c0
        have pc1 := pc.c1
        have px0 := px.c0
        have px1 := px.c1
        have py0 := py.c0
        have py1 := py.c1
        have pp0 := pp.c0
        have pp1 := pp.c1
        have pq0 := pq.c0
        have pq1 := pq.c1
        go_wp2_with fail
        go_at_call 30; refine (CG.out _).mono ?_; rintro e7 w7 ⟨rfl, h⟩
        clear pa0 pa1 pb0 pb1 pc0 pc1 px0 px1 py0 py1 pp0 pp1 pq0 pq1
        replace pa := pa.on h
        replace pb := pb.on h
        replace pc := pc.on h
        replace px := px.on h
        replace py := py.on h
        replace pp := pp.on h
        replace pq := pq.on h
        replace f0 := f0.trans h
        clear h
        have pa0 := pa.c0
        have pa1 := pa.c1
        have pb0 := pb.c0
        have pb1 := pb.c1
        have pc0 := pc.c0
        have pc1 := pc.c1
        have px0 := px.c0
        have px1 := px.c1
        have py0 := py.c0
        have py1 := py.c1
        have pp0 := pp.c0
        have pp1 := pp.c1
        have pq0 := pq.c0
        have pq1 := pq.c1
        go_wp2_with fail
        go_at_call 31; refine (CP.out _).mono ?_; rintro e8 w8 ⟨rfl, h⟩
        clear pa0 pa1 pb0 pb1 pc0 pc1 px0 px1 py0 py1 pp0 pp1 pq0 pq1
        replace pa := pa.on h
        replace pb := pb.on h
        replace pc := pc.on h
        replace px := px.on h
        replace py := py.on h
        replace pp := pp.on h
        replace pq := pq.on h
        replace f0 := f0.trans h
        clear h
        have pa0 := pa.c0
        have pa1 := pa.c1
        have pb0 := pb.c0
        have pb1 := pb.c1
        have pc0 := pc.c0
        have pc1 := pc.c1
        have px0 := px.c0
        have px1 := px.c1
        have py0 := py.c0
        have py1 := py.c1
        have pp0 := pp.c0
        have pp1 := pp.c1
        have pq0 := pq.c0
        have pq1 := pq.c1
        go_wp2_with fail
        go_at_call 32; refine (CQ.out _).mono ?_; rintro e9 w9 ⟨rfl, h⟩
        clear pa0 pa1 pb0 pb1 pc0 pc1 px0 px1 py0 py1 pp0 pp1 pq0 pq1
        replace pa := pa.on h
        replace pb := pb.on h
        replace pc := pc.on h
        replace px := px.on h
        replace py := py.on h
        replace pp := pp.on h
        replace pq := pq.on h
        replace f0 := f0.trans h
        clear h
        have pa0 := pa.c0
        have pa1 := pa.c1
        have pb0 := pb.c0
        have pb1 := pb.c1
        have pc0 := pc.c0
        have pc1 := pc.c1
        have px0 := px.c0
        have px1 := px.c1
        have py0 := py.c0
        have py1 := py.c1
        have pp0 := pp.c0
        have pp1 := pp.c1
        have pq0 := pq.c0
        have pq1 := pq.c1
        go_wp2_with fail
        go_at_call 13; refine (lives_any _ (GG.out.on f0)).mono ?_; rintro e10 w10 ⟨rfl, h⟩
        clear pa0 pa1 pb0 pb1 pc0 pc1 px0 px1 py0 py1 pp0 pp1 pq0 pq1
        replace pa := pa.on h
        replace pb := pb.on h
        replace pc := pc.on h
        replace px := px.on h
        replace py := py.on h
        replace pp := pp.on h
        replace pq := pq.on h
        replace f0 := f0.trans h
        clear h
        go_wp2
        go_ret
        exact ⟨rfl, f0⟩
      · go_enter Tryd.func6, Tryd.ntmps6
        go_wp2_with fail
        generalize ((w.alloc (.cells #[.int .i64 an, .int .i64 ad] 23)).alloc (.cells #[.int .i64 bn, .int .i64 bd] 23)).alloc (.cells #[.int .i64 cn, .int .i64 cd] 23) = v0 at *
        go_at_call 14; refine (CA.out _).mono ?_; rintro e1 w1 ⟨rfl, h⟩
        replace pa := pa.on h
        replace pb := pb.on h
        replace pc := pc.on h
        replace f0 := f0.trans h
        clear h
        go_upto_region 2 with fail
        obtain ⟨px, h⟩ := box1 w1 N1 D1
        replace pa := pa.on h
        replace pb := pb.on h
        replace pc := pc.on h
        replace f0 := f0.trans h
        clear h
        generalize w1.alloc (.cells #[.int .i64 N1, .int .i64 D1] 23) = v1 at *
        have pa0 := pa.c0
        have pa1 := pa.c1
        have pb0 := pb.c0
        have pb1 := pb.c1
        have pc0 := pc.c0
        have pc1 := pc.c1
        have px0 := px.c0
        have px1 := px.c1
        go_wp2_with fail
        go_at_call 14; refine (CB.out _).mono ?_; rintro e2 w2 ⟨rfl, h⟩
        clear pa0 pa1 pb0 pb1 pc0 pc1 px0 px1
        replace pa := pa.on h
        replace pb := pb.on h
        replace pc := pc.on h
        replace px := px.on h
        replace f0 := f0.trans h
        clear h
        go_upto_region 3 with fail
        obtain ⟨py, h⟩ := box1 w2 N1 D1
        replace pa := pa.on h
        replace pb := pb.on h
        replace pc := pc.on h
        replace px := px.on h
        replace f0 := f0.trans h
        clear h
        generalize w2.alloc (.cells #[.int .i64 N1, .int .i64 D1] 23) = v2 at *
        have pa0 := pa.c0
        have pa1 := pa.c1
        have pb0 := pb.c0
        have pb1 := pb.c1
        have pc0 := pc.c0
        have pc1 := pc.c1
        have px0 := px.c0
        have px1 := px.c1
        have py0 := py.c0
        have py1 := py.c1
        go_wp2_with fail
        go_at_call 18; refine (CM.out _).mono ?_; rintro e4 w4 ⟨rfl, h⟩
        clear pa0 pa1 pb0 pb1 pc0 pc1 px0 px1 py0 py1
        replace pa := pa.on h
        replace pb := pb.on h
        replace pc := pc.on h
        replace px := px.on h
        replace py := py.on h
        replace f0 := f0.trans h
        clear h
        go_upto_region 10 with fail
        obtain ⟨pp, h⟩ := box1 w4 N2 D2
        replace pa := pa.on h
        replace pb := pb.on h
        replace pc := pc.on h
        replace px := px.on h
        replace py := py.on h
        replace f0 := f0.trans h
        clear h
        generalize w4.alloc (.cells #[.int .i64 N2, .int .i64 D2] 23) = v4 at *
        have pa0 := pa.c0
        have pa1 := pa.c1
        have pb0 := pb.c0
        have pb1 := pb.c1
        have pc0 := pc.c0
        have pc1 := pc.c1
        have px0 := px.c0
        have px1 := px.c1
        have py0 := py.c0
        have py1 := py.c1
        have pp0 := pp.c0
        have pp1 := pp.c1
        go_wp2_with fail
        go_at_call 18; refine (CN.out _).mono ?_; rintro e5 w5 ⟨rfl, h⟩
        clear pa0 pa1 pb0 pb1 pc0 pc1 px0 px1 py0 py1 pp0 pp1
        replace pa := pa.on h
        replace pb := pb.on h
        replace pc := pc.on h
        replace px := px.on h
        replace py := py.on h
        replace pp := pp.on h
        replace f0 := f0.trans h
        clear h
        go_upto_region 11 with fail
        obtain ⟨pq, h⟩ := box1 w5 N2 D2
        replace pa := pa.on h
        replace pb := pb.on h
        replace pc := pc.on h
        replace px := px.on h
        replace py := py.on h
        replace pp := pp.on h
        replace f0 := f0.trans h
        clear h
        generalize w5.alloc (.cells #[.int .i64 N2, .int .i64 D2] 23) = v5 at *
        have pa0 := pa.c0
        have pa1 := pa.c1
        have pb0 := pb.c0
        have pb1 := pb.c1
        have pc0 := pc.c0
        have pc1 := pc.c1
        have px0 := px.c0
        have px1 := px.c1
        have py0 := py.c0
        have py1 := py.c1
        have pp0 := pp.c0
        have pp1 := pp.c1
        have pq0 := pq.c0
        have pq1 := pq.c1
        go_wp2_with fail
        go_at_call 20; refine (CD.out (by simp) hb _).mono ?_; rintro e6 w6 ⟨rfl, h⟩
        clear pa0 pa1 pb0 pb1 pc0 pc1 px0 px1 py0 py1 pp0 pp1 pq0 pq1
        replace pa := pa.on h
        replace pb := pb.on h
        replace pc := pc.on h
        replace px := px.on h
        replace py := py.on h
        replace pp := pp.on h
        replace pq := pq.on h
        replace f0 := f0.trans h
        clear h
        go_upto_region 15 with fail
        obtain ⟨pr, h⟩ := box1 w6 an ad
        replace pa := pa.on h
        replace pb := pb.on h
        replace pc := pc.on h
        replace px := px.on h
        replace py := py.on h
        replace pp := pp.on h
        replace pq := pq.on h
        replace f0 := f0.trans h
        clear h
        generalize w6.alloc (.cells #[.int .i64 an, .int .i64 ad] 23) = v6 at *
        have pa0 := pa.c0
        have pa1 := pa.c1
        have pb0 := pb.c0
        have pb1 := pb.c1
        have pc0 := pc.c0
        have pc1 := pc.c1
        have px0 := px.c0
        have px1 := px.c1
        have py0 := py.c0
        have py1 := py.c1
        have pp0 := pp.c0
        have pp1 := pp.c1
        have pq0 := pq.c0
        have pq1 := pq.c1
        have pr0 := pr.c0
        have pr1 := pr.c1
        go_wp2_with fail
        go_at_call 30; refine (CG.out _).mono ?_; rintro e7 w7 ⟨rfl, h⟩
        clear pa0 pa1 pb0 pb1 pc0 pc1 px0 px1 py0 py1 pp0 pp1 pq0 pq1 pr0 pr1
        replace pa := pa.on h
        replace pb := pb.on h
        replace pc := pc.on h
        replace px := px.on h
        replace py := py.on h
        replace pp := pp.on h
        replace pq := pq.on h
        replace pr := pr.on h
        replace f0 := f0.trans h
        clear h
        have pa0 := pa.c0
        have pa1 := pa.c1
        have pb0 := pb.c0
        have pb1 := pb.c1
        have pc0 := pc.c0
        have pc1 := pc.c1
        have px0 := px.c0
        have px1 := px.c1
        have py0 := py.c0
        have py1 := py.c1
        have pp0 := pp.c0
        have pp1 := pp.c1
        have pq0 := pq.c0
        have pq1 := pq.c1
        have pr0 := pr.c0
        have pr1 := pr.c1
        go_wp2_with fail
        go_at_call 31; refine (CP.out _).mono ?_; rintro e8 w8 ⟨rfl, h⟩
        clear pa0 pa1 pb0 pb1 pc0 pc1 px0 px1 py0 py1 pp0 pp1 pq0 pq1 pr0 pr1
        replace pa := pa.on h
        replace pb := pb.on h
        replace pc := pc.on h
        replace px := px.on h
        replace py := py.on h
        replace pp := pp.on h
        replace pq := pq.on h
        replace pr := pr.on h
        replace f0 := f0.trans h
        clear h
        have pa0 := pa.c0
        have pa1 := pa.c1
        have pb0 := pb.c0
        have pb1 := pb.c1
        have pc0 := pc.c0
        have pc1 := pc.c1
        have px0 := px.c0
        have px1 := px.c1
        have py0 := py.c0
        have py1 := py.c1
        have pp0 := pp.c0
        have pp1 := pp.c1
        have pq0 := pq.c0
        have pq1 := pq.c1
        have pr0 := pr.c0
        have pr1 := pr.c1
        go_wp2_with fail
        go_at_call 32; refine (CQ.out _).mono ?_; rintro e9 w9 ⟨rfl, h⟩
        clear pa0 pa1 pb0 pb1 pc0 pc1 px0 px1 py0 py1 pp0 pp1 pq0 pq1 pr0 pr1
        replace pa := pa.on h
        replace pb := pb.on h
        replace pc := pc.on h
        replace px := px.on h
        replace py := py.on h
        replace pp := pp.on h
        replace pq := pq.on h
        replace pr := pr.on h
        replace f0 := f0.trans h
        clear h
        have pa0 := pa.c0
        have pa1 := pa.c1
        have pb0 := pb.c0
        have pb1 := pb.c1
        have pc0 := pc.c0
        have pc1 := pc.c1
        have px0 := px.c0
        have px1 := px.c1
        have py0 := py.c0
        have py1 := py.c1
        have pp0 := pp.c0
        have pp1 := pp.c1
        have pq0 := pq.c0
        have pq1 := pq.c1
        have pr0 := pr.c0
        have pr1 := pr.c1
        go_wp2_with fail
        go_at_call 13; refine (lives_any _ (GG.out.on f0)).mono ?_; rintro e10 w10 ⟨rfl, h⟩
        clear pa0 pa1 pb0 pb1 pc0 pc1 px0 px1 py0 py1 pp0 pp1 pq0 pq1 pr0 pr1
        replace pa := pa.on h
        replace pb := pb.on h
        replace pc := pc.on h
        replace px := px.on h
        replace py := py.on h
        replace pp := pp.on h
        replace pq := pq.on h
        replace pr := pr.on h
        replace f0 := f0.trans h
        clear h
        go_wp2
        go_ret
        exact ⟨rfl, f0⟩
  · cases H
    · go_enter Tryd.func6, Tryd.ntmps6
      go_wp2_with fail
      generalize ((w.alloc (.cells #[.int .i64 an, .int .i64 ad] 23)).alloc (.cells #[.int .i64 bn, .int .i64 bd] 23)).alloc (.cells #[.int .i64 cn, .int .i64 cd] 23) = v0 at *
      go_at_call 14; refine (CA.out _).mono ?_; rintro e1 w1 ⟨rfl, h⟩
      replace pa := pa.on h
      replace pb := pb.on h
      replace pc := pc.on h
      replace f0 := f0.trans h
      clear h
      go_upto_region 2 with fail
      obtain ⟨px, h⟩ := box1 w1 N1 D1
      replace pa := pa.on h
      replace pb := pb.on h
      replace pc := pc.on h
      replace f0 := f0.trans h
      clear h
      generalize w1.alloc (.cells #[.int .i64 N1, .int .i64 D1] 23) = v1 at *
      have pa0 := pa.c0
      have pa1 := pa.c1
      have pb0 := pb.c0
      have pb1 := pb.c1
      have pc0 := pc.c0
      have pc1 := pc.c1
      have px0 := px.c0
      have px1 := px.c1
      go_wp2_with fail
      go_at_call 14; refine (CB.out _).mono ?_; rintro e2 w2 ⟨rfl, h⟩
      clear pa0 pa1 pb0 pb1 pc0 pc1 px0 px1
      replace pa := pa.on h
      replace pb := pb.on h
      replace pc := pc.on h
      replace px := px.on h
      replace f0 := f0.trans h
      clear h
      go_upto_region 3 with fail
      obtain ⟨py, h⟩ := box1 w2 N1 D1
      replace pa := pa.on h
      replace pb := pb.on h
      replace pc := pc.on h
      replace px := px.on h
      replace f0 := f0.trans h
      clear h
      generalize w2.alloc (.cells #[.int .i64 N1, .int .i64 D1] 23) = v2 at *
      have pa0 := pa.c0
      have pa1 := pa.c1
      have pb0 := pb.c0
      have pb1 := pb.c1
      have pc0 := pc.c0
      have pc1 := pc.c1
      have px0 := px.c0
      have px1 := px.c1
      have py0 := py.c0
      have py1 := py.c1
      go_wp2_with fail
      go_at_call 16; refine (CS.out (by simp) _).mono ?_; rintro e3 w3 ⟨rfl, h⟩
      clear pa0 pa1 pb0 pb1 pc0 pc1 px0 px1 py0 py1
      replace pa := pa.on h
      replace pb := pb.on h
      replace pc := pc.on h
      replace px := px.on h
      replace py := py.on h
      replace f0 := f0.trans h
      clear h
      go_upto_region 7 with fail
      obtain ⟨pz, h⟩ := box1 w3 an ad
      replace pa := pa.on h
      replace pb := pb.on h
      replace pc := pc.on h
      replace px := px.on h
      replace py := py.on h
      replace f0 := f0.trans h
      clear h
      generalize w3.alloc (.cells #[.int .i64 an, .int .i64 ad] 23) = v3 at *
      have pa0 := pa.c0
      have pa1 := pa.c1
      have pb0 := pb.c0
      have pb1 := pb.c1
      have pc0 := pc.c0
      have pc1 := pc.c1
      have px0 := px.c0
      have px1 := px.c1
      have py0 := py.c0
      have py1 := py.c1
      have pz0 := pz.c0
      have pz1 := pz.c1
      go_wp2_with fail
      go_at_call 18; refine (CM.out _).mono ?_; rintro e4 w4 ⟨rfl, h⟩
      clear pa0 pa1 pb0 pb1 pc0 pc1 px0 px1 py0 py1 pz0 pz1
      replace pa := pa.on h
      replace pb := pb.on h
      replace pc := pc.on h
      replace px := px.on h
      replace py := py.on h
      replace pz := pz.on h
      replace f0 := f0.trans h
      clear h
      go_upto_region 10 with fail
      obtain ⟨pp, h⟩ := box1 w4 N2 D2
      replace pa := pa.on h
      replace pb := pb.on h
      replace pc := pc.on h
      replace px := px.on h
      replace py := py.on h
      replace pz := pz.on h
      replace f0 := f0.trans h
      clear h
      generalize w4.alloc (.cells #[.int .i64 N2, .int .i64 D2] 23) = v4 at *
      have pa0 := pa.c0
      have pa1 := pa.c1
      have pb0 := pb.c0
      have pb1 := pb.c1
      have pc0 := pc.c0
      have pc1 := pc.c1
      have px0 := px.c0
      have px1 := px.c1
      have py0 := py.c0
      have py1 := py.c1
      have pz0 := pz.c0
      have pz1 := pz.c1
      have pp0 := pp.c0
      have pp1 := pp.c1
      go_wp2_with fail
      go_at_call 18; refine (CN.out _).mono ?_; rintro e5 w5 ⟨rfl, h⟩
      clear pa0 pa1 pb0 pb1 pc0 pc1 px0 px1 py0 py1 pz0 pz1 pp0 pp1
      replace pa := pa.on h
      replace pb := pb.on h
      replace pc := pc.on h
      replace px := px.on h
      replace py := py.on h
      replace pz := pz.on h
      replace pp := pp.on h
      replace f0 := f0.trans h
      clear h
      go_upto_region 11 with fail
      obtain ⟨pq, h⟩ := box1 w5 N2 D2
      replace pa := pa.on h
      replace pb := pb.on h
      replace pc := pc.on h
      replace px := px.on h
      replace py := py.on h
      replace pz := pz.on h
      replace pp := pp.on h
      replace f0 := f0.trans h
      clear h
      generalize w5.alloc (.cells #[.int .i64 N2, .int .i64 D2] 23) = v5 at *
      have pa0 := pa.c0
      have pa1 := pa.c1
      have pb0 := pb.c0
      have pb1 := pb.c1
      have pc0 := pc.c0
      have pc1 := pc.c1
      have px0 := px.c0
      have px1 := px.c1
      have py0 := py.c0
      have py1 := py.c1
      have pz0 := pz.c0
      have pz1 := pz.c1
      have pp0 := pp.c0
      have pp1 := pp.c1
      have pq0 := pq.c0
      have pq1 := pq.c1
      go_wp2_with fail
      go_at_call 30; refine (CG.out _).mono ?_; rintro e7 w7 ⟨rfl, h⟩
      clear pa0 pa1 pb0 pb1 pc0 pc1 px0 px1 py0 py1 pz0 pz1 pp0 pp1 pq0 pq1
      replace pa := pa.on h
      replace pb := pb.on h
      replace pc := pc.on h
      replace px := px.on h
      replace py := py.on h
      replace pz := pz.on h
      replace pp := pp.on h
      replace pq := pq.on h
      replace f0 := f0.trans h
      clear h
      have pa0 := pa.c0
      have pa1 := pa.c1
      have pb0 := pb.c0
      have pb1 := pb.c1
      have pc0 := pc.c0
      have pc1 := pc.c1
      have px0 := px.c0
      have px1 := px.c1
      have py0 := py.c0
      have py1 := py.c1
      have pz0 := pz.c0
      have pz1 := pz.c1
      have pp0 := pp.c0
      have pp1 := pp.c1
      have pq0 := pq.c0
      have pq1 := pq.c1
      go_wp2_with fail
      go_at_call 31; refine (CP.out _).mono ?_; rintro e8 w8 ⟨rfl, h⟩
      clear pa0 pa1 pb0 pb1 pc0 pc1 px0 px1 py0 py1 pz0 pz1 pp0 pp1 pq0 pq1
      replace pa := pa.on h
      replace pb := pb.on h
      replace pc := pc.on h
      replace px := px.on h
      replace py := py.on h
      replace pz := pz.on h
      replace pp := pp.on h
      replace pq := pq.on h
      replace f0 := f0.trans h
      clear h
      have pa0 := pa.c0
      have pa1 := pa.c1
      have pb0 := pb.c0
      have pb1 := pb.c1
      have pc0 := pc.c0
      have pc1 := pc.c1
      have px0 := px.c0
      have px1 := px.c1
      have py0 := py.c0
      have py1 := py.c1
      have pz0 := pz.c0
      have pz1 := pz.c1
      have pp0 := pp.c0
      have pp1 := pp.c1
      have pq0 := pq.c0
      have pq1 := pq.c1
      go_wp2_with fail
      go_at_call 32; refine (CQ.out _).mono ?_; rintro e9 w9 ⟨rfl, h⟩
      clear pa0 pa1 pb0 pb1 pc0 pc1 px0 px1 py0 py1 pz0 pz1 pp0 pp1 pq0 pq1
      replace pa := pa.on h
      replace pb := pb.on h
      replace pc := pc.on h
      replace px := px.on h
      replace py := py.on h
      replace pz := pz.on h
      replace pp := pp.on h
      replace pq := pq.on h
      replace f0 := f0.trans h
      clear h
      have pa0 := pa.c0
      have pa1 := pa.c1
      have pb0 := pb.c0
      have pb1 := pb.c1
      have pc0 := pc.c0
      have pc1 := pc.c1
      have px0 := px.c0
      have px1 := px.c1
      have py0 := py.c0
      have py1 := py.c1
      have pz0 := pz.c0
      have pz1 := pz.c1
      have pp0 := pp.c0
      have pp1 := pp.c1
      have pq0 := pq.c0
      have pq1 := pq.c1
      go_wp2_with fail
      go_at_call 13; refine (lives_any _ (GG.out.on f0)).mono ?_; rintro e10 w10 ⟨rfl, h⟩
      clear pa0 pa1 pb0 pb1 pc0 pc1 px0 px1 py0 py1 pz0 pz1 pp0 pp1 pq0 pq1
      replace pa := pa.on h
      replace pb := pb.on h
      replace pc := pc.on h
      replace px := px.on h
      replace py := py.on h
      replace pz := pz.on h
      replace pp := pp.on h
      replace pq := pq.on h
      replace f0 := f0.trans h
      clear h
      go_wp2
      go_ret
      exact ⟨rfl, f0⟩
    · by_cases hb : bn = 0
      · subst hb
        go_enter Tryd.func6, Tryd.ntmps6
        go_wp2_with fail
        generalize ((w.alloc (.cells #[.int .i64 an, .int .i64 ad] 23)).alloc (.cells #[.int .i64 0, .int .i64 bd] 23)).alloc (.cells #[.int .i64 cn, .int .i64 cd] 23) = v0 at *
        go_at_call 14; refine (CA.out _).mono ?_; rintro e1 w1 ⟨rfl, h⟩
        replace pa := pa.on h
        replace pb := pb.on h
        replace pc := pc.on h
        replace f0 := f0.trans h
        clear h
        go_upto_region 2 with fail
        obtain ⟨px, h⟩ := box1 w1 N1 D1
        replace pa := pa.on h
        replace pb := pb.on h
        replace pc := pc.on h
        replace f0 := f0.trans h
        clear h
        generalize w1.alloc (.cells #[.int .i64 N1, .int .i64 D1] 23) = v1 at *
        have pa0 := pa.c0
        have pa1 := pa.c1
        have pb0 := pb.c0
        have pb1 := pb.c1
        have pc0 := pc.c0
        have pc1 := pc.c1
        have px0 := px.c0
        have px1 := px.c1
        go_wp2_with fail
        go_at_call 14; refine (CB.out _).mono ?_; rintro e2 w2 ⟨rfl, h⟩
        clear pa0 pa1 pb0 pb1 pc0 pc1 px0 px1
        replace pa := pa.on h
        replace pb := pb.on h
        replace pc := pc.on h
        replace px := px.on h
        replace f0 := f0.trans h
        clear h
        go_upto_region 3 with fail
        obtain ⟨py, h⟩ := box1 w2 N1 D1
        replace pa := pa.on h
        replace pb := pb.on h
        replace pc := pc.on h
        replace px := px.on h
        replace f0 := f0.trans h
        clear h
        generalize w2.alloc (.cells #[.int .i64 N1, .int .i64 D1] 23) = v2 at *
        have pa0 := pa.c0
        have pa1 := pa.c1
        have pb0 := pb.c0
        have pb1 := pb.c1
        have pc0 := pc.c0
        have pc1 := pc.c1
        have px0 := px.c0
        have px1 := px.c1
        have py0 := py.c0
        have py1 := py.c1
        go_wp2_with fail
        go_at_call 16; refine (CS.out (by simp) _).mono ?_; rintro e3 w3 ⟨rfl, h⟩
        clear pa0 pa1 pb0 pb1 pc0 pc1 px0 px1 py0 py1
        replace pa := pa.on h
        replace pb := pb.on h
        replace pc := pc.on h
        replace px := px.on h
        replace py := py.on h
        replace f0 := f0.trans h
        clear h
        go_upto_region 7 with fail
        obtain ⟨pz, h⟩ := box1 w3 an ad
        replace pa := pa.on h
        replace pb := pb.on h
        replace pc := pc.on h
        replace px := px.on h
        replace py := py.on h
        replace f0 := f0.trans h
        clear h
        generalize w3.alloc (.cells #[.int .i64 an, .int .i64 ad] 23) = v3 at *
        have pa0 := pa.c0
        have pa1 := pa.c1
        have pb0 := pb.c0
        have pb1 := pb.c1
        have pc0 := pc.c0
        have pc1 := pc.c1
        have px0 := px.c0
        have px1 := px.c1
        have py0 := py.c0
        have py1 := py.c1
        have pz0 := pz.c0
        have pz1 := pz.c1
        go_wp2_with fail
        go_at_call 18; refine (CM.out _).mono ?_; rintro e4 w4 ⟨rfl, h⟩
        clear pa0 pa1 pb0 pb1 pc0 pc1 px0 px1 py0 py1 pz0 pz1
        replace pa := pa.on h
        replace pb := pb.on h
        replace pc := pc.on h
        replace px := px.on h
        replace py := py.on h
        replace pz := pz.on h
        replace f0 := f0.trans h
        clear h
        go_upto_region 10 with fail
        obtain ⟨pp, h⟩ := box1 w4 N2 D2
        replace pa := pa.on h
        replace pb := pb.on h
        replace pc := pc.on h
        replace px := px.on h
        replace py := py.on h
        replace pz := pz.on h
        replace f0 := f0.trans h
        clear h
        generalize w4.alloc (.cells #[.int .i64 N2, .int .i64 D2] 23) = v4 at *
        have pa0 := pa.c0
        have pa1 := pa.c1
        have pb0 := pb.c0
        have pb1 := pb.c1
        have pc0 := pc.c0
        have pc1 := pc.c1
        have px0 := px.c0
        have px1 := px.c1
        have py0 := py.c0
        have py1 := py.c1
        have pz0 := pz.c0
        have pz1 := pz.c1
        have pp0 := pp.c0
        have pp1 := pp.c1
        go_wp2_with fail
        go_at_call 18; refine (CN.out _).mono ?_; rintro e5 w5 ⟨rfl, h⟩
        clear pa0 pa1 pb0 pb1 pc0 pc1 px0 px1 py0 py1 pz0 pz1 pp0 pp1
        replace pa := pa.on h
        replace pb := pb.on h
        replace pc := pc.on h
        replace px := px.on h
        replace py := py.on h
        replace pz := pz.on h
        replace pp := pp.on h
        replace f0 := f0.trans h
        clear h
        go_upto_region 11 with fail
        obtain ⟨pq, h⟩ := box1 w5 N2 D2
        replace pa := pa.on h
        replace pb := pb.on h
        replace pc := pc.on h
        replace px := px.on h
        replace py := py.on h
        replace pz := pz.on h
        replace pp := pp.on h
        replace f0 := f0.trans h
        clear h
        generalize w5.alloc (.cells #[.int .i64 N2, .int .i64 D2] 23) = v5 at *
        have pa0 := pa.c0
        have pa1 := pa.c1
        have pb0 := pb.c0
        have pb1 := pb.c1
        have pc0 := pc.c0
        have pc1 := pc.c1
        have px0 := px.c0
        have px1 := px.c1
        have py0 := py.c0
        have py1 := py.c1
        have pz0 := pz.c0
        have pz1 := pz.c1
        have pp0 := pp.c0
        have pp1 := pp.c1
        have pq0 := pq.c0
        have pq1 := pq.c1
        go_wp2_with fail
        go_at_call 30; refine (CG.out _).mono ?_; rintro e7 w7 ⟨rfl, h⟩
        clear pa0 pa1 pb0 pb1 pc0 pc1 px0 px1 py0 py1 pz0 pz1 pp0 pp1 pq0 pq1
        replace pa := pa.on h
        replace pb := pb.on h
        replace pc := pc.on h
        replace px := px.on h
        replace py := py.on h
        replace pz := pz.on h
        replace pp := pp.on h
        replace pq := pq.on h
        replace f0 := f0.trans h
        clear h
        have pa0 := pa.c0
        have pa1 := pa.c1
        have pb0 := pb.c0
        have pb1 := pb.c1
        have pc0 := pc.c0
        have pc1 := pc.c1
        have px0 := px.c0
        have px1 := px.c1
        have py0 := py.c0
        have py1 := py.c1
        have pz0 := pz.c0
        have pz1 := pz.c1
        have pp0 := pp.c0
        have pp1 := pp.c1
        have pq0 := pq.c0
        have pq1 := pq.c1
        go_wp2_with fail
        go_at_call 31; refine (CP.out _).mono ?_; rintro e8 w8 ⟨rfl, h⟩
        clear pa0 pa1 pb0 pb1 pc0 pc1 px0 px1 py0 py1 pz0 pz1 pp0 pp1 pq0 pq1
        replace pa := pa.on h
        replace pb := pb.on h
        replace pc := pc.on h
        replace px := px.on h
        replace py := py.on h
        replace pz := pz.on h
        replace pp := pp.on h
        replace pq := pq.on h
        replace f0 := f0.trans h
        clear h
        have pa0 := pa.c0
        have pa1 := pa.c1
        have pb0 := pb.c0
        have pb1 := pb.c1
        have pc0 := pc.c0
        have pc1 := pc.c1
        have px0 := px.c0
        have px1 := px.c1
        have py0 := py.c0
        have py1 := py.c1
        have pz0 := pz.c0
        have pz1 := pz.c1
        have pp0 := pp.c0
        have pp1 := pp.c1
        have pq0 := pq.c0
        have pq1 := pq.c1
        go_wp2_with fail
        go_at_call 32; refine (CQ.out _).mono ?_; rintro e9 w9 ⟨rfl, h⟩
        clear pa0 pa1 pb0 pb1 pc0 pc1 px0 px1 py0 py1 pz0 pz1 pp0 pp1 pq0 pq1
        replace pa := pa.on h
        replace pb := pb.on h
        replace pc := pc.on h
        replace px := px.on h
        replace py := py.on h
        replace pz := pz.on h
        replace pp := pp.on h
        replace pq := pq.on h
        replace f0 := f0.trans h
        clear h
        have pa0 := pa.c0
        have pa1 := pa.c1
        have pb0 := pb.c0
        have pb1 := pb.c1
        have pc0 := pc.c0
        have pc1 := pc.c1
        have px0 := px.c0
        have px1 := px.c1
        have py0 := py.c0
        have py1 := py.c1
        have pz0 := pz.c0
        have pz1 := pz.c1
        have pp0 := pp.c0
        have pp1 := pp.c1
        have pq0 := pq.c0
        have pq1 := pq.c1
        go_wp2_with fail
        go_at_call 13; refine (lives_any _ (GG.out.on f0)).mono ?_; rintro e10 w10 ⟨rfl, h⟩
        clear pa0 pa1 pb0 pb1 pc0 pc1 px0 px1 py0 py1 pz0 pz1 pp0 pp1 pq0 pq1
        replace pa := pa.on h
        replace pb := pb.on h
        replace pc := pc.on h
        replace px := px.on h
        replace py := py.on h
        replace pz := pz.on h
        replace pp := pp.on h
        replace pq := pq.on h
        replace f0 := f0.trans h
        clear h
        go_wp2
        go_ret
        exact ⟨rfl, f0⟩
      · go_enter Tryd.func6, Tryd.ntmps6
        go_wp2_with fail
        generalize ((w.alloc (.cells #[.int .i64 an, .int .i64 ad] 23)).alloc (.cells #[.int .i64 bn, .int .i64 bd] 23)).alloc (.cells #[.int .i64 cn, .int .i64 cd] 23) = v0 at *
        go_at_call 14; refine (CA.out _).mono ?_; rintro e1 w1 ⟨rfl, h⟩
        replace pa := pa.on h
        replace pb := pb.on h
        replace pc := pc.on h
        replace f0 := f0.trans h
        clear h
        go_upto_region 2 with fail
        obtain ⟨px, h⟩ := box1 w1 N1 D1
        replace pa := pa.on h
        replace pb := pb.on h
        replace pc := pc.on h
        replace f0 := f0.trans h
        clear h
        generalize w1.alloc (.cells #[.int .i64 N1, .int .i64 D1] 23) = v1 at *
        have pa0 := pa.c0
        have pa1 := pa.c1
        have pb0 := pb.c0
        have pb1 := pb.c1
        have pc0 := pc.c0
        have pc1 := pc.c1
        have px0 := px.c0
        have px1 := px.c1
        go_wp2_with fail
        go_at_call 14; refine (CB.out _).mono ?_; rintro e2 w2 ⟨rfl, h⟩
        clear pa0 pa1 pb0 pb1 pc0 pc1 px0 px1
        replace pa := pa.on h
        replace pb := pb.on h
        replace pc := pc.on h
        replace px := px.on h
        replace f0 := f0.trans h
        clear h
        go_upto_region 3 with fail
        obtain ⟨py, h⟩ := box1 w2 N1 D1
        replace pa := pa.on h
        replace pb := pb.on h
        replace pc := pc.on h
        replace px := px.on h
        replace f0 := f0.trans h
        clear h
        generalize w2.alloc (.cells #[.int .i64 N1, .int .i64 D1] 23) = v2 at *
        have pa0 := pa.c0
        have pa1 := pa.c1
        have pb0 := pb.c0
        have pb1 := pb.c1
        have pc0 := pc.c0
        have pc1 := pc.c1
        have px0 := px.c0
        have px1 := px.c1
        have py0 := py.c0
        have py1 := py.c1
        go_wp2_with fail
        go_at_call 16; refine (CS.out (by simp) _).mono ?_; rintro e3 w3 ⟨rfl, h⟩
        clear pa0 pa1 pb0 pb1 pc0 pc1 px0 px1 py0 py1
        replace pa := pa.on h
        replace pb := pb.on h
        replace pc := pc.on h
        replace px := px.on h
        replace py := py.on h
        replace f0 := f0.trans h
        clear h
        go_upto_region 7 with fail
        obtain ⟨pz, h⟩ := box1 w3 an ad
        replace pa := pa.on h
        replace pb := pb.on h
        replace pc := pc.on h
        replace px := px.on h
        replace py := py.on h
        replace f0 := f0.trans h
        clear h
        generalize w3.alloc (.cells #[.int .i64 an, .int .i64 ad] 23) = v3 at *
        have pa0 := pa.c0
        have pa1 := pa.c1
        have pb0 := pb.c0
        have pb1 := pb.c1
        have pc0 := pc.c0
        have pc1 := pc.c1
        have px0 := px.c0
        have px1 := px.c1
        have py0 := py.c0
        have py1 := py.c1
        have pz0 := pz.c0
        have pz1 := pz.c1
        go_wp2_with fail
        go_at_call 18; refine (CM.out _).mono ?_; rintro e4 w4 ⟨rfl, h⟩
        clear pa0 pa1 pb0 pb1 pc0 pc1 px0 px1 py0 py1 pz0 pz1
        replace pa := pa.on h
        replace pb := pb.on h
        replace pc := pc.on h
        replace px := px.on h
        replace py := py.on h
        replace pz := pz.on h
        replace f0 := f0.trans h
        clear h
        go_upto_region 10 with fail
        obtain ⟨pp, h⟩ := box1 w4 N2 D2
        replace pa := pa.on h
        replace pb := pb.on h
        replace pc := pc.on h
        replace px := px.on h
        replace py := py.on h
        replace pz := pz.on h
        replace f0 := f0.trans h
        clear h
        generalize w4.alloc (.cells #[.int .i64 N2, .int .i64 D2] 23) = v4 at *
        have pa0 := pa.c0
        have pa1 := pa.c1
        have pb0 := pb.c0
        have pb1 := pb.c1
        have pc0 := pc.c0
        have pc1 := pc.c1
        have px0 := px.c0
        have px1 := px.c1
        have py0 := py.c0
        have py1 := py.c1
        have pz0 := pz.c0
        have pz1 := pz.c1
        have pp0 := pp.c0
        have pp1 := pp.c1
        go_wp2_with fail
        go_at_call 18; refine (CN.out _).mono ?_; rintro e5 w5 ⟨rfl, h⟩
        clear pa0 pa1 pb0 pb1 pc0 pc1 px0 px1 py0 py1 pz0 pz1 pp0 pp1
        replace pa := pa.on h
        replace pb := pb.on h
        replace pc := pc.on h
        replace px := px.on h
        replace py := py.on h
        replace pz := pz.on h
        replace pp := pp.on h
        replace f0 := f0.trans h
        clear h
        go_upto_region 11 with fail
        obtain ⟨pq, h⟩ := box1 w5 N2 D2
        replace pa := pa.on h
        replace pb := pb.on h
        replace pc := pc.on h
        replace px := px.on h
        replace py := py.on h
        replace pz := pz.on h
        replace pp := pp.on h
        replace f0 := f0.trans h
        clear h
        generalize w5.alloc (.cells #[.int .i64 N2, .int .i64 D2] 23) = v5 at *
        have pa0 := pa.c0
        have pa1 := pa.c1
        have pb0 := pb.c0
        have pb1 := pb.c1
        have pc0 := pc.c0
        have pc1 := pc.c1
        have px0 := px.c0
        have px1 := px.c1
        have py0 := py.c0
        have py1 := py.c1
        have pz0 := pz.c0
        have pz1 := pz.c1
        have pp0 := pp.c0
        have pp1 := pp.c1
        have pq0 := pq.c0
        have pq1 := pq.c1
        go_wp2_with fail
        go_at_call 20; refine (CD.out (by simp) hb _).mono ?_; rintro e6 w6 ⟨rfl, h⟩
        clear pa0 pa1 pb0 pb1 pc0 pc1 px0 px1 py0 py1 pz0 pz1 pp0 pp1 pq0 pq1
        replace pa := pa.on h
        replace pb := pb.on h
        replace pc := pc.on h
        replace px := px.on h
        replace py := py.on h
        replace pz := pz.on h
        replace pp := pp.on h
        replace pq := pq.on h
        replace f0 := f0.trans h
        clear h
        go_upto_region 15 with fail
        obtain ⟨pr, h⟩ := box1 w6 an ad
        replace pa := pa.on h
        replace pb := pb.on h
        replace pc := pc.on h
        replace px := px.on h
        replace py := py.on h
        replace pz := pz.on h
        replace pp := pp.on h
        replace pq := pq.on h
        replace f0 := f0.trans h
        clear h
        generalize w6.alloc (.cells #[.int .i64 an, .int .i64 ad] 23) = v6 at *
        have pa0 := pa.c0
        have pa1 := pa.c1
        have pb0 := pb.c0
        have pb1 := pb.c1
        have pc0 := pc.c0
        have pc1 := pc.c1
        have px0 := px.c0
        have px1 := px.c1
        have py0 := py.c0
        have py1 := py.c1
        have pz0 := pz.c0
        have pz1 := pz.c1
        have pp0 := pp.c0
        have pp1 := pp.c1
        have pq0 := pq.c0
        have pq1 := pq.c1
        have pr0 := pr.c0
        have pr1 := pr.c1
        go_wp2_with fail
        go_at_call 30; refine (CG.out _).mono ?_; rintro e7 w7 ⟨rfl, h⟩
        clear pa0 pa1 pb0 pb1 pc0 pc1 px0 px1 py0 py1 pz0 pz1 pp0 pp1 pq0 pq1 pr0 pr1
        replace pa := pa.on h
        replace pb := pb.on h
        replace pc := pc.on h
        replace px := px.on h
        replace py := py.on h
        replace pz := pz.on h
        replace pp := pp.on h
        replace pq := pq.on h
        replace pr := pr.on h
        replace f0 := f0.trans h
        clear h
        have pa0 := pa.c0
        have pa1 := pa.c1
        have pb0 := pb.c0
        have pb1 := pb.c1
        have pc0 := pc.c0
        have pc1 := pc.c1
        have px0 := px.c0
        have px1 := px.c1
        have py0 := py.c0
        have py1 := py.c1
        have pz0 := pz.c0
        have pz1 := pz.c1
        have pp0 := pp.c0
        have pp1 := pp.c1
        have pq0 := pq.c0
        have pq1 := pq.c1
        have pr0 := pr.c0
        have pr1 := pr.c1
        go_wp2_with fail
        go_at_call 31; refine (CP.out _).mono ?_; rintro e8 w8 ⟨rfl, h⟩
        clear pa0 pa1 pb0 pb1 pc0 pc1 px0 px1 py0 py1 pz0 pz1 pp0 pp1 pq0 pq1 pr0 pr1
        replace pa := pa.on h
        replace pb := pb.on h
        replace pc := pc.on h
        replace px := px.on h
        replace py := py.on h
        replace pz := pz.on h
        replace pp := pp.on h
        replace pq := pq.on h
        replace pr := pr.on h
        replace f0 := f0.trans h
        clear h
        have pa0 := pa.c0
        have pa1 := pa.c1
        have pb0 := pb.c0
        have pb1 := pb.c1
        have pc0 := pc.c0
        have pc1 := pc.c1
        have px0 := px.c0
        have px1 := px.c1
        have py0 := py.c0
        have py1 := py.c1
        have pz0 := pz.c0
        have pz1 := pz.c1
        have pp0 := pp.c0
        have pp1 := pp.c1
        have pq0 := pq.c0
        have pq1 := pq.c1
        have pr0 := pr.c0
        have pr1 := pr.c1
        go_wp2_with fail
        go_at_call 32; refine (CQ.out _).mono ?_; rintro e9 w9 ⟨rfl, h⟩
        clear pa0 pa1 pb0 pb1 pc0 pc1 px0 px1 py0 py1 pz0 pz1 pp0 pp1 pq0 pq1 pr0 pr1
        replace pa := pa.on h
        replace pb := pb.on h
        replace pc := pc.on h
        replace px := px.on h
        replace py := py.on h
        replace pz := pz.on h
        replace pp := pp.on h
        replace pq := pq.on h
        replace pr := pr.on h
        replace f0 := f0.trans h
        clear h
        have pa0 := pa.c0
        have pa1 := pa.c1
        have pb0 := pb.c0
        have pb1 := pb.c1
        have pc0 := pc.c0
        have pc1 := pc.c1
        have px0 := px.c0
        have px1 := px.c1
        have py0 := py.c0
        have py1 := py.c1
        have pz0 := pz.c0
        have pz1 := pz.c1
        have pp0 := pp.c0
        have pp1 := pp.c1
        have pq0 := pq.c0
        have pq1 := pq.c1
        have pr0 := pr.c0
        have pr1 := pr.c1
        go_wp2_with fail
        go_at_call 13; refine (lives_any _ (GG.out.on f0)).mono ?_; rintro e10 w10 ⟨rfl, h⟩
        clear pa0 pa1 pb0 pb1 pc0 pc1 px0 px1 py0 py1 pz0 pz1 pp0 pp1 pq0 pq1 pr0 pr1
        replace pa := pa.on h
        replace pb := pb.on h
        replace pc := pc.on h
        replace px := px.on h
        replace py := py.on h
        replace pz := pz.on h
        replace pp := pp.on h
        replace pq := pq.on h
        replace pr := pr.on h
        replace f0 := f0.trans h
        clear h
        go_wp2
        go_ret
        exact ⟨rfl, f0⟩
end Go.Proofs.YtdkmfhlmeildmaaDoor
