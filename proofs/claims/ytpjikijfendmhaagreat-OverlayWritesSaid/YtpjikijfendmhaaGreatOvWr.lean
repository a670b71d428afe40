
/-
  OverlayWrites: the law's walk. Nothing that was there turns.
-/
import Derived.Test.YtpjikijfendmhaaGreatRfKN
namespace Go.Proofs.YtpjikijfendmhaaGreat
open Go.RowKit

theorem rins_x {o x : Ov} {a : Aj} {n : Int} (A : OA) (w : World) (hO : OIn w o A) (ht : Tiny o) (hai : I64 a.1 ∧ I64 a.2.1 ∧ I64 a.2.2) (hz : o.c.ts.length + o.ads.length ≤ 50000) (h : insV o a = (x, n)) : Calls Tryz.prog 22 #[ovv o A, adv a] w (RetX w x n) := by
  have q := rins_any o A a w hO ht hai hz
  rw [h] at q; exact q
theorem rdel_x {o x : Ov} {m n : Int} (A : OA) (w : World) (hO : OIn w o A) (ht : Tiny o) (hm : I64 m) (hz : o.c.ts.length + o.ads.length ≤ 50000) (h : delV o m = (x, n)) : Calls Tryz.prog 24 #[ovv o A, .int .i64 m] w (RetX w x n) := by
  have q := rdel_any o A m w hO ht hm hz
  rw [h] at q; exact q
set_option maxHeartbeats 25600000 in
set_option maxRecDepth 100000 in
theorem writes_walk (o : Ov) (A : OA) (a : Aj) (ed : Int) (w : World) (hO : OIn w o A) (hai : I64 a.1 ∧ I64 a.2.1 ∧ I64 a.2.2) (hed : I64 ed) :
    Calls Tryz.prog 4 #[ovv o A, adv a, .int .i64 ed] w (FwB w true) := by
  obtain ⟨a0, a1, a2⟩ := a
  obtain ⟨w0, hw0⟩ : ∃ w0, w.alloc (.cells (ovC o A) 27) = w0 := ⟨_, rfl⟩
  obtain ⟨w1, hw1⟩ : ∃ w1, w0.alloc (.cells #[.int .i64 a0, .int .i64 a1, .int .i64 a2] 42) = w1 := ⟨_, rfl⟩
  have G0 := Lib.hid (show Fuw w w0 by rw [← hw0]; exact fuwA _ _)
  have G1 := Lib.hid (show Fuw w0 w1 by rw [← hw1]; exact fuwA _ _)
  have BO := Lib.hid (show OB w1 w.heap.size o A from (show OB w0 w.heap.size o A from ⟨by rw [← hw0]; exact Bk.new _ _ _⟩).on G1.out)
  have BA := Lib.hid (show Bk w1 w0.heap.size #[.int .i64 a0, .int .i64 a1, .int .i64 a2] 42 by rw [← hw1]; exact Bk.new _ _ _)
  have F1 := Lib.hid (G0.out.trans G1.out)
  have HO := Lib.hid (hO.on F1.out)
  have HAI := Lib.hid (show I64 a0 ∧ I64 a1 ∧ I64 a2 from hai)
  have HED := Lib.hid hed
  clear hO hai hed G0 G1
  unfold adv ovv
  unfold ovC at hw0 ⊢
  go_enter Tryz.func4, Tryz.ntmps4
  go_upto_region 1 with fail
  clear hw0 hw1
  generalize w.heap.size = B3 at *
  generalize w0.heap.size = B4 at *
  have x1 := BO.out.c1; have x2 := BO.out.c2; have x3 := BO.out.c3; have x4 := BO.out.c4; have x5 := BO.out.c5; have x6 := BO.out.c6
  have HK := Lib.hid (few_any o A w1)
  unfold ovv ovC RetFew at HK
  go_wp2_with fail
  go_at_call 6; refine HK.out.mono ?_; rintro e2 w2 ⟨q, rfl, hq, f2⟩
  have F2 := Lib.hid (F1.out.trans f2)
  have BO2 := Lib.hid (BO.out.on f2)
  have BA2 := Lib.hid (BA.out.on f2)
  have HO2 := Lib.hid (HO.out.on f2)
  have HQ := Lib.hid hq
  clear hq f2 HK x1 x2 x3 x4 x5 x6 BO BA HO
  cases q with
  | false =>
    go_wp2_with fail
    go_at_call 7; refine (alive_any _).mono ?_; rintro e9 w9 ⟨rfl, f9⟩
    have FZ := Lib.hid (F2.out.trans f9)
    clear f9
    go_wp2
    go_ret
    exact ⟨ret_bool (by simp), FZ.out⟩
  | true =>
    have HF := Lib.hid (HQ.out rfl).sz
    have HZ5 := Lib.hid (show o.c.ts.length + o.ads.length ≤ 50000 by have h1 := HF.out.t; have h2 := HF.out.a; omega)
    obtain ⟨x, hx⟩ : ∃ x, (insV o (a0, a1, a2)).1 = x := ⟨_, rfl⟩
    obtain ⟨n, hn⟩ : ∃ n, (insV o (a0, a1, a2)).2 = n := ⟨_, rfl⟩
    have HI := Lib.hid (show insV o (a0, a1, a2) = (x, n) from Prod.ext hx hn)
    obtain ⟨z, hz⟩ : ∃ z, (delV o ed).1 = z := ⟨_, rfl⟩
    obtain ⟨m, hm⟩ : ∃ m, (delV o ed).2 = m := ⟨_, rfl⟩
    have HD := Lib.hid (show delV o ed = (z, m) from Prod.ext hz hm)
    clear hx hn hz hm
    go_upto_region 3 with fail
    have HK := Lib.hid (inso_x A w2 HO2.out (HF.out.tiny (by decide)) HAI.out HI.out)
    unfold ovv ovC adv at HK
    unfold RetX ovv ovC at HK
    have x1 := BO2.out.c1; have x2 := BO2.out.c2; have x3 := BO2.out.c3; have x4 := BO2.out.c4; have x5 := BO2.out.c5; have x6 := BO2.out.c6
    have k0 := BA2.out.c 0; have k1 := BA2.out.c 1; have k2 := BA2.out.c 2
    simp only [List.getElem?_toArray, List.getElem?_cons_zero, List.getElem?_cons_succ] at k0 k1 k2
    go_wp2_with fail
    go_at_call 21; refine HK.out.mono ?_; rintro e9 w3 ⟨Y4, rfl, hyi, f9⟩
    have G4 := Lib.hid f9
    have HY := Lib.hid hyi
    clear f9 hyi HK x1 x2 x3 x4 x5 x6 k0 k1 k2
    go_upto_region 4 with fail
    obtain ⟨w4, hw⟩ : ∃ w99, World.alloc w3 (.cells (ovC x Y4) 27) = w99 := ⟨_, rfl⟩
    have GG := Lib.hid (show Fuw w3 w4 by rw [← hw]; exact fuwA _ _)
    have H4 := Lib.hid (G4.out.trans GG.out)
    obtain ⟨C4, hC⟩ : ∃ C, C = w3.heap.size := ⟨_, rfl⟩
    have BX4 := Lib.hid (show OB w4 C4 x Y4 from ⟨by rw [hC, ← hw]; exact Bk.new _ _ _⟩)
    unfold ovC at hw
    rw [hw, ← hC]
    clear hw hC
    have HX4 := Lib.hid (HY.out.on GG.out)
    have F4 := Lib.hid (F2.out.trans H4.out)
    have BO4 := Lib.hid (BO2.out.on H4.out)
    have BA4 := Lib.hid (BA2.out.on H4.out)
    have HO4 := Lib.hid (HO2.out.on H4.out)
    have HK := Lib.hid (rins_x A w4 HO4.out (HF.out.tiny (by decide)) HAI.out HZ5.out HI.out)
    unfold ovv ovC adv at HK
    unfold RetX ovv ovC at HK
    have x1 := BO4.out.c1; have x2 := BO4.out.c2; have x3 := BO4.out.c3; have x4 := BO4.out.c4; have x5 := BO4.out.c5; have x6 := BO4.out.c6
    have k0 := BA4.out.c 0; have k1 := BA4.out.c 1; have k2 := BA4.out.c 2
    simp only [List.getElem?_toArray, List.getElem?_cons_zero, List.getElem?_cons_succ] at k0 k1 k2
    go_wp2_with fail
    go_at_call 22; refine HK.out.mono ?_; rintro e9 w5 ⟨Y6, rfl, hyi, f9⟩
    have G6 := Lib.hid f9
    have HY := Lib.hid hyi
    clear f9 hyi HK x1 x2 x3 x4 x5 x6 k0 k1 k2
    go_upto_region 5 with fail
    obtain ⟨w6, hw⟩ : ∃ w99, World.alloc w5 (.cells (ovC x Y6) 27) = w99 := ⟨_, rfl⟩
    have GG := Lib.hid (show Fuw w5 w6 by rw [← hw]; exact fuwA _ _)
    have H6 := Lib.hid (G6.out.trans GG.out)
    obtain ⟨C6, hC⟩ : ∃ C, C = w5.heap.size := ⟨_, rfl⟩
    have BX6 := Lib.hid (show OB w6 C6 x Y6 from ⟨by rw [hC, ← hw]; exact Bk.new _ _ _⟩)
    unfold ovC at hw
    rw [hw, ← hC]
    clear hw hC
    have HX6 := Lib.hid (HY.out.on GG.out)
    have F6 := Lib.hid (F4.out.trans H6.out)
    have BO6 := Lib.hid (BO4.out.on H6.out)
    have BA6 := Lib.hid (BA4.out.on H6.out)
    have HO6 := Lib.hid (HO4.out.on H6.out)
    have BX4 := Lib.hid (BX4.out.on H6.out)
    have HX4 := Lib.hid (HX4.out.on H6.out)
    have HK := Lib.hid (delo_x A w6 HO6.out (HF.out.tiny (by decide)) HED.out HD.out)
    unfold ovv ovC at HK
    unfold RetX ovv ovC at HK
    have x1 := BO6.out.c1; have x2 := BO6.out.c2; have x3 := BO6.out.c3; have x4 := BO6.out.c4; have x5 := BO6.out.c5; have x6 := BO6.out.c6
    have k0 := BA6.out.c 0; have k1 := BA6.out.c 1; have k2 := BA6.out.c 2
    simp only [List.getElem?_toArray, List.getElem?_cons_zero, List.getElem?_cons_succ] at k0 k1 k2
    go_wp2_with fail
    go_at_call 23; refine HK.out.mono ?_; rintro e9 w7 ⟨Y8, rfl, hyi, f9⟩
    have G8 := Lib.hid f9
    have HY := Lib.hid hyi
    clear f9 hyi HK x1 x2 x3 x4 x5 x6 k0 k1 k2
    go_upto_region 6 with fail
    obtain ⟨w8, hw⟩ : ∃ w99, World.alloc w7 (.cells (ovC z Y8) 27) = w99 := ⟨_, rfl⟩
    have GG := Lib.hid (show Fuw w7 w8 by rw [← hw]; exact fuwA _ _)
    have H8 := Lib.hid (G8.out.trans GG.out)
    obtain ⟨C8, hC⟩ : ∃ C, C = w7.heap.size := ⟨_, rfl⟩
    have BX8 := Lib.hid (show OB w8 C8 z Y8 from ⟨by rw [hC, ← hw]; exact Bk.new _ _ _⟩)
    unfold ovC at hw
    rw [hw, ← hC]
    clear hw hC
    have HX8 := Lib.hid (HY.out.on GG.out)
    have F8 := Lib.hid (F6.out.trans H8.out)
    have BO8 := Lib.hid (BO6.out.on H8.out)
    have BA8 := Lib.hid (BA6.out.on H8.out)
    have HO8 := Lib.hid (HO6.out.on H8.out)
    have BX4 := Lib.hid (BX4.out.on H8.out)
    have HX4 := Lib.hid (HX4.out.on H8.out)
    have BX6 := Lib.hid (BX6.out.on H8.out)
    have HX6 := Lib.hid (HX6.out.on H8.out)
    have HK := Lib.hid (rdel_x A w8 HO8.out (HF.out.tiny (by decide)) HED.out HZ5.out HD.out)
    unfold ovv ovC at HK
    unfold RetX ovv ovC at HK
    have x1 := BO8.out.c1; have x2 := BO8.out.c2; have x3 := BO8.out.c3; have x4 := BO8.out.c4; have x5 := BO8.out.c5; have x6 := BO8.out.c6
    have k0 := BA8.out.c 0; have k1 := BA8.out.c 1; have k2 := BA8.out.c 2
    simp only [List.getElem?_toArray, List.getElem?_cons_zero, List.getElem?_cons_succ] at k0 k1 k2
    go_wp2_with fail
    go_at_call 24; refine HK.out.mono ?_; rintro e9 w9 ⟨Y10, rfl, hyi, f9⟩
    have G10 := Lib.hid f9
    have HY := Lib.hid hyi
    clear f9 hyi HK x1 x2 x3 x4 x5 x6 k0 k1 k2
    go_upto_region 7 with fail
    obtain ⟨w10, hw⟩ : ∃ w99, World.alloc w9 (.cells (ovC z Y10) 27) = w99 := ⟨_, rfl⟩
    have GG := Lib.hid (show Fuw w9 w10 by rw [← hw]; exact fuwA _ _)
    have H10 := Lib.hid (G10.out.trans GG.out)
    obtain ⟨C10, hC⟩ : ∃ C, C = w9.heap.size := ⟨_, rfl⟩
    have BX10 := Lib.hid (show OB w10 C10 z Y10 from ⟨by rw [hC, ← hw]; exact Bk.new _ _ _⟩)
    unfold ovC at hw
    rw [hw, ← hC]
    clear hw hC
    have HX10 := Lib.hid (HY.out.on GG.out)
    have F10 := Lib.hid (F8.out.trans H10.out)
    have BO10 := Lib.hid (BO8.out.on H10.out)
    have BA10 := Lib.hid (BA8.out.on H10.out)
    have HO10 := Lib.hid (HO8.out.on H10.out)
    have BX4 := Lib.hid (BX4.out.on H10.out)
    have HX4 := Lib.hid (HX4.out.on H10.out)
    have BX6 := Lib.hid (BX6.out.on H10.out)
    have HX6 := Lib.hid (HX6.out.on H10.out)
    have BX8 := Lib.hid (BX8.out.on H10.out)
    have HX8 := Lib.hid (HX8.out.on H10.out)
    have HK := Lib.hid (rsame_any x Y4 Y6 w10 HX4.out HX6.out)
    unfold ovv ovC at HK
    have x1 := BX4.out.c1; have x2 := BX4.out.c2; have x3 := BX4.out.c3; have x4 := BX4.out.c4; have x5 := BX4.out.c5; have x6 := BX4.out.c6
    have y1 := BX6.out.c1; have y2 := BX6.out.c2; have y3 := BX6.out.c3; have y4 := BX6.out.c4; have y5 := BX6.out.c5; have y6 := BX6.out.c6
    go_wp2_with fail
    go_at_call 20; refine HK.out.mono ?_; rintro e9 w11 ⟨rfl, f11⟩
    have F11 := Lib.hid (F10.out.trans f11)
    have BX8 := Lib.hid (BX8.out.on f11)
    have BX10 := Lib.hid (BX10.out.on f11)
    have HX8 := Lib.hid (HX8.out.on f11)
    have HX10 := Lib.hid (HX10.out.on f11)
    clear HK f11 x1 x2 x3 x4 x5 x6 y1 y2 y3 y4 y5 y6
    have HK := Lib.hid (rsame_any z Y8 Y10 w11 HX8.out HX10.out)
    unfold ovv ovC at HK
    have x1 := BX8.out.c1; have x2 := BX8.out.c2; have x3 := BX8.out.c3; have x4 := BX8.out.c4; have x5 := BX8.out.c5; have x6 := BX8.out.c6
    have y1 := BX10.out.c1; have y2 := BX10.out.c2; have y3 := BX10.out.c3; have y4 := BX10.out.c4; have y5 := BX10.out.c5; have y6 := BX10.out.c6
    go_wp2_with fail
    go_at_call 20; refine HK.out.mono ?_; rintro e9 w12 ⟨rfl, f12⟩
    have F12 := Lib.hid (F11.out.trans f12)
    clear HK f12 x1 x2 x3 x4 x5 x6 y1 y2 y3 y4 y5 y6
    go_wp2_with fail
    go_at_call 7; refine (alive_any _).mono ?_; rintro e9 w9 ⟨rfl, f9⟩
    have FZ := Lib.hid (F12.out.trans f9)
    clear f9
    go_wp2
    go_ret
    exact ⟨ret_bool (by simp), FZ.out⟩
end Go.Proofs.YtpjikijfendmhaaGreat
