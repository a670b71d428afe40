/-
  RbK; RbK1; RbK2; RbK6: texts of one kind in one file; each part says what it holds.
-/
import Derived.Test.YtpamdlkagmlahaaGreatDoorK42
import Derived.Test.YtpamdlkagmlahaaGreatDoorK43
import Derived.Test.YtpamdlkagmlahaaGreatDoorK38

set_option maxHeartbeats 6400000
set_option maxRecDepth 100000
namespace Go.Proofs.YtpamdlkagmlahaaGreatDoor
open Go.RowKit
theorem retSt_box {w w4 w5 : World} {E : Int} {T : Gr} {an ae : Option Addr} {cn ce : Nat} {t : TypeId} {B l1 l2 k1 k2 : Nat} {ax ay : Option Addr} {x y : Int} (hB : Bk w4 B #[.slice ax l1 k1, .slice ay l2 k2, .int .i64 x, .int .i64 y] t) (hg : GIn w4 T an ae cn ce) (hf : Flat T) (f : Fuw w w4) (hb : w.heap.size ≤ B)
  (h5 : w5 = (((w4.setCell ⟨B, 0, none⟩ (.slice an T.ns.length cn)).setCell ⟨B, 1, none⟩ (.slice ae T.es.length ce)).setCell ⟨B, 2, none⟩ (.int .i64 T.nn)).setCell ⟨B, 3, none⟩ (.int .i64 T.ne)) : RetSt w E T (.returned (.tuple #[grv T an ae cn ce, .int .i64 E])) w5 := by
 subst h5
 exact ⟨an, ae, cn, ce, rfl, gin_fux hB hg hf (fux_set4 _ _ _ _ _), fuwS (fuwS (fuwS (fuwS f hb) hb) hb) hb⟩
theorem rstep_bad (g : Gr) (an ae : Option Addr) (cn ce : Nat) (c : Ch) (a : Option Addr) (k : Nat) (w : World) (hg : GIn w g an ae cn ce) (hf : Fine g) (hi : ChIn w c a k) (hc : chkC c ≠ 0) :
  Calls Tryz.prog 21 #[grv g an ae cn ce, .agg (chC c a k)] w (RetSt w (stpE g c) (stpT g c)) := by
 obtain ⟨W, hW⟩ : ∃ W, W = ((w.alloc (.cells #[.slice an g.ns.length cn, .slice ae g.es.length ce, .int .i64 g.nn, .int .i64 g.ne] 25)).alloc (.cells (chC c a k) 30)).alloc (.cells #[.slice none 0 0, .slice none 0 0, .int .i64 0, .int .i64 0] 25) := ⟨_, rfl⟩
 have fW : Fuw w W := by rw [hW]; exact ((fuwA _ _).trans (fuwA _ _)).trans (fuwA _ _)
 have HG := Lib.hid (show Bk W w.heap.size #[.slice an g.ns.length cn, .slice ae g.es.length ce, .int .i64 g.nn, .int .i64 g.ne] 25 from by rw [hW]; exact (Bk.new w _ _).on ((fuwA _ _).trans (fuwA _ _)))
 have HC := Lib.hid (show Bk W (w.heap.size + 1) (chC c a k) 30 from by
  rw [hW]
  have := Bk.new (w.alloc (.cells #[.slice an g.ns.length cn, .slice ae g.es.length ce, .int .i64 g.nn, .int .i64 g.ne] 25)) (chC c a k) 30
  exact Bk.on (by simpa using this) (fuwA _ _))
 have HZ := Lib.hid (show Bk W (w.heap.size + 1 + 1) #[.slice none 0 0, .slice none 0 0, .int .i64 0, .int .i64 0] 25 from by
  rw [hW]
  have := Bk.new ((w.alloc (.cells #[.slice an g.ns.length cn, .slice ae g.es.length ce, .int .i64 g.nn, .int .i64 g.ne] 25)).alloc (.cells (chC c a k) 30)) #[.slice none 0 0, .slice none 0 0, .int .i64 0, .int .i64 0] 25
  simpa using this)
 have HWS := Lib.hid (show W.heap.size = w.heap.size + 3 from by rw [hW]; simp)
 have HFW := Lib.hid fW
 have HGI := Lib.hid hg
 have HFI := Lib.hid hf
 have HCI := Lib.hid hi
 have HFL := Lib.hid (stpT_flat (c := c) hf)
 have HCK := Lib.hid (rchk8_any c a k W (hi.on fW))
 obtain ⟨g0, g1, g2, g3⟩ := HG.out.g4
 obtain ⟨d0, d1, d2, d3, d4, d5, d6, d7, d8, d9⟩ := HC.out.ch
 unfold chC at hW HCK
 unfold grv
 unfold chC
 obtain ⟨q, hq⟩ : ∃ q, q = chkC c := ⟨_, rfl⟩
 have HQ := Lib.hid (show stpE g c = q ∧ q ≠ 0 from ⟨by rw [hq]; unfold stpE; rw [if_pos hc], by rw [hq]; exact hc⟩)
 have hq1 : (q == 0) = false := beq_eq_false_iff_ne.2 HQ.out.2
 have hq2 : (q != 0) = true := by rw [bne_iff_ne]; exact HQ.out.2
 rw [← hq] at HCK
 clear hc hq
 clear fW hg hi hf
 go_enter Tryz.func21, Tryz.ntmps21
 go_upto_region 1 with fail
 rw [← hW]
 clear hW
 go_wp2_with fail
 go_at_call 10; refine HCK.out.mono ?_; rintro e1 w1 ⟨rfl, f1⟩
 have HF1 := Lib.hid (HFW.out.trans f1)
 have HG1 := Lib.hid (HG.out.on f1)
 have HC1 := Lib.hid (HC.out.on f1)
 have HZ1 := Lib.hid (HZ.out.on f1)
 have HS1 := Lib.hid (show W.heap.size ≤ w1.heap.size from f1.size)
 clear HCK f1 HG HC HZ
 clear g0 g1 g2 g3 d0 d1 d2 d3 d4 d5 d6 d7 d8 d9
 obtain ⟨z0, z1, z2, z3⟩ := HZ1.out.g4
 obtain ⟨y0, y1, y2, y3⟩ := HZ1.out.f4
 go_wp2
 refine g_ret2 rfl rfl rfl ((((HZ1.out.set_ 0 _).set_ 1 _).set_ 2 _).set_ 3 _) ?_
 have hb1 : w.heap.size ≤ w.heap.size + 1 + 1 := by omega
 have hE := HQ.out.1
 have hT : stpT g c = zerG := stpT_no (by rw [HQ.out.1]; exact HQ.out.2)
 exact ⟨none, none, 0, 0, by rw [hE, hT]; rfl, by rw [hT]; exact zerG_in _, fuwS (fuwS (fuwS (fuwS HF1.out hb1) hb1) hb1) hb1⟩
end Go.Proofs.YtpamdlkagmlahaaGreatDoor

namespace Go.Proofs.YtpamdlkagmlahaaGreatDoor
open Go.RowKit
theorem rstep_1 (g : Gr) (an ae : Option Addr) (cn ce : Nat) (c : Ch) (a : Option Addr) (k : Nat) (w : World) (hg : GIn w g an ae cn ce) (hf : Fine g) (hi : ChIn w c a k) (hop : c.op = 1) (hc : chkC c = 0) :
  Calls Tryz.prog 21 #[grv g an ae cn ce, .agg (chC c a k)] w (RetSt w (stpE g c) (stpT g c)) := by
 obtain ⟨W, hW⟩ : ∃ W, W = ((w.alloc (.cells #[.slice an g.ns.length cn, .slice ae g.es.length ce, .int .i64 g.nn, .int .i64 g.ne] 25)).alloc (.cells (chC c a k) 30)).alloc (.cells #[.slice none 0 0, .slice none 0 0, .int .i64 0, .int .i64 0] 25) := ⟨_, rfl⟩
 have fW : Fuw w W := by rw [hW]; exact ((fuwA _ _).trans (fuwA _ _)).trans (fuwA _ _)
 have HG := Lib.hid (show Bk W w.heap.size #[.slice an g.ns.length cn, .slice ae g.es.length ce, .int .i64 g.nn, .int .i64 g.ne] 25 from by rw [hW]; exact (Bk.new w _ _).on ((fuwA _ _).trans (fuwA _ _)))
 have HC := Lib.hid (show Bk W (w.heap.size + 1) (chC c a k) 30 from by
  rw [hW]
  have := Bk.new (w.alloc (.cells #[.slice an g.ns.length cn, .slice ae g.es.length ce, .int .i64 g.nn, .int .i64 g.ne] 25)) (chC c a k) 30
  exact Bk.on (by simpa using this) (fuwA _ _))
 have HZ := Lib.hid (show Bk W (w.heap.size + 1 + 1) #[.slice none 0 0, .slice none 0 0, .int .i64 0, .int .i64 0] 25 from by
  rw [hW]
  have := Bk.new ((w.alloc (.cells #[.slice an g.ns.length cn, .slice ae g.es.length ce, .int .i64 g.nn, .int .i64 g.ne] 25)).alloc (.cells (chC c a k) 30)) #[.slice none 0 0, .slice none 0 0, .int .i64 0, .int .i64 0] 25
  simpa using this)
 have HWS := Lib.hid (show W.heap.size = w.heap.size + 3 from by rw [hW]; simp)
 have HFW := Lib.hid fW
 have HGI := Lib.hid hg
 have HFI := Lib.hid hf
 have HCI := Lib.hid hi
 have HFL := Lib.hid (stpT_flat (c := c) hf)
 have HCK := Lib.hid (rchk8_any c a k W (hi.on fW))
 obtain ⟨V, hV⟩ : ∃ V, V = nodV g.ns c.id := ⟨_, rfl⟩
 have HVV := Lib.hid hV
 obtain ⟨m, hm⟩ : ∃ m, m = V.getD nilN := ⟨_, rfl⟩
 obtain ⟨s, hs⟩ : ∃ s, s = V.isSome := ⟨_, rfl⟩
 have HVM := Lib.hid hm
 have HVS := Lib.hid hs
 obtain ⟨Y, hY⟩ : ∃ Y, Y = edgV g.es c.id := ⟨_, rfl⟩
 have HYY := Lib.hid hY
 obtain ⟨x, hx⟩ : ∃ x, x = Y.getD nilE := ⟨_, rfl⟩
 obtain ⟨sx, hsx⟩ : ∃ sx, sx = Y.isSome := ⟨_, rfl⟩
 have HYM := Lib.hid hx
 have HYS := Lib.hid hsx
 have HNO := Lib.hid (fun (w' : World) (hf : Fuw w w') => rnode_any g an ae cn ce c.id w' (hg.on hf))
 have HED := Lib.hid (fun (w' : World) (hf : Fuw w w') => redge_any g an ae cn ce c.id w' (hg.on hf))
 have HCE := Lib.hid hc
 rw [← hV] at HNO
 rw [← hY] at HED
 unfold RetN grv ndv at HNO
 unfold RetE grv edv at HED
 rw [← hm, ← hs] at HNO
 rw [← hx, ← hsx] at HED
 rw [hc] at HCK
 have HOP := Lib.hid hop
 obtain ⟨g0, g1, g2, g3⟩ := HG.out.g4
 obtain ⟨d0, d1, d2, d3, d4, d5, d6, d7, d8, d9⟩ := HC.out.ch
 rw [HOP.out] at d0
 unfold chC at hW HCK
 rw [hop] at HCK
 unfold grv
 unfold chC
 clear fW hg hi hf hop hc hV hm hs hY hx hsx
 go_enter Tryz.func21, Tryz.ntmps21
 go_upto_region 1 with fail
 rw [← hW]
 clear hW
 go_wp2_with fail
 go_at_call 10; refine HCK.out.mono ?_; rintro e1 w1 ⟨rfl, f1⟩
 have HF1 := Lib.hid (HFW.out.trans f1)
 have HG1 := Lib.hid (HG.out.on f1)
 have HC1 := Lib.hid (HC.out.on f1)
 have HZ1 := Lib.hid (HZ.out.on f1)
 have HS1 := Lib.hid (show W.heap.size ≤ w1.heap.size from f1.size)
 clear HCK f1 HG HC HZ
 clear g0 g1 g2 g3 d0 d1 d2 d3 d4 d5 d6 d7 d8 d9
 obtain ⟨g0, g1, g2, g3⟩ := HG1.out.g4
 obtain ⟨d0, d1, d2, d3, d4, d5, d6, d7, d8, d9⟩ := HC1.out.ch
 rw [HOP.out] at d0
 go_wp2_with fail
 go_at_call 50; refine (HNO.out _ HF1.out).mono ?_; rintro e2 w2 ⟨al, ap, kl, kp, rfl, hn2, f2⟩
 obtain ⟨X, hX⟩ : ∃ X, X = w2.alloc (.cells #[.int .i64 m.id, .slice al m.ls.length kl, .slice ap m.ps.length kp] 51) := ⟨_, rfl⟩
 have fX : Fuw w2 X := by rw [hX]; exact fuwA _ _
 have HFX := Lib.hid ((HF1.out.trans f2).trans fX)
 have HGX := Lib.hid ((HG1.out.on f2).on fX)
 have HCX := Lib.hid ((HC1.out.on f2).on fX)
 have HZX := Lib.hid ((HZ1.out.on f2).on fX)
 have HNX := Lib.hid (show Bk X w2.heap.size #[.int .i64 m.id, .slice al m.ls.length kl, .slice ap m.ps.length kp] 51 from by rw [hX]; exact Bk.new _ _ _)
 have HIX := Lib.hid (show NdIn X m al ap kl kp from hn2.on fX)
 have HSX := Lib.hid (show W.heap.size ≤ w2.heap.size from Nat.le_trans HS1.out f2.size)
 clear g0 g1 g2 g3 d0 d1 d2 d3 d4 d5 d6 d7 d8 d9
 clear hn2 f2 fX HG1 HC1 HZ1 HF1 HS1 HNO
 go_upto_region 5 with fail
 rw [← hX]
 clear hX
 generalize w2.heap.size = b2 at *
 obtain ⟨g0, g1, g2, g3⟩ := HGX.out.g4
 obtain ⟨d0, d1, d2, d3, d4, d5, d6, d7, d8, d9⟩ := HCX.out.ch
 rw [HOP.out] at d0
 go_wp2_with fail
 go_at_call 51; refine (HED.out _ HFX.out).mono ?_; rintro e3 w3 ⟨bp, lp, rfl, hn3, f3⟩
 obtain ⟨V3, hV3⟩ : ∃ V3, V3 = w3.alloc (.cells #[.int .i64 x.id, .int .i64 x.fr, .int .i64 x.to, .string (bs x.ty), .slice bp x.ps.length lp] 53) := ⟨_, rfl⟩
 have fV : Fuw w3 V3 := by rw [hV3]; exact fuwA _ _
 have HF3 := Lib.hid ((HFX.out.trans f3).trans fV)
 have HG3 := Lib.hid ((HGX.out.on f3).on fV)
 have HC3 := Lib.hid ((HCX.out.on f3).on fV)
 have HZ3 := Lib.hid ((HZX.out.on f3).on fV)
 have HN3 := Lib.hid ((HNX.out.on f3).on fV)
 have HE3 := Lib.hid (show Bk V3 w3.heap.size #[.int .i64 x.id, .int .i64 x.fr, .int .i64 x.to, .string (bs x.ty), .slice bp x.ps.length lp] 53 from by rw [hV3]; exact Bk.new _ _ _)
 have HI3 := Lib.hid ((HIX.out.on f3).on fV)
 have HJ3 := Lib.hid (show EdIn V3 x bp lp from hn3.on fV)
 clear g0 g1 g2 g3 d0 d1 d2 d3 d4 d5 d6 d7 d8 d9
 clear hn3 f3 fV HGX HCX HZX HFX HNX HIX HED
 go_upto_region 6 with fail
 rw [← hV3]
 clear hV3
 generalize w3.heap.size = b3 at *
 obtain ⟨g0, g1, g2, g3⟩ := HG3.out.g4
 obtain ⟨d0, d1, d2, d3, d4, d5, d6, d7, d8, d9⟩ := HC3.out.ch
 rw [HOP.out] at d0
 have HHN := Lib.hid (show s = hasN g.ns c.id from by rw [HVS.out, HVV.out]; exact nod_some _ _)
 cases s with
 | true =>
  obtain ⟨z0, z1, z2, z3⟩ := HZ3.out.g4
  obtain ⟨y0, y1, y2, y3⟩ := HZ3.out.f4
  go_wp2
  refine g_ret2 rfl rfl rfl ((((HZ3.out.set_ 0 _).set_ 1 _).set_ 2 _).set_ 3 _) ?_
  have hb1 : w.heap.size ≤ w.heap.size + 1 + 1 := by omega
  have hE : stpE g c = 7 := by rw [stpE_1 HCE.out HOP.out, ← HHN.out]; rfl
  have hT : stpT g c = zerG := stpT_no (by rw [hE]; decide)
  exact ⟨none, none, 0, 0, by rw [hE, hT]; rfl, by rw [hT]; exact zerG_in _, fuwS (fuwS (fuwS (fuwS HF3.out hb1) hb1) hb1) hb1⟩
 | false =>
  by_cases h2 : 2000 ≤ g.ns.length
  ·have h2' : (2000 : Int) ≤ (g.ns.length : Int) := by omega
   obtain ⟨z0, z1, z2, z3⟩ := HZ3.out.g4
   obtain ⟨y0, y1, y2, y3⟩ := HZ3.out.f4
   go_wp2
   refine g_ret2 rfl rfl rfl ((((HZ3.out.set_ 0 _).set_ 1 _).set_ 2 _).set_ 3 _) ?_
   have hb1 : w.heap.size ≤ w.heap.size + 1 + 1 := by omega
   have hE : stpE g c = 20 := by rw [stpE_1 HCE.out HOP.out, ← HHN.out, if_neg (by decide), if_pos h2]
   have hT : stpT g c = zerG := stpT_no (by rw [hE]; decide)
   exact ⟨none, none, 0, 0, by rw [hE, hT]; rfl, by rw [hT]; exact zerG_in _, fuwS (fuwS (fuwS (fuwS HF3.out hb1) hb1) hb1) hb1⟩
  ·have h2' : ¬ (2000 : Int) ≤ (g.ns.length : Int) := by omega
   have hr := ref1 HCE.out HFI.out HOP.out HHN.out.symm h2
   have HR := Lib.hid hr
   have hid := chk_id HCE.out
   have HPN := Lib.hid (rputn_any g an ae cn ce ⟨c.id, [], []⟩ none none 0 0 V3 (HGI.out.on HF3.out) ⟨by simp only; omega, by simp only; omega⟩ (Sl.empty _) (Sl.empty _) (by have := HFI.out.n; omega))
   obtain ⟨U, hU⟩ : ∃ U, U = putA Nd.id (⟨c.id, [], []⟩ : Nd) false g.ns := ⟨_, rfl⟩
   rw [← hU] at HPN HR
   have HIM := Lib.hid (show I64 (max g.nn (c.id + 1)) from by have := HFI.out.nn; exact ⟨by omega, by omega⟩)
   unfold grv ndv at HPN
   simp only [List.length_nil] at HPN
   clear hr hid hU
   go_wp2_with fail
   go_at_call 52; refine HPN.out.mono ?_; rintro e4 w4 ⟨a', c', rfl, hs4, f4⟩
   have HF4 := Lib.hid (HF3.out.trans f4)
   have HZ4 := Lib.hid (HZ3.out.on f4)
   have HS4 := Lib.hid hs4
   clear hs4 f4 g0 g1 g2 g3 d0 d1 d2 d3 d4 d5 d6 d7 d8 d9
   obtain ⟨z0, z1, z2, z3⟩ := HZ4.out.g4
   obtain ⟨y0, y1, y2, y3⟩ := HZ4.out.f4
   go_wp2
   refine g_ret2 rfl rfl rfl ((((HZ4.out.set_ 0 _).set_ 1 _).set_ 2 _).set_ 3 _) ?_
   rw [← HR.out.1, ← HR.out.2]
   exact retSt_box HZ4.out (T := { g with ns := U, nn := max g.nn (c.id + 1) }) ⟨HS4.out, (HGI.out.on HF4.out).e, HIM.out, HGI.out.i2⟩ (by rw [HR.out.2]; exact HFL.out) HF4.out (by omega) rfl
end Go.Proofs.YtpamdlkagmlahaaGreatDoor

namespace Go.Proofs.YtpamdlkagmlahaaGreatDoor
open Go.RowKit
theorem rstep_n (g : Gr) (an ae : Option Addr) (cn ce : Nat) (c : Ch) (a : Option Addr) (k : Nat) (w : World) (hg : GIn w g an ae cn ce) (hf : Fine g) (hi : ChIn w c a k) (ho : c.op = 2 ∨ c.op = 3 ∨ c.op = 4 ∨ c.op = 5) (hc : chkC c = 0) :
  Calls Tryz.prog 21 #[grv g an ae cn ce, .agg (chC c a k)] w (RetSt w (stpE g c) (stpT g c)) := by
 obtain ⟨W, hW⟩ : ∃ W, W = ((w.alloc (.cells #[.slice an g.ns.length cn, .slice ae g.es.length ce, .int .i64 g.nn, .int .i64 g.ne] 25)).alloc (.cells (chC c a k) 30)).alloc (.cells #[.slice none 0 0, .slice none 0 0, .int .i64 0, .int .i64 0] 25) := ⟨_, rfl⟩
 have fW : Fuw w W := by rw [hW]; exact ((fuwA _ _).trans (fuwA _ _)).trans (fuwA _ _)
 have HG := Lib.hid (show Bk W w.heap.size #[.slice an g.ns.length cn, .slice ae g.es.length ce, .int .i64 g.nn, .int .i64 g.ne] 25 from by rw [hW]; exact (Bk.new w _ _).on ((fuwA _ _).trans (fuwA _ _)))
 have HC := Lib.hid (show Bk W (w.heap.size + 1) (chC c a k) 30 from by
  rw [hW]
  have := Bk.new (w.alloc (.cells #[.slice an g.ns.length cn, .slice ae g.es.length ce, .int .i64 g.nn, .int .i64 g.ne] 25)) (chC c a k) 30
  exact Bk.on (by simpa using this) (fuwA _ _))
 have HZ := Lib.hid (show Bk W (w.heap.size + 1 + 1) #[.slice none 0 0, .slice none 0 0, .int .i64 0, .int .i64 0] 25 from by
  rw [hW]
  have := Bk.new ((w.alloc (.cells #[.slice an g.ns.length cn, .slice ae g.es.length ce, .int .i64 g.nn, .int .i64 g.ne] 25)).alloc (.cells (chC c a k) 30)) #[.slice none 0 0, .slice none 0 0, .int .i64 0, .int .i64 0] 25
  simpa using this)
 have HWS := Lib.hid (show W.heap.size = w.heap.size + 3 from by rw [hW]; simp)
 have HFW := Lib.hid fW
 have HGI := Lib.hid hg
 have HFI := Lib.hid hf
 have HCI := Lib.hid hi
 have HFL := Lib.hid (stpT_flat (c := c) hf)
 have HCK := Lib.hid (rchk8_any c a k W (hi.on fW))
 obtain ⟨V, hV⟩ : ∃ V, V = nodV g.ns c.id := ⟨_, rfl⟩
 have HVV := Lib.hid hV
 obtain ⟨m, hm⟩ : ∃ m, m = V.getD nilN := ⟨_, rfl⟩
 obtain ⟨s, hs⟩ : ∃ s, s = V.isSome := ⟨_, rfl⟩
 have HVM := Lib.hid hm
 have HVS := Lib.hid hs
 obtain ⟨Y, hY⟩ : ∃ Y, Y = edgV g.es c.id := ⟨_, rfl⟩
 have HYY := Lib.hid hY
 obtain ⟨x, hx⟩ : ∃ x, x = Y.getD nilE := ⟨_, rfl⟩
 obtain ⟨sx, hsx⟩ : ∃ sx, sx = Y.isSome := ⟨_, rfl⟩
 have HYM := Lib.hid hx
 have HYS := Lib.hid hsx
 have HNO := Lib.hid (fun (w' : World) (hf : Fuw w w') => rnode_any g an ae cn ce c.id w' (hg.on hf))
 have HED := Lib.hid (fun (w' : World) (hf : Fuw w w') => redge_any g an ae cn ce c.id w' (hg.on hf))
 have HCE := Lib.hid hc
 rw [← hV] at HNO
 rw [← hY] at HED
 unfold RetN grv ndv at HNO
 unfold RetE grv edv at HED
 rw [← hm, ← hs] at HNO
 rw [← hx, ← hsx] at HED
 rw [hc] at HCK
 have HO := Lib.hid ho
 obtain ⟨g0, g1, g2, g3⟩ := HG.out.g4
 obtain ⟨d0, d1, d2, d3, d4, d5, d6, d7, d8, d9⟩ := HC.out.ch
 unfold chC at hW HCK
 unfold grv
 unfold chC
 have o1 : (c.op == 1) = false := beq_eq_false_iff_ne.2 (by omega)
 have o6 : (c.op == 6) = false := beq_eq_false_iff_ne.2 (by omega)
 have o7 : (c.op == 7) = false := beq_eq_false_iff_ne.2 (by omega)
 have o8 : (c.op == 8) = false := beq_eq_false_iff_ne.2 (by omega)
 clear fW hg hi hf ho hc hV hm hs hY hx hsx
 go_enter Tryz.func21, Tryz.ntmps21
 go_upto_region 1 with fail
 rw [← hW]
 clear hW
 go_wp2_with fail
 go_at_call 10; refine HCK.out.mono ?_; rintro e1 w1 ⟨rfl, f1⟩
 have HF1 := Lib.hid (HFW.out.trans f1)
 have HG1 := Lib.hid (HG.out.on f1)
 have HC1 := Lib.hid (HC.out.on f1)
 have HZ1 := Lib.hid (HZ.out.on f1)
 have HS1 := Lib.hid (show W.heap.size ≤ w1.heap.size from f1.size)
 clear HCK f1 HG HC HZ
 clear g0 g1 g2 g3 d0 d1 d2 d3 d4 d5 d6 d7 d8 d9
 obtain ⟨g0, g1, g2, g3⟩ := HG1.out.g4
 obtain ⟨d0, d1, d2, d3, d4, d5, d6, d7, d8, d9⟩ := HC1.out.ch
 go_wp2_with fail
 go_at_call 50; refine (HNO.out _ HF1.out).mono ?_; rintro e2 w2 ⟨al, ap, kl, kp, rfl, hn2, f2⟩
 obtain ⟨X, hX⟩ : ∃ X, X = w2.alloc (.cells #[.int .i64 m.id, .slice al m.ls.length kl, .slice ap m.ps.length kp] 51) := ⟨_, rfl⟩
 have fX : Fuw w2 X := by rw [hX]; exact fuwA _ _
 have HFX := Lib.hid ((HF1.out.trans f2).trans fX)
 have HGX := Lib.hid ((HG1.out.on f2).on fX)
 have HCX := Lib.hid ((HC1.out.on f2).on fX)
 have HZX := Lib.hid ((HZ1.out.on f2).on fX)
 have HNX := Lib.hid (show Bk X w2.heap.size #[.int .i64 m.id, .slice al m.ls.length kl, .slice ap m.ps.length kp] 51 from by rw [hX]; exact Bk.new _ _ _)
 have HIX := Lib.hid (show NdIn X m al ap kl kp from hn2.on fX)
 have HSX := Lib.hid (show W.heap.size ≤ w2.heap.size from Nat.le_trans HS1.out f2.size)
 clear g0 g1 g2 g3 d0 d1 d2 d3 d4 d5 d6 d7 d8 d9
 clear hn2 f2 fX HG1 HC1 HZ1 HF1 HS1 HNO
 go_upto_region 5 with fail
 rw [← hX]
 clear hX
 generalize w2.heap.size = b2 at *
 obtain ⟨g0, g1, g2, g3⟩ := HGX.out.g4
 obtain ⟨d0, d1, d2, d3, d4, d5, d6, d7, d8, d9⟩ := HCX.out.ch
 go_wp2_with fail
 go_at_call 51; refine (HED.out _ HFX.out).mono ?_; rintro e3 w3 ⟨bp, lp, rfl, hn3, f3⟩
 obtain ⟨V3, hV3⟩ : ∃ V3, V3 = w3.alloc (.cells #[.int .i64 x.id, .int .i64 x.fr, .int .i64 x.to, .string (bs x.ty), .slice bp x.ps.length lp] 53) := ⟨_, rfl⟩
 have fV : Fuw w3 V3 := by rw [hV3]; exact fuwA _ _
 have HF3 := Lib.hid ((HFX.out.trans f3).trans fV)
 have HG3 := Lib.hid ((HGX.out.on f3).on fV)
 have HC3 := Lib.hid ((HCX.out.on f3).on fV)
 have HZ3 := Lib.hid ((HZX.out.on f3).on fV)
 have HN3 := Lib.hid ((HNX.out.on f3).on fV)
 have HE3 := Lib.hid (show Bk V3 w3.heap.size #[.int .i64 x.id, .int .i64 x.fr, .int .i64 x.to, .string (bs x.ty), .slice bp x.ps.length lp] 53 from by rw [hV3]; exact Bk.new _ _ _)
 have HI3 := Lib.hid ((HIX.out.on f3).on fV)
 have HJ3 := Lib.hid (show EdIn V3 x bp lp from hn3.on fV)
 clear g0 g1 g2 g3 d0 d1 d2 d3 d4 d5 d6 d7 d8 d9
 clear hn3 f3 fV HGX HCX HZX HFX HNX HIX HED
 go_upto_region 6 with fail
 rw [← hV3]
 clear hV3
 generalize w3.heap.size = b3 at *
 obtain ⟨g0, g1, g2, g3⟩ := HG3.out.g4
 obtain ⟨d0, d1, d2, d3, d4, d5, d6, d7, d8, d9⟩ := HC3.out.ch
 cases s with
 | false =>
  obtain ⟨z0, z1, z2, z3⟩ := HZ3.out.g4
  obtain ⟨y0, y1, y2, y3⟩ := HZ3.out.f4
  go_wp2
  refine g_ret2 rfl rfl rfl ((((HZ3.out.set_ 0 _).set_ 1 _).set_ 2 _).set_ 3 _) ?_
  have hb1 : w.heap.size ≤ w.heap.size + 1 + 1 := by omega
  have hV0 : nodV g.ns c.id = none := by
   rw [← HVV.out]
   have := HVS.out
   cases hv : V with
   | none => rfl
   | some z => rw [hv] at this; cases this
  have hE : stpE g c = 10 := stpE_n0 HCE.out HO.out hV0
  have hT : stpT g c = zerG := stpT_no (by rw [hE]; decide)
  exact ⟨none, none, 0, 0, by rw [hE, hT]; rfl, by rw [hT]; exact zerG_in _, fuwS (fuwS (fuwS (fuwS HF3.out hb1) hb1) hb1) hb1⟩
 | true =>
  have hV1 : nodV g.ns c.id = some m := by
   rw [← HVV.out]
   have := HVS.out
   have hm := HVM.out
   cases hv : V with
   | none => rw [hv] at this; cases this
   | some z => rw [hv] at hm; rw [hm]; rfl
  obtain ⟨kk, AA, hgg, hmm, hii⟩ := at_n HFI.out hV1
  have HR := Lib.hid (show Calls Tryz.prog 55 #[grv g an ae cn ce, .agg (chC c a k), ndv m al ap kl kp] V3 (RetSt V3 (stpE g c) (stpT g c)) from by
   have hg := HGI.out.on HF3.out
   have hl := HFI.out.flat
   have hi := HCI.out.on HF3.out
   have hd := HI3.out
   rcases HO.out with h | h | h | h
   ·have hr := ref2 HCE.out HFI.out h hV1
    rw [← hr.1, ← hr.2]
    exact ronn_del g an ae cn ce c a k m al ap kl kp V3 hg hl hi hd h (by have := HFI.out.e; omega) (by have := HFI.out.n; omega)
   ·have hr := ref3 HCE.out HFI.out h hV1
    rw [← hr.1, ← hr.2]
    exact ronn_lab g an ae cn ce c a k m al ap kl kp V3 hg hl hi hd h (by have := (HFI.out.nf m hmm).lo; have := (HFI.out.nf m hmm).hi; have := HFI.out.nn; omega) (by have := HFI.out.nn; omega) (by have := HFI.out.n; omega) (HFI.out.flat.n m hmm) (by have := (HFI.out.nf m hmm).p.l8; omega)
   ·have hr := ref4 HCE.out HFI.out h hV1
    rw [← hr.1, ← hr.2]
    exact ronn_unl g an ae cn ce c a k m al ap kl kp V3 hg hl hi hd h (by have := (HFI.out.nf m hmm).lo; have := (HFI.out.nf m hmm).hi; have := HFI.out.nn; omega) (by have := HFI.out.nn; omega) (by have := HFI.out.n; omega) (HFI.out.flat.n m hmm) (by have := (HFI.out.nf m hmm).p.l8; omega)
   ·have hr := ref5 HCE.out HFI.out h hV1
    rw [← hr.1, ← hr.2]
    exact ronn_set g an ae cn ce c a k m al ap kl kp V3 hg hl hi hd h (by have := (HFI.out.nf m hmm).lo; have := (HFI.out.nf m hmm).hi; have := HFI.out.nn; omega) (by have := HFI.out.nn; omega) (by have := HFI.out.n; omega) (HFI.out.flat.n m hmm) (by have := (HFI.out.nf m hmm).p.p16; omega) (chk_flat HCE.out))
  unfold RetSt grv ndv chC at HR
  clear hV1 AA hgg hmm hii
  have n0 := HN3.out.c 0; have n1 := HN3.out.c 1; have n2 := HN3.out.c 2
  go_wp2_with fail
  go_at_call 55; refine HR.out.mono ?_; rintro e4 w4 ⟨xn, xe, yn, ye, rfl, hg4, f4⟩
  have HF4 := Lib.hid (HF3.out.trans f4)
  have HZ4 := Lib.hid (HZ3.out.on f4)
  have HG4 := Lib.hid hg4
  clear hg4 f4 n0 n1 n2 g0 g1 g2 g3 d0 d1 d2 d3 d4 d5 d6 d7 d8 d9
  generalize stpT g c = T at *
  generalize stpE g c = R at *
  obtain ⟨z0, z1, z2, z3⟩ := HZ4.out.g4
  obtain ⟨y0, y1, y2, y3⟩ := HZ4.out.f4
  go_wp2
  refine g_ret2 rfl rfl rfl ((((HZ4.out.set_ 0 _).set_ 1 _).set_ 2 _).set_ 3 _) ?_
  exact retSt_box HZ4.out HG4.out HFL.out HF4.out (by omega) rfl
end Go.Proofs.YtpamdlkagmlahaaGreatDoor

namespace Go.Proofs.YtpamdlkagmlahaaGreatDoor
open Go.RowKit
theorem rstep_6 (g : Gr) (an ae : Option Addr) (cn ce : Nat) (c : Ch) (a : Option Addr) (k : Nat) (w : World) (hg : GIn w g an ae cn ce) (hf : Fine g) (hi : ChIn w c a k) (hop : c.op = 6) (hc : chkC c = 0) :
  Calls Tryz.prog 21 #[grv g an ae cn ce, .agg (chC c a k)] w (RetSt w (stpE g c) (stpT g c)) := by
 obtain ⟨W, hW⟩ : ∃ W, W = ((w.alloc (.cells #[.slice an g.ns.length cn, .slice ae g.es.length ce, .int .i64 g.nn, .int .i64 g.ne] 25)).alloc (.cells (chC c a k) 30)).alloc (.cells #[.slice none 0 0, .slice none 0 0, .int .i64 0, .int .i64 0] 25) := ⟨_, rfl⟩
 have fW : Fuw w W := by rw [hW]; exact ((fuwA _ _).trans (fuwA _ _)).trans (fuwA _ _)
 have HG := Lib.hid (show Bk W w.heap.size #[.slice an g.ns.length cn, .slice ae g.es.length ce, .int .i64 g.nn, .int .i64 g.ne] 25 from by rw [hW]; exact (Bk.new w _ _).on ((fuwA _ _).trans (fuwA _ _)))
 have HC := Lib.hid (show Bk W (w.heap.size + 1) (chC c a k) 30 from by
  rw [hW]
  have := Bk.new (w.alloc (.cells #[.slice an g.ns.length cn, .slice ae g.es.length ce, .int .i64 g.nn, .int .i64 g.ne] 25)) (chC c a k) 30
  exact Bk.on (by simpa using this) (fuwA _ _))
 have HZ := Lib.hid (show Bk W (w.heap.size + 1 + 1) #[.slice none 0 0, .slice none 0 0, .int .i64 0, .int .i64 0] 25 from by
  rw [hW]
  have := Bk.new ((w.alloc (.cells #[.slice an g.ns.length cn, .slice ae g.es.length ce, .int .i64 g.nn, .int .i64 g.ne] 25)).alloc (.cells (chC c a k) 30)) #[.slice none 0 0, .slice none 0 0, .int .i64 0, .int .i64 0] 25
  simpa using this)
 have HWS := Lib.hid (show W.heap.size = w.heap.size + 3 from by rw [hW]; simp)
 have HFW := Lib.hid fW
 have HGI := Lib.hid hg
 have HFI := Lib.hid hf
 have HCI := Lib.hid hi
 have HFL := Lib.hid (stpT_flat (c := c) hf)
 have HCK := Lib.hid (rchk8_any c a k W (hi.on fW))
 obtain ⟨V, hV⟩ : ∃ V, V = nodV g.ns c.id := ⟨_, rfl⟩
 have HVV := Lib.hid hV
 obtain ⟨m, hm⟩ : ∃ m, m = V.getD nilN := ⟨_, rfl⟩
 obtain ⟨s, hs⟩ : ∃ s, s = V.isSome := ⟨_, rfl⟩
 have HVM := Lib.hid hm
 have HVS := Lib.hid hs
 obtain ⟨Y, hY⟩ : ∃ Y, Y = edgV g.es c.id := ⟨_, rfl⟩
 have HYY := Lib.hid hY
 obtain ⟨x, hx⟩ : ∃ x, x = Y.getD nilE := ⟨_, rfl⟩
 obtain ⟨sx, hsx⟩ : ∃ sx, sx = Y.isSome := ⟨_, rfl⟩
 have HYM := Lib.hid hx
 have HYS := Lib.hid hsx
 have HNO := Lib.hid (fun (w' : World) (hf : Fuw w w') => rnode_any g an ae cn ce c.id w' (hg.on hf))
 have HED := Lib.hid (fun (w' : World) (hf : Fuw w w') => redge_any g an ae cn ce c.id w' (hg.on hf))
 have HCE := Lib.hid hc
 rw [← hV] at HNO
 rw [← hY] at HED
 unfold RetN grv ndv at HNO
 unfold RetE grv edv at HED
 rw [← hm, ← hs] at HNO
 rw [← hx, ← hsx] at HED
 rw [hc] at HCK
 obtain ⟨VF, hVF⟩ : ∃ VF, VF = nodV g.ns c.fr := ⟨_, rfl⟩
 obtain ⟨mF, hmF⟩ : ∃ m, m = VF.getD nilN := ⟨_, rfl⟩
 obtain ⟨sF, hsF⟩ : ∃ s, s = VF.isSome := ⟨_, rfl⟩
 have HHF := Lib.hid (show sF = hasN g.ns c.fr from by rw [hsF, hVF]; exact nod_some _ _)
 have HNF := Lib.hid (fun (w' : World) (hf : Fuw w w') => rnode_any g an ae cn ce c.fr w' (hg.on hf))
 rw [← hVF] at HNF
 unfold RetN grv ndv at HNF
 rw [← hmF, ← hsF] at HNF
 obtain ⟨VT, hVT⟩ : ∃ VT, VT = nodV g.ns c.tt := ⟨_, rfl⟩
 obtain ⟨mT, hmT⟩ : ∃ m, m = VT.getD nilN := ⟨_, rfl⟩
 obtain ⟨sT, hsT⟩ : ∃ s, s = VT.isSome := ⟨_, rfl⟩
 have HHT := Lib.hid (show sT = hasN g.ns c.tt from by rw [hsT, hVT]; exact nod_some _ _)
 have HNT := Lib.hid (fun (w' : World) (hf : Fuw w w') => rnode_any g an ae cn ce c.tt w' (hg.on hf))
 rw [← hVT] at HNT
 unfold RetN grv ndv at HNT
 rw [← hmT, ← hsT] at HNT
 have HOP := Lib.hid hop
 obtain ⟨g0, g1, g2, g3⟩ := HG.out.g4
 obtain ⟨d0, d1, d2, d3, d4, d5, d6, d7, d8, d9⟩ := HC.out.ch
 rw [HOP.out] at d0
 unfold chC at hW HCK
 rw [hop] at HCK
 unfold grv
 unfold chC
 clear fW hg hi hf hop hc hV hm hs hY hx hsx hVF hmF hsF hVT hmT hsT
 go_enter Tryz.func21, Tryz.ntmps21
 go_upto_region 1 with fail
 rw [← hW]
 clear hW
 go_wp2_with fail
 go_at_call 10; refine HCK.out.mono ?_; rintro e1 w1 ⟨rfl, f1⟩
 have HF1 := Lib.hid (HFW.out.trans f1)
 have HG1 := Lib.hid (HG.out.on f1)
 have HC1 := Lib.hid (HC.out.on f1)
 have HZ1 := Lib.hid (HZ.out.on f1)
 have HS1 := Lib.hid (show W.heap.size ≤ w1.heap.size from f1.size)
 clear HCK f1 HG HC HZ
 clear g0 g1 g2 g3 d0 d1 d2 d3 d4 d5 d6 d7 d8 d9
 obtain ⟨g0, g1, g2, g3⟩ := HG1.out.g4
 obtain ⟨d0, d1, d2, d3, d4, d5, d6, d7, d8, d9⟩ := HC1.out.ch
 rw [HOP.out] at d0
 go_wp2_with fail
 go_at_call 50; refine (HNO.out _ HF1.out).mono ?_; rintro e2 w2 ⟨al, ap, kl, kp, rfl, hn2, f2⟩
 obtain ⟨X, hX⟩ : ∃ X, X = w2.alloc (.cells #[.int .i64 m.id, .slice al m.ls.length kl, .slice ap m.ps.length kp] 51) := ⟨_, rfl⟩
 have fX : Fuw w2 X := by rw [hX]; exact fuwA _ _
 have HFX := Lib.hid ((HF1.out.trans f2).trans fX)
 have HGX := Lib.hid ((HG1.out.on f2).on fX)
 have HCX := Lib.hid ((HC1.out.on f2).on fX)
 have HZX := Lib.hid ((HZ1.out.on f2).on fX)
 have HNX := Lib.hid (show Bk X w2.heap.size #[.int .i64 m.id, .slice al m.ls.length kl, .slice ap m.ps.length kp] 51 from by rw [hX]; exact Bk.new _ _ _)
 have HIX := Lib.hid (show NdIn X m al ap kl kp from hn2.on fX)
 have HSX := Lib.hid (show W.heap.size ≤ w2.heap.size from Nat.le_trans HS1.out f2.size)
 clear g0 g1 g2 g3 d0 d1 d2 d3 d4 d5 d6 d7 d8 d9
 clear hn2 f2 fX HG1 HC1 HZ1 HF1 HS1 HNO
 go_upto_region 5 with fail
 rw [← hX]
 clear hX
 generalize w2.heap.size = b2 at *
 obtain ⟨g0, g1, g2, g3⟩ := HGX.out.g4
 obtain ⟨d0, d1, d2, d3, d4, d5, d6, d7, d8, d9⟩ := HCX.out.ch
 rw [HOP.out] at d0
 go_wp2_with fail
 go_at_call 51; refine (HED.out _ HFX.out).mono ?_; rintro e3 w3 ⟨bp, lp, rfl, hn3, f3⟩
 obtain ⟨V3, hV3⟩ : ∃ V3, V3 = w3.alloc (.cells #[.int .i64 x.id, .int .i64 x.fr, .int .i64 x.to, .string (bs x.ty), .slice bp x.ps.length lp] 53) := ⟨_, rfl⟩
 have fV : Fuw w3 V3 := by rw [hV3]; exact fuwA _ _
 have HF3 := Lib.hid ((HFX.out.trans f3).trans fV)
 have HG3 := Lib.hid ((HGX.out.on f3).on fV)
 have HC3 := Lib.hid ((HCX.out.on f3).on fV)
 have HZ3 := Lib.hid ((HZX.out.on f3).on fV)
 have HN3 := Lib.hid ((HNX.out.on f3).on fV)
 have HE3 := Lib.hid (show Bk V3 w3.heap.size #[.int .i64 x.id, .int .i64 x.fr, .int .i64 x.to, .string (bs x.ty), .slice bp x.ps.length lp] 53 from by rw [hV3]; exact Bk.new _ _ _)
 have HI3 := Lib.hid ((HIX.out.on f3).on fV)
 have HJ3 := Lib.hid (show EdIn V3 x bp lp from hn3.on fV)
 clear g0 g1 g2 g3 d0 d1 d2 d3 d4 d5 d6 d7 d8 d9
 clear hn3 f3 fV HGX HCX HZX HFX HNX HIX HED
 go_upto_region 6 with fail
 rw [← hV3]
 clear hV3
 generalize w3.heap.size = b3 at *
 obtain ⟨g0, g1, g2, g3⟩ := HG3.out.g4
 obtain ⟨d0, d1, d2, d3, d4, d5, d6, d7, d8, d9⟩ := HC3.out.ch
 rw [HOP.out] at d0
 have HHE := Lib.hid (show sx = hasE g.es c.id from by rw [HYS.out, HYY.out]; exact edg_some _ _)
 go_wp2_with fail
 go_at_call 50; refine (HNF.out _ HF3.out).mono ?_; rintro e4 w4 ⟨al4, ap4, kl4, kp4, rfl, -, f4⟩
 obtain ⟨X4, hX4⟩ : ∃ X, X = w4.alloc (.cells #[.int .i64 mF.id, .slice al4 mF.ls.length kl4, .slice ap4 mF.ps.length kp4] 51) := ⟨_, rfl⟩
 have fX : Fuw w4 X4 := by rw [hX4]; exact fuwA _ _
 have HF4 := Lib.hid ((HF3.out.trans f4).trans fX)
 have HG4 := Lib.hid ((HG3.out.on f4).on fX)
 have HC4 := Lib.hid ((HC3.out.on f4).on fX)
 have HZ4 := Lib.hid ((HZ3.out.on f4).on fX)
 clear g0 g1 g2 g3 d0 d1 d2 d3 d4 d5 d6 d7 d8 d9
 clear f4 fX HG3 HC3 HZ3 HF3 HNF
 go_upto_region 15 with fail
 rw [← hX4]
 clear hX4
 obtain ⟨g0, g1, g2, g3⟩ := HG4.out.g4
 obtain ⟨d0, d1, d2, d3, d4, d5, d6, d7, d8, d9⟩ := HC4.out.ch
 rw [HOP.out] at d0
 go_wp2_with fail
 go_at_call 50; refine (HNT.out _ HF4.out).mono ?_; rintro e5 w5 ⟨al5, ap5, kl5, kp5, rfl, -, f5⟩
 obtain ⟨X5, hX5⟩ : ∃ X, X = w5.alloc (.cells #[.int .i64 mT.id, .slice al5 mT.ls.length kl5, .slice ap5 mT.ps.length kp5] 51) := ⟨_, rfl⟩
 have fX : Fuw w5 X5 := by rw [hX5]; exact fuwA _ _
 have HF5 := Lib.hid ((HF4.out.trans f5).trans fX)
 have HG5 := Lib.hid ((HG4.out.on f5).on fX)
 have HC5 := Lib.hid ((HC4.out.on f5).on fX)
 have HZ5 := Lib.hid ((HZ4.out.on f5).on fX)
 clear g0 g1 g2 g3 d0 d1 d2 d3 d4 d5 d6 d7 d8 d9
 clear f5 fX HG4 HC4 HZ4 HF4 HNT
 go_upto_region 16 with fail
 rw [← hX5]
 clear hX5
 obtain ⟨g0, g1, g2, g3⟩ := HG5.out.g4
 obtain ⟨d0, d1, d2, d3, d4, d5, d6, d7, d8, d9⟩ := HC5.out.ch
 rw [HOP.out] at d0
 cases sx with
 | true =>
  obtain ⟨z0, z1, z2, z3⟩ := HZ5.out.g4
  obtain ⟨y0, y1, y2, y3⟩ := HZ5.out.f4
  go_wp2
  refine g_ret2 rfl rfl rfl ((((HZ5.out.set_ 0 _).set_ 1 _).set_ 2 _).set_ 3 _) ?_
  have hb1 : w.heap.size ≤ w.heap.size + 1 + 1 := by omega
  have hE : stpE g c = 7 := by rw [stpE_6 HCE.out HOP.out, ← HHE.out, ← HHF.out, ← HHT.out]; rfl
  have hT : stpT g c = zerG := stpT_no (by rw [hE]; decide)
  exact ⟨none, none, 0, 0, by rw [hE, hT]; rfl, by rw [hT]; exact zerG_in _, fuwS (fuwS (fuwS (fuwS HF5.out hb1) hb1) hb1) hb1⟩
 | false =>
  cases sF with
  | false =>
   obtain ⟨z0, z1, z2, z3⟩ := HZ5.out.g4
   obtain ⟨y0, y1, y2, y3⟩ := HZ5.out.f4
   go_wp2
   refine g_ret2 rfl rfl rfl ((((HZ5.out.set_ 0 _).set_ 1 _).set_ 2 _).set_ 3 _) ?_
   have hb1 : w.heap.size ≤ w.heap.size + 1 + 1 := by omega
   have hE : stpE g c = 10 := by rw [stpE_6 HCE.out HOP.out, ← HHE.out, ← HHF.out, ← HHT.out]; rfl
   have hT : stpT g c = zerG := stpT_no (by rw [hE]; decide)
   exact ⟨none, none, 0, 0, by rw [hE, hT]; rfl, by rw [hT]; exact zerG_in _, fuwS (fuwS (fuwS (fuwS HF5.out hb1) hb1) hb1) hb1⟩
  | true =>
   cases sT with
   | false =>
    obtain ⟨z0, z1, z2, z3⟩ := HZ5.out.g4
    obtain ⟨y0, y1, y2, y3⟩ := HZ5.out.f4
    go_wp2
    refine g_ret2 rfl rfl rfl ((((HZ5.out.set_ 0 _).set_ 1 _).set_ 2 _).set_ 3 _) ?_
    have hb1 : w.heap.size ≤ w.heap.size + 1 + 1 := by omega
    have hE : stpE g c = 10 := by rw [stpE_6 HCE.out HOP.out, ← HHE.out, ← HHF.out, ← HHT.out]; rfl
    have hT : stpT g c = zerG := stpT_no (by rw [hE]; decide)
    exact ⟨none, none, 0, 0, by rw [hE, hT]; rfl, by rw [hT]; exact zerG_in _, fuwS (fuwS (fuwS (fuwS HF5.out hb1) hb1) hb1) hb1⟩
   | true =>
    by_cases h2 : 4000 ≤ g.es.length
    ·have h2' : (4000 : Int) ≤ (g.es.length : Int) := by omega
     obtain ⟨z0, z1, z2, z3⟩ := HZ5.out.g4
     obtain ⟨y0, y1, y2, y3⟩ := HZ5.out.f4
     go_wp2
     refine g_ret2 rfl rfl rfl ((((HZ5.out.set_ 0 _).set_ 1 _).set_ 2 _).set_ 3 _) ?_
     have hb1 : w.heap.size ≤ w.heap.size + 1 + 1 := by omega
     have hE : stpE g c = 20 := by rw [stpE_6 HCE.out HOP.out, ← HHE.out, ← HHF.out, ← HHT.out, if_neg (by decide), if_neg (by decide), if_pos h2]
     have hT : stpT g c = zerG := stpT_no (by rw [hE]; decide)
     exact ⟨none, none, 0, 0, by rw [hE, hT]; rfl, by rw [hT]; exact zerG_in _, fuwS (fuwS (fuwS (fuwS HF5.out hb1) hb1) hb1) hb1⟩
    ·have h2' : ¬ (4000 : Int) ≤ (g.es.length : Int) := by omega
     have hr := ref6 HCE.out HFI.out HOP.out HHE.out.symm HHF.out.symm HHT.out.symm h2
     have HR := Lib.hid hr
     have hid := chk_id HCE.out
     have HPN := Lib.hid (rpute_any g an ae cn ce ⟨c.id, c.fr, c.tt, c.nm, []⟩ none 0 X5 (HGI.out.on HF5.out) ⟨by simp only; omega, by simp only; omega⟩ ⟨HCI.out.i, HCI.out.f, HCI.out.t, HCI.out.n⟩ (Sl.empty _) (by have := HFI.out.e; omega))
     obtain ⟨U, hU⟩ : ∃ U, U = putA Ed.id (⟨c.id, c.fr, c.tt, c.nm, []⟩ : Ed) false g.es := ⟨_, rfl⟩
     rw [← hU] at HPN HR
     have HIM := Lib.hid (show I64 (max g.ne (c.id + 1)) from by have := HFI.out.ne; exact ⟨by omega, by omega⟩)
     unfold grv edv at HPN
     simp only [List.length_nil] at HPN
     clear hr hid hU
     go_wp2_with fail
     go_at_call 53; refine HPN.out.mono ?_; rintro e6 w6 ⟨a', c', rfl, hs6, f6⟩
     have HF6 := Lib.hid (HF5.out.trans f6)
     have HZ6 := Lib.hid (HZ5.out.on f6)
     have HS6 := Lib.hid hs6
     clear hs6 f6 g0 g1 g2 g3 d0 d1 d2 d3 d4 d5 d6 d7 d8 d9
     obtain ⟨z0, z1, z2, z3⟩ := HZ6.out.g4
     obtain ⟨y0, y1, y2, y3⟩ := HZ6.out.f4
     go_wp2
     refine g_ret2 rfl rfl rfl ((((HZ6.out.set_ 0 _).set_ 1 _).set_ 2 _).set_ 3 _) ?_
     rw [← HR.out.1, ← HR.out.2]
     exact retSt_box HZ6.out (T := { g with es := U, ne := max g.ne (c.id + 1) }) ⟨(HGI.out.on HF6.out).n, HS6.out, HGI.out.i1, HIM.out⟩ (by rw [HR.out.2]; exact HFL.out) HF6.out (by omega) rfl
end Go.Proofs.YtpamdlkagmlahaaGreatDoor
