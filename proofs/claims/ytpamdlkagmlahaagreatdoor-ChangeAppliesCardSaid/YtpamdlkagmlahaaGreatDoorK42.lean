/-
  RbG; RbH; TiA: texts of one kind in one file; each part says what it holds.
-/
import Derived.Test.YtpamdlkagmlahaaGreatDoorK41
import Derived.Test.YtpamdlkagmlahaaGreatDoorTxE
import Derived.Test.YtpamdlkagmlahaaGreatDoorK36

set_option maxHeartbeats 6400000
set_option maxRecDepth 100000
namespace Go.Proofs.YtpamdlkagmlahaaGreatDoor
open Go.RowKit
theorem putA_mem {α : Type} (f : α → Int) (y : α) {x : α} : ∀ {d : Bool} {l : List α}, x ∈ putA f y d l → x = y ∨ x ∈ l
 | d, [], h => by
  have h' : x ∈ (if d = true then [] else [y]) := h
  cases d with
  | true => cases h'
  | false => exact .inl (List.mem_singleton.1 h')
 | d, z :: r, h => by
  have h' : x ∈ (if d = false ∧ f y ≤ f z then [y] else []) ++ ((if f z = f y then [] else [z]) ++ putA f y (d || decide (f y ≤ f z)) r) := h
  rcases List.mem_append.1 h' with h' | h'
  ·by_cases g : d = false ∧ f y ≤ f z
   ·rw [if_pos g] at h'; exact .inl (List.mem_singleton.1 h')
   ·rw [if_neg g] at h'; cases h'
  ·rcases List.mem_append.1 h' with h' | h'
   ·by_cases g : f z = f y
    ·rw [if_pos g] at h'; cases h'
    ·rw [if_neg g, List.mem_singleton] at h'; subst h'; exact .inr (List.mem_cons_self ..)
   ·exact (putA_mem f y h').imp id (List.mem_cons_of_mem _)
theorem ronn_lab (g : Gr) (an ae : Option Addr) (cn ce : Nat) (c : Ch) (a : Option Addr) (k : Nat) (n : Nd) (al ap : Option Addr) (kl kp : Nat) (w : World) (hg : GIn w g an ae cn ce) (hfl : Flat g) (hi : ChIn w c a k) (hnd : NdIn w n al ap kl kp) (hop : c.op = 3) (hid : -1000000000000 ≤ n.id ∧ n.id ≤ 1000000000000) (hnn : -1000000000000 ≤ g.nn ∧ g.nn ≤ 1000000000000) (hns : g.ns.length ≤ 100000) (hpf : ∀ p ∈ n.ps, p.v.ll = []) (hls : n.ls.length ≤ 100000) :
  Calls Tryz.prog 55 #[grv g an ae cn ce, .agg (chC c a k), ndv n al ap kl kp] w (RetSt w (if hasS n.ls c.nm = true then 7 else if 8 ≤ n.ls.length then 20 else 0) (if hasS n.ls c.nm = true then zerG else if 8 ≤ n.ls.length then zerG else { g with ns := putA Nd.id (⟨n.id, putS n.ls c.nm, n.ps⟩ : Nd) false g.ns, nn := max g.nn (n.id + 1) })) := by
 obtain ⟨i0, hi0, hz0, hz1, hz2⟩ := info_parts infoN
 obtain ⟨W, hW⟩ : ∃ W, W = (((w.alloc (.cells #[.slice an g.ns.length cn, .slice ae g.es.length ce, .int .i64 g.nn, .int .i64 g.ne] 25)).alloc (.cells (chC c a k) 30)).alloc (.cells #[.int .i64 n.id, .slice al n.ls.length kl, .slice ap n.ps.length kp] 51)).alloc (.cells #[.slice none 0 0, .slice none 0 0, .int .i64 0, .int .i64 0] 25) := ⟨_, rfl⟩
 have fW : Fuw w W := by rw [hW]; exact (((fuwA _ _).trans (fuwA _ _)).trans (fuwA _ _)).trans (fuwA _ _)
 have HG := Lib.hid (show Bk W w.heap.size #[.slice an g.ns.length cn, .slice ae g.es.length ce, .int .i64 g.nn, .int .i64 g.ne] 25 from by rw [hW]; exact (Bk.new w _ _).on (((fuwA _ _).trans (fuwA _ _)).trans (fuwA _ _)))
 have HC := Lib.hid (show Bk W (w.heap.size + 1) (chC c a k) 30 from by
  rw [hW]
  have := Bk.new (w.alloc (.cells #[.slice an g.ns.length cn, .slice ae g.es.length ce, .int .i64 g.nn, .int .i64 g.ne] 25)) (chC c a k) 30
  exact Bk.on (by simpa using this) ((fuwA _ _).trans (fuwA _ _)))
 have HN := Lib.hid (show Bk W (w.heap.size + 1 + 1) #[.int .i64 n.id, .slice al n.ls.length kl, .slice ap n.ps.length kp] 51 from by
  rw [hW]
  have := Bk.new ((w.alloc (.cells #[.slice an g.ns.length cn, .slice ae g.es.length ce, .int .i64 g.nn, .int .i64 g.ne] 25)).alloc (.cells (chC c a k) 30)) #[.int .i64 n.id, .slice al n.ls.length kl, .slice ap n.ps.length kp] 51
  exact Bk.on (by simpa using this) (fuwA _ _))
 have HZ := Lib.hid (show Bk W (w.heap.size + 1 + 1 + 1) #[.slice none 0 0, .slice none 0 0, .int .i64 0, .int .i64 0] 25 from by
  rw [hW]
  have := Bk.new (((w.alloc (.cells #[.slice an g.ns.length cn, .slice ae g.es.length ce, .int .i64 g.nn, .int .i64 g.ne] 25)).alloc (.cells (chC c a k) 30)).alloc (.cells #[.int .i64 n.id, .slice al n.ls.length kl, .slice ap n.ps.length kp] 51)) #[.slice none 0 0, .slice none 0 0, .int .i64 0, .int .i64 0] 25
  simpa using this)
 have HWS := Lib.hid (show W.heap.size = w.heap.size + 4 from by rw [hW]; simp)
 have HHL := Lib.hid (fun (w' : World) (hf : Fuw w w') => rhasl_any n al ap kl kp c.nm w' (slS_on hf hnd.2.1))
 have HFW := Lib.hid fW
 have HGI := Lib.hid hg
 have HND := Lib.hid hnd
 have HCI := Lib.hid hi
 have HFL := Lib.hid hfl
 obtain ⟨EE, hEE⟩ : ∃ EE : Int, EE = (if hasS n.ls c.nm = true then 7 else if 8 ≤ n.ls.length then 20 else 0) := ⟨_, rfl⟩
 obtain ⟨TT, hTT⟩ : ∃ TT : Gr, TT = (if hasS n.ls c.nm = true then zerG else if 8 ≤ n.ls.length then zerG else { g with ns := putA Nd.id (⟨n.id, putS n.ls c.nm, n.ps⟩ : Nd) false g.ns, nn := max g.nn (n.id + 1) }) := ⟨_, rfl⟩
 rw [← hEE, ← hTT]
 have HEE := Lib.hid hEE
 have HTT := Lib.hid hTT
 clear hEE hTT
 have HID := Lib.hid hid
 have HNS := Lib.hid hns
 have HIM := Lib.hid (show I64 (max g.nn (n.id + 1)) from ⟨by omega, by omega⟩)
 have HPF := Lib.hid hpf
 have HPS := Lib.hid (fun (w' : World) (hf : Fuw w w') => rput_any n.ls al kl c.nm w' (slS_on hf hnd.2.1) (by omega) hi.n)
 have HYF := Lib.hid hpf
 have hll := hnd.2.1.len
 obtain ⟨g0, g1, g2, g3⟩ := HG.out.g4
 have d0 := HC.out.c 0; have d1 := HC.out.c 1; have d4 := HC.out.c 4
 have n0 := HN.out.c 0; have n1 := HN.out.c 1; have n2 := HN.out.c 2
 unfold chC at hW d0 d1 d4
 unfold grv ndv at *
 unfold chC
 rw [hop] at d0
 generalize hasS n.ls c.nm = hs at *
 have HOP := Lib.hid hop
 clear fW hg hi hnd hfl hop hid hnn hns hpf hls
 go_enter Tryz.func55, Tryz.ntmps55
 go_upto_region 1 with fail
 rw [← hW]
 clear hW
 go_wp2_with fail
 go_at_call 92; refine (HHL.out _ HFW.out).mono ?_; rintro e1 w1 ⟨rfl, f1⟩
 have HF1 := Lib.hid (HFW.out.trans f1)
 have HG1 := Lib.hid (HG.out.on f1)
 have HC1 := Lib.hid (HC.out.on f1)
 have HN1 := Lib.hid (HN.out.on f1)
 have HZ1 := Lib.hid (HZ.out.on f1)
 have HS1 := Lib.hid (show W.heap.size ≤ w1.heap.size from f1.size)
 clear HHL f1 g0 g1 g2 g3 d0 d1 d4 n0 n1 n2 HG HC HN HZ
 obtain ⟨g0, g1, g2, g3⟩ := HG1.out.g4
 obtain ⟨d0, d1, d2, d3, d4, d5, d6, d7, d8, d9⟩ := HC1.out.ch
 rw [HOP.out] at d0
 have n0 := HN1.out.c 0; have n1 := HN1.out.c 1; have n2 := HN1.out.c 2
 cases hs with
 | true =>
  obtain ⟨z0, z1, z2, z3⟩ := HZ1.out.g4
  obtain ⟨y0, y1, y2, y3⟩ := HZ1.out.f4
  go_wp2
  refine g_ret2 rfl rfl rfl ((((HZ1.out.set_ 0 _).set_ 1 _).set_ 2 _).set_ 3 _) ?_
  have hb1 : w.heap.size ≤ w.heap.size + 1 + 1 + 1 := by omega
  have hE : EE = 7 := by rw [HEE.out]; rfl
  have hT : TT = zerG := by rw [HTT.out]; rfl
  exact ⟨none, none, 0, 0, by rw [hE, hT]; rfl, by rw [hT]; exact zerG_in _, fuwS (fuwS (fuwS (fuwS HF1.out hb1) hb1) hb1) hb1⟩
 | false =>
  by_cases h8 : 8 ≤ n.ls.length
  ·have h8' : (8 : Int) ≤ (n.ls.length : Int) := by omega
   obtain ⟨z0, z1, z2, z3⟩ := HZ1.out.g4
   obtain ⟨y0, y1, y2, y3⟩ := HZ1.out.f4
   go_wp2
   refine g_ret2 rfl rfl rfl ((((HZ1.out.set_ 0 _).set_ 1 _).set_ 2 _).set_ 3 _) ?_
   have hb1 : w.heap.size ≤ w.heap.size + 1 + 1 + 1 := by omega
   have hE : EE = 20 := by rw [HEE.out, if_neg (by decide), if_pos h8]
   have hT : TT = zerG := by rw [HTT.out, if_neg (by decide), if_pos h8]
   exact ⟨none, none, 0, 0, by rw [hE, hT]; rfl, by rw [hT]; exact zerG_in _, fuwS (fuwS (fuwS (fuwS HF1.out hb1) hb1) hb1) hb1⟩
  ·have HET := Lib.hid (show EE = 0 ∧ TT = { g with ns := putA Nd.id (⟨n.id, putS n.ls c.nm, n.ps⟩ : Nd) false g.ns, nn := max g.nn (n.id + 1) } from ⟨by rw [HEE.out, if_neg (by decide), if_neg h8], by rw [HTT.out, if_neg (by decide), if_neg h8]⟩)
   have h8' : ¬ (8 : Int) ≤ (n.ls.length : Int) := by omega
   go_wp2_with fail
   go_at_call 94; refine (HPS.out _ HF1.out).mono ?_; rintro e2 w2 ⟨a1, c1, rfl, hs1, f2⟩
   have HF2 := Lib.hid (HF1.out.trans f2)
   have HG2 := Lib.hid (HG1.out.on f2)
   have HC2 := Lib.hid (HC1.out.on f2)
   have HN2 := Lib.hid (HN1.out.on f2)
   have HZ2 := Lib.hid (HZ1.out.on f2)
   have HS2 := Lib.hid (show W.heap.size ≤ w2.heap.size from Nat.le_trans HS1.out f2.size)
   clear g0 g1 g2 g3 d0 d1 d2 d3 d4 d5 d6 d7 d8 d9 n0 n1 n2
   clear f2 h8 h8' HG1 HC1 HN1 HZ1 HF1 HS1
   obtain ⟨g0, g1, g2, g3⟩ := HG2.out.g4
   obtain ⟨d0, d1, d2, d3, d4, d5, d6, d7, d8, d9⟩ := HC2.out.ch
   rw [HOP.out] at d0
   have n0 := HN2.out.c 0; have n1 := HN2.out.c 1; have n2 := HN2.out.c 2
   obtain ⟨L, hL⟩ : ∃ L, L = putS n.ls c.nm := ⟨_, rfl⟩
   have HLL := Lib.hid hL
   rw [← hL] at hs1 ⊢
   clear hL HPS
   obtain ⟨X, hX⟩ : ∃ X, X = w2.setCell ⟨w.heap.size + 1 + 1, 1, none⟩ (.slice a1 L.length c1) := ⟨_, rfl⟩
   have nf := HN2.out.f 1
   go_upto_region 20 with fail
   rw [← hX]
   clear nf
   clear g0 g1 g2 g3 d0 d1 d2 d3 d4 d5 d6 d7 d8 d9 n0 n1 n2
   have hws := HWS.out
   have hs2 := HS2.out
   have fux : Fux (w.heap.size + 1 + 1) w2 X := by rw [hX]; exact (Fux.of (Fuw.refl w2)).set 1 _
   have fX : Fuw w X := Fux.via HF2.out fux (by omega)
   have hsX := slS_fux HN2.out fux (nod_noS _ _ _ _ _ _ _) hs1
   have HNX := Lib.hid (show Bk X (w.heap.size + 1 + 1) #[.int .i64 n.id, .slice a1 L.length c1, .slice ap n.ps.length kp] 51 from by rw [hX]; exact HN2.out.set_ 1 _)
   have HGX := Lib.hid (show Bk X w.heap.size #[.slice an g.ns.length cn, .slice ae g.es.length ce, .int .i64 g.nn, .int .i64 g.ne] 25 from by rw [hX]; exact HG2.out.far (by show w.heap.size ≠ w.heap.size + 1 + 1; omega) _)
   have HCX := Lib.hid (show Bk X (w.heap.size + 1) (chC c a k) 30 from by rw [hX]; exact HC2.out.far (by show w.heap.size + 1 ≠ w.heap.size + 1 + 1; omega) _)
   have HZX := Lib.hid (show Bk X (w.heap.size + 1 + 1 + 1) #[.slice none 0 0, .slice none 0 0, .int .i64 0, .int .i64 0] 25 from by rw [hX]; exact HZ2.out.far (by show w.heap.size + 1 + 1 + 1 ≠ w.heap.size + 1 + 1; omega) _)
   have HFX := Lib.hid fX
   obtain ⟨U, hU⟩ : ∃ U, U = putA Nd.id (⟨n.id, L, n.ps⟩ : Nd) false g.ns := ⟨_, rfl⟩
   have HPN := Lib.hid (rputn_any g an ae cn ce (⟨n.id, L, n.ps⟩ : Nd) a1 ap c1 kp X (HGI.out.on fX) HID.out hsX (slP_on fX HND.out.2.2) HNS.out)
   have HFT := Lib.hid (show Flat { g with ns := U, nn := max g.nn (n.id + 1) } from ⟨fun x hx p hp => by
    rw [hU] at hx
    rcases putA_mem Nd.id (⟨n.id, L, n.ps⟩ : Nd) hx with e | e
    ·subst e; exact HYF.out p hp
    ·exact HFL.out.n x e p hp, HFL.out.e⟩)
   have HUU := Lib.hid hU
   rw [← hU] at HPN
   unfold grv ndv at HPN
   simp only at HPN
   clear hX fux fX hsX hws hs2 hU HG2 HC2 HN2 HZ2 HF2
   obtain ⟨g0, g1, g2, g3⟩ := HGX.out.g4
   obtain ⟨d0, d1, d2, d3, d4, d5, d6, d7, d8, d9⟩ := HCX.out.ch
   rw [HOP.out] at d0
   have n0 := HNX.out.c 0; have n1 := HNX.out.c 1; have n2 := HNX.out.c 2
   go_wp2_with fail
   go_at_call 52; refine HPN.out.mono ?_; rintro e4 w4 ⟨a', c', rfl, hs4, f4⟩
   have HF4 := Lib.hid (HFX.out.trans f4)
   have HZ4 := Lib.hid (HZX.out.on f4)
   have HS4 := Lib.hid hs4
   clear g0 g1 g2 g3 d0 d1 d2 d3 d4 d5 d6 d7 d8 d9 n0 n1 n2 hs4 f4
   obtain ⟨z0, z1, z2, z3⟩ := HZ4.out.g4
   obtain ⟨y0, y1, y2, y3⟩ := HZ4.out.f4
   go_wp2
   refine g_ret2 rfl rfl rfl ((((HZ4.out.set_ 0 _).set_ 1 _).set_ 2 _).set_ 3 _) ?_
   have hb1 : w.heap.size ≤ w.heap.size + 1 + 1 + 1 := by omega
   have hE := HET.out.1
   have hT : TT = { g with ns := U, nn := max g.nn (n.id + 1) } := by rw [HET.out.2, HUU.out, HLL.out]
   exact ⟨a', ae, c', ce, by rw [hE, hT]; rfl, by rw [hT]; exact gin_fux HZ4.out ⟨HS4.out, (HGI.out.on HF4.out).e, HIM.out, HGI.out.i2⟩ HFT.out (fux_set4 _ _ _ _ _), fuwS (fuwS (fuwS (fuwS HF4.out hb1) hb1) hb1) hb1⟩
theorem ronn_unl (g : Gr) (an ae : Option Addr) (cn ce : Nat) (c : Ch) (a : Option Addr) (k : Nat) (n : Nd) (al ap : Option Addr) (kl kp : Nat) (w : World) (hg : GIn w g an ae cn ce) (hfl : Flat g) (hi : ChIn w c a k) (hnd : NdIn w n al ap kl kp) (hop : c.op = 4) (hid : -1000000000000 ≤ n.id ∧ n.id ≤ 1000000000000) (hnn : -1000000000000 ≤ g.nn ∧ g.nn ≤ 1000000000000) (hns : g.ns.length ≤ 100000) (hpf : ∀ p ∈ n.ps, p.v.ll = []) (hls : n.ls.length ≤ 100000) :
  Calls Tryz.prog 55 #[grv g an ae cn ce, .agg (chC c a k), ndv n al ap kl kp] w (RetSt w (if hasS n.ls c.nm = true then 0 else 23) (if hasS n.ls c.nm = true then { g with ns := putA Nd.id (⟨n.id, butS c.nm n.ls, n.ps⟩ : Nd) false g.ns, nn := max g.nn (n.id + 1) } else zerG)) := by
 obtain ⟨i0, hi0, hz0, hz1, hz2⟩ := info_parts infoN
 obtain ⟨W, hW⟩ : ∃ W, W = (((w.alloc (.cells #[.slice an g.ns.length cn, .slice ae g.es.length ce, .int .i64 g.nn, .int .i64 g.ne] 25)).alloc (.cells (chC c a k) 30)).alloc (.cells #[.int .i64 n.id, .slice al n.ls.length kl, .slice ap n.ps.length kp] 51)).alloc (.cells #[.slice none 0 0, .slice none 0 0, .int .i64 0, .int .i64 0] 25) := ⟨_, rfl⟩
 have fW : Fuw w W := by rw [hW]; exact (((fuwA _ _).trans (fuwA _ _)).trans (fuwA _ _)).trans (fuwA _ _)
 have HG := Lib.hid (show Bk W w.heap.size #[.slice an g.ns.length cn, .slice ae g.es.length ce, .int .i64 g.nn, .int .i64 g.ne] 25 from by rw [hW]; exact (Bk.new w _ _).on (((fuwA _ _).trans (fuwA _ _)).trans (fuwA _ _)))
 have HC := Lib.hid (show Bk W (w.heap.size + 1) (chC c a k) 30 from by
  rw [hW]
  have := Bk.new (w.alloc (.cells #[.slice an g.ns.length cn, .slice ae g.es.length ce, .int .i64 g.nn, .int .i64 g.ne] 25)) (chC c a k) 30
  exact Bk.on (by simpa using this) ((fuwA _ _).trans (fuwA _ _)))
 have HN := Lib.hid (show Bk W (w.heap.size + 1 + 1) #[.int .i64 n.id, .slice al n.ls.length kl, .slice ap n.ps.length kp] 51 from by
  rw [hW]
  have := Bk.new ((w.alloc (.cells #[.slice an g.ns.length cn, .slice ae g.es.length ce, .int .i64 g.nn, .int .i64 g.ne] 25)).alloc (.cells (chC c a k) 30)) #[.int .i64 n.id, .slice al n.ls.length kl, .slice ap n.ps.length kp] 51
  exact Bk.on (by simpa using this) (fuwA _ _))
 have HZ := Lib.hid (show Bk W (w.heap.size + 1 + 1 + 1) #[.slice none 0 0, .slice none 0 0, .int .i64 0, .int .i64 0] 25 from by
  rw [hW]
  have := Bk.new (((w.alloc (.cells #[.slice an g.ns.length cn, .slice ae g.es.length ce, .int .i64 g.nn, .int .i64 g.ne] 25)).alloc (.cells (chC c a k) 30)).alloc (.cells #[.int .i64 n.id, .slice al n.ls.length kl, .slice ap n.ps.length kp] 51)) #[.slice none 0 0, .slice none 0 0, .int .i64 0, .int .i64 0] 25
  simpa using this)
 have HWS := Lib.hid (show W.heap.size = w.heap.size + 4 from by rw [hW]; simp)
 have HHL := Lib.hid (fun (w' : World) (hf : Fuw w w') => rhasl_any n al ap kl kp c.nm w' (slS_on hf hnd.2.1))
 have HFW := Lib.hid fW
 have HGI := Lib.hid hg
 have HND := Lib.hid hnd
 have HCI := Lib.hid hi
 have HFL := Lib.hid hfl
 obtain ⟨EE, hEE⟩ : ∃ EE : Int, EE = (if hasS n.ls c.nm = true then 0 else 23) := ⟨_, rfl⟩
 obtain ⟨TT, hTT⟩ : ∃ TT : Gr, TT = (if hasS n.ls c.nm = true then { g with ns := putA Nd.id (⟨n.id, butS c.nm n.ls, n.ps⟩ : Nd) false g.ns, nn := max g.nn (n.id + 1) } else zerG) := ⟨_, rfl⟩
 rw [← hEE, ← hTT]
 have HEE := Lib.hid hEE
 have HTT := Lib.hid hTT
 clear hEE hTT
 have HID := Lib.hid hid
 have HNS := Lib.hid hns
 have HIM := Lib.hid (show I64 (max g.nn (n.id + 1)) from ⟨by omega, by omega⟩)
 have HPF := Lib.hid hpf
 have HPS := Lib.hid (fun (w' : World) (hf : Fuw w w') => rwithout_any n.ls c.nm al kl w' (slS_on hf hnd.2.1) hls)
 have HYF := Lib.hid hpf
 obtain ⟨g0, g1, g2, g3⟩ := HG.out.g4
 have d0 := HC.out.c 0; have d1 := HC.out.c 1; have d4 := HC.out.c 4
 have n0 := HN.out.c 0; have n1 := HN.out.c 1; have n2 := HN.out.c 2
 unfold chC at hW d0 d1 d4
 unfold grv ndv at *
 unfold chC
 rw [hop] at d0
 generalize hasS n.ls c.nm = hs at *
 have HOP := Lib.hid hop
 clear fW hg hi hnd hfl hop hid hnn hns hpf hls
 go_enter Tryz.func55, Tryz.ntmps55
 go_upto_region 1 with fail
 rw [← hW]
 clear hW
 go_wp2_with fail
 go_at_call 92; refine (HHL.out _ HFW.out).mono ?_; rintro e1 w1 ⟨rfl, f1⟩
 have HF1 := Lib.hid (HFW.out.trans f1)
 have HG1 := Lib.hid (HG.out.on f1)
 have HC1 := Lib.hid (HC.out.on f1)
 have HN1 := Lib.hid (HN.out.on f1)
 have HZ1 := Lib.hid (HZ.out.on f1)
 have HS1 := Lib.hid (show W.heap.size ≤ w1.heap.size from f1.size)
 clear HHL f1 g0 g1 g2 g3 d0 d1 d4 n0 n1 n2 HG HC HN HZ
 obtain ⟨g0, g1, g2, g3⟩ := HG1.out.g4
 obtain ⟨d0, d1, d2, d3, d4, d5, d6, d7, d8, d9⟩ := HC1.out.ch
 rw [HOP.out] at d0
 have n0 := HN1.out.c 0; have n1 := HN1.out.c 1; have n2 := HN1.out.c 2
 cases hs with
 | false =>
  obtain ⟨z0, z1, z2, z3⟩ := HZ1.out.g4
  obtain ⟨y0, y1, y2, y3⟩ := HZ1.out.f4
  go_wp2
  refine g_ret2 rfl rfl rfl ((((HZ1.out.set_ 0 _).set_ 1 _).set_ 2 _).set_ 3 _) ?_
  have hb1 : w.heap.size ≤ w.heap.size + 1 + 1 + 1 := by omega
  have hE : EE = 23 := by rw [HEE.out]; rfl
  have hT : TT = zerG := by rw [HTT.out]; rfl
  exact ⟨none, none, 0, 0, by rw [hE, hT]; rfl, by rw [hT]; exact zerG_in _, fuwS (fuwS (fuwS (fuwS HF1.out hb1) hb1) hb1) hb1⟩
 | true =>
  have HET := Lib.hid (show EE = 0 ∧ TT = { g with ns := putA Nd.id (⟨n.id, butS c.nm n.ls, n.ps⟩ : Nd) false g.ns, nn := max g.nn (n.id + 1) } from ⟨by rw [HEE.out]; rfl, by rw [HTT.out]; rfl⟩)
  go_wp2_with fail
  go_at_call 95; refine (HPS.out _ HF1.out).mono ?_; rintro e2 w2 ⟨a1, c1, rfl, hs1, f2⟩
  have HF2 := Lib.hid (HF1.out.trans f2)
  have HG2 := Lib.hid (HG1.out.on f2)
  have HC2 := Lib.hid (HC1.out.on f2)
  have HN2 := Lib.hid (HN1.out.on f2)
  have HZ2 := Lib.hid (HZ1.out.on f2)
  have HS2 := Lib.hid (show W.heap.size ≤ w2.heap.size from Nat.le_trans HS1.out f2.size)
  clear g0 g1 g2 g3 d0 d1 d2 d3 d4 d5 d6 d7 d8 d9 n0 n1 n2
  clear f2 HG1 HC1 HN1 HZ1 HF1 HS1
  obtain ⟨g0, g1, g2, g3⟩ := HG2.out.g4
  obtain ⟨d0, d1, d2, d3, d4, d5, d6, d7, d8, d9⟩ := HC2.out.ch
  rw [HOP.out] at d0
  have n0 := HN2.out.c 0; have n1 := HN2.out.c 1; have n2 := HN2.out.c 2
  obtain ⟨L, hL⟩ : ∃ L, L = butS c.nm n.ls := ⟨_, rfl⟩
  have HLL := Lib.hid hL
  rw [← hL] at hs1 ⊢
  clear hL HPS
  obtain ⟨X, hX⟩ : ∃ X, X = w2.setCell ⟨w.heap.size + 1 + 1, 1, none⟩ (.slice a1 L.length c1) := ⟨_, rfl⟩
  have nf := HN2.out.f 1
  go_upto_region 25 with fail
  rw [← hX]
  clear nf
  clear g0 g1 g2 g3 d0 d1 d2 d3 d4 d5 d6 d7 d8 d9 n0 n1 n2
  have hws := HWS.out
  have hs2 := HS2.out
  have fux : Fux (w.heap.size + 1 + 1) w2 X := by rw [hX]; exact (Fux.of (Fuw.refl w2)).set 1 _
  have fX : Fuw w X := Fux.via HF2.out fux (by omega)
  have hsX := slS_fux HN2.out fux (nod_noS _ _ _ _ _ _ _) hs1
  have HNX := Lib.hid (show Bk X (w.heap.size + 1 + 1) #[.int .i64 n.id, .slice a1 L.length c1, .slice ap n.ps.length kp] 51 from by rw [hX]; exact HN2.out.set_ 1 _)
  have HGX := Lib.hid (show Bk X w.heap.size #[.slice an g.ns.length cn, .slice ae g.es.length ce, .int .i64 g.nn, .int .i64 g.ne] 25 from by rw [hX]; exact HG2.out.far (by show w.heap.size ≠ w.heap.size + 1 + 1; omega) _)
  have HCX := Lib.hid (show Bk X (w.heap.size + 1) (chC c a k) 30 from by rw [hX]; exact HC2.out.far (by show w.heap.size + 1 ≠ w.heap.size + 1 + 1; omega) _)
  have HZX := Lib.hid (show Bk X (w.heap.size + 1 + 1 + 1) #[.slice none 0 0, .slice none 0 0, .int .i64 0, .int .i64 0] 25 from by rw [hX]; exact HZ2.out.far (by show w.heap.size + 1 + 1 + 1 ≠ w.heap.size + 1 + 1; omega) _)
  have HFX := Lib.hid fX
  obtain ⟨U, hU⟩ : ∃ U, U = putA Nd.id (⟨n.id, L, n.ps⟩ : Nd) false g.ns := ⟨_, rfl⟩
  have HPN := Lib.hid (rputn_any g an ae cn ce (⟨n.id, L, n.ps⟩ : Nd) a1 ap c1 kp X (HGI.out.on fX) HID.out hsX (slP_on fX HND.out.2.2) HNS.out)
  have HFT := Lib.hid (show Flat { g with ns := U, nn := max g.nn (n.id + 1) } from ⟨fun x hx p hp => by
   rw [hU] at hx
   rcases putA_mem Nd.id (⟨n.id, L, n.ps⟩ : Nd) hx with e | e
   ·subst e; exact HYF.out p hp
   ·exact HFL.out.n x e p hp, HFL.out.e⟩)
  have HUU := Lib.hid hU
  rw [← hU] at HPN
  unfold grv ndv at HPN
  simp only at HPN
  clear hX fux fX hsX hws hs2 hU HG2 HC2 HN2 HZ2 HF2
  obtain ⟨g0, g1, g2, g3⟩ := HGX.out.g4
  obtain ⟨d0, d1, d2, d3, d4, d5, d6, d7, d8, d9⟩ := HCX.out.ch
  rw [HOP.out] at d0
  have n0 := HNX.out.c 0; have n1 := HNX.out.c 1; have n2 := HNX.out.c 2
  go_wp2_with fail
  go_at_call 52; refine HPN.out.mono ?_; rintro e4 w4 ⟨a', c', rfl, hs4, f4⟩
  have HF4 := Lib.hid (HFX.out.trans f4)
  have HZ4 := Lib.hid (HZX.out.on f4)
  have HS4 := Lib.hid hs4
  clear g0 g1 g2 g3 d0 d1 d2 d3 d4 d5 d6 d7 d8 d9 n0 n1 n2 hs4 f4
  obtain ⟨z0, z1, z2, z3⟩ := HZ4.out.g4
  obtain ⟨y0, y1, y2, y3⟩ := HZ4.out.f4
  go_wp2
  refine g_ret2 rfl rfl rfl ((((HZ4.out.set_ 0 _).set_ 1 _).set_ 2 _).set_ 3 _) ?_
  have hb1 : w.heap.size ≤ w.heap.size + 1 + 1 + 1 := by omega
  have hE := HET.out.1
  have hT : TT = { g with ns := U, nn := max g.nn (n.id + 1) } := by rw [HET.out.2, HUU.out, HLL.out]
  exact ⟨a', ae, c', ce, by rw [hE, hT]; rfl, by rw [hT]; exact gin_fux HZ4.out ⟨HS4.out, (HGI.out.on HF4.out).e, HIM.out, HGI.out.i2⟩ HFT.out (fux_set4 _ _ _ _ _), fuwS (fuwS (fuwS (fuwS HF4.out hb1) hb1) hb1) hb1⟩
end Go.Proofs.YtpamdlkagmlahaaGreatDoor

namespace Go.Proofs.YtpamdlkagmlahaaGreatDoor
open Go.RowKit
theorem putP_mem (k : List UInt8) (v : Vl) (z : Bool) {x : Pp} : ∀ {d : Bool} {l : List Pp}, x ∈ putP k v z d l → x = ⟨k, v⟩ ∨ x ∈ l
 | d, [], h => by
  have h' : x ∈ (if d = false ∧ z = false then [(⟨k, v⟩ : Pp)] else []) := h
  by_cases g : d = false ∧ z = false
  ·rw [if_pos g] at h'; exact .inl (List.mem_singleton.1 h')
  ·rw [if_neg g] at h'; cases h'
 | d, p :: r, h => by
  have h' : x ∈ (if (d = false ∧ Op.bytesLess p.k k = false) ∧ z = false then [(⟨k, v⟩ : Pp)] else []) ++ ((if p.k = k then [] else [p]) ++ putP k v z (d || !Op.bytesLess p.k k) r) := h
  rcases List.mem_append.1 h' with h' | h'
  ·by_cases g : (d = false ∧ Op.bytesLess p.k k = false) ∧ z = false
   ·rw [if_pos g] at h'; exact .inl (List.mem_singleton.1 h')
   ·rw [if_neg g] at h'; cases h'
  ·rcases List.mem_append.1 h' with h' | h'
   ·by_cases g : p.k = k
    ·rw [if_pos g] at h'; cases h'
    ·rw [if_neg g, List.mem_singleton] at h'; subst h'; exact .inr (List.mem_cons_self ..)
   ·exact (putP_mem k v z h').imp id (List.mem_cons_of_mem _)
theorem ronn_set (g : Gr) (an ae : Option Addr) (cn ce : Nat) (c : Ch) (a : Option Addr) (k : Nat) (n : Nd) (al ap : Option Addr) (kl kp : Nat) (w : World) (hg : GIn w g an ae cn ce) (hfl : Flat g) (hi : ChIn w c a k) (hnd : NdIn w n al ap kl kp) (hop : c.op = 5) (hid : -1000000000000 ≤ n.id ∧ n.id ≤ 1000000000000) (hnn : -1000000000000 ≤ g.nn ∧ g.nn ≤ 1000000000000) (hns : g.ns.length ≤ 100000) (hpf : ∀ p ∈ n.ps, p.v.ll = []) (hps : n.ps.length ≤ 100000) (hvf : c.v.ll = []) :
  Calls Tryz.prog 55 #[grv g an ae cn ce, .agg (chC c a k), ndv n al ap kl kp] w (RetSt w (if decide ((putP c.nm c.v (isN c.v) false n.ps).length ≤ 16) = true then 0 else 20) (if decide ((putP c.nm c.v (isN c.v) false n.ps).length ≤ 16) = true then { g with ns := putA Nd.id (⟨n.id, n.ls, putP c.nm c.v (isN c.v) false n.ps⟩ : Nd) false g.ns, nn := max g.nn (n.id + 1) } else zerG)) := by
 obtain ⟨i0, hi0, hz0, hz1, hz2⟩ := info_parts infoN
 obtain ⟨W, hW⟩ : ∃ W, W = (((w.alloc (.cells #[.slice an g.ns.length cn, .slice ae g.es.length ce, .int .i64 g.nn, .int .i64 g.ne] 25)).alloc (.cells (chC c a k) 30)).alloc (.cells #[.int .i64 n.id, .slice al n.ls.length kl, .slice ap n.ps.length kp] 51)).alloc (.cells #[.slice none 0 0, .slice none 0 0, .int .i64 0, .int .i64 0] 25) := ⟨_, rfl⟩
 have fW : Fuw w W := by rw [hW]; exact (((fuwA _ _).trans (fuwA _ _)).trans (fuwA _ _)).trans (fuwA _ _)
 have HG := Lib.hid (show Bk W w.heap.size #[.slice an g.ns.length cn, .slice ae g.es.length ce, .int .i64 g.nn, .int .i64 g.ne] 25 from by rw [hW]; exact (Bk.new w _ _).on (((fuwA _ _).trans (fuwA _ _)).trans (fuwA _ _)))
 have HC := Lib.hid (show Bk W (w.heap.size + 1) (chC c a k) 30 from by
  rw [hW]
  have := Bk.new (w.alloc (.cells #[.slice an g.ns.length cn, .slice ae g.es.length ce, .int .i64 g.nn, .int .i64 g.ne] 25)) (chC c a k) 30
  exact Bk.on (by simpa using this) ((fuwA _ _).trans (fuwA _ _)))
 have HN := Lib.hid (show Bk W (w.heap.size + 1 + 1) #[.int .i64 n.id, .slice al n.ls.length kl, .slice ap n.ps.length kp] 51 from by
  rw [hW]
  have := Bk.new ((w.alloc (.cells #[.slice an g.ns.length cn, .slice ae g.es.length ce, .int .i64 g.nn, .int .i64 g.ne] 25)).alloc (.cells (chC c a k) 30)) #[.int .i64 n.id, .slice al n.ls.length kl, .slice ap n.ps.length kp] 51
  exact Bk.on (by simpa using this) (fuwA _ _))
 have HZ := Lib.hid (show Bk W (w.heap.size + 1 + 1 + 1) #[.slice none 0 0, .slice none 0 0, .int .i64 0, .int .i64 0] 25 from by
  rw [hW]
  have := Bk.new (((w.alloc (.cells #[.slice an g.ns.length cn, .slice ae g.es.length ce, .int .i64 g.nn, .int .i64 g.ne] 25)).alloc (.cells (chC c a k) 30)).alloc (.cells #[.int .i64 n.id, .slice al n.ls.length kl, .slice ap n.ps.length kp] 51)) #[.slice none 0 0, .slice none 0 0, .int .i64 0, .int .i64 0] 25
  simpa using this)
 have HWS := Lib.hid (show W.heap.size = w.heap.size + 4 from by rw [hW]; simp)
 have HHL := Lib.hid (fun (w' : World) (hf : Fuw w w') => rhasl_any n al ap kl kp c.nm w' (slS_on hf hnd.2.1))
 have HFW := Lib.hid fW
 have HGI := Lib.hid hg
 have HND := Lib.hid hnd
 have HCI := Lib.hid hi
 have HFL := Lib.hid hfl
 obtain ⟨EE, hEE⟩ : ∃ EE : Int, EE = (if decide ((putP c.nm c.v (isN c.v) false n.ps).length ≤ 16) = true then 0 else 20) := ⟨_, rfl⟩
 obtain ⟨TT, hTT⟩ : ∃ TT : Gr, TT = (if decide ((putP c.nm c.v (isN c.v) false n.ps).length ≤ 16) = true then { g with ns := putA Nd.id (⟨n.id, n.ls, putP c.nm c.v (isN c.v) false n.ps⟩ : Nd) false g.ns, nn := max g.nn (n.id + 1) } else zerG) := ⟨_, rfl⟩
 rw [← hEE, ← hTT]
 have HEE := Lib.hid hEE
 have HTT := Lib.hid hTT
 clear hEE hTT
 have HID := Lib.hid hid
 have HNS := Lib.hid hns
 have HIM := Lib.hid (show I64 (max g.nn (n.id + 1)) from ⟨by omega, by omega⟩)
 have HPF := Lib.hid hpf
 have HPS := Lib.hid (fun (w' : World) (hf : Fuw w w') => rsetp_any n.ps ap kp c.nm c.v a k w' (slP_on hf hnd.2.2) hi.n hi.v (SlV.onw hi.s hf) hps)
 have HYF := Lib.hid (show ∀ p ∈ putP c.nm c.v (isN c.v) false n.ps, p.v.ll = [] from fun p hp => by
  rcases putP_mem _ _ _ hp with e | e
  ·rw [e]; exact hvf
  ·exact hpf p e)
 unfold vlv at HPS
 obtain ⟨L, hL⟩ : ∃ L, L = putP c.nm c.v (isN c.v) false n.ps := ⟨_, rfl⟩
 rw [← hL] at HPS HYF HEE HTT
 obtain ⟨bl, hbl⟩ : ∃ bl, bl = decide (L.length ≤ 16) := ⟨_, rfl⟩
 rw [← hbl] at HPS HEE HTT
 obtain ⟨g0, g1, g2, g3⟩ := HG.out.g4
 have d0 := HC.out.c 0; have d1 := HC.out.c 1; have d4 := HC.out.c 4
 have n0 := HN.out.c 0; have n1 := HN.out.c 1; have n2 := HN.out.c 2
 unfold chC at hW d0 d1 d4
 unfold grv ndv at *
 unfold chC
 rw [hop] at d0
 generalize hasS n.ls c.nm = hs at *
 have HOP := Lib.hid hop
 clear fW hg hi hnd hfl hop hid hnn hns hpf hps hvf hL hbl
 go_enter Tryz.func55, Tryz.ntmps55
 go_upto_region 1 with fail
 rw [← hW]
 clear hW
 go_wp2_with fail
 go_at_call 92; refine (HHL.out _ HFW.out).mono ?_; rintro e1 w1 ⟨rfl, f1⟩
 have HF1 := Lib.hid (HFW.out.trans f1)
 have HG1 := Lib.hid (HG.out.on f1)
 have HC1 := Lib.hid (HC.out.on f1)
 have HN1 := Lib.hid (HN.out.on f1)
 have HZ1 := Lib.hid (HZ.out.on f1)
 have HS1 := Lib.hid (show W.heap.size ≤ w1.heap.size from f1.size)
 clear HHL f1 g0 g1 g2 g3 d0 d1 d4 n0 n1 n2 HG HC HN HZ
 obtain ⟨g0, g1, g2, g3⟩ := HG1.out.g4
 obtain ⟨d0, d1, d2, d3, d4, d5, d6, d7, d8, d9⟩ := HC1.out.ch
 rw [HOP.out] at d0
 have n0 := HN1.out.c 0; have n1 := HN1.out.c 1; have n2 := HN1.out.c 2
 go_wp2_with fail
 go_at_call 91; refine (HPS.out _ HF1.out).mono ?_; rintro e2 w2 ⟨a1, c1, rfl, hs1, f2⟩
 have HF2 := Lib.hid (HF1.out.trans f2)
 have HG2 := Lib.hid (HG1.out.on f2)
 have HC2 := Lib.hid (HC1.out.on f2)
 have HN2 := Lib.hid (HN1.out.on f2)
 have HZ2 := Lib.hid (HZ1.out.on f2)
 have HS2 := Lib.hid (show W.heap.size ≤ w2.heap.size from Nat.le_trans HS1.out f2.size)
 clear g0 g1 g2 g3 d0 d1 d2 d3 d4 d5 d6 d7 d8 d9 n0 n1 n2
 clear f2 HG1 HC1 HN1 HZ1 HF1 HS1
 obtain ⟨g0, g1, g2, g3⟩ := HG2.out.g4
 obtain ⟨d0, d1, d2, d3, d4, d5, d6, d7, d8, d9⟩ := HC2.out.ch
 rw [HOP.out] at d0
 have n0 := HN2.out.c 0; have n1 := HN2.out.c 1; have n2 := HN2.out.c 2
 clear HPS
 cases bl with
 | false =>
  obtain ⟨z0, z1, z2, z3⟩ := HZ2.out.g4
  obtain ⟨y0, y1, y2, y3⟩ := HZ2.out.f4
  go_wp2
  refine g_ret2 rfl rfl rfl ((((HZ2.out.set_ 0 _).set_ 1 _).set_ 2 _).set_ 3 _) ?_
  have hb1 : w.heap.size ≤ w.heap.size + 1 + 1 + 1 := by omega
  have hE : EE = 20 := by rw [HEE.out]; rfl
  have hT : TT = zerG := by rw [HTT.out]; rfl
  exact ⟨none, none, 0, 0, by rw [hE, hT]; rfl, by rw [hT]; exact zerG_in _, fuwS (fuwS (fuwS (fuwS HF2.out hb1) hb1) hb1) hb1⟩
 | true =>
  have HET := Lib.hid (show EE = 0 ∧ TT = { g with ns := putA Nd.id (⟨n.id, n.ls, L⟩ : Nd) false g.ns, nn := max g.nn (n.id + 1) } from ⟨by rw [HEE.out]; rfl, by rw [HTT.out]; rfl⟩)
  obtain ⟨X, hX⟩ : ∃ X, X = w2.setCell ⟨w.heap.size + 1 + 1, 2, none⟩ (.slice a1 L.length c1) := ⟨_, rfl⟩
  have nf := HN2.out.f 2
  go_upto_region 30 with fail
  rw [← hX]
  clear nf
  clear g0 g1 g2 g3 d0 d1 d2 d3 d4 d5 d6 d7 d8 d9 n0 n1 n2
  have hws := HWS.out
  have hs2 := HS2.out
  have fux : Fux (w.heap.size + 1 + 1) w2 X := by rw [hX]; exact (Fux.of (Fuw.refl w2)).set 2 _
  have fX : Fuw w X := Fux.via HF2.out fux (by omega)
  have hsX := slP_fux HN2.out fux (nod_noS _ _ _ _ _ _ _).p HYF.out hs1
  have HNX := Lib.hid (show Bk X (w.heap.size + 1 + 1) #[.int .i64 n.id, .slice al n.ls.length kl, .slice a1 L.length c1] 51 from by rw [hX]; exact HN2.out.set_ 2 _)
  have HGX := Lib.hid (show Bk X w.heap.size #[.slice an g.ns.length cn, .slice ae g.es.length ce, .int .i64 g.nn, .int .i64 g.ne] 25 from by rw [hX]; exact HG2.out.far (by show w.heap.size ≠ w.heap.size + 1 + 1; omega) _)
  have HCX := Lib.hid (show Bk X (w.heap.size + 1) (chC c a k) 30 from by rw [hX]; exact HC2.out.far (by show w.heap.size + 1 ≠ w.heap.size + 1 + 1; omega) _)
  have HZX := Lib.hid (show Bk X (w.heap.size + 1 + 1 + 1) #[.slice none 0 0, .slice none 0 0, .int .i64 0, .int .i64 0] 25 from by rw [hX]; exact HZ2.out.far (by show w.heap.size + 1 + 1 + 1 ≠ w.heap.size + 1 + 1; omega) _)
  have HFX := Lib.hid fX
  obtain ⟨U, hU⟩ : ∃ U, U = putA Nd.id (⟨n.id, n.ls, L⟩ : Nd) false g.ns := ⟨_, rfl⟩
  have HPN := Lib.hid (rputn_any g an ae cn ce (⟨n.id, n.ls, L⟩ : Nd) al a1 kl c1 X (HGI.out.on fX) HID.out (slS_on fX HND.out.2.1) hsX HNS.out)
  have HFT := Lib.hid (show Flat { g with ns := U, nn := max g.nn (n.id + 1) } from ⟨fun x hx p hp => by
   rw [hU] at hx
   rcases putA_mem Nd.id (⟨n.id, n.ls, L⟩ : Nd) hx with e | e
   ·subst e; exact HYF.out p hp
   ·exact HFL.out.n x e p hp, HFL.out.e⟩)
  have HUU := Lib.hid hU
  rw [← hU] at HPN
  unfold grv ndv at HPN
  simp only at HPN
  clear hX fux fX hsX hws hs2 hU HG2 HC2 HN2 HZ2 HF2
  obtain ⟨g0, g1, g2, g3⟩ := HGX.out.g4
  obtain ⟨d0, d1, d2, d3, d4, d5, d6, d7, d8, d9⟩ := HCX.out.ch
  rw [HOP.out] at d0
  have n0 := HNX.out.c 0; have n1 := HNX.out.c 1; have n2 := HNX.out.c 2
  go_wp2_with fail
  go_at_call 52; refine HPN.out.mono ?_; rintro e4 w4 ⟨a', c', rfl, hs4, f4⟩
  have HF4 := Lib.hid (HFX.out.trans f4)
  have HZ4 := Lib.hid (HZX.out.on f4)
  have HS4 := Lib.hid hs4
  clear g0 g1 g2 g3 d0 d1 d2 d3 d4 d5 d6 d7 d8 d9 n0 n1 n2 hs4 f4
  obtain ⟨z0, z1, z2, z3⟩ := HZ4.out.g4
  obtain ⟨y0, y1, y2, y3⟩ := HZ4.out.f4
  go_wp2
  refine g_ret2 rfl rfl rfl ((((HZ4.out.set_ 0 _).set_ 1 _).set_ 2 _).set_ 3 _) ?_
  have hb1 : w.heap.size ≤ w.heap.size + 1 + 1 + 1 := by omega
  have hE := HET.out.1
  have hT : TT = { g with ns := U, nn := max g.nn (n.id + 1) } := by rw [HET.out.2, HUU.out]
  exact ⟨a', ae, c', ce, by rw [hE, hT]; rfl, by rw [hT]; exact gin_fux HZ4.out ⟨HS4.out, (HGI.out.on HF4.out).e, HIM.out, HGI.out.i2⟩ HFT.out (fux_set4 _ _ _ _ _), fuwS (fuwS (fuwS (fuwS HF4.out hb1) hb1) hb1) hb1⟩
end Go.Proofs.YtpamdlkagmlahaaGreatDoor

namespace Go.Proofs.YtpamdlkagmlahaaGreatDoor
theorem nul_v {v : Vl} (h : isN v = true) : v = nulV := ord_eq (by unfold isN at h; simpa using h)
end Go.Proofs.YtpamdlkagmlahaaGreatDoor
