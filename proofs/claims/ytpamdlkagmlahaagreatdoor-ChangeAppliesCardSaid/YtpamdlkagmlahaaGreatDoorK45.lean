/-
  RbI; RbK7; RbL: texts of one kind in one file; each part says what it holds.
-/
import Derived.Test.YtpamdlkagmlahaaGreatDoorK42
import Derived.Test.YtpamdlkagmlahaaGreatDoorK44

set_option maxHeartbeats 6400000
set_option maxRecDepth 100000
namespace Go.Proofs.YtpamdlkagmlahaaGreatDoor
open Go.RowKit
theorem rone_del (g : Gr) (an ae : Option Addr) (cn ce : Nat) (c : Ch) (a : Option Addr) (k : Nat) (n : Ed) (ap : Option Addr) (kp : Nat) (w : World) (hg : GIn w g an ae cn ce) (hfl : Flat g) (hi : ChIn w c a k) (hnd : EdIn w n ap kp) (hop : c.op = 7) (hes : g.es.length ≤ 100000) :
  Calls Tryz.prog 54 #[grv g an ae cn ce, .agg (chC c a k), edv n ap kp] w (RetSt w (0) ({ g with es := butA Ed.id c.id g.es })) := by
 obtain ⟨i0, hi0, hz0, hz1, hz2⟩ := info_parts infoE
 obtain ⟨W, hW⟩ : ∃ W, W = (((w.alloc (.cells #[.slice an g.ns.length cn, .slice ae g.es.length ce, .int .i64 g.nn, .int .i64 g.ne] 25)).alloc (.cells (chC c a k) 30)).alloc (.cells #[.int .i64 n.id, .int .i64 n.fr, .int .i64 n.to, .string (bs n.ty), .slice ap n.ps.length kp] 53)).alloc (.cells #[.slice none 0 0, .slice none 0 0, .int .i64 0, .int .i64 0] 25) := ⟨_, rfl⟩
 have fW : Fuw w W := by rw [hW]; exact (((fuwA _ _).trans (fuwA _ _)).trans (fuwA _ _)).trans (fuwA _ _)
 have HG := Lib.hid (show Bk W w.heap.size #[.slice an g.ns.length cn, .slice ae g.es.length ce, .int .i64 g.nn, .int .i64 g.ne] 25 from by rw [hW]; exact (Bk.new w _ _).on (((fuwA _ _).trans (fuwA _ _)).trans (fuwA _ _)))
 have HC := Lib.hid (show Bk W (w.heap.size + 1) (chC c a k) 30 from by
  rw [hW]
  have := Bk.new (w.alloc (.cells #[.slice an g.ns.length cn, .slice ae g.es.length ce, .int .i64 g.nn, .int .i64 g.ne] 25)) (chC c a k) 30
  exact Bk.on (by simpa using this) ((fuwA _ _).trans (fuwA _ _)))
 have HN := Lib.hid (show Bk W (w.heap.size + 1 + 1) #[.int .i64 n.id, .int .i64 n.fr, .int .i64 n.to, .string (bs n.ty), .slice ap n.ps.length kp] 53 from by
  rw [hW]
  have := Bk.new ((w.alloc (.cells #[.slice an g.ns.length cn, .slice ae g.es.length ce, .int .i64 g.nn, .int .i64 g.ne] 25)).alloc (.cells (chC c a k) 30)) #[.int .i64 n.id, .int .i64 n.fr, .int .i64 n.to, .string (bs n.ty), .slice ap n.ps.length kp] 53
  exact Bk.on (by simpa using this) (fuwA _ _))
 have HZ := Lib.hid (show Bk W (w.heap.size + 1 + 1 + 1) #[.slice none 0 0, .slice none 0 0, .int .i64 0, .int .i64 0] 25 from by
  rw [hW]
  have := Bk.new (((w.alloc (.cells #[.slice an g.ns.length cn, .slice ae g.es.length ce, .int .i64 g.nn, .int .i64 g.ne] 25)).alloc (.cells (chC c a k) 30)).alloc (.cells #[.int .i64 n.id, .int .i64 n.fr, .int .i64 n.to, .string (bs n.ty), .slice ap n.ps.length kp] 53)) #[.slice none 0 0, .slice none 0 0, .int .i64 0, .int .i64 0] 25
  simpa using this)
 have HWS := Lib.hid (show W.heap.size = w.heap.size + 4 from by rw [hW]; simp)
 have HFW := Lib.hid fW
 have HGI := Lib.hid hg
 have HND := Lib.hid hnd
 have HCI := Lib.hid hi
 have HFL := Lib.hid hfl
 obtain ⟨EE, hEE⟩ : ∃ EE : Int, EE = (0) := ⟨_, rfl⟩
 obtain ⟨TT, hTT⟩ : ∃ TT : Gr, TT = ({ g with es := butA Ed.id c.id g.es }) := ⟨_, rfl⟩
 rw [← hEE, ← hTT]
 have HEE := Lib.hid hEE
 have HTT := Lib.hid hTT
 clear hEE hTT
 have hnl := hg.e.len
 have HOP := Lib.hid hop
 obtain ⟨g0, g1, g2, g3⟩ := HG.out.g4
 obtain ⟨d0, d1, d2, d3, d4, d5, d6, d7, d8, d9⟩ := HC.out.ch
 rw [HOP.out] at d0
 have n0 := HN.out.c 0; have n1 := HN.out.c 1; have n2 := HN.out.c 2; have n3 := HN.out.c 3; have n4 := HN.out.c 4
 unfold chC at hW
 unfold grv edv at *
 unfold chC
 clear fW hg hi hnd hfl hop
 go_enter Tryz.func54, Tryz.ntmps54
 go_upto_region 1 with fail
 rw [← hW]
 clear hW
 obtain ⟨U, hU⟩ : ∃ U, U = butA Ed.id c.id g.es := ⟨_, rfl⟩
 have HUL := Lib.hid hU
 have HE0 := Lib.hid HEE.out
 have HU := Lib.hid (show U = ([] : List (Ed × AC)).map Prod.fst ++ butA Ed.id c.id (g.es.drop 0) from hU)
 have HSN := Lib.hid HGI.out.e
 clear hU
 go_wp2_with fail
 clear g0 g1 g2 g3 d0 d1 d2 d3 d4 d5 d6 d7 d8 d9 n0 n1 n2 n3 n4
 go_loopw [10, 11] (fun lv iv wr => ∃ (i : Nat) (ps : List (Ed × AC)), iv = .int .i64 i ∧ i ≤ g.es.length ∧ ps.length ≤ i ∧ wr.ownsRow W.heap.size 53 5 lv ps.length (LE.cs ps) ∧ Hid (U = ps.map Prod.fst ++ butA Ed.id c.id (g.es.drop i)) ∧ Hid (EOk w ps) ∧ Hid (Fuw W wr)) (fun _ iv _ => g.es.length - (RowKit.intOf iv).toNat)
 case atStart => exact ⟨0, [], rfl, Nat.zero_le _, Nat.zero_le _, World.ownsRow_nil _ _ _ _, HU, Lib.hid (fun _ h => by cases h), Lib.hid (Fuw.refl _)⟩
 case round =>
  obtain ⟨i, ps, rfl, hii, hps, hown, HQ, HK, HF⟩ := hrel
  generalize wr = wo at *
  obtain ⟨g0, g1, g2, g3⟩ := (HG.out.on HF.out).g4
  have d1 := (HC.out.on HF.out).c 1
  unfold chC at d1
  by_cases hlt : i < g.es.length
  ·obtain ⟨b, o, rfl, x0, x1, x2, x3, c0', c1', c2', c3', ap', cp', c4', s2'⟩ := HSN.out.get hlt
   have fa := HFW.out.trans HF.out
   have c0 := cellOnw fa c0'; have c1 := cellOnw fa c1'; have c2 := cellOnw fa c2'; have c3 := cellOnw fa c3'; have c4 := cellOnw fa c4'
   have HD := Lib.hid (HQ.out.trans (by rw [butA_drop Ed.id c.id g.es i hlt]))
   have HX := Lib.hid (show LE.I g.es[i] ∧ LE.J g.es[i] (ap', cp') w from ⟨⟨x0, x1, x2, x3⟩, s2'⟩)
   have hli : (i : Int) < (g.es.length : Int) := by omega
   clear fa c0' c1' c2' c3' c4' s2' x0 x1 x2 x3
   generalize g.es[i] = x at *
   by_cases hk : x.id = c.id
   ·have HZX := Lib.hid (show U = ps.map Prod.fst ++ butA Ed.id c.id (g.es.drop (i + 1)) from by rw [HD.out]; simp [hk])
    have hkb : (x.id == c.id) = true := by rw [hk]; exact beq_self_eq_true _
    have hkc : (x.id != c.id) = false := by rw [bne, hkb]; rfl
    clear hk
    go_upto_region 11 with fail
    go_region
    go_wp2
    go_roundw
    case rel => exact ⟨i + 1, ps, by go_num, by omega, by omega, own_heap hown fun _ _ => rfl, HZX, HK, Lib.hid (HF.out.trans (Fuw.drew (Fuw.refl wo)))⟩
    case measure => simp [RowKit.intOf]; omega
   ·have HZX := Lib.hid (show U = (ps ++ [(x, (ap', cp'))]).map Prod.fst ++ butA Ed.id c.id (g.es.drop (i + 1)) from by rw [HD.out]; simp [hk])
    have hkb : (x.id == c.id) = false := beq_eq_false_iff_ne.2 hk
    have hkc : (x.id != c.id) = true := by rw [bne_iff_ne]; exact hk
    clear hk
    go_upto_region 11 with fail
    go_region
    have HFB := Lib.hid (HF.out.trans (Fuw.drew (Fuw.refl wo)))
    replace hown : (wo.drew).ownsRow W.heap.size 53 5 u10 ps.length (LE.cs ps) := own_heap hown fun _ _ => rfl
    go_wp2_with (at_builtin; refine wpList_append_own_at _ rfl (.tmp 49) (.tmp 55) 23 rfl W.heap.size 53 i0 _ 5 64 Tryz.underlying23 hi0 hz0 hz1 hz2 rfl (by decide) _ ps.length (LE.cs ps) rfl (hown.alloc _) ⟨(wo.drew).heap.size, 0, none⟩ 1 1 (LE.C x (ap', cp')) rfl rfl (World.news_of_block (heap_alloc_new (wo.drew) _)) (one_LE _ _) (by unfold maxLen; omega) (by omega) (by have := HFB.out.size; first | (simp at this ⊢; omega) | simpa using this) ?_; intro v5 w5 hown5 hgrow _ _)
    have HF5 := Lib.hid (show Fuw W w5 from Below.grown (HFB.out.alloc _) hgrow (HFB.out.alloc _).size (fun k hk => by
     exact (hown.lt k hk).1))
    have hown6 : w5.ownsRow W.heap.size 53 5 v5 (ps ++ [(x, (ap', cp'))]).length (LE.cs (ps ++ [(x, (ap', cp'))])) := by
     rw [LE.cs_app, LE.cs_one, List.length_append]; exact hown5
    clear hown5 hgrow hown
    go_wp2
    go_roundw
    case rel => exact ⟨i + 1, (ps ++ [(x, (ap', cp'))]), by go_num, by omega, (by (try rw [List.length_append]); (try rw [List.length_append]); simp only [List.length_cons, List.length_nil]; omega), hown6, HZX, Lib.hid (HK.out.snoc HX.out.1 HX.out.2), HF5⟩
    case measure => simp [RowKit.intOf]; omega
  ·have hie : i = g.es.length := by omega
   subst hie
   clear hii hlt
   have hd0 : g.es.drop g.es.length = [] := List.drop_of_length_le (Nat.le_refl _)
   have HU2 := Lib.hid (show U = ps.map Prod.fst from by rw [HQ.out, hd0]; show _ ++ [] = _; rw [List.append_nil])
   clear g0 g1 g2 g3 d1 hd0 HQ
   generalize wo = wq at *
   have HX := Lib.hid (show ∀ X : World, (∀ k, W.heap.size ≤ k → X.heap[k]? = wq.heap[k]?) → Fuw w X → ∃ a c, u10 = .slice a U.length c ∧ SlE X a U c from fun X hx hf => by
    have hox : X.ownsRow W.heap.size 53 5 u10 ps.length (LE.cs ps) := own_heap hown fun k hk => hx k (hown.lt k hk).1
    obtain ⟨a, c, e, -, hs⟩ := Lay.sl_own (Y := LE) hox (fun p hp => (HK.out p hp).1) (fun p hp => LEJ_on (HK.out p hp).2 hf)
    have hu : ps.map Prod.fst = U := HU2.out.symm
    rw [hu] at hs
    exact ⟨a, c, by rw [e, ← hu, List.length_map], hs⟩)
   obtain ⟨a', c', e5, -⟩ := HX.out wq (fun _ _ => rfl) (HFW.out.trans HF.out)
   subst e5
   have HGQ := Lib.hid (HG.out.on HF.out)
   have HZQ := Lib.hid (HZ.out.on HF.out)
   obtain ⟨g0, g1, g2, g3⟩ := HGQ.out.g4
   obtain ⟨f0, f1, f2, f3⟩ := HGQ.out.f4
   obtain ⟨z0, z1, z2, z3⟩ := HZQ.out.g4
   obtain ⟨y0, y1, y2, y3⟩ := HZQ.out.f4
   clear hown
   go_wp2
   refine g_ret2 rfl rfl rfl (((((HZQ.out.far (show w.heap.size + 1 + 1 + 1 ≠ w.heap.size by omega) _).set_ 0 _).set_ 1 _).set_ 2 _).set_ 3 _) ?_
   have hws := HWS.out
   have hs2 := (Nat.le_refl W.heap.size)
   have hb1 : w.heap.size ≤ w.heap.size + 1 + 1 + 1 := by omega
   have hfz := fuwS (fuwS (fuwS (fuwS (fuwS (HFW.out.trans HF.out) (Nat.le_refl _) (j := 1) (u := .slice a' U.length c')) hb1 (j := 0) (u := .slice an g.ns.length cn)) hb1 (j := 1) (u := .slice a' U.length c')) hb1 (j := 2) (u := .int .i64 g.nn)) hb1 (j := 3) (u := .int .i64 g.ne)
   obtain ⟨a'', c'', e', hs⟩ := HX.out _ (fun k hk => (Below.heap_setCell _ ⟨w.heap.size + 1 + 1 + 1, 3, none⟩ _ k (show k ≠ w.heap.size + 1 + 1 + 1 by omega)).trans ((Below.heap_setCell _ ⟨w.heap.size + 1 + 1 + 1, 2, none⟩ _ k (show k ≠ w.heap.size + 1 + 1 + 1 by omega)).trans ((Below.heap_setCell _ ⟨w.heap.size + 1 + 1 + 1, 1, none⟩ _ k (show k ≠ w.heap.size + 1 + 1 + 1 by omega)).trans ((Below.heap_setCell _ ⟨w.heap.size + 1 + 1 + 1, 0, none⟩ _ k (show k ≠ w.heap.size + 1 + 1 + 1 by omega)).trans (Below.heap_setCell _ ⟨w.heap.size, 1, none⟩ _ k (show k ≠ w.heap.size by omega)))))) hfz
   injection e' with e1 _ e2
   subst e1 e2
   have hE := HE0.out
   have hT : TT = { g with es := U } := by rw [HTT.out, HUL.out]
   exact ⟨an, a', cn, c', by rw [hE, hT]; rfl, by rw [hT]; exact ⟨(HGI.out.on hfz).n, hs, HGI.out.i1, HGI.out.i2⟩, hfz⟩
theorem rone_set (g : Gr) (an ae : Option Addr) (cn ce : Nat) (c : Ch) (a : Option Addr) (k : Nat) (n : Ed) (ap : Option Addr) (kp : Nat) (w : World) (hg : GIn w g an ae cn ce) (hfl : Flat g) (hi : ChIn w c a k) (hnd : EdIn w n ap kp) (hop : c.op = 8) (hid : -1000000000000 ≤ n.id ∧ n.id ≤ 1000000000000) (hnn : -1000000000000 ≤ g.ne ∧ g.ne ≤ 1000000000000) (hns : g.es.length ≤ 100000) (hpf : ∀ p ∈ n.ps, p.v.ll = []) (hps : n.ps.length ≤ 100000) (hvf : c.v.ll = []) :
  Calls Tryz.prog 54 #[grv g an ae cn ce, .agg (chC c a k), edv n ap kp] w (RetSt w (if decide ((putP c.nm c.v (isN c.v) false n.ps).length ≤ 16) = true then 0 else 20) (if decide ((putP c.nm c.v (isN c.v) false n.ps).length ≤ 16) = true then { g with es := putA Ed.id (⟨n.id, n.fr, n.to, n.ty, putP c.nm c.v (isN c.v) false n.ps⟩ : Ed) false g.es, ne := max g.ne (n.id + 1) } else zerG)) := by
 obtain ⟨i0, hi0, hz0, hz1, hz2⟩ := info_parts infoE
 obtain ⟨W, hW⟩ : ∃ W, W = (((w.alloc (.cells #[.slice an g.ns.length cn, .slice ae g.es.length ce, .int .i64 g.nn, .int .i64 g.ne] 25)).alloc (.cells (chC c a k) 30)).alloc (.cells #[.int .i64 n.id, .int .i64 n.fr, .int .i64 n.to, .string (bs n.ty), .slice ap n.ps.length kp] 53)).alloc (.cells #[.slice none 0 0, .slice none 0 0, .int .i64 0, .int .i64 0] 25) := ⟨_, rfl⟩
 have fW : Fuw w W := by rw [hW]; exact (((fuwA _ _).trans (fuwA _ _)).trans (fuwA _ _)).trans (fuwA _ _)
 have HG := Lib.hid (show Bk W w.heap.size #[.slice an g.ns.length cn, .slice ae g.es.length ce, .int .i64 g.nn, .int .i64 g.ne] 25 from by rw [hW]; exact (Bk.new w _ _).on (((fuwA _ _).trans (fuwA _ _)).trans (fuwA _ _)))
 have HC := Lib.hid (show Bk W (w.heap.size + 1) (chC c a k) 30 from by
  rw [hW]
  have := Bk.new (w.alloc (.cells #[.slice an g.ns.length cn, .slice ae g.es.length ce, .int .i64 g.nn, .int .i64 g.ne] 25)) (chC c a k) 30
  exact Bk.on (by simpa using this) ((fuwA _ _).trans (fuwA _ _)))
 have HN := Lib.hid (show Bk W (w.heap.size + 1 + 1) #[.int .i64 n.id, .int .i64 n.fr, .int .i64 n.to, .string (bs n.ty), .slice ap n.ps.length kp] 53 from by
  rw [hW]
  have := Bk.new ((w.alloc (.cells #[.slice an g.ns.length cn, .slice ae g.es.length ce, .int .i64 g.nn, .int .i64 g.ne] 25)).alloc (.cells (chC c a k) 30)) #[.int .i64 n.id, .int .i64 n.fr, .int .i64 n.to, .string (bs n.ty), .slice ap n.ps.length kp] 53
  exact Bk.on (by simpa using this) (fuwA _ _))
 have HZ := Lib.hid (show Bk W (w.heap.size + 1 + 1 + 1) #[.slice none 0 0, .slice none 0 0, .int .i64 0, .int .i64 0] 25 from by
  rw [hW]
  have := Bk.new (((w.alloc (.cells #[.slice an g.ns.length cn, .slice ae g.es.length ce, .int .i64 g.nn, .int .i64 g.ne] 25)).alloc (.cells (chC c a k) 30)).alloc (.cells #[.int .i64 n.id, .int .i64 n.fr, .int .i64 n.to, .string (bs n.ty), .slice ap n.ps.length kp] 53)) #[.slice none 0 0, .slice none 0 0, .int .i64 0, .int .i64 0] 25
  simpa using this)
 have HWS := Lib.hid (show W.heap.size = w.heap.size + 4 from by rw [hW]; simp)
 have HFW := Lib.hid fW
 have HGI := Lib.hid hg
 have HND := Lib.hid hnd
 have HCI := Lib.hid hi
 have HFL := Lib.hid hfl
 obtain ⟨EE, hEE⟩ : ∃ EE : Int, EE = (if decide ((putP c.nm c.v (isN c.v) false n.ps).length ≤ 16) = true then 0 else 20) := ⟨_, rfl⟩
 obtain ⟨TT, hTT⟩ : ∃ TT : Gr, TT = (if decide ((putP c.nm c.v (isN c.v) false n.ps).length ≤ 16) = true then { g with es := putA Ed.id (⟨n.id, n.fr, n.to, n.ty, putP c.nm c.v (isN c.v) false n.ps⟩ : Ed) false g.es, ne := max g.ne (n.id + 1) } else zerG) := ⟨_, rfl⟩
 rw [← hEE, ← hTT]
 have HEE := Lib.hid hEE
 have HTT := Lib.hid hTT
 clear hEE hTT
 have HID := Lib.hid hid
 have HNS := Lib.hid hns
 have HIM := Lib.hid (show I64 (max g.ne (n.id + 1)) from ⟨by omega, by omega⟩)
 have HPF := Lib.hid hpf
 have HPS := Lib.hid (fun (w' : World) (hf : Fuw w w') => rsetp_any n.ps ap kp c.nm c.v a k w' (slP_on hf hnd.2.2.2.2) hi.n hi.v (SlV.onw hi.s hf) hps)
 have HYF := Lib.hid (show ∀ p ∈ putP c.nm c.v (isN c.v) false n.ps, p.v.ll = [] from fun p hp => by
  rcases putP_mem _ _ _ hp with e | e
  ·rw [e]; exact hvf
  ·exact hpf p e)
 unfold vlv at HPS
 obtain ⟨L, hL⟩ : ∃ L, L = putP c.nm c.v (isN c.v) false n.ps := ⟨_, rfl⟩
 rw [← hL] at HPS HYF HEE HTT
 obtain ⟨bl, hbl⟩ : ∃ bl, bl = decide (L.length ≤ 16) := ⟨_, rfl⟩
 rw [← hbl] at HPS HEE HTT
 have HOP := Lib.hid hop
 obtain ⟨g0, g1, g2, g3⟩ := HG.out.g4
 obtain ⟨d0, d1, d2, d3, d4, d5, d6, d7, d8, d9⟩ := HC.out.ch
 rw [HOP.out] at d0
 have n0 := HN.out.c 0; have n1 := HN.out.c 1; have n2 := HN.out.c 2; have n3 := HN.out.c 3; have n4 := HN.out.c 4
 unfold chC at hW
 unfold grv edv at *
 unfold chC
 clear fW hg hi hnd hfl hop hid hnn hns hpf hps hvf hL hbl
 go_enter Tryz.func54, Tryz.ntmps54
 go_upto_region 1 with fail
 rw [← hW]
 clear hW
 go_wp2_with fail
 go_at_call 91; refine (HPS.out _ HFW.out).mono ?_; rintro e2 w2 ⟨a1, c1, rfl, hs1, f2⟩
 have HF2 := Lib.hid (HFW.out.trans f2)
 have HG2 := Lib.hid (HG.out.on f2)
 have HC2 := Lib.hid (HC.out.on f2)
 have HN2 := Lib.hid (HN.out.on f2)
 have HZ2 := Lib.hid (HZ.out.on f2)
 have HS2 := Lib.hid (show W.heap.size ≤ w2.heap.size from f2.size)
 clear g0 g1 g2 g3 d0 d1 d2 d3 d4 d5 d6 d7 d8 d9 n0 n1 n2 n3 n4
 clear f2 HG HC HN HZ
 obtain ⟨g0, g1, g2, g3⟩ := HG2.out.g4
 obtain ⟨d0, d1, d2, d3, d4, d5, d6, d7, d8, d9⟩ := HC2.out.ch
 rw [HOP.out] at d0
 have n0 := HN2.out.c 0; have n1 := HN2.out.c 1; have n2 := HN2.out.c 2; have n3 := HN2.out.c 3; have n4 := HN2.out.c 4
 clear HPS
 cases bl with
 | false =>
  obtain ⟨z0, z1, z2, z3⟩ := HZ2.out.g4
  obtain ⟨y0, y1, y2, y3⟩ := HZ2.out.f4
  go_wp2
  refine g_ret2 rfl rfl rfl ((((HZ2.out.set_ 0 _).set_ 1 _).set_ 2 _).set_ 3 _) ?_
  have hb1 : w.heap.size ≤ w.heap.size + 1 + 1 + 1 := by omega
  have hE : EE = 20 := by rw [HEE.out]; rfl
  have hT : TT = zerG := by rw [HTT.out]; rfl
  exact ⟨none, none, 0, 0, by rw [hE, hT]; rfl, by rw [hT]; exact zerG_in _, fuwS (fuwS (fuwS (fuwS HF2.out hb1) hb1) hb1) hb1⟩
 | true =>
  have HET := Lib.hid (show EE = 0 ∧ TT = { g with es := putA Ed.id (⟨n.id, n.fr, n.to, n.ty, L⟩ : Ed) false g.es, ne := max g.ne (n.id + 1) } from ⟨by rw [HEE.out]; rfl, by rw [HTT.out]; rfl⟩)
  obtain ⟨X, hX⟩ : ∃ X, X = w2.setCell ⟨w.heap.size + 1 + 1, 4, none⟩ (.slice a1 L.length c1) := ⟨_, rfl⟩
  have nf := HN2.out.f 4
  go_upto_region 6 with fail
  rw [← hX]
  clear nf
  clear g0 g1 g2 g3 d0 d1 d2 d3 d4 d5 d6 d7 d8 d9 n0 n1 n2 n3 n4
  have hws := HWS.out
  have hs2 := HS2.out
  have fux : Fux (w.heap.size + 1 + 1) w2 X := by rw [hX]; exact (Fux.of (Fuw.refl w2)).set 4 _
  have fX : Fuw w X := Fux.via HF2.out fux (by omega)
  have hsX := slP_fux HN2.out fux (edg_noP _ _ _ _ _ _ _) HYF.out hs1
  have HNX := Lib.hid (show Bk X (w.heap.size + 1 + 1) #[.int .i64 n.id, .int .i64 n.fr, .int .i64 n.to, .string (bs n.ty), .slice a1 L.length c1] 53 from by rw [hX]; exact HN2.out.set_ 4 _)
  have HGX := Lib.hid (show Bk X w.heap.size #[.slice an g.ns.length cn, .slice ae g.es.length ce, .int .i64 g.nn, .int .i64 g.ne] 25 from by rw [hX]; exact HG2.out.far (by show w.heap.size ≠ w.heap.size + 1 + 1; omega) _)
  have HCX := Lib.hid (show Bk X (w.heap.size + 1) (chC c a k) 30 from by rw [hX]; exact HC2.out.far (by show w.heap.size + 1 ≠ w.heap.size + 1 + 1; omega) _)
  have HZX := Lib.hid (show Bk X (w.heap.size + 1 + 1 + 1) #[.slice none 0 0, .slice none 0 0, .int .i64 0, .int .i64 0] 25 from by rw [hX]; exact HZ2.out.far (by show w.heap.size + 1 + 1 + 1 ≠ w.heap.size + 1 + 1; omega) _)
  have HFX := Lib.hid fX
  obtain ⟨U, hU⟩ : ∃ U, U = putA Ed.id (⟨n.id, n.fr, n.to, n.ty, L⟩ : Ed) false g.es := ⟨_, rfl⟩
  have HPN := Lib.hid (rpute_any g an ae cn ce (⟨n.id, n.fr, n.to, n.ty, L⟩ : Ed)  a1  c1 X (HGI.out.on fX) HID.out ⟨HND.out.1, HND.out.2.1, HND.out.2.2.1, HND.out.2.2.2.1⟩  hsX HNS.out)
  have HFT := Lib.hid (show Flat { g with es := U, ne := max g.ne (n.id + 1) } from ⟨HFL.out.n, fun x hx p hp => by
   rw [hU] at hx
   rcases putA_mem Ed.id (⟨n.id, n.fr, n.to, n.ty, L⟩ : Ed) hx with e | e
   ·subst e; exact HYF.out p hp
   ·exact HFL.out.e x e p hp⟩)
  have HUU := Lib.hid hU
  rw [← hU] at HPN
  unfold grv edv at HPN
  simp only at HPN
  clear hX fux fX hsX hws hs2 hU HG2 HC2 HN2 HZ2 HF2
  obtain ⟨g0, g1, g2, g3⟩ := HGX.out.g4
  obtain ⟨d0, d1, d2, d3, d4, d5, d6, d7, d8, d9⟩ := HCX.out.ch
  rw [HOP.out] at d0
  have n0 := HNX.out.c 0; have n1 := HNX.out.c 1; have n2 := HNX.out.c 2; have n3 := HNX.out.c 3; have n4 := HNX.out.c 4
  go_wp2_with fail
  go_at_call 53; refine HPN.out.mono ?_; rintro e4 w4 ⟨a', c', rfl, hs4, f4⟩
  have HF4 := Lib.hid (HFX.out.trans f4)
  have HZ4 := Lib.hid (HZX.out.on f4)
  have HS4 := Lib.hid hs4
  clear g0 g1 g2 g3 d0 d1 d2 d3 d4 d5 d6 d7 d8 d9 n0 n1 n2 hs4 f4 n3 n4
  obtain ⟨z0, z1, z2, z3⟩ := HZ4.out.g4
  obtain ⟨y0, y1, y2, y3⟩ := HZ4.out.f4
  go_wp2
  refine g_ret2 rfl rfl rfl ((((HZ4.out.set_ 0 _).set_ 1 _).set_ 2 _).set_ 3 _) ?_
  have hb1 : w.heap.size ≤ w.heap.size + 1 + 1 + 1 := by omega
  have hE := HET.out.1
  have hT : TT = { g with es := U, ne := max g.ne (n.id + 1) } := by rw [HET.out.2, HUU.out]
  exact ⟨an, a', cn, c', by rw [hE, hT]; rfl, by rw [hT]; exact gin_fux HZ4.out ⟨(HGI.out.on HF4.out).n, HS4.out, HGI.out.i1, HIM.out⟩ HFT.out (fux_set4 _ _ _ _ _), fuwS (fuwS (fuwS (fuwS HF4.out hb1) hb1) hb1) hb1⟩
end Go.Proofs.YtpamdlkagmlahaaGreatDoor

namespace Go.Proofs.YtpamdlkagmlahaaGreatDoor
open Go.RowKit
theorem rstep_e (g : Gr) (an ae : Option Addr) (cn ce : Nat) (c : Ch) (a : Option Addr) (k : Nat) (w : World) (hg : GIn w g an ae cn ce) (hf : Fine g) (hi : ChIn w c a k) (ho : c.op = 7 ∨ c.op = 8) (hc : chkC c = 0) :
  Calls Tryz.prog 21 #[grv g an ae cn ce, .agg (chC c a k)] w (RetSt w (stpE g c) (stpT g c)) := by
 obtain ⟨W, hW⟩ : ∃ W, W = ((w.alloc (.cells #[.slice an g.ns.length cn, .slice ae g.es.length ce, .int .i64 g.nn, .int .i64 g.ne] 25)).alloc (.cells (chC c a k) 30)).alloc (.cells #[.slice none 0 0, .slice none 0 0, .int .i64 0, .int .i64 0] 25) := ⟨_, rfl⟩
 have fW : Fuw w W := by rw [hW]; exact ((fuwA _ _).trans (fuwA _ _)).trans (fuwA _ _)
 have HG := Lib.hid (show Bk W w.heap.size #[.slice an g.ns.length cn, .slice ae g.es.length ce, .int .i64 g.nn, .int .i64 g.ne] 25 from by rw [hW]; exact (Bk.new w _ _).on ((fuwA _ _).trans (fuwA _ _)))
 have HC := Lib.hid (show Bk W (w.heap.size + 1) (chC c a k) 30 from by
  rw [hW]
  have := Bk.new (w.alloc (.cells #[.slice an g.ns.length cn, .slice ae g.es.length ce, .int .i64 g.nn, .int .i64 g.ne] 25)) (chC c a k) 30
  exact Bk.on (by simpa using this) (fuwA _ _))
 have HZ := Lib.hid (show Bk W (w.heap.size + 1 + 1) #[.slice none 0 0, .slice none 0 0, .int .i64 0, .int .i64 0] 25 from by
  rw [hW]
  have := Bk.new ((w.alloc (.cells #[.slice an g.ns.length cn, .slice ae g.es.length ce, .int .i64 g.nn, .int .i64 g.ne] 25)).alloc (.cells (chC c a k) 30)) #[.slice none 0 0, .slice none 0 0, .int .i64 0, .int .i64 0] 25
  simpa using this)
 have HWS := Lib.hid (show W.heap.size = w.heap.size + 3 from by rw [hW]; simp)
 have HFW := Lib.hid fW
 have HGI := Lib.hid hg
 have HFI := Lib.hid hf
 have HCI := Lib.hid hi
 have HFL := Lib.hid (stpT_flat (c := c) hf)
 have HCK := Lib.hid (rchk8_any c a k W (hi.on fW))
 obtain ⟨V, hV⟩ : ∃ V, V = nodV g.ns c.id := ⟨_, rfl⟩
 have HVV := Lib.hid hV
 obtain ⟨m, hm⟩ : ∃ m, m = V.getD nilN := ⟨_, rfl⟩
 obtain ⟨s, hs⟩ : ∃ s, s = V.isSome := ⟨_, rfl⟩
 have HVM := Lib.hid hm
 have HVS := Lib.hid hs
 obtain ⟨Y, hY⟩ : ∃ Y, Y = edgV g.es c.id := ⟨_, rfl⟩
 have HYY := Lib.hid hY
 obtain ⟨x, hx⟩ : ∃ x, x = Y.getD nilE := ⟨_, rfl⟩
 obtain ⟨sx, hsx⟩ : ∃ sx, sx = Y.isSome := ⟨_, rfl⟩
 have HYM := Lib.hid hx
 have HYS := Lib.hid hsx
 have HNO := Lib.hid (fun (w' : World) (hf : Fuw w w') => rnode_any g an ae cn ce c.id w' (hg.on hf))
 have HED := Lib.hid (fun (w' : World) (hf : Fuw w w') => redge_any g an ae cn ce c.id w' (hg.on hf))
 have HCE := Lib.hid hc
 rw [← hV] at HNO
 rw [← hY] at HED
 unfold RetN grv ndv at HNO
 unfold RetE grv edv at HED
 rw [← hm, ← hs] at HNO
 rw [← hx, ← hsx] at HED
 rw [hc] at HCK
 have HO := Lib.hid ho
 obtain ⟨g0, g1, g2, g3⟩ := HG.out.g4
 obtain ⟨d0, d1, d2, d3, d4, d5, d6, d7, d8, d9⟩ := HC.out.ch
 unfold chC at hW HCK
 unfold grv
 unfold chC
 have o1 : (c.op == 1) = false := beq_eq_false_iff_ne.2 (by omega)
 have o6 : (c.op == 6) = false := beq_eq_false_iff_ne.2 (by omega)
 clear fW hg hi hf ho hc hV hm hs hY hx hsx
 go_enter Tryz.func21, Tryz.ntmps21
 go_upto_region 1 with fail
 rw [← hW]
 clear hW
 go_wp2_with fail
 go_at_call 10; refine HCK.out.mono ?_; rintro e1 w1 ⟨rfl, f1⟩
 have HF1 := Lib.hid (HFW.out.trans f1)
 have HG1 := Lib.hid (HG.out.on f1)
 have HC1 := Lib.hid (HC.out.on f1)
 have HZ1 := Lib.hid (HZ.out.on f1)
 have HS1 := Lib.hid (show W.heap.size ≤ w1.heap.size from f1.size)
 clear HCK f1 HG HC HZ
 clear g0 g1 g2 g3 d0 d1 d2 d3 d4 d5 d6 d7 d8 d9
 obtain ⟨g0, g1, g2, g3⟩ := HG1.out.g4
 obtain ⟨d0, d1, d2, d3, d4, d5, d6, d7, d8, d9⟩ := HC1.out.ch
 go_wp2_with fail
 go_at_call 50; refine (HNO.out _ HF1.out).mono ?_; rintro e2 w2 ⟨al, ap, kl, kp, rfl, hn2, f2⟩
 obtain ⟨X, hX⟩ : ∃ X, X = w2.alloc (.cells #[.int .i64 m.id, .slice al m.ls.length kl, .slice ap m.ps.length kp] 51) := ⟨_, rfl⟩
 have fX : Fuw w2 X := by rw [hX]; exact fuwA _ _
 have HFX := Lib.hid ((HF1.out.trans f2).trans fX)
 have HGX := Lib.hid ((HG1.out.on f2).on fX)
 have HCX := Lib.hid ((HC1.out.on f2).on fX)
 have HZX := Lib.hid ((HZ1.out.on f2).on fX)
 have HNX := Lib.hid (show Bk X w2.heap.size #[.int .i64 m.id, .slice al m.ls.length kl, .slice ap m.ps.length kp] 51 from by rw [hX]; exact Bk.new _ _ _)
 have HIX := Lib.hid (show NdIn X m al ap kl kp from hn2.on fX)
 have HSX := Lib.hid (show W.heap.size ≤ w2.heap.size from Nat.le_trans HS1.out f2.size)
 clear g0 g1 g2 g3 d0 d1 d2 d3 d4 d5 d6 d7 d8 d9
 clear hn2 f2 fX HG1 HC1 HZ1 HF1 HS1 HNO
 go_upto_region 5 with fail
 rw [← hX]
 clear hX
 generalize w2.heap.size = b2 at *
 obtain ⟨g0, g1, g2, g3⟩ := HGX.out.g4
 obtain ⟨d0, d1, d2, d3, d4, d5, d6, d7, d8, d9⟩ := HCX.out.ch
 go_wp2_with fail
 go_at_call 51; refine (HED.out _ HFX.out).mono ?_; rintro e3 w3 ⟨bp, lp, rfl, hn3, f3⟩
 obtain ⟨V3, hV3⟩ : ∃ V3, V3 = w3.alloc (.cells #[.int .i64 x.id, .int .i64 x.fr, .int .i64 x.to, .string (bs x.ty), .slice bp x.ps.length lp] 53) := ⟨_, rfl⟩
 have fV : Fuw w3 V3 := by rw [hV3]; exact fuwA _ _
 have HF3 := Lib.hid ((HFX.out.trans f3).trans fV)
 have HG3 := Lib.hid ((HGX.out.on f3).on fV)
 have HC3 := Lib.hid ((HCX.out.on f3).on fV)
 have HZ3 := Lib.hid ((HZX.out.on f3).on fV)
 have HN3 := Lib.hid ((HNX.out.on f3).on fV)
 have HE3 := Lib.hid (show Bk V3 w3.heap.size #[.int .i64 x.id, .int .i64 x.fr, .int .i64 x.to, .string (bs x.ty), .slice bp x.ps.length lp] 53 from by rw [hV3]; exact Bk.new _ _ _)
 have HI3 := Lib.hid ((HIX.out.on f3).on fV)
 have HJ3 := Lib.hid (show EdIn V3 x bp lp from hn3.on fV)
 clear g0 g1 g2 g3 d0 d1 d2 d3 d4 d5 d6 d7 d8 d9
 clear hn3 f3 fV HGX HCX HZX HFX HNX HIX HED
 go_upto_region 6 with fail
 rw [← hV3]
 clear hV3
 generalize w3.heap.size = b3 at *
 obtain ⟨g0, g1, g2, g3⟩ := HG3.out.g4
 obtain ⟨d0, d1, d2, d3, d4, d5, d6, d7, d8, d9⟩ := HC3.out.ch
 have hop78 := HO.out
 obtain ⟨b7, hb7⟩ : ∃ b, b = (c.op == 7) := ⟨_, rfl⟩
 have o8 : b7 = false → (c.op == 8) = true := fun e => by
  rw [e] at hb7
  have := beq_eq_false_iff_ne.1 hb7.symm
  rw [beq_iff_eq]; omega
 have o7 : (c.op == 7) = b7 := hb7.symm
 clear hop78 hb7
 cases b7 with
 | true =>
  clear o8
  cases sx with
  | false =>
   obtain ⟨z0, z1, z2, z3⟩ := HZ3.out.g4
   obtain ⟨y0, y1, y2, y3⟩ := HZ3.out.f4
   go_wp2
   refine g_ret2 rfl rfl rfl ((((HZ3.out.set_ 0 _).set_ 1 _).set_ 2 _).set_ 3 _) ?_
   have hb1 : w.heap.size ≤ w.heap.size + 1 + 1 := by omega
   have hV0 : edgV g.es c.id = none := by
    rw [← HYY.out]
    have := HYS.out
    cases hv : Y with
    | none => rfl
    | some z => rw [hv] at this; cases this
   have hE : stpE g c = 11 := stpE_e0 HCE.out HO.out hV0
   have hT : stpT g c = zerG := stpT_no (by rw [hE]; decide)
   exact ⟨none, none, 0, 0, by rw [hE, hT]; rfl, by rw [hT]; exact zerG_in _, fuwS (fuwS (fuwS (fuwS HF3.out hb1) hb1) hb1) hb1⟩
  | true =>
   have hV1 : edgV g.es c.id = some x := by
    rw [← HYY.out]
    have := HYS.out
    have hm := HYM.out
    cases hv : Y with
    | none => rw [hv] at this; cases this
    | some z => rw [hv] at hm; rw [hm]; rfl
   obtain ⟨kk, AA, hgg, hmm, hii⟩ := at_e HFI.out hV1
   have HR := Lib.hid (show Calls Tryz.prog 54 #[grv g an ae cn ce, .agg (chC c a k), edv x bp lp] V3 (RetSt V3 (stpE g c) (stpT g c)) from by
    have hg := HGI.out.on HF3.out
    have hl := HFI.out.flat
    have hi := HCI.out.on HF3.out
    have hd := HJ3.out
    rcases HO.out with h | h
    ·have hr := ref7 HCE.out HFI.out h hV1
     rw [← hr.1, ← hr.2]
     exact rone_del g an ae cn ce c a k x bp lp V3 hg hl hi hd h (by have := HFI.out.e; omega)
    ·have hr := ref8 HCE.out HFI.out h hV1
     rw [← hr.1, ← hr.2]
     exact rone_set g an ae cn ce c a k x bp lp V3 hg hl hi hd h (by have := (HFI.out.ef x hmm).lo; have := (HFI.out.ef x hmm).hi; have := HFI.out.ne; omega) (by have := HFI.out.ne; omega) (by have := HFI.out.e; omega) (HFI.out.flat.e x hmm) (by have := (HFI.out.ef x hmm).p.p16; omega) (chk_flat HCE.out))
   unfold RetSt grv edv chC at HR
   clear hV1 AA hgg hmm hii
   have e0 := HE3.out.c 0; have e1 := HE3.out.c 1; have e2 := HE3.out.c 2; have e3 := HE3.out.c 3; have e4 := HE3.out.c 4
   go_wp2_with fail
   go_at_call 54; refine HR.out.mono ?_; rintro e9 w4 ⟨xn, xe, yn, ye, rfl, hg4, f4⟩
   have HF4 := Lib.hid (HF3.out.trans f4)
   have HZ4 := Lib.hid (HZ3.out.on f4)
   have HG4 := Lib.hid hg4
   clear hg4 f4 e0 e1 e2 e3 e4 g0 g1 g2 g3 d0 d1 d2 d3 d4 d5 d6 d7 d8 d9
   generalize stpT g c = T at *
   generalize stpE g c = R at *
   obtain ⟨z0, z1, z2, z3⟩ := HZ4.out.g4
   obtain ⟨y0, y1, y2, y3⟩ := HZ4.out.f4
   go_wp2
   refine g_ret2 rfl rfl rfl ((((HZ4.out.set_ 0 _).set_ 1 _).set_ 2 _).set_ 3 _) ?_
   exact retSt_box HZ4.out HG4.out HFL.out HF4.out (by omega) rfl
 | false =>
  have o8 := o8 rfl
  cases sx with
  | false =>
   obtain ⟨z0, z1, z2, z3⟩ := HZ3.out.g4
   obtain ⟨y0, y1, y2, y3⟩ := HZ3.out.f4
   go_wp2
   refine g_ret2 rfl rfl rfl ((((HZ3.out.set_ 0 _).set_ 1 _).set_ 2 _).set_ 3 _) ?_
   have hb1 : w.heap.size ≤ w.heap.size + 1 + 1 := by omega
   have hV0 : edgV g.es c.id = none := by
    rw [← HYY.out]
    have := HYS.out
    cases hv : Y with
    | none => rfl
    | some z => rw [hv] at this; cases this
   have hE : stpE g c = 11 := stpE_e0 HCE.out HO.out hV0
   have hT : stpT g c = zerG := stpT_no (by rw [hE]; decide)
   exact ⟨none, none, 0, 0, by rw [hE, hT]; rfl, by rw [hT]; exact zerG_in _, fuwS (fuwS (fuwS (fuwS HF3.out hb1) hb1) hb1) hb1⟩
  | true =>
   have hV1 : edgV g.es c.id = some x := by
    rw [← HYY.out]
    have := HYS.out
    have hm := HYM.out
    cases hv : Y with
    | none => rw [hv] at this; cases this
    | some z => rw [hv] at hm; rw [hm]; rfl
   obtain ⟨kk, AA, hgg, hmm, hii⟩ := at_e HFI.out hV1
   have HR := Lib.hid (show Calls Tryz.prog 54 #[grv g an ae cn ce, .agg (chC c a k), edv x bp lp] V3 (RetSt V3 (stpE g c) (stpT g c)) from by
    have hg := HGI.out.on HF3.out
    have hl := HFI.out.flat
    have hi := HCI.out.on HF3.out
    have hd := HJ3.out
    rcases HO.out with h | h
    ·have hr := ref7 HCE.out HFI.out h hV1
     rw [← hr.1, ← hr.2]
     exact rone_del g an ae cn ce c a k x bp lp V3 hg hl hi hd h (by have := HFI.out.e; omega)
    ·have hr := ref8 HCE.out HFI.out h hV1
     rw [← hr.1, ← hr.2]
     exact rone_set g an ae cn ce c a k x bp lp V3 hg hl hi hd h (by have := (HFI.out.ef x hmm).lo; have := (HFI.out.ef x hmm).hi; have := HFI.out.ne; omega) (by have := HFI.out.ne; omega) (by have := HFI.out.e; omega) (HFI.out.flat.e x hmm) (by have := (HFI.out.ef x hmm).p.p16; omega) (chk_flat HCE.out))
   unfold RetSt grv edv chC at HR
   clear hV1 AA hgg hmm hii
   have e0 := HE3.out.c 0; have e1 := HE3.out.c 1; have e2 := HE3.out.c 2; have e3 := HE3.out.c 3; have e4 := HE3.out.c 4
   go_wp2_with fail
   go_at_call 54; refine HR.out.mono ?_; rintro e9 w4 ⟨xn, xe, yn, ye, rfl, hg4, f4⟩
   have HF4 := Lib.hid (HF3.out.trans f4)
   have HZ4 := Lib.hid (HZ3.out.on f4)
   have HG4 := Lib.hid hg4
   clear hg4 f4 e0 e1 e2 e3 e4 g0 g1 g2 g3 d0 d1 d2 d3 d4 d5 d6 d7 d8 d9
   generalize stpT g c = T at *
   generalize stpE g c = R at *
   obtain ⟨z0, z1, z2, z3⟩ := HZ4.out.g4
   obtain ⟨y0, y1, y2, y3⟩ := HZ4.out.f4
   go_wp2
   refine g_ret2 rfl rfl rfl ((((HZ4.out.set_ 0 _).set_ 1 _).set_ 2 _).set_ 3 _) ?_
   exact retSt_box HZ4.out HG4.out HFL.out HF4.out (by omega) rfl
end Go.Proofs.YtpamdlkagmlahaaGreatDoor

namespace Go.Proofs.YtpamdlkagmlahaaGreatDoor
open Go.RowKit
theorem rstep8_any (g : Gr) (an ae : Option Addr) (cn ce : Nat) (c : Ch) (a : Option Addr) (k : Nat) (w : World) (hg : GIn w g an ae cn ce) (hf : Fine g) (hi : ChIn w c a k) :
  Calls Tryz.prog 21 #[grv g an ae cn ce, .agg (chC c a k)] w (RetSt w (stpE g c) (stpT g c)) := by
 by_cases hc : chkC c = 0
 ·have ho := chk_op hc
  have : c.op = 1 ∨ c.op = 2 ∨ c.op = 3 ∨ c.op = 4 ∨ c.op = 5 ∨ c.op = 6 ∨ c.op = 7 ∨ c.op = 8 := by omega
  rcases this with h | h | h | h | h | h | h | h
  ·exact rstep_1 g an ae cn ce c a k w hg hf hi h hc
  ·exact rstep_n g an ae cn ce c a k w hg hf hi (by omega) hc
  ·exact rstep_n g an ae cn ce c a k w hg hf hi (by omega) hc
  ·exact rstep_n g an ae cn ce c a k w hg hf hi (by omega) hc
  ·exact rstep_n g an ae cn ce c a k w hg hf hi (by omega) hc
  ·exact rstep_6 g an ae cn ce c a k w hg hf hi h hc
  ·exact rstep_e g an ae cn ce c a k w hg hf hi (by omega) hc
  ·exact rstep_e g an ae cn ce c a k w hg hf hi (by omega) hc
 ·exact rstep_bad g an ae cn ce c a k w hg hf hi hc
end Go.Proofs.YtpamdlkagmlahaaGreatDoor
