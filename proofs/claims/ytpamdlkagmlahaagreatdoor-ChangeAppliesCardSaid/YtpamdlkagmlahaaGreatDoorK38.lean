/-
  RbC; RaA: texts of one kind in one file; each part says what it holds.
-/
import Derived.Test.YtpamdlkagmlahaaGreatDoorK37
import Derived.Test.YtpamdlkagmlahaaGreatDoorK36
import Derived.Test.YtpamdlkagmlahaaGreatDoorK22

set_option maxHeartbeats 6400000
set_option maxRecDepth 100000
namespace Go.Proofs.YtpamdlkagmlahaaGreatDoor
open Go.RowKit
theorem one_LE (n : Ed) (m : AC) : ∀ u ∈ LE.C n m, u.oneCell' = true := by
 intro u hu
 unfold LE at hu
 simp only [List.mem_cons, List.not_mem_nil, or_false] at hu
 rcases hu with rfl | rfl | rfl | rfl | rfl <;> rfl
def EOk (w : World) (ps : List (Ed × AC)) : Prop := ∀ p ∈ ps, LE.I p.1 ∧ LE.J p.1 p.2 w
theorem EOk.snoc {w : World} {ps : List (Ed × AC)} {p : Ed × AC} (h : EOk w ps) (h1 : LE.I p.1) (h2 : LE.J p.1 p.2 w) : EOk w (ps ++ [p]) := fun q hq => by
 rcases List.mem_append.1 hq with e | e
 ·exact h q e
 ·rw [List.mem_singleton] at e; subst e; exact ⟨h1, h2⟩
theorem LEJ_on {n : Ed} {m : AC} {w w' : World} (h : LE.J n m w) (hf : Fuw w w') : LE.J n m w' := slP_on hf h
theorem rpute_any (g : Gr) (an ae : Option Addr) (cn ce : Nat) (y : Ed) (ap : Option Addr) (kp : Nat) (w : World) (hg : GIn w g an ae cn ce) (hi : -1000000000000 ≤ y.id ∧ y.id ≤ 1000000000000) (hI : LE.I y) (h2 : SlP w ap y.ps kp) (hn : g.es.length ≤ 100000) :
  Calls Tryz.prog 53 #[grv g an ae cn ce, edv y ap kp] w fun e w' => ∃ a c, e = .returned (.agg #[.slice an g.ns.length cn, .slice a (putA Ed.id y false g.es).length c, .int .i64 g.nn, .int .i64 (max g.ne (y.id + 1))]) ∧ SlE w' a (putA Ed.id y false g.es) c ∧ Fuw w w' := by
 obtain ⟨i0, hi0, hz0, hz1, hz2⟩ := info_parts infoE
 obtain ⟨W, hW⟩ : ∃ W, W = ((w.alloc (.cells #[.slice an g.ns.length cn, .slice ae g.es.length ce, .int .i64 g.nn, .int .i64 g.ne] 25)).alloc (.cells #[.int .i64 y.id, .int .i64 y.fr, .int .i64 y.to, .string (bs y.ty), .slice ap y.ps.length kp] 53)).alloc (.cells #[.slice none 0 0, .slice none 0 0, .int .i64 0, .int .i64 0] 25) := ⟨_, rfl⟩
 have fW : Fuw w W := by rw [hW]; exact ((fuwA _ _).trans (fuwA _ _)).trans (fuwA _ _)
 have HG := Lib.hid (show Bk W w.heap.size #[.slice an g.ns.length cn, .slice ae g.es.length ce, .int .i64 g.nn, .int .i64 g.ne] 25 from by rw [hW]; exact ((Bk.new w _ _).on (fuwA _ _)).on (fuwA _ _))
 have HN := Lib.hid (show Bk W (w.heap.size + 1) #[.int .i64 y.id, .int .i64 y.fr, .int .i64 y.to, .string (bs y.ty), .slice ap y.ps.length kp] 53 from by
  rw [hW]
  have := Bk.new (w.alloc (.cells #[.slice an g.ns.length cn, .slice ae g.es.length ce, .int .i64 g.nn, .int .i64 g.ne] 25)) #[.int .i64 y.id, .int .i64 y.fr, .int .i64 y.to, .string (bs y.ty), .slice ap y.ps.length kp] 53
  exact Bk.on (by simpa using this) (fuwA _ _))
 have HZ := Lib.hid (show Bk W (w.heap.size + 1 + 1) #[.slice none 0 0, .slice none 0 0, .int .i64 0, .int .i64 0] 25 from by
  rw [hW]
  have := Bk.new ((w.alloc (.cells #[.slice an g.ns.length cn, .slice ae g.es.length ce, .int .i64 g.nn, .int .i64 g.ne] 25)).alloc (.cells #[.int .i64 y.id, .int .i64 y.fr, .int .i64 y.to, .string (bs y.ty), .slice ap y.ps.length kp] 53)) #[.slice none 0 0, .slice none 0 0, .int .i64 0, .int .i64 0] 25
  simpa using this)
 have HWS := Lib.hid (show W.heap.size = w.heap.size + 3 from by rw [hW]; simp)
 have HFW := Lib.hid fW
 have HS := Lib.hid hg.e
 have HJ := Lib.hid (show LE.I y ∧ LE.J y (ap, kp) w from ⟨hI, h2⟩)
 obtain ⟨U, hU⟩ : ∃ U, U = putA Ed.id y false g.es := ⟨_, rfl⟩
 have HU := Lib.hid (show U = ([] : List (Ed × AC)).map Prod.fst ++ putA Ed.id y false (g.es.drop 0) from hU)
 rw [← hU]
 have hnl := hg.e.len
 unfold grv edv
 clear fW hg hI h2 hU
 go_enter Tryz.func53, Tryz.ntmps53
 go_wp2_with fail
 rw [← hW]
 clear hW
 go_loopw [5, 6, 7] (fun lv dv iv wr => ∃ (i : Nat) (d : Bool) (ps : List (Ed × AC)), dv = .bool d ∧ iv = .int .i64 i ∧ i ≤ g.es.length ∧ ps.length ≤ 2 * i ∧ wr.ownsRow W.heap.size 53 5 lv ps.length (LE.cs ps) ∧ Hid (U = ps.map Prod.fst ++ putA Ed.id y d (g.es.drop i)) ∧ Hid (EOk w ps) ∧ Hid (Fuw W wr)) (fun _ _ iv _ => g.es.length - (RowKit.intOf iv).toNat)
 case atStart => exact ⟨0, false, [], rfl, rfl, Nat.zero_le _, Nat.zero_le _, World.ownsRow_nil _ _ _ _, HU, Lib.hid (fun _ h => by cases h), Lib.hid (Fuw.refl _)⟩
 case round =>
  obtain ⟨i, d, ps, rfl, rfl, hii, hps, hown, HQ, HK, HF⟩ := hrel
  generalize wr = wo at *
  have g0 := (HG.out.on HF.out).c 0; have g1 := (HG.out.on HF.out).c 1; have g2 := (HG.out.on HF.out).c 2; have g3 := (HG.out.on HF.out).c 3
  have n0 := (HN.out.on HF.out).c 0; have n1 := (HN.out.on HF.out).c 1; have n2 := (HN.out.on HF.out).c 2; have n3 := (HN.out.on HF.out).c 3; have n4 := (HN.out.on HF.out).c 4
  by_cases hlt : i < g.es.length
  ·obtain ⟨b, o, rfl, x0, x1, x2, x3, c0', c1', c2', c3', ap', cp', c4', s2'⟩ := HS.out.get hlt
   have fa := HFW.out.trans HF.out
   have c0 := cellOnw fa c0'; have c1 := cellOnw fa c1'; have c2 := cellOnw fa c2'; have c3 := cellOnw fa c3'; have c4 := cellOnw fa c4'
   have HD := Lib.hid (HQ.out.trans (by rw [putA_drop Ed.id y d g.es i hlt]))
   have HX := Lib.hid (show LE.I g.es[i] ∧ LE.J g.es[i] (ap', cp') w from ⟨⟨x0, x1, x2, x3⟩, s2'⟩)
   have hli : (i : Int) < (g.es.length : Int) := by omega
   have HC0 := Lib.hid c0'; have HC1 := Lib.hid c1'; have HC2 := Lib.hid c2'; have HC3 := Lib.hid c3'; have HC4 := Lib.hid c4'
   clear fa c0' c1' c2' c3' c4' s2' x0 x1 x2 x3
   generalize g.es[i] = x at *
   cases d with
   | true =>
    by_cases hk : x.id = y.id
    ·have HZ2 := Lib.hid (show U = ps.map Prod.fst ++ putA Ed.id y true (g.es.drop (i + 1)) from by rw [HD.out]; simp [hk])
     have hkb : (x.id == y.id) = true := by rw [hk]; exact beq_self_eq_true _
     have hkc : (x.id != y.id) = false := by rw [bne, hkb]; rfl
     go_upto_region 6 with fail
     go_region
     go_upto_region 9 with fail
     go_region
     go_wp2
     go_roundw
     case rel => exact ⟨i + 1, true, ps, rfl, by go_num, by omega, by omega, own_heap hown fun _ _ => rfl, HZ2, HK, Lib.hid (HF.out.trans ((Fuw.drew (Fuw.refl wo)).trans (Fuw.drew (Fuw.refl wo.drew))))⟩
     case measure => simp [RowKit.intOf]; omega
    ·have HZ2 := Lib.hid (show U = (ps ++ [(x, (ap', cp'))]).map Prod.fst ++ putA Ed.id y true (g.es.drop (i + 1)) from by rw [HD.out]; simp [hk])
     have hkb : (x.id == y.id) = false := beq_eq_false_iff_ne.2 hk
     have hkc : (x.id != y.id) = true := by rw [bne_iff_ne]; exact hk
     go_upto_region 6 with fail
     go_region
     go_upto_region 9 with fail
     go_region
     have hw2 : Fuw wo wo.drew.drew := (Fuw.drew (Fuw.refl wo)).trans (Fuw.drew (Fuw.refl wo.drew))
     have HF2 := Lib.hid (HF.out.trans hw2)
     replace hown : (wo.drew.drew).ownsRow W.heap.size 53 5 u5 ps.length (LE.cs ps) := own_heap hown fun _ _ => rfl
     go_upto_region 10 with fail
     go_wp2_with (at_builtin; refine wpList_append_own_at _ rfl (.tmp 41) (.tmp 47) 23 rfl W.heap.size 53 i0 _ 5 64 Tryz.underlying23 hi0 hz0 hz1 hz2 rfl (by decide) _ ps.length (LE.cs ps) rfl (hown.alloc _) ⟨(wo.drew.drew).heap.size, 0, none⟩ 1 1 (LE.C x (ap', cp')) rfl rfl (World.news_of_block (heap_alloc_new (wo.drew.drew) _)) (one_LE _ _) (by unfold maxLen; (try rw [List.length_append]); (try simp only [List.length_cons, List.length_nil]); omega) (by (try rw [List.length_append]); (try simp only [List.length_cons, List.length_nil]); omega) (by have := HF2.out.size; simp at this ⊢; omega) ?_; intro v5 w5 hown5 hgrow _ _)
     have HF5 := Lib.hid (show Fuw W w5 from Below.grown (HF2.out.alloc _) hgrow (HF2.out.alloc _).size (fun k hk => (hown.lt k hk).1))
     have hown6 : w5.ownsRow W.heap.size 53 5 v5 (ps ++ [(x, (ap', cp'))]).length (LE.cs (ps ++ [(x, (ap', cp'))])) := by
      rw [LE.cs_app, LE.cs_one, List.length_append]; exact hown5
     clear hown5 hgrow hown hw2
     go_wp2
     go_roundw
     case rel => exact ⟨i + 1, true, (ps ++ [(x, (ap', cp'))]), rfl, by go_num, by omega, (by (try rw [List.length_append]); (try rw [List.length_append]); simp only [List.length_cons, List.length_nil]; omega), hown6, HZ2, Lib.hid (HK.out.snoc HX.out.1 HX.out.2), HF5⟩
     case measure => simp [RowKit.intOf]; omega
   | false =>
    by_cases hy : y.id ≤ x.id
    ·have hyb : ¬ x.id < y.id := by omega
     go_upto_region 6 with fail
     go_region
     have hw2 : Fuw wo wo.drew := Fuw.drew (Fuw.refl wo)
     have HF2 := Lib.hid (HF.out.trans hw2)
     replace hown : (wo.drew).ownsRow W.heap.size 53 5 u5 ps.length (LE.cs ps) := own_heap hown fun _ _ => rfl
     go_upto_region 8 with (at_builtin; refine wpList_append_own_at _ rfl (.tmp 28) (.tmp 30) 23 rfl W.heap.size 53 i0 _ 5 64 Tryz.underlying23 hi0 hz0 hz1 hz2 rfl (by decide) _ ps.length (LE.cs ps) rfl (hown.alloc _) ⟨(wo.drew).heap.size, 0, none⟩ 1 1 (LE.C y (ap, kp)) rfl rfl (World.news_of_block (heap_alloc_new (wo.drew) _)) (one_LE _ _) (by unfold maxLen; (try rw [List.length_append]); (try simp only [List.length_cons, List.length_nil]); omega) (by (try rw [List.length_append]); (try simp only [List.length_cons, List.length_nil]); omega) (by have := HF2.out.size; simp at this ⊢; omega) ?_; intro v5 w5 hown5 hgrow _ _)
     have HF5 := Lib.hid (show Fuw W w5 from Below.grown (HF2.out.alloc _) hgrow (HF2.out.alloc _).size (fun k hk => (hown.lt k hk).1))
     have hown6 : w5.ownsRow W.heap.size 53 5 v5 (ps ++ [(y, (ap, kp))]).length (LE.cs (ps ++ [(y, (ap, kp))])) := by
      rw [LE.cs_app, LE.cs_one, List.length_append]; exact hown5
     clear hown5 hgrow hown hw2
     clear g0 g1 g2 g3 n0 n1 n2 n3 n4 c0 c1 c2 c3 c4
     have g1 := (HG.out.on HF5.out).c 1; have n0 := (HN.out.on HF5.out).c 0
     have c0 := cellOnw (HFW.out.trans HF5.out) HC0.out
     generalize hps2 : ps ++ [(y, (ap, kp))] = ps2 at *
     have HK2 := Lib.hid (show EOk w ps2 from by rw [← hps2]; exact HK.out.snoc HJ.out.1 HJ.out.2)
     have hl2 : ps2.length ≤ 2 * i + 1 := by rw [← hps2, List.length_append]; simp only [List.length_cons, List.length_nil]; omega
     have hm2 : ps2.map Prod.fst = ps.map Prod.fst ++ [y] := by rw [← hps2, List.map_append]; rfl
     clear hps2
     by_cases hk : x.id = y.id
     ·have HZ2 := Lib.hid (show U = ps2.map Prod.fst ++ putA Ed.id y true (g.es.drop (i + 1)) from by rw [HD.out, hm2]; simp [hk])
      have hkb : (x.id == y.id) = true := by rw [hk]; exact beq_self_eq_true _
      have hkc : (x.id != y.id) = false := by rw [bne, hkb]; rfl
      go_upto_region 9 with fail
      go_region
      go_wp2
      go_roundw
      case rel => exact ⟨i + 1, true, ps2, rfl, by go_num, by omega, by omega, own_heap hown6 fun _ _ => rfl, HZ2, HK2, Lib.hid (HF5.out.trans (Fuw.drew (Fuw.refl w5)))⟩
      case measure => simp [RowKit.intOf]; omega
     ·have HZ2 := Lib.hid (show U = (ps2 ++ [(x, (ap', cp'))]).map Prod.fst ++ putA Ed.id y true (g.es.drop (i + 1)) from by rw [HD.out, List.map_append, hm2]; simp [hk, hy])
      have hkb : (x.id == y.id) = false := beq_eq_false_iff_ne.2 hk
      have hkc : (x.id != y.id) = true := by rw [bne_iff_ne]; exact hk
      go_upto_region 9 with fail
      go_region
      have c1 := cellOnw (HFW.out.trans HF5.out) HC1.out; have c2 := cellOnw (HFW.out.trans HF5.out) HC2.out; have c3 := cellOnw (HFW.out.trans HF5.out) HC3.out; have c4 := cellOnw (HFW.out.trans HF5.out) HC4.out
      have hown := hown6
      have hw2 : Fuw w5 w5.drew := Fuw.drew (Fuw.refl w5)
      have HF2 := Lib.hid (HF5.out.trans hw2)
      replace hown : (w5.drew).ownsRow W.heap.size 53 5 v5 ps2.length (LE.cs ps2) := own_heap hown fun _ _ => rfl
      go_upto_region 10 with fail
      go_wp2_with (at_builtin; refine wpList_append_own_at _ rfl (.tmp 41) (.tmp 47) 23 rfl W.heap.size 53 i0 _ 5 64 Tryz.underlying23 hi0 hz0 hz1 hz2 rfl (by decide) _ ps2.length (LE.cs ps2) rfl (hown.alloc _) ⟨(w5.drew).heap.size, 0, none⟩ 1 1 (LE.C x (ap', cp')) rfl rfl (World.news_of_block (heap_alloc_new (w5.drew) _)) (one_LE _ _) (by unfold maxLen; (try rw [List.length_append]); (try simp only [List.length_cons, List.length_nil]); omega) (by (try rw [List.length_append]); (try simp only [List.length_cons, List.length_nil]); omega) (by have := HF2.out.size; simp at this ⊢; omega) ?_; intro v7 w7 hown5 hgrow _ _)
      have HF7 := Lib.hid (show Fuw W w7 from Below.grown (HF2.out.alloc _) hgrow (HF2.out.alloc _).size (fun k hk => (hown.lt k hk).1))
      have hown7 : w7.ownsRow W.heap.size 53 5 v7 (ps2 ++ [(x, (ap', cp'))]).length (LE.cs (ps2 ++ [(x, (ap', cp'))])) := by
       rw [LE.cs_app, LE.cs_one, List.length_append]; exact hown5
      clear hown5 hgrow hown hw2
      go_wp2
      go_roundw
      case rel => exact ⟨i + 1, true, (ps2 ++ [(x, (ap', cp'))]), rfl, by go_num, by omega, (by (try rw [List.length_append]); (try rw [List.length_append]); simp only [List.length_cons, List.length_nil]; omega), hown7, HZ2, Lib.hid (HK2.out.snoc HX.out.1 HX.out.2), HF7⟩
      case measure => simp [RowKit.intOf]; omega
    ·have hyb : x.id < y.id := by omega
     have hk : ¬ x.id = y.id := by omega
     have hkb : (x.id == y.id) = false := beq_eq_false_iff_ne.2 hk
     have hkc : (x.id != y.id) = true := by rw [bne_iff_ne]; exact hk
     have HZ2 := Lib.hid (show U = (ps ++ [(x, (ap', cp'))]).map Prod.fst ++ putA Ed.id y false (g.es.drop (i + 1)) from by rw [HD.out]; simp [hk, hy])
     go_upto_region 6 with fail
     go_region
     go_upto_region 9 with fail
     go_region
     have hw2 : Fuw wo wo.drew.drew := (Fuw.drew (Fuw.refl wo)).trans (Fuw.drew (Fuw.refl wo.drew))
     have HF2 := Lib.hid (HF.out.trans hw2)
     replace hown : (wo.drew.drew).ownsRow W.heap.size 53 5 u5 ps.length (LE.cs ps) := own_heap hown fun _ _ => rfl
     go_upto_region 10 with fail
     go_wp2_with (at_builtin; refine wpList_append_own_at _ rfl (.tmp 41) (.tmp 47) 23 rfl W.heap.size 53 i0 _ 5 64 Tryz.underlying23 hi0 hz0 hz1 hz2 rfl (by decide) _ ps.length (LE.cs ps) rfl (hown.alloc _) ⟨(wo.drew.drew).heap.size, 0, none⟩ 1 1 (LE.C x (ap', cp')) rfl rfl (World.news_of_block (heap_alloc_new (wo.drew.drew) _)) (one_LE _ _) (by unfold maxLen; (try rw [List.length_append]); (try simp only [List.length_cons, List.length_nil]); omega) (by (try rw [List.length_append]); (try simp only [List.length_cons, List.length_nil]); omega) (by have := HF2.out.size; simp at this ⊢; omega) ?_; intro v5 w5 hown5 hgrow _ _)
     have HF5 := Lib.hid (show Fuw W w5 from Below.grown (HF2.out.alloc _) hgrow (HF2.out.alloc _).size (fun k hk => (hown.lt k hk).1))
     have hown6 : w5.ownsRow W.heap.size 53 5 v5 (ps ++ [(x, (ap', cp'))]).length (LE.cs (ps ++ [(x, (ap', cp'))])) := by
      rw [LE.cs_app, LE.cs_one, List.length_append]; exact hown5
     clear hown5 hgrow hown hw2
     go_wp2
     go_roundw
     case rel => exact ⟨i + 1, false, (ps ++ [(x, (ap', cp'))]), rfl, by go_num, by omega, (by (try rw [List.length_append]); (try rw [List.length_append]); simp only [List.length_cons, List.length_nil]; omega), hown6, HZ2, Lib.hid (HK.out.snoc HX.out.1 HX.out.2), HF5⟩
     case measure => simp [RowKit.intOf]; omega
  ·have hie : i = g.es.length := by omega
   subst hie
   clear hii hlt
   have hd0 : g.es.drop g.es.length = [] := List.drop_of_length_le (Nat.le_refl _)
   cases d with
   | true =>
    have HU2 := Lib.hid (show U = ps.map Prod.fst from by rw [HQ.out, hd0]; show _ ++ [] = _; rw [List.append_nil])
    clear g0 g1 g2 g3 n0 n1 n2 n3 n4 hd0 HQ
    generalize wo = wq at *
    have HX := Lib.hid (show ∀ X : World, (∀ k, W.heap.size ≤ k → X.heap[k]? = wq.heap[k]?) → Fuw w X → ∃ a c, u5 = .slice a U.length c ∧ SlE X a U c from fun X hx hf => by
     have hox : X.ownsRow W.heap.size 53 5 u5 ps.length (LE.cs ps) := own_heap hown fun k hk => hx k (hown.lt k hk).1
     obtain ⟨a, c, e, -, hs⟩ := Lay.sl_own (Y := LE) hox (fun p hp => (HK.out p hp).1) (fun p hp => LEJ_on (HK.out p hp).2 hf)
     have hu : ps.map Prod.fst = U := HU2.out.symm
     rw [hu] at hs
     exact ⟨a, c, by rw [e, ← hu, List.length_map], hs⟩)
    obtain ⟨a, c, e5, -⟩ := HX.out wq (fun _ _ => rfl) (HFW.out.trans HF.out)
    subst e5
    have HGQ := Lib.hid (HG.out.on HF.out)
    have HZQ := Lib.hid (HZ.out.on HF.out)
    have g0 := HGQ.out.c 0; have g1 := HGQ.out.c 1; have g2 := HGQ.out.c 2; have g3 := HGQ.out.c 3
    have n0 := (HN.out.on HF.out).c 0
    have f0 := HGQ.out.f 0; have f1 := HGQ.out.f 1; have f2 := HGQ.out.f 2; have f3 := HGQ.out.f 3
    have z0 := HZQ.out.c 0; have z1 := HZQ.out.c 1; have z2 := HZQ.out.c 2; have z3 := HZQ.out.c 3
    have y0 := HZQ.out.f 0; have y1 := HZQ.out.f 1; have y2 := HZQ.out.f 2; have y3 := HZQ.out.f 3
    clear hown
    go_wp2
    refine g_ret rfl rfl ((((((HZQ.out.far (show w.heap.size + 1 + 1 ≠ w.heap.size by omega) _).far (show w.heap.size + 1 + 1 ≠ w.heap.size by omega) _).set_ 0 _).set_ 1 _).set_ 2 _).set_ 3 _) ?_
    have hws := HWS.out
    have hb : w.heap.size ≤ w.heap.size + 1 + 1 := by omega
    obtain ⟨a', c', e', hs⟩ := HX.out _ (fun k hk => (Below.heap_setCell _ ⟨w.heap.size + 1 + 1, 3, none⟩ _ k (show k ≠ w.heap.size + 1 + 1 by omega)).trans ((Below.heap_setCell _ ⟨w.heap.size + 1 + 1, 2, none⟩ _ k (show k ≠ w.heap.size + 1 + 1 by omega)).trans ((Below.heap_setCell _ ⟨w.heap.size + 1 + 1, 1, none⟩ _ k (show k ≠ w.heap.size + 1 + 1 by omega)).trans ((Below.heap_setCell _ ⟨w.heap.size + 1 + 1, 0, none⟩ _ k (show k ≠ w.heap.size + 1 + 1 by omega)).trans ((Below.heap_setCell _ ⟨w.heap.size, 3, none⟩ _ k (show k ≠ w.heap.size by omega)).trans (Below.heap_setCell _ ⟨w.heap.size, 1, none⟩ _ k (show k ≠ w.heap.size by omega))))))) (fuwS (fuwS (fuwS (fuwS (fuwS (fuwS (HFW.out.trans HF.out) (Nat.le_refl _)) (Nat.le_refl _)) hb) hb) hb) hb)
    injection e' with e1 _ e2
    subst e1 e2
    exact ⟨a, c, rfl, hs, fuwS (fuwS (fuwS (fuwS (fuwS (fuwS (HFW.out.trans HF.out) (Nat.le_refl _)) (Nat.le_refl _)) hb) hb) hb) hb⟩
   | false =>
    have hw2 : Fuw wo wo := Fuw.refl wo
    have HF2 := Lib.hid (HF.out.trans hw2)
    replace hown : (wo).ownsRow W.heap.size 53 5 u5 ps.length (LE.cs ps) := own_heap hown fun _ _ => rfl
    go_upto_region 13 with (at_builtin; refine wpList_append_own_at _ rfl (.tmp 51) (.tmp 53) 23 rfl W.heap.size 53 i0 _ 5 64 Tryz.underlying23 hi0 hz0 hz1 hz2 rfl (by decide) _ ps.length (LE.cs ps) rfl (hown.alloc _) ⟨(wo).heap.size, 0, none⟩ 1 1 (LE.C y (ap, kp)) rfl rfl (World.news_of_block (heap_alloc_new (wo) _)) (one_LE _ _) (by unfold maxLen; (try rw [List.length_append]); (try simp only [List.length_cons, List.length_nil]); omega) (by (try rw [List.length_append]); (try simp only [List.length_cons, List.length_nil]); omega) (by have := HF2.out.size; simp at this ⊢; omega) ?_; intro v5 w5 hown5 hgrow _ _)
    have HF5 := Lib.hid (show Fuw W w5 from Below.grown (HF2.out.alloc _) hgrow (HF2.out.alloc _).size (fun k hk => (hown.lt k hk).1))
    have hown6 : w5.ownsRow W.heap.size 53 5 v5 (ps ++ [(y, (ap, kp))]).length (LE.cs (ps ++ [(y, (ap, kp))])) := by
     rw [LE.cs_app, LE.cs_one, List.length_append]; exact hown5
    clear hown5 hgrow hown hw2
    clear n0 n1 n2 n3 n4 g0 g1 g2 g3
    generalize hps2 : ps ++ [(y, (ap, kp))] = ps2 at *
    have HU2 := Lib.hid (show U = ps2.map Prod.fst from by rw [HQ.out, hd0, ← hps2, List.map_append]; rfl)
    replace HK := Lib.hid (show EOk w ps2 from by rw [← hps2]; exact HK.out.snoc HJ.out.1 HJ.out.2)
    clear hps2 hd0 HQ HF HF2
    have HF := HF5
    have hown := hown6
    clear HF5 hown6
    generalize w5 = wq at *
    generalize v5 = u5 at *
    have HX := Lib.hid (show ∀ X : World, (∀ k, W.heap.size ≤ k → X.heap[k]? = wq.heap[k]?) → Fuw w X → ∃ a c, u5 = .slice a U.length c ∧ SlE X a U c from fun X hx hf => by
     have hox : X.ownsRow W.heap.size 53 5 u5 ps2.length (LE.cs ps2) := own_heap hown fun k hk => hx k (hown.lt k hk).1
     obtain ⟨a, c, e, -, hs⟩ := Lay.sl_own (Y := LE) hox (fun p hp => (HK.out p hp).1) (fun p hp => LEJ_on (HK.out p hp).2 hf)
     have hu : ps2.map Prod.fst = U := HU2.out.symm
     rw [hu] at hs
     exact ⟨a, c, by rw [e, ← hu, List.length_map], hs⟩)
    obtain ⟨a, c, e5, -⟩ := HX.out wq (fun _ _ => rfl) (HFW.out.trans HF.out)
    subst e5
    have HGQ := Lib.hid (HG.out.on HF.out)
    have HZQ := Lib.hid (HZ.out.on HF.out)
    have g0 := HGQ.out.c 0; have g1 := HGQ.out.c 1; have g2 := HGQ.out.c 2; have g3 := HGQ.out.c 3
    have n0 := (HN.out.on HF.out).c 0
    have f0 := HGQ.out.f 0; have f1 := HGQ.out.f 1; have f2 := HGQ.out.f 2; have f3 := HGQ.out.f 3
    have z0 := HZQ.out.c 0; have z1 := HZQ.out.c 1; have z2 := HZQ.out.c 2; have z3 := HZQ.out.c 3
    have y0 := HZQ.out.f 0; have y1 := HZQ.out.f 1; have y2 := HZQ.out.f 2; have y3 := HZQ.out.f 3
    clear hown
    go_wp2
    refine g_ret rfl rfl ((((((HZQ.out.far (show w.heap.size + 1 + 1 ≠ w.heap.size by omega) _).far (show w.heap.size + 1 + 1 ≠ w.heap.size by omega) _).set_ 0 _).set_ 1 _).set_ 2 _).set_ 3 _) ?_
    have hws := HWS.out
    have hb : w.heap.size ≤ w.heap.size + 1 + 1 := by omega
    obtain ⟨a', c', e', hs⟩ := HX.out _ (fun k hk => (Below.heap_setCell _ ⟨w.heap.size + 1 + 1, 3, none⟩ _ k (show k ≠ w.heap.size + 1 + 1 by omega)).trans ((Below.heap_setCell _ ⟨w.heap.size + 1 + 1, 2, none⟩ _ k (show k ≠ w.heap.size + 1 + 1 by omega)).trans ((Below.heap_setCell _ ⟨w.heap.size + 1 + 1, 1, none⟩ _ k (show k ≠ w.heap.size + 1 + 1 by omega)).trans ((Below.heap_setCell _ ⟨w.heap.size + 1 + 1, 0, none⟩ _ k (show k ≠ w.heap.size + 1 + 1 by omega)).trans ((Below.heap_setCell _ ⟨w.heap.size, 3, none⟩ _ k (show k ≠ w.heap.size by omega)).trans (Below.heap_setCell _ ⟨w.heap.size, 1, none⟩ _ k (show k ≠ w.heap.size by omega))))))) (fuwS (fuwS (fuwS (fuwS (fuwS (fuwS (HFW.out.trans HF.out) (Nat.le_refl _)) (Nat.le_refl _)) hb) hb) hb) hb)
    injection e' with e1 _ e2
    subst e1 e2
    exact ⟨a, c, rfl, hs, fuwS (fuwS (fuwS (fuwS (fuwS (fuwS (HFW.out.trans HF.out) (Nat.le_refl _)) (Nat.le_refl _)) hb) hb) hb) hb⟩
end Go.Proofs.YtpamdlkagmlahaaGreatDoor

namespace Go.Proofs.YtpamdlkagmlahaaGreatDoor
open Go.RowKit
theorem rid_any (x : Int) (w : World) : Calls Tryz.prog 28 #[.int .i64 x] w (PureB w (idV x)) := by
 unfold idV
 by_cases h1 : 1 ≤ x
 ·by_cases h2 : x ≤ 1000000
  ·rw [decide_eq_true h1, decide_eq_true h2]
   go_enter Tryz.func28, Tryz.ntmps28
   go_wp2
   go_ret
   exact ⟨rfl, rfl⟩
  ·rw [decide_eq_true h1, decide_eq_false h2]
   have h2' : 1000000 < x := by omega
   go_enter Tryz.func28, Tryz.ntmps28
   go_wp2
   go_ret
   exact ⟨rfl, rfl⟩
 ·rw [decide_eq_false h1]
  have h1' : x < 1 := by omega
  go_enter Tryz.func28, Tryz.ntmps28
  go_wp2
  go_ret
  exact ⟨rfl, rfl⟩
theorem rnamed_any (op : Int) (w : World) : Calls Tryz.prog 29 #[.int .i64 op] w (PureB w (nmd op)) := by
 unfold nmd
 by_cases h3 : op = 3
 ·subst h3
  go_enter Tryz.func29, Tryz.ntmps29
  go_wp2
  go_ret
  exact ⟨ret_bool (by simp), rfl⟩
 by_cases h4 : op = 4
 ·subst h4
  go_enter Tryz.func29, Tryz.ntmps29
  go_wp2
  go_ret
  exact ⟨ret_bool (by simp), rfl⟩
 by_cases h5 : op = 5
 ·subst h5
  go_enter Tryz.func29, Tryz.ntmps29
  go_wp2
  go_ret
  exact ⟨ret_bool (by simp), rfl⟩
 by_cases h6 : op = 6
 ·subst h6
  go_enter Tryz.func29, Tryz.ntmps29
  go_wp2
  go_ret
  exact ⟨ret_bool (by simp), rfl⟩
 by_cases h8 : op = 8
 ·subst h8
  go_enter Tryz.func29, Tryz.ntmps29
  go_wp2
  go_ret
  exact ⟨ret_bool (by simp), rfl⟩
 go_enter Tryz.func29, Tryz.ntmps29
 go_wp2
 go_ret
 exact ⟨ret_bool (by simp [h3, h4, h5, h6, h8]), rfl⟩
theorem rvalued_any (op : Int) (w : World) : Calls Tryz.prog 30 #[.int .i64 op] w (PureB w (vld op)) := by
 unfold vld
 by_cases h5 : op = 5
 ·subst h5
  go_enter Tryz.func30, Tryz.ntmps30
  go_wp2
  go_ret
  exact ⟨ret_bool (by simp), rfl⟩
 by_cases h8 : op = 8
 ·subst h8
  go_enter Tryz.func30, Tryz.ntmps30
  go_wp2
  go_ret
  exact ⟨ret_bool (by simp), rfl⟩
 go_enter Tryz.func30, Tryz.ntmps30
 go_wp2
 go_ret
 exact ⟨ret_bool (by simp [h5, h8]), rfl⟩
theorem rnull_any (x : Vl) (ao : Option Addr) (ca : Nat) (w : World) (hi : Vin x) (hs : SlV w ao x.ll ca) :
  Calls Tryz.prog 31 #[vlv x ao ca] w (FwB w (isN x)) := by
 obtain ⟨W, hW⟩ : ∃ W, W = w.alloc (.cells #[.int .i64 x.kd, .int .i64 x.nn, .int .i64 x.dd, .string (bs x.ss), .slice ao x.ll.length ca] 28) := ⟨_, rfl⟩
 have fW : Fuw w W := by rw [hW]; exact fuwA _ _
 have bW : Bk W w.heap.size #[.int .i64 x.kd, .int .i64 x.nn, .int .i64 x.dd, .string (bs x.ss), .slice ao x.ll.length ca] 28 := by rw [hW]; exact Bk.new _ _ _
 have HO := Lib.hid (show Calls Tryz.prog 62 #[.agg #[.int .i64 x.kd, .int .i64 x.nn, .int .i64 x.dd, .string (bs x.ss), .slice ao x.ll.length ca], .agg #[.int .i64 0, .int .i64 0, .int .i64 0, .string ⟨#[]⟩, .slice none 0 0]] W (RwI W (ordV x nulV)) from
  rorder_all x nulV ao none ca 0 W hi nulV_in (hs.onw fW) (nulV_sl _))
 have HFW := Lib.hid fW
 have c0 := bW.c 0; have c1 := bW.c 1; have c2 := bW.c 2; have c3 := bW.c 3; have c4 := bW.c 4
 unfold isN
 generalize ordV x nulV = R at *
 unfold vlv
 clear bW fW hi hs
 go_enter Tryz.func31, Tryz.ntmps31
 go_upto_region 1 with fail
 rw [← hW]
 clear hW
 go_wp2_with fail
 go_at_call 62; refine HO.out.mono ?_; rintro e1 w1 ⟨rfl, f1⟩
 have HF1 := Lib.hid (HFW.out.trans f1)
 clear f1
 go_wp2
 go_ret
 exact ⟨ret_bool (by by_cases q : R = 0 <;> simp [q]), HF1.out⟩
end Go.Proofs.YtpamdlkagmlahaaGreatDoor
