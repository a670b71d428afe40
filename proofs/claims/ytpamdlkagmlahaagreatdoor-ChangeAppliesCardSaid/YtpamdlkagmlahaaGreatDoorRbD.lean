import Derived.Test.YtpamdlkagmlahaaGreatDoorK37
import Derived.Test.YtpamdlkagmlahaaGreatDoorK38
namespace Go.Proofs.YtpamdlkagmlahaaGreatDoor
open Go.RowKit
theorem one_LP (n : Pp) (m : AC) : ∀ u ∈ LP.C n m, u.oneCell' = true := by
 intro u hu
 have e : LP.C n m = .string (bs n.k) :: vC n.v m.1 m.2 := rfl
 rw [e] at hu
 unfold vC at hu
 simp only [List.mem_cons, List.not_mem_nil, or_false] at hu
 rcases hu with rfl | rfl | rfl | rfl | rfl | rfl <;> rfl
def POk (w : World) (ps : List (Pp × AC)) : Prop := ∀ p ∈ ps, LP.I p.1 ∧ LP.J p.1 p.2 w
theorem POk.snoc {w : World} {ps : List (Pp × AC)} {p : Pp × AC} (h : POk w ps) (h1 : LP.I p.1) (h2 : LP.J p.1 p.2 w) : POk w (ps ++ [p]) := fun q hq => by
 rcases List.mem_append.1 hq with e | e
 ·exact h q e
 ·rw [List.mem_singleton] at e; subst e; exact ⟨h1, h2⟩
theorem LPJ_on {n : Pp} {m : AC} {w w' : World} (h : LP.J n m w) (hf : Fuw w w') : LP.J n m w' := SlV.onw h hf
set_option maxHeartbeats 6400000 in
set_option maxRecDepth 100000 in
theorem rsetp_any (l : List Pp) (ao : Option Addr) (cap : Nat) (k : List UInt8) (v : Vl) (av : Option Addr) (kv : Nat) (w : World) (hs : SlP w ao l cap) (hk : k.length ≤ maxLen) (hvi : Vin v) (hvs : SlV w av v.ll kv) (hn : l.length ≤ 100000) :
  Calls Tryz.prog 91 #[.slice ao l.length cap, .string (bs k), vlv v av kv] w fun e w' => ∃ a c, e = .returned (.tuple #[.slice a (putP k v (isN v) false l).length c, .bool (decide ((putP k v (isN v) false l).length ≤ 16))]) ∧ SlP w' a (putP k v (isN v) false l) c ∧ Fuw w w' := by
 obtain ⟨i0, hi0, hz0, hz1, hz2⟩ := info_parts infoP
 obtain ⟨W, hW⟩ : ∃ W, W = w.alloc (.cells #[.int .i64 v.kd, .int .i64 v.nn, .int .i64 v.dd, .string (bs v.ss), .slice av v.ll.length kv] 28) := ⟨_, rfl⟩
 have fW : Fuw w W := by rw [hW]; exact fuwA _ _
 have HV := Lib.hid (show Bk W w.heap.size #[.int .i64 v.kd, .int .i64 v.nn, .int .i64 v.dd, .string (bs v.ss), .slice av v.ll.length kv] 28 from by rw [hW]; exact Bk.new _ _ _)
 have HNL := Lib.hid (fun (w' : World) (hf : Fuw w w') => rnull_any v av kv w' hvi (SlV.onw hvs hf))
 have HFW := Lib.hid fW
 have HS := Lib.hid hs
 have HJ := Lib.hid (show LP.I ⟨k, v⟩ ∧ LP.J ⟨k, v⟩ (av, kv) w from ⟨⟨hk, hvi⟩, hvs⟩)
 obtain ⟨z, hz⟩ : ∃ z, z = isN v := ⟨_, rfl⟩
 rw [← hz] at HNL ⊢
 obtain ⟨U, hU⟩ : ∃ U, U = putP k v z false l := ⟨_, rfl⟩
 have HU := Lib.hid (show U = ([] : List (Pp × AC)).map Prod.fst ++ putP k v z false (l.drop 0) from hU)
 rw [← hU]
 have hnl := hs.len
 unfold vlv at *
 clear fW hs hk hvi hvs hU hz
 go_enter Tryz.func91, Tryz.ntmps91
 go_wp2_with fail
 rw [← hW]
 clear hW
 go_loopw [8, 9, 10] (fun lv dv iv wr => ∃ (i : Nat) (d : Bool) (ps : List (Pp × AC)), dv = .bool d ∧ iv = .int .i64 i ∧ i ≤ l.length ∧ ps.length ≤ 2 * i ∧ wr.ownsRow W.heap.size 48 6 lv ps.length (LP.cs ps) ∧ Hid (U = ps.map Prod.fst ++ putP k v z d (l.drop i)) ∧ Hid (POk w ps) ∧ Hid (Fuw W wr)) (fun _ _ iv _ => l.length - (RowKit.intOf iv).toNat)
 case atStart => exact ⟨0, false, [], rfl, rfl, Nat.zero_le _, Nat.zero_le _, World.ownsRow_nil _ _ _ _, HU, Lib.hid (fun _ h => by cases h), Lib.hid (Fuw.refl _)⟩
 case round =>
  obtain ⟨i, d, ps, rfl, rfl, hii, hps, hown, HQ, HK, HF⟩ := hrel
  generalize wr = wo at *
  have v0 := (HV.out.on HF.out).c 0; have v1 := (HV.out.on HF.out).c 1; have v2 := (HV.out.on HF.out).c 2; have v3 := (HV.out.on HF.out).c 3; have v4 := (HV.out.on HF.out).c 4
  by_cases hlt : i < l.length
  ·obtain ⟨b, o, rfl, k0, q0, hvc⟩ := HS.out.get hlt
   obtain ⟨hy, q1, q2, q3, q4, a1, k1, q5, hs1⟩ := VC_of hvc
   have fa := HFW.out.trans HF.out
   have c0 := cellOnw fa q0; have c1 := cellOnw fa q1; have c2 := cellOnw fa q2; have c3 := cellOnw fa q3; have c4 := cellOnw fa q4; have c5 := cellOnw fa q5
   have HD := Lib.hid (HQ.out.trans (by rw [putP_drop k v z d l i hlt]))
   have HX := Lib.hid (show LP.I l[i] ∧ LP.J l[i] (a1, k1) w from ⟨⟨k0, hy⟩, hs1⟩)
   have hli : (i : Int) < (l.length : Int) := by omega
   have HC0 := Lib.hid q0; have HC1 := Lib.hid q1; have HC2 := Lib.hid q2; have HC3 := Lib.hid q3; have HC4 := Lib.hid q4; have HC5 := Lib.hid q5
   clear fa q0 q1 q2 q3 q4 q5 hvc k0 hs1 hy
   generalize l[i] = p at *
   cases d with
   | true =>
    by_cases hk : p.k = k
    ·have HZ2 := Lib.hid (show U = ps.map Prod.fst ++ putP k v z true (l.drop (i + 1)) from by rw [HD.out]; simp [hk])
     have he : ((bs p.k).toList == (bs k).toList) = true := by rw [hk]; exact beq_self_eq_true _
     have he' : ((bs p.k).toList != (bs k).toList) = false := by rw [bne, he]; rfl
     clear hk
     go_wp2
     go_roundw
     case rel => exact ⟨i + 1, true, ps, rfl, by go_num, by omega, (by omega), hown, HZ2, HK, HF⟩
     case measure => simp [RowKit.intOf]; omega
    ·have HZ2 := Lib.hid (show U = (ps ++ [(p, (a1, k1))]).map Prod.fst ++ putP k v z true (l.drop (i + 1)) from by rw [HD.out]; simp [hk])
     have he : ((bs p.k).toList == (bs k).toList) = false := by rw [bs_eq]; exact beq_eq_false_iff_ne.2 hk
     have he' : ((bs p.k).toList != (bs k).toList) = true := by rw [bne, he]; rfl
     clear hk
     go_wp2_with (at_builtin; refine wpList_append_own_at _ rfl (.tmp 44) (.tmp 49) 49 rfl W.heap.size 48 i0 _ 6 80 Tryz.underlying49 hi0 hz0 hz1 hz2 rfl (by decide) _ ps.length (LP.cs ps) rfl (hown.alloc _) ⟨(wo).heap.size, 0, none⟩ 1 1 (LP.C p (a1, k1)) rfl rfl (World.news_of_block (heap_alloc_new (wo) _)) (one_LP _ _) (by unfold maxLen; (try rw [List.length_append]); (try simp only [List.length_cons, List.length_nil]); omega) (by (try rw [List.length_append]); (try simp only [List.length_cons, List.length_nil]); omega) (by have := HF.out.size; simp at this ⊢; omega) ?_; intro v5 w5 hown5 hgrow _ _)
     have HF5 := Lib.hid (show Fuw W w5 from Below.grown (HF.out.alloc _) hgrow (HF.out.alloc _).size (fun k hk => (hown.lt k hk).1))
     have hown6 : w5.ownsRow W.heap.size 48 6 v5 (ps ++ [(p, (a1, k1))]).length (LP.cs (ps ++ [(p, (a1, k1))])) := by
      rw [LP.cs_app, LP.cs_one, List.length_append]; exact hown5
     clear hown5 hgrow hown
     go_wp2
     go_roundw
     case rel => exact ⟨i + 1, true, (ps ++ [(p, (a1, k1))]), rfl, by go_num, by omega, (by (try rw [List.length_append]); (try rw [List.length_append]); simp only [List.length_cons, List.length_nil]; omega), hown6, HZ2, Lib.hid (HK.out.snoc HX.out.1 HX.out.2), HF5⟩
     case measure => simp [RowKit.intOf]; omega
   | false =>
    cases hb : Op.bytesLess (bs p.k).toList (bs k).toList with
    | true =>
     have hbl : Op.bytesLess p.k k = true := by rw [toL, toL, bs_data, bs_data] at hb; exact hb
     have hk : ¬ p.k = k := fun e => by rw [e, bl_irr] at hbl; cases hbl
     have HZ2 := Lib.hid (show U = (ps ++ [(p, (a1, k1))]).map Prod.fst ++ putP k v z false (l.drop (i + 1)) from by rw [HD.out]; simp [hk, hbl])
     have he : ((bs p.k).toList == (bs k).toList) = false := by rw [bs_eq]; exact beq_eq_false_iff_ne.2 hk
     have he' : ((bs p.k).toList != (bs k).toList) = true := by rw [bne, he]; rfl
     clear hk hbl
     go_wp2_with (at_builtin; refine wpList_append_own_at _ rfl (.tmp 44) (.tmp 49) 49 rfl W.heap.size 48 i0 _ 6 80 Tryz.underlying49 hi0 hz0 hz1 hz2 rfl (by decide) _ ps.length (LP.cs ps) rfl (hown.alloc _) ⟨(wo).heap.size, 0, none⟩ 1 1 (LP.C p (a1, k1)) rfl rfl (World.news_of_block (heap_alloc_new (wo) _)) (one_LP _ _) (by unfold maxLen; (try rw [List.length_append]); (try simp only [List.length_cons, List.length_nil]); omega) (by (try rw [List.length_append]); (try simp only [List.length_cons, List.length_nil]); omega) (by have := HF.out.size; simp at this ⊢; omega) ?_; intro v5 w5 hown5 hgrow _ _)
     have HF5 := Lib.hid (show Fuw W w5 from Below.grown (HF.out.alloc _) hgrow (HF.out.alloc _).size (fun k hk => (hown.lt k hk).1))
     have hown6 : w5.ownsRow W.heap.size 48 6 v5 (ps ++ [(p, (a1, k1))]).length (LP.cs (ps ++ [(p, (a1, k1))])) := by
      rw [LP.cs_app, LP.cs_one, List.length_append]; exact hown5
     clear hown5 hgrow hown
     go_wp2
     go_roundw
     case rel => exact ⟨i + 1, false, (ps ++ [(p, (a1, k1))]), rfl, by go_num, by omega, (by (try rw [List.length_append]); (try rw [List.length_append]); simp only [List.length_cons, List.length_nil]; omega), hown6, HZ2, Lib.hid (HK.out.snoc HX.out.1 HX.out.2), HF5⟩
     case measure => simp [RowKit.intOf]; omega
    | false =>
     have hbl : Op.bytesLess p.k k = false := by rw [toL, toL, bs_data, bs_data] at hb; exact hb
     have HBL := Lib.hid hbl
     clear hbl
     go_wp2_with fail
     go_at_call 31; refine (HNL.out _ (HFW.out.trans HF.out)).mono ?_; rintro e1 w1 ⟨rfl, f1⟩
     have HF1 := Lib.hid (HF.out.trans f1)
     replace hown := own_on hown f1
     clear v0 v1 v2 v3 v4 c0 c1 c2 c3 c4 c5 f1 hb
     have v0 := (HV.out.on HF1.out).c 0; have v1 := (HV.out.on HF1.out).c 1; have v2 := (HV.out.on HF1.out).c 2; have v3 := (HV.out.on HF1.out).c 3; have v4 := (HV.out.on HF1.out).c 4
     cases z with
     | true =>
      have c0 := cellOnw (HFW.out.trans HF1.out) HC0.out; have c1 := cellOnw (HFW.out.trans HF1.out) HC1.out; have c2 := cellOnw (HFW.out.trans HF1.out) HC2.out; have c3 := cellOnw (HFW.out.trans HF1.out) HC3.out; have c4 := cellOnw (HFW.out.trans HF1.out) HC4.out; have c5 := cellOnw (HFW.out.trans HF1.out) HC5.out
      have hbl := HBL.out
      by_cases hk : p.k = k
      ·have HZ2 := Lib.hid (show U = ps.map Prod.fst ++ putP k v true true (l.drop (i + 1)) from by rw [HD.out]; simp [hk, bl_irr])
       have he : ((bs p.k).toList == (bs k).toList) = true := by rw [hk]; exact beq_self_eq_true _
       have he' : ((bs p.k).toList != (bs k).toList) = false := by rw [bne, he]; rfl
       clear hk hbl
       go_wp2
       go_roundw
       case rel => exact ⟨i + 1, true, ps, rfl, by go_num, by omega, (by omega), hown, HZ2, HK, HF1⟩
       case measure => simp [RowKit.intOf]; omega
      ·have HZ2 := Lib.hid (show U = (ps ++ [(p, (a1, k1))]).map Prod.fst ++ putP k v true true (l.drop (i + 1)) from by rw [HD.out]; simp [hk, hbl])
       have he : ((bs p.k).toList == (bs k).toList) = false := by rw [bs_eq]; exact beq_eq_false_iff_ne.2 hk
       have he' : ((bs p.k).toList != (bs k).toList) = true := by rw [bne, he]; rfl
       clear hk hbl
       go_wp2_with (at_builtin; refine wpList_append_own_at _ rfl (.tmp 44) (.tmp 49) 49 rfl W.heap.size 48 i0 _ 6 80 Tryz.underlying49 hi0 hz0 hz1 hz2 rfl (by decide) _ ps.length (LP.cs ps) rfl (hown.alloc _) ⟨(w1).heap.size, 0, none⟩ 1 1 (LP.C p (a1, k1)) rfl rfl (World.news_of_block (heap_alloc_new (w1) _)) (one_LP _ _) (by unfold maxLen; (try rw [List.length_append]); (try simp only [List.length_cons, List.length_nil]); omega) (by (try rw [List.length_append]); (try simp only [List.length_cons, List.length_nil]); omega) (by have := HF1.out.size; simp at this ⊢; omega) ?_; intro v5 w5 hown5 hgrow _ _)
       have HF5 := Lib.hid (show Fuw W w5 from Below.grown (HF1.out.alloc _) hgrow (HF1.out.alloc _).size (fun k hk => (hown.lt k hk).1))
       have hown6 : w5.ownsRow W.heap.size 48 6 v5 (ps ++ [(p, (a1, k1))]).length (LP.cs (ps ++ [(p, (a1, k1))])) := by
        rw [LP.cs_app, LP.cs_one, List.length_append]; exact hown5
       clear hown5 hgrow hown
       go_wp2
       go_roundw
       case rel => exact ⟨i + 1, true, (ps ++ [(p, (a1, k1))]), rfl, by go_num, by omega, (by (try rw [List.length_append]); (try rw [List.length_append]); simp only [List.length_cons, List.length_nil]; omega), hown6, HZ2, Lib.hid (HK.out.snoc HX.out.1 HX.out.2), HF5⟩
       case measure => simp [RowKit.intOf]; omega
     | false =>
      go_upto_region 10 with (at_builtin; refine wpList_append_own_at _ rfl (.tmp 31) (.tmp 35) 49 rfl W.heap.size 48 i0 _ 6 80 Tryz.underlying49 hi0 hz0 hz1 hz2 rfl (by decide) _ ps.length (LP.cs ps) rfl (hown.alloc _) ⟨(w1).heap.size, 0, none⟩ 1 1 (LP.C (⟨k, v⟩ : Pp) (av, kv)) rfl rfl (World.news_of_block (heap_alloc_new (w1) _)) (one_LP _ _) (by unfold maxLen; (try rw [List.length_append]); (try simp only [List.length_cons, List.length_nil]); omega) (by (try rw [List.length_append]); (try simp only [List.length_cons, List.length_nil]); omega) (by have := HF1.out.size; simp at this ⊢; omega) ?_; intro v5 w5 hown5 hgrow _ _)
      have HF5 := Lib.hid (show Fuw W w5 from Below.grown (HF1.out.alloc _) hgrow (HF1.out.alloc _).size (fun k hk => (hown.lt k hk).1))
      have hown6 : w5.ownsRow W.heap.size 48 6 v5 (ps ++ [((⟨k, v⟩ : Pp), (av, kv))]).length (LP.cs (ps ++ [((⟨k, v⟩ : Pp), (av, kv))])) := by
       rw [LP.cs_app, LP.cs_one, List.length_append]; exact hown5
      clear hown5 hgrow hown
      clear v0 v1 v2 v3 v4
      generalize hps2 : (ps ++ [((⟨k, v⟩ : Pp), (av, kv))]) = ps2 at *
      have HK2 := Lib.hid (show POk w ps2 from by rw [← hps2]; exact HK.out.snoc HJ.out.1 HJ.out.2)
      have hl2 : ps2.length ≤ 2 * i + 1 := by rw [← hps2, List.length_append]; simp only [List.length_cons, List.length_nil]; omega
      have hm2 : ps2.map Prod.fst = ps.map Prod.fst ++ [⟨k, v⟩] := by rw [← hps2, List.map_append]; rfl
      have hown := hown6
      clear hps2 hown6
      have hbl := HBL.out
      have c0 := cellOnw (HFW.out.trans HF5.out) HC0.out; have c1 := cellOnw (HFW.out.trans HF5.out) HC1.out; have c2 := cellOnw (HFW.out.trans HF5.out) HC2.out; have c3 := cellOnw (HFW.out.trans HF5.out) HC3.out; have c4 := cellOnw (HFW.out.trans HF5.out) HC4.out; have c5 := cellOnw (HFW.out.trans HF5.out) HC5.out
      by_cases hk : p.k = k
      ·have HZ2 := Lib.hid (show U = ps2.map Prod.fst ++ putP k v false true (l.drop (i + 1)) from by rw [HD.out]; simp [hk, bl_irr, hm2])
       have he : ((bs p.k).toList == (bs k).toList) = true := by rw [hk]; exact beq_self_eq_true _
       have he' : ((bs p.k).toList != (bs k).toList) = false := by rw [bne, he]; rfl
       clear hk hbl hm2
       go_wp2
       go_roundw
       case rel => exact ⟨i + 1, true, ps2, rfl, by go_num, by omega, (by omega), hown, HZ2, HK2, HF5⟩
       case measure => simp [RowKit.intOf]; omega
      ·have HZ2 := Lib.hid (show U = (ps2 ++ [(p, (a1, k1))]).map Prod.fst ++ putP k v false true (l.drop (i + 1)) from by rw [HD.out]; simp [hk, hbl, hm2])
       have he : ((bs p.k).toList == (bs k).toList) = false := by rw [bs_eq]; exact beq_eq_false_iff_ne.2 hk
       have he' : ((bs p.k).toList != (bs k).toList) = true := by rw [bne, he]; rfl
       clear hk hbl hm2
       go_wp2_with (at_builtin; refine wpList_append_own_at _ rfl (.tmp 44) (.tmp 49) 49 rfl W.heap.size 48 i0 _ 6 80 Tryz.underlying49 hi0 hz0 hz1 hz2 rfl (by decide) _ ps2.length (LP.cs ps2) rfl (hown.alloc _) ⟨(w5).heap.size, 0, none⟩ 1 1 (LP.C p (a1, k1)) rfl rfl (World.news_of_block (heap_alloc_new (w5) _)) (one_LP _ _) (by unfold maxLen; (try rw [List.length_append]); (try simp only [List.length_cons, List.length_nil]); omega) (by (try rw [List.length_append]); (try simp only [List.length_cons, List.length_nil]); omega) (by have := HF5.out.size; simp at this ⊢; omega) ?_; intro v7 w7 hown5 hgrow _ _)
       have HF7 := Lib.hid (show Fuw W w7 from Below.grown (HF5.out.alloc _) hgrow (HF5.out.alloc _).size (fun k hk => (hown.lt k hk).1))
       have hown7 : w7.ownsRow W.heap.size 48 6 v7 (ps2 ++ [(p, (a1, k1))]).length (LP.cs (ps2 ++ [(p, (a1, k1))])) := by
        rw [LP.cs_app, LP.cs_one, List.length_append]; exact hown5
       clear hown5 hgrow hown
       go_wp2
       go_roundw
       case rel => exact ⟨i + 1, true, (ps2 ++ [(p, (a1, k1))]), rfl, by go_num, by omega, (by (try rw [List.length_append]); (try rw [List.length_append]); simp only [List.length_cons, List.length_nil]; omega), hown7, HZ2, Lib.hid (HK2.out.snoc HX.out.1 HX.out.2), HF7⟩
       case measure => simp [RowKit.intOf]; omega
  ·have hie : i = l.length := by omega
   subst hie
   clear hii hlt
   have hd0 : l.drop l.length = [] := List.drop_of_length_le (Nat.le_refl _)
   cases d with
   | true =>
    have HU2 := Lib.hid (show U = ps.map Prod.fst from by rw [HQ.out, hd0]; show _ ++ (if true = false ∧ z = false then _ else []) = _; rw [if_neg (fun q => by cases q.1), List.append_nil])
    clear v0 v1 v2 v3 v4 hd0 HQ
    generalize wo = wq at *
    have HX := Lib.hid (show ∀ X : World, (∀ k, W.heap.size ≤ k → X.heap[k]? = wq.heap[k]?) → Fuw w X → ∃ a c, u8 = .slice a U.length c ∧ SlP X a U c from fun X hx hf => by
     have hox : X.ownsRow W.heap.size 48 6 u8 ps.length (LP.cs ps) := own_heap hown fun k hk => hx k (hown.lt k hk).1
     obtain ⟨a, c, e, -, hs⟩ := Lay.sl_own (Y := LP) hox (fun p hp => (HK.out p hp).1) (fun p hp => LPJ_on (HK.out p hp).2 hf)
     have hu : ps.map Prod.fst = U := HU2.out.symm
     rw [hu] at hs
     exact ⟨a, c, by rw [e, ← hu, List.length_map], hs⟩)
    obtain ⟨a, c, e5, hSS⟩ := HX.out wq (fun _ _ => rfl) (HFW.out.trans HF.out)
    subst e5
    have HSS := Lib.hid hSS
    clear hown hSS
    go_wp2
    go_ret2
    exact ⟨a, c, by rw [show decide (U.length ≤ 16) = decide ((U.length : Int) ≤ 16) from by rw [decide_eq_decide]; omega]; rfl, HSS.out, HFW.out.trans HF.out⟩
   | false =>
    go_wp2_with fail
    go_at_call 31; refine (HNL.out _ (HFW.out.trans HF.out)).mono ?_; rintro e1 w1 ⟨rfl, f1⟩
    have HF1 := Lib.hid (HF.out.trans f1)
    replace hown := own_on hown f1
    clear v0 v1 v2 v3 v4 f1
    have v0 := (HV.out.on HF1.out).c 0; have v1 := (HV.out.on HF1.out).c 1; have v2 := (HV.out.on HF1.out).c 2; have v3 := (HV.out.on HF1.out).c 3; have v4 := (HV.out.on HF1.out).c 4
    cases z with
    | true =>
     have HU2 := Lib.hid (show U = ps.map Prod.fst from by rw [HQ.out, hd0]; show _ ++ (if false = false ∧ true = false then _ else []) = _; rw [if_neg (fun q => by cases q.2), List.append_nil])
     clear v0 v1 v2 v3 v4 hd0 HQ HF
     have HF := HF1
     clear HF1
     generalize w1 = wq at *
     have HX := Lib.hid (show ∀ X : World, (∀ k, W.heap.size ≤ k → X.heap[k]? = wq.heap[k]?) → Fuw w X → ∃ a c, u8 = .slice a U.length c ∧ SlP X a U c from fun X hx hf => by
      have hox : X.ownsRow W.heap.size 48 6 u8 ps.length (LP.cs ps) := own_heap hown fun k hk => hx k (hown.lt k hk).1
      obtain ⟨a, c, e, -, hs⟩ := Lay.sl_own (Y := LP) hox (fun p hp => (HK.out p hp).1) (fun p hp => LPJ_on (HK.out p hp).2 hf)
      have hu : ps.map Prod.fst = U := HU2.out.symm
      rw [hu] at hs
      exact ⟨a, c, by rw [e, ← hu, List.length_map], hs⟩)
     obtain ⟨a, c, e5, hSS⟩ := HX.out wq (fun _ _ => rfl) (HFW.out.trans HF.out)
     subst e5
     have HSS := Lib.hid hSS
     clear hown hSS
     go_wp2
     go_ret2
     exact ⟨a, c, by rw [show decide (U.length ≤ 16) = decide ((U.length : Int) ≤ 16) from by rw [decide_eq_decide]; omega]; rfl, HSS.out, HFW.out.trans HF.out⟩
    | false =>
     go_upto_region 14 with (at_builtin; refine wpList_append_own_at _ rfl (.tmp 58) (.tmp 62) 49 rfl W.heap.size 48 i0 _ 6 80 Tryz.underlying49 hi0 hz0 hz1 hz2 rfl (by decide) _ ps.length (LP.cs ps) rfl (hown.alloc _) ⟨(w1).heap.size, 0, none⟩ 1 1 (LP.C (⟨k, v⟩ : Pp) (av, kv)) rfl rfl (World.news_of_block (heap_alloc_new (w1) _)) (one_LP _ _) (by unfold maxLen; (try rw [List.length_append]); (try simp only [List.length_cons, List.length_nil]); omega) (by (try rw [List.length_append]); (try simp only [List.length_cons, List.length_nil]); omega) (by have := HF1.out.size; simp at this ⊢; omega) ?_; intro v5 w5 hown5 hgrow _ _)
     have HF5 := Lib.hid (show Fuw W w5 from Below.grown (HF1.out.alloc _) hgrow (HF1.out.alloc _).size (fun k hk => (hown.lt k hk).1))
     have hown6 : w5.ownsRow W.heap.size 48 6 v5 (ps ++ [((⟨k, v⟩ : Pp), (av, kv))]).length (LP.cs (ps ++ [((⟨k, v⟩ : Pp), (av, kv))])) := by
      rw [LP.cs_app, LP.cs_one, List.length_append]; exact hown5
     clear hown5 hgrow hown
     clear v0 v1 v2 v3 v4
     generalize hps2 : (ps ++ [((⟨k, v⟩ : Pp), (av, kv))]) = ps2 at *
     have HU2 := Lib.hid (show U = ps2.map Prod.fst from by rw [HQ.out, hd0, ← hps2, List.map_append]; rfl)
     replace HK := Lib.hid (show POk w ps2 from by rw [← hps2]; exact HK.out.snoc HJ.out.1 HJ.out.2)
     clear hps2 hd0 HQ HF HF1
     have HF := HF5
     have hown := hown6
     clear HF5 hown6
     generalize w5 = wq at *
     generalize v5 = u8 at *
     have HX := Lib.hid (show ∀ X : World, (∀ k, W.heap.size ≤ k → X.heap[k]? = wq.heap[k]?) → Fuw w X → ∃ a c, u8 = .slice a U.length c ∧ SlP X a U c from fun X hx hf => by
      have hox : X.ownsRow W.heap.size 48 6 u8 ps2.length (LP.cs ps2) := own_heap hown fun k hk => hx k (hown.lt k hk).1
      obtain ⟨a, c, e, -, hs⟩ := Lay.sl_own (Y := LP) hox (fun p hp => (HK.out p hp).1) (fun p hp => LPJ_on (HK.out p hp).2 hf)
      have hu : ps2.map Prod.fst = U := HU2.out.symm
      rw [hu] at hs
      exact ⟨a, c, by rw [e, ← hu, List.length_map], hs⟩)
     obtain ⟨a, c, e5, hSS⟩ := HX.out wq (fun _ _ => rfl) (HFW.out.trans HF.out)
     subst e5
     have HSS := Lib.hid hSS
     clear hown hSS
     go_wp2
     go_ret2
     exact ⟨a, c, by rw [show decide (U.length ≤ 16) = decide ((U.length : Int) ≤ 16) from by rw [decide_eq_decide]; omega]; rfl, HSS.out, HFW.out.trans HF.out⟩
end Go.Proofs.YtpamdlkagmlahaaGreatDoor
