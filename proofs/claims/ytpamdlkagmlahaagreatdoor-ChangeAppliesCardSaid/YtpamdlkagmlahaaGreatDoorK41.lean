/-
  StD; RbN; RbF: texts of one kind in one file; each part says what it holds.
-/
import Derived.Test.YtpamdlkagmlahaaGreatDoorTxE
import Derived.Test.YtpamdlkagmlahaaGreatDoorK14
import Derived.Test.YtpamdlkagmlahaaGreatDoorK37
import Derived.Test.YtpamdlkagmlahaaGreatDoorK36
import Derived.Test.YtpamdlkagmlahaaGreatDoorK38
import Derived.Test.YtpamdlkagmlahaaGreatDoorRbD
import Derived.Test.YtpamdlkagmlahaaGreatDoorK40

set_option maxHeartbeats 6400000
set_option maxRecDepth 100000
namespace Go.Proofs.YtpamdlkagmlahaaGreatDoor
open Go.RowKit
theorem news_SS {w : World} {l : List (List UInt8)} {cap : Nat} {ad : Addr} (h : SlS w (some ad) l cap) : ∀ j u, (sC l)[j]? = some u → w.cell? (ad.add j) = some u := by
 intro j u hu
 by_cases hj : j < l.length
 ·rw [sC_get hj] at hu
  obtain ⟨b, o, e, -, hc⟩ := h.get hj
  cases e
  rw [Go.WideShapes.add_plain, ← hu, ← hc, Nat.mul_one]
 ·rw [List.getElem?_eq_none (by rw [sC_len]; omega)] at hu; cases hu
def RetD (w : World) (L : List (List UInt8)) (e : Ending) (w' : World) : Prop := ∃ a c, e = .returned (.slice a L.length c) ∧ SlS w' a L c ∧ Fuw w w'
theorem news_take {w : World} {l : List (List UInt8)} {cap i : Nat} {ad : Addr} (h : SlS w (some ad) l cap) : ∀ j u, (sC (l.take i))[j]? = some u → w.cell? (ad.add j) = some u := by
 intro j u hu
 refine news_SS h j u ?_
 unfold sC at *
 rw [List.map_take, List.getElem?_take] at hu
 split at hu
 ·exact hu
 ·cases hu
theorem news_drop {w : World} {l : List (List UInt8)} {cap i b o : Nat} (h : SlS w (some ⟨b, o, none⟩) l cap) : ∀ j u, (sC (l.drop i))[j]? = some u → w.cell? ((⟨b, o + i, none⟩ : Addr).add j) = some u := by
 intro j u hu
 unfold sC at hu
 rw [List.map_drop, List.getElem?_drop] at hu
 have k := news_SS h (i + j) u hu
 rw [Go.WideShapes.add_plain] at k ⊢
 rw [Nat.add_assoc]; exact k
theorem put_eq {l : List (List UInt8)} {s : List UInt8} {i : Nat} (h : i < l.length) (e : i = atS l s) (k : (l[i] == s) = true) : putS l s = l.take i ++ l.drop i := by
 unfold putS
 rw [← e, List.getElem?_eq_getElem h, if_pos (by rw [eq_of_beq k]), List.append_nil]
theorem put_ne {l : List (List UInt8)} {s : List UInt8} {i : Nat} (h : i < l.length) (e : i = atS l s) (k : (l[i] == s) = false) : putS l s = l.take i ++ [s] ++ l.drop i := by
 unfold putS
 rw [← e, List.getElem?_eq_getElem h, if_neg (by intro c; cases c; simp at k)]
theorem put_all {l : List (List UInt8)} {s : List UInt8} (e : l.length = atS l s) : putS l s = l ++ [s] := by
 unfold putS
 rw [← e, List.getElem?_eq_none (Nat.le_refl _), if_neg (by intro c; cases c), List.take_length, List.drop_length, List.append_nil]
theorem at_end {l : List (List UInt8)} {s : List UInt8} {i : Nat} (h : i ≤ atS l s) (h' : l.length ≤ i) : i = atS l s := by have := at_le l s; omega
theorem rput_any (l : List (List UInt8)) (ao : Option Addr) (cap : Nat) (s : List UInt8) (w : World) (hs : SlS w ao l cap) (hn : l.length ≤ 200000) (hz : s.length ≤ maxLen) :
  Calls Tryz.prog 94 #[.slice ao l.length cap, .string (bs s)] w (RetD w (putS l s)) := by
 have hl := hs.len
 have hc := hs.cap_
 have hle := hs.le
 have HS := Lib.hid hs
 have HST := Lib.hid (fun (i : Nat) (h : i < l.length) (h' : i ≤ atS l s) => at_step l s i h h')
 have HEN := Lib.hid (fun (i : Nat) (h : i ≤ atS l s) (h' : l.length ≤ i) => at_end h h')
 have HPL := Lib.hid (fun (h : l.length = atS l s) => put_all h)
 have HMX := Lib.hid (show ∀ t ∈ putS l s, t.length ≤ maxLen from fun t ht => by
  rcases (put_mem s t l).1 ht with rfl | ht
  ·exact hz
  ·obtain ⟨k, hk, rfl⟩ := List.getElem_of_mem ht
   obtain ⟨-, -, -, hz, -⟩ := HS.out.get hk
   exact hz)
 obtain ⟨i0, hi, hz0, hz1, hz2⟩ := info_parts infoS
 clear hs
 go_enter Tryz.func94, Tryz.ntmps94
 go_wp2
 go_loop [6] (fun iv => ∃ i : Nat, iv = .int .i64 i ∧ i ≤ l.length ∧ Hid (i ≤ atS l s)) (fun iv => l.length - (RowKit.intOf iv).toNat)
 case atStart => exact ⟨0, rfl, Nat.zero_le _, Nat.zero_le _⟩
 case round =>
  obtain ⟨i, rfl, hii, HQ⟩ := hrel
  by_cases hlt : i < l.length
  ·obtain ⟨b, o, rfl, -, c0⟩ := HS.out.get hlt
   rw [Nat.mul_one] at c0
   have HX := Lib.hid (HST.out i hlt HQ.out)
   cases hb : Op.bytesLess (bs l[i]).toList (bs s).toList with
   | true =>
    have HY := Lib.hid (show i + 1 ≤ atS l s from HX.out.1 (by rw [toL, toL, bs_data, bs_data] at hb; exact hb))
    generalize l[i] = x at *
    go_wp2
    go_round
    case rel => exact ⟨i + 1, by go_num, by omega, HY⟩
    case measure => simp [RowKit.intOf]; omega
   | false =>
    have HY := Lib.hid (show i = atS l s from HX.out.2 (by rw [toL, toL, bs_data, bs_data] at hb; exact hb))
    have HPE := Lib.hid (fun (h : (l[i] == s) = true) => put_eq hlt HY.out h)
    have HPN := Lib.hid (fun (h : (l[i] == s) = false) => put_ne hlt HY.out h)
    have HNT := Lib.hid (fun (w' : World) (hf : Fuw w w') => news_take (i := i) (slS_on hf HS.out))
    have HND := Lib.hid (fun (w' : World) (hf : Fuw w w') => news_drop (i := i) (slS_on hf HS.out))
    have hlt' : (sC (l.take i)).length = i * 1 := by rw [sC_len, List.length_take, Nat.mul_one]; omega
    generalize l[i] = x at *
    go_upto_region 6 with (at_builtin; refine wpList_append_own_at _ rfl (.tmp 21) (.tmp 24) 46 rfl w.heap.size 9 i0 (.string ⟨#[]⟩) 1 16 Tryz.underlying46 hi hz0 hz1 hz2 rfl (by decide) _ 0 ([]) rfl (World.ownsRow_nil _ _ _ _) _ (i) cap (sC (l.take i)) rfl (hlt') (HNT.out _ (Fuw.refl _)) (one_S _) (by unfold maxLen; omega) (by omega) (Nat.le_refl _) ?_; intro v1 w1 hown1 hgrow1 _ _)
    have F1 := Lib.hid (show Fuw w w1 from Below.grown (Fuw.refl _) hgrow1 (Nat.le_refl _) (fun k hk => by cases hk))
    have c0' := cellOnw F1.out c0
    have hne : ((i : Int) == (l.length : Int)) = false := by rw [beq_eq_false_iff_ne]; omega
    have hld : (sC (l.drop i)).length = (l.length - i) * 1 := by rw [sC_len, List.length_drop, Nat.mul_one]
    clear hgrow1 c0
    cases he : ((bs x).toList == (bs s).toList) with
    | true =>
     have HZ := Lib.hid (show putS l s = l.take i ++ l.drop i from by
      rw [bs_eq] at he
      exact HPE.out he)
     have he' : ((bs x).toList != (bs s).toList) = false := by rw [bne, he]; rfl
     go_upto_region 8 with fail
     clear c0' hne he he'
     go_wp2_with (at_builtin; refine wpList_append_own_at _ rfl (.tmp 42) (.tmp 45) 46 rfl w.heap.size 9 i0 (.string ⟨#[]⟩) 1 16 Tryz.underlying46 hi hz0 hz1 hz2 rfl (by decide) _ (0 + i) ([] ++ sC (l.take i)) rfl (hown1) _ (l.length - i) (cap - i) (sC (l.drop i)) rfl (hld) (HND.out _ F1.out) (one_S _) (by unfold maxLen; omega) (by omega) (by have := F1.out.size; omega) ?_; intro v2 w2 hown2 hgrow2 _ _)
     have F2 := Lib.hid (show Fuw w w2 from Below.grown F1.out hgrow2 F1.out.size (fun k hk => (hown1.lt k hk).1))
     rw [show [] ++ sC (l.take i) ++ sC (l.drop i) = sC (putS l s) by rw [HZ.out, sC_app]; rfl] at hown2
     clear hgrow2 hown1 HNT HND hld hlt'
     obtain ⟨a, c, rfl, -, hS⟩ := slS_of_own hown2 HMX.out
     have HSS := Lib.hid hS
     clear hown2 hS
     go_wp2
     go_ret
     exact ⟨a, c, rfl, HSS.out, F2.out⟩
    | false =>
     have HZ := Lib.hid (show putS l s = l.take i ++ [s] ++ l.drop i from by
      rw [bs_eq] at he
      exact HPN.out he)
     have he' : ((bs x).toList != (bs s).toList) = true := by rw [bne, he]; rfl
     go_upto_region 7 with fail
     clear c0' hne he he'
     go_upto_region 8 with (at_builtin; refine wpList_append_own_at _ rfl (.tmp 38) (.tmp 40) 46 rfl w.heap.size 9 i0 (.string ⟨#[]⟩) 1 16 Tryz.underlying46 hi hz0 hz1 hz2 rfl (by decide) _ (0 + i) ([] ++ sC (l.take i)) rfl (hown1.alloc _) ⟨w1.heap.size, 0, none⟩ (1) 1 (sC [s]) rfl (rfl) (World.news_of_block (heap_alloc_new w1 _)) (one_S _) (by unfold maxLen; omega) (by omega) (by have := F1.out.size; simp; omega) ?_; intro v2 w2 hown2 hgrow2 _ _)
     have F2 := Lib.hid (show Fuw w w2 from Below.grown (F1.out.alloc _) hgrow2 (F1.out.alloc _).size (fun k hk => (hown1.lt k hk).1))
     clear hgrow2 hown1
     go_wp2_with (at_builtin; refine wpList_append_own_at _ rfl (.tmp 42) (.tmp 45) 46 rfl w.heap.size 9 i0 (.string ⟨#[]⟩) 1 16 Tryz.underlying46 hi hz0 hz1 hz2 rfl (by decide) _ (0 + i + 1) ([] ++ sC (l.take i) ++ sC [s]) rfl (hown2) _ (l.length - i) (cap - i) (sC (l.drop i)) rfl (hld) (HND.out _ F2.out) (one_S _) (by unfold maxLen; omega) (by omega) (by have := F2.out.size; omega) ?_; intro v3 w3 hown3 hgrow3 _ _)
     have F3 := Lib.hid (show Fuw w w3 from Below.grown F2.out hgrow3 F2.out.size (fun k hk => (hown2.lt k hk).1))
     rw [show [] ++ sC (l.take i) ++ sC [s] ++ sC (l.drop i) = sC (putS l s) by rw [HZ.out, sC_app, sC_app]; rfl] at hown3
     clear hgrow3 hown2 HNT HND hld hlt'
     obtain ⟨a, c, rfl, -, hS⟩ := slS_of_own hown3 HMX.out
     have HSS := Lib.hid hS
     clear hown3 hS
     go_wp2
     go_ret
     exact ⟨a, c, rfl, HSS.out, F3.out⟩
  ·have HY := Lib.hid (HEN.out i HQ.out (by omega))
   obtain rfl : i = l.length := by omega
   have HZ := Lib.hid (show putS l s = l ++ [s] from HPL.out HY.out)
   have hne : ((l.length : Int) == (l.length : Int)) = true := by simp
   have hlt' : (sC l).length = l.length * 1 := by rw [sC_len, Nat.mul_one]
   cases ao with
   | none =>
    have z1 : cap = 0 := HS.out.nil rfl
    have z2 : l = [] := List.eq_nil_of_length_eq_zero (by omega)
    subst z1 z2
    clear hlt'
    go_upto_region 6 with (at_builtin; refine wpList_append_own_none rfl (.tmp 21) (.tmp 24) 46 rfl w.heap.size 9 i0 1 Tryz.underlying46 hi _ 0 ([]) rfl (World.ownsRow_nil _ _ _ _) rfl ?_)
    go_upto_region 7 with fail
    go_upto_region 8 with (at_builtin; refine wpList_append_own_at _ rfl (.tmp 38) (.tmp 40) 46 rfl w.heap.size 9 i0 (.string ⟨#[]⟩) 1 16 Tryz.underlying46 hi hz0 hz1 hz2 rfl (by decide) _ 0 ([]) rfl (World.ownsRow_nil _ _ _ _) ⟨w.heap.size, 0, none⟩ (1) 1 (sC [s]) rfl (rfl) (World.news_of_block (heap_alloc_new w _)) (one_S _) (by unfold maxLen; omega) (by omega) (by simp) ?_; intro v2 w2 hown2 hgrow2 _ _)
    have F2 := Lib.hid (show Fuw w w2 from Below.grown ((Fuw.refl w).alloc _) hgrow2 ((Fuw.refl w).alloc _).size (fun k hk => by cases hk))
    clear hgrow2
    go_wp2_with (at_builtin; refine wpList_append_own_none rfl (.tmp 42) (.tmp 45) 46 rfl w.heap.size 9 i0 1 Tryz.underlying46 hi _ _ ([] ++ sC [s]) rfl (hown2) rfl ?_)
    rw [show [] ++ sC [s] = sC (putS [] s) by rw [HZ.out]; rfl] at hown2
    obtain ⟨a, c, rfl, -, hS⟩ := slS_of_own hown2 HMX.out
    have HSS := Lib.hid hS
    clear hown2 hS
    go_wp2
    go_ret
    exact ⟨a, c, rfl, HSS.out, F2.out⟩
   | some ad =>
    have HNA := Lib.hid (news_SS HS.out)
    obtain ⟨ad', hAD⟩ : ∃ ad', (if cap = l.length then some ad else some (ad.add l.length)) = some ad' := by split <;> exact ⟨_, rfl⟩
    go_upto_region 6 with (at_builtin; refine wpList_append_own_at _ rfl (.tmp 21) (.tmp 24) 46 rfl w.heap.size 9 i0 (.string ⟨#[]⟩) 1 16 Tryz.underlying46 hi hz0 hz1 hz2 rfl (by decide) _ 0 ([]) rfl (World.ownsRow_nil _ _ _ _) _ (l.length) cap (sC l) rfl (hlt') (HNA.out) (one_S _) (by unfold maxLen; omega) (by omega) (Nat.le_refl _) ?_; intro v1 w1 hown1 hgrow1 _ _)
    have F1 := Lib.hid (show Fuw w w1 from Below.grown (Fuw.refl _) hgrow1 (Nat.le_refl _) (fun k hk => by cases hk))
    clear hgrow1 HNA
    go_upto_region 7 with fail
    clear hne
    go_upto_region 8 with (at_builtin; refine wpList_append_own_at _ rfl (.tmp 38) (.tmp 40) 46 rfl w.heap.size 9 i0 (.string ⟨#[]⟩) 1 16 Tryz.underlying46 hi hz0 hz1 hz2 rfl (by decide) _ (0 + l.length) ([] ++ sC l) rfl (hown1.alloc _) ⟨w1.heap.size, 0, none⟩ (1) 1 (sC [s]) rfl (rfl) (World.news_of_block (heap_alloc_new w1 _)) (one_S _) (by unfold maxLen; omega) (by omega) (by have := F1.out.size; simp; omega) ?_; intro v2 w2 hown2 hgrow2 _ _)
    have F2 := Lib.hid (show Fuw w w2 from Below.grown (F1.out.alloc _) hgrow2 (F1.out.alloc _).size (fun k hk => (hown1.lt k hk).1))
    clear hgrow2 hown1
    go_wp2_with (at_builtin; refine wpList_append_own_at _ rfl (.tmp 42) (.tmp 45) 46 rfl w.heap.size 9 i0 (.string ⟨#[]⟩) 1 16 Tryz.underlying46 hi hz0 hz1 hz2 rfl (by decide) _ (0 + l.length + 1) ([] ++ sC l ++ sC [s]) rfl (hown2) ad' (0) (cap - l.length) ([]) (by first | rfl | (show Value.slice (if cap = l.length then some ad else some (ad.add l.length)) 0 (cap - l.length) = _; rw [hAD])) (rfl) (by intro j u h; simp at h) (by intro u h; cases h) (by unfold maxLen; omega) (by omega) (by have := F2.out.size; omega) ?_; intro v3 w3 hown3 hgrow3 _ _)
    all_goals
     have F3 := Lib.hid (show Fuw w w3 from Below.grown F2.out hgrow3 F2.out.size (fun k hk => (hown2.lt k hk).1))
     rw [show [] ++ sC l ++ sC [s] ++ [] = sC (putS l s) by rw [HZ.out, sC_app, List.append_nil]; rfl] at hown3
     clear hgrow3 hown2 hlt'
     obtain ⟨a, c, rfl, -, hS⟩ := slS_of_own hown3 HMX.out
     have HSS := Lib.hid hS
     clear hown3 hS
     go_wp2
     go_ret
     exact ⟨a, c, rfl, HSS.out, F3.out⟩
end Go.Proofs.YtpamdlkagmlahaaGreatDoor

namespace Go.Proofs.YtpamdlkagmlahaaGreatDoor
theorem ref_addN {g : Gr} {id : Int} (h : Fine g) (hn : hasN g.ns id = false) : ({ g with ns := putA Nd.id ⟨id, [], []⟩ false g.ns, nn := max g.nn (id + 1) } : Gr) = addN g id := by
 unfold addN
 rw [putA_ins Nd.id ⟨id, [], []⟩ h.pn (fun q => by
  have e : hasN g.ns id = true := hasN_ids.2 q
  rw [hn] at e; cases e)]
 rfl
theorem ref_addE {g : Gr} {c : Ch} (h : Fine g) (hn : hasE g.es c.id = false) : ({ g with es := putA Ed.id ⟨c.id, c.fr, c.tt, c.nm, []⟩ false g.es, ne := max g.ne (c.id + 1) } : Gr) = addE g c := by
 unfold addE
 rw [putA_ins Ed.id ⟨c.id, c.fr, c.tt, c.nm, []⟩ h.pe (fun q => by
  have e : hasE g.es c.id = true := hasE_ids.2 q
  rw [hn] at e; cases e)]
 rfl
theorem ref_delN {g : Gr} {id : Int} (h : Fine g) (hn : hasN g.ns id = true) : ({ g with ns := butA Nd.id id g.ns } : Gr) = delN g id := by
 unfold delN
 rw [butA_del Nd.id id h.pn (hasN_ids.1 hn)]
 rfl
theorem ref_delE {g : Gr} {id : Int} (h : Fine g) (hn : hasE g.es id = true) : ({ g with es := butA Ed.id id g.es } : Gr) = delE g id := by
 unfold delE
 rw [butA_del Ed.id id h.pe (hasE_ids.1 hn)]
 rfl
theorem ref_node {g : Gr} {c : Ch} {n : Nd} (h : Fine g) (hn : nodV g.ns c.id = some n) (ho : Nop c.op) (hc : chkC c = 0) : ({ g with ns := putA Nd.id (nG c n) false g.ns, nn := max g.nn ((nG c n).id + 1) } : Gr) = stpG g c := by
 obtain ⟨k, A, hg, hm, hi⟩ := at_n h hn
 obtain ⟨-, e2⟩ := step_put A hi ho hc rfl
 rw [hg] at e2
 rw [e2]
 have hid : (nG c n).id = c.id := (nG_id c n).trans hi
 have e3 := putA_set Nd.id (nG c n) h.pn (by rw [hid, ← hi]; exact List.mem_map_of_mem hm)
 have e4 : atI (g.ns.map Nd.id) (nG c n).id = k := by rw [hid]; exact A.at_
 rw [e4] at e3
 have hlt := (h.nf n hm).hi
 have e5 : max g.nn ((nG c n).id + 1) = g.nn := by rw [hid, ← hi]; omega
 rw [e3, e5]
 rfl
theorem ref_edge {g : Gr} {c : Ch} {n : Ed} (h : Fine g) (hn : edgV g.es c.id = some n) (ho : c.op = 8) (hc : chkC c = 0) : ({ g with es := putA Ed.id { n with ps := setP n.ps c.nm c.v } false g.es, ne := max g.ne (n.id + 1) } : Gr) = stpG g c := by
 obtain ⟨k, A, hg, hm, hi⟩ := at_e h hn
 obtain ⟨-, e2⟩ := step_pute A hi ho hc rfl
 rw [hg] at e2
 rw [e2]
 have e3 := putA_set Ed.id { n with ps := setP n.ps c.nm c.v } h.pe (by
  show n.id ∈ _
  exact List.mem_map_of_mem hm)
 have e4 : atI (g.es.map Ed.id) n.id = k := by rw [hi]; exact A.at_
 have e3' : putA Ed.id { n with ps := setP n.ps c.nm c.v } false g.es = g.es.set (atI (g.es.map Ed.id) n.id) { n with ps := setP n.ps c.nm c.v } := e3
 rw [e4] at e3'
 have hlt := (h.ef n hm).hi
 have e5 : max g.ne (n.id + 1) = g.ne := by omega
 rw [e3', e5]
 rfl
theorem ref_lab {c : Ch} {n : Nd} (ho : c.op = 3) (hn : hasS n.ls c.nm = false) : ({ n with ls := putS n.ls c.nm } : Nd) = nG c n := by
 unfold nG
 rw [if_pos ho, ins_put hn]
theorem ref_unl {c : Ch} {n : Nd} {ps : List Pp} (hp : Par n.ls ps) (ho : c.op = 4) (hn : hasS n.ls c.nm = true) : ({ n with ls := butS c.nm n.ls } : Nd) = nG c n := by
 unfold nG
 rw [if_neg (by omega), if_pos ho, butS_del c.nm hp.li (hasS_iff.1 hn)]
theorem ref_set {c : Ch} {n : Nd} {ls : List (List UInt8)} (hp : Par ls n.ps) (ho : c.op = 5) : ({ n with ps := putP c.nm c.v (isN c.v) false n.ps } : Nd) = nG c n := by
 unfold nG
 rw [if_neg (by omega), if_neg (by omega), putP_set c.nm c.v hp.ki]
theorem set_room {ls : List (List UInt8)} {ps : List Pp} {k : List UInt8} {v : Vl} (h : Par ls ps) : (setP ps k v).length ≤ 16 ↔ setE ps k v = 0 := by
 have hl := h.p16
 unfold setP setE
 by_cases h1 : hasK ps k = true
 ·obtain ⟨hk, -⟩ := at_hasK h.ki h1
  have hne : ¬ (hasK ps k = false ∧ isN v = false ∧ 16 ≤ ps.length) := fun q => by rw [h1] at q; cases q.1
  rw [if_pos h1, if_neg hne]
  by_cases h2 : isN v = true
  ·rw [if_pos h2]
   have := delA_len ps _ hk
   exact ⟨fun _ => rfl, fun _ => by omega⟩
  ·rw [if_neg h2, List.length_set]
   exact ⟨fun _ => rfl, fun _ => hl⟩
 ·have h1' : hasK ps k = false := by simpa using h1
  rw [if_neg h1]
  by_cases h2 : isN v = true
  ·have hne : ¬ (hasK ps k = false ∧ isN v = false ∧ 16 ≤ ps.length) := fun q => by rw [h2] at q; cases q.2.1
   rw [if_pos h2, if_neg hne]
   exact ⟨fun _ => rfl, fun _ => hl⟩
  ·have h2' : isN v = false := by simpa using h2
   rw [if_neg h2, insA_len]
   by_cases h3 : 16 ≤ ps.length
   ·rw [if_pos ⟨h1', h2', h3⟩]
    exact ⟨fun q => by omega, fun q => absurd q (by decide)⟩
   ·have hne : ¬ (hasK ps k = false ∧ isN v = false ∧ 16 ≤ ps.length) := fun q => h3 q.2.2
    rw [if_neg hne]
    exact ⟨fun _ => rfl, fun _ => by omega⟩
end Go.Proofs.YtpamdlkagmlahaaGreatDoor

namespace Go.Proofs.YtpamdlkagmlahaaGreatDoor
open Go.RowKit
theorem ronn_del (g : Gr) (an ae : Option Addr) (cn ce : Nat) (c : Ch) (a : Option Addr) (k : Nat) (n : Nd) (al ap : Option Addr) (kl kp : Nat) (w : World) (hg : GIn w g an ae cn ce) (hfl : Flat g) (hi : ChIn w c a k) (hnd : NdIn w n al ap kl kp) (hop : c.op = 2) (hes : g.es.length ≤ 10000) (hns : g.ns.length ≤ 100000) :
  Calls Tryz.prog 55 #[grv g an ae cn ce, .agg (chC c a k), ndv n al ap kl kp] w (RetSt w (if useV g.es c.id = true then 12 else 0) (if useV g.es c.id = true then zerG else { g with ns := butA Nd.id c.id g.ns })) := by
 obtain ⟨i0, hi0, hz0, hz1, hz2⟩ := info_parts infoN
 obtain ⟨W, hW⟩ : ∃ W, W = (((w.alloc (.cells #[.slice an g.ns.length cn, .slice ae g.es.length ce, .int .i64 g.nn, .int .i64 g.ne] 25)).alloc (.cells (chC c a k) 30)).alloc (.cells #[.int .i64 n.id, .slice al n.ls.length kl, .slice ap n.ps.length kp] 51)).alloc (.cells #[.slice none 0 0, .slice none 0 0, .int .i64 0, .int .i64 0] 25) := ⟨_, rfl⟩
 have fW : Fuw w W := by rw [hW]; exact (((fuwA _ _).trans (fuwA _ _)).trans (fuwA _ _)).trans (fuwA _ _)
 have HG := Lib.hid (show Bk W w.heap.size #[.slice an g.ns.length cn, .slice ae g.es.length ce, .int .i64 g.nn, .int .i64 g.ne] 25 from by rw [hW]; exact (Bk.new w _ _).on (((fuwA _ _).trans (fuwA _ _)).trans (fuwA _ _)))
 have HC := Lib.hid (show Bk W (w.heap.size + 1) (chC c a k) 30 from by
  rw [hW]
  have := Bk.new (w.alloc (.cells #[.slice an g.ns.length cn, .slice ae g.es.length ce, .int .i64 g.nn, .int .i64 g.ne] 25)) (chC c a k) 30
  exact Bk.on (by simpa using this) ((fuwA _ _).trans (fuwA _ _)))
 have HN := Lib.hid (show Bk W (w.heap.size + 1 + 1) #[.int .i64 n.id, .slice al n.ls.length kl, .slice ap n.ps.length kp] 51 from by
  rw [hW]
  have := Bk.new ((w.alloc (.cells #[.slice an g.ns.length cn, .slice ae g.es.length ce, .int .i64 g.nn, .int .i64 g.ne] 25)).alloc (.cells (chC c a k) 30)) #[.int .i64 n.id, .slice al n.ls.length kl, .slice ap n.ps.length kp] 51
  exact Bk.on (by simpa using this) (fuwA _ _))
 have HZ := Lib.hid (show Bk W (w.heap.size + 1 + 1 + 1) #[.slice none 0 0, .slice none 0 0, .int .i64 0, .int .i64 0] 25 from by
  rw [hW]
  have := Bk.new (((w.alloc (.cells #[.slice an g.ns.length cn, .slice ae g.es.length ce, .int .i64 g.nn, .int .i64 g.ne] 25)).alloc (.cells (chC c a k) 30)).alloc (.cells #[.int .i64 n.id, .slice al n.ls.length kl, .slice ap n.ps.length kp] 51)) #[.slice none 0 0, .slice none 0 0, .int .i64 0, .int .i64 0] 25
  simpa using this)
 have HWS := Lib.hid (show W.heap.size = w.heap.size + 4 from by rw [hW]; simp)
 have HHL := Lib.hid (fun (w' : World) (hf : Fuw w w') => rhasl_any n al ap kl kp c.nm w' (slS_on hf hnd.2.1))
 have HFW := Lib.hid fW
 have HGI := Lib.hid hg
 have HND := Lib.hid hnd
 have HCI := Lib.hid hi
 have HFL := Lib.hid hfl
 obtain ⟨EE, hEE⟩ : ∃ EE : Int, EE = (if useV g.es c.id = true then 12 else 0) := ⟨_, rfl⟩
 obtain ⟨TT, hTT⟩ : ∃ TT : Gr, TT = (if useV g.es c.id = true then zerG else { g with ns := butA Nd.id c.id g.ns }) := ⟨_, rfl⟩
 rw [← hEE, ← hTT]
 have HEE := Lib.hid hEE
 have HTT := Lib.hid hTT
 clear hEE hTT
 have HUS := Lib.hid (fun (w' : World) (hf : Fuw w w') => rused_any g an ae cn ce c.id w' (hg.on hf) hes)
 obtain ⟨us, hus⟩ : ∃ us, us = useV g.es c.id := ⟨_, rfl⟩
 rw [← hus] at HUS HEE HTT
 have hnl := hg.n.len
 obtain ⟨g0, g1, g2, g3⟩ := HG.out.g4
 have d0 := HC.out.c 0; have d1 := HC.out.c 1; have d4 := HC.out.c 4
 have n0 := HN.out.c 0; have n1 := HN.out.c 1; have n2 := HN.out.c 2
 unfold chC at hW d0 d1 d4
 unfold grv ndv at *
 unfold chC
 rw [hop] at d0
 generalize hasS n.ls c.nm = hs at *
 have HOP := Lib.hid hop
 clear fW hg hi hnd hfl hop hus hes
 go_enter Tryz.func55, Tryz.ntmps55
 go_upto_region 1 with fail
 rw [← hW]
 clear hW
 go_wp2_with fail
 go_at_call 92; refine (HHL.out _ HFW.out).mono ?_; rintro e1 w1 ⟨rfl, f1⟩
 have HF1 := Lib.hid (HFW.out.trans f1)
 have HG1 := Lib.hid (HG.out.on f1)
 have HC1 := Lib.hid (HC.out.on f1)
 have HN1 := Lib.hid (HN.out.on f1)
 have HZ1 := Lib.hid (HZ.out.on f1)
 have HS1 := Lib.hid (show W.heap.size ≤ w1.heap.size from f1.size)
 clear HHL f1 g0 g1 g2 g3 d0 d1 d4 n0 n1 n2 HG HC HN HZ
 obtain ⟨g0, g1, g2, g3⟩ := HG1.out.g4
 obtain ⟨d0, d1, d2, d3, d4, d5, d6, d7, d8, d9⟩ := HC1.out.ch
 rw [HOP.out] at d0
 have n0 := HN1.out.c 0; have n1 := HN1.out.c 1; have n2 := HN1.out.c 2
 go_wp2_with fail
 go_at_call 93; refine (HUS.out _ HF1.out).mono ?_; rintro e2 w2 ⟨rfl, f2⟩
 have HF2 := Lib.hid (HF1.out.trans f2)
 have HG2 := Lib.hid (HG1.out.on f2)
 have HC2 := Lib.hid (HC1.out.on f2)
 have HZ2 := Lib.hid (HZ1.out.on f2)
 have HS2 := Lib.hid (show W.heap.size ≤ w2.heap.size from Nat.le_trans HS1.out f2.size)
 clear g0 g1 g2 g3 d0 d1 d2 d3 d4 d5 d6 d7 d8 d9 n0 n1 n2
 clear f2 HUS HG1 HC1 HZ1 HN1 HF1 HS1
 cases us with
 | true =>
  obtain ⟨z0, z1, z2, z3⟩ := HZ2.out.g4
  obtain ⟨y0, y1, y2, y3⟩ := HZ2.out.f4
  go_wp2
  refine g_ret2 rfl rfl rfl ((((HZ2.out.set_ 0 _).set_ 1 _).set_ 2 _).set_ 3 _) ?_
  have hb1 : w.heap.size ≤ w.heap.size + 1 + 1 + 1 := by omega
  have hE : EE = 12 := by rw [HEE.out]; rfl
  have hT : TT = zerG := by rw [HTT.out]; rfl
  exact ⟨none, none, 0, 0, by rw [hE, hT]; rfl, by rw [hT]; exact zerG_in _, fuwS (fuwS (fuwS (fuwS HF2.out hb1) hb1) hb1) hb1⟩
 | false =>
  have hE : EE = 0 := by rw [HEE.out]; rfl
  have HE0 := Lib.hid hE
  clear hE
  obtain ⟨U, hU⟩ : ∃ U, U = butA Nd.id c.id g.ns := ⟨_, rfl⟩
  have HUL := Lib.hid hU
  have HU := Lib.hid (show U = ([] : List (Nd × (AC × AC))).map Prod.fst ++ butA Nd.id c.id (g.ns.drop 0) from hU)
  have HSN := Lib.hid HGI.out.n
  clear hU
  go_wp2_with fail
  go_loopw [9, 10] (fun lv iv wr => ∃ (i : Nat) (ps : List (Nd × (AC × AC))), iv = .int .i64 i ∧ i ≤ g.ns.length ∧ ps.length ≤ i ∧ wr.ownsRow w2.heap.size 51 3 lv ps.length (LN.cs ps) ∧ Hid (U = ps.map Prod.fst ++ butA Nd.id c.id (g.ns.drop i)) ∧ Hid (NOk w ps) ∧ Hid (Fuw w2 wr)) (fun _ iv _ => g.ns.length - (RowKit.intOf iv).toNat)
  case atStart => exact ⟨0, [], rfl, Nat.zero_le _, Nat.zero_le _, World.ownsRow_nil _ _ _ _, HU, Lib.hid (fun _ h => by cases h), Lib.hid (Fuw.refl _)⟩
  case round =>
   obtain ⟨i, ps, rfl, hii, hps, hown, HQ, HK, HF⟩ := hrel
   generalize wr = wo at *
   obtain ⟨g0, g1, g2, g3⟩ := (HG2.out.on HF.out).g4
   have d1 := (HC2.out.on HF.out).c 1
   unfold chC at d1
   by_cases hlt : i < g.ns.length
   ·obtain ⟨b, o, rfl, x0, c0', ⟨al', cl', c1', s1'⟩, ap', cp', c2', s2'⟩ := HSN.out.get hlt
    have fa := HF2.out.trans HF.out
    have c0 := cellOnw fa c0'; have c1 := cellOnw fa c1'; have c2 := cellOnw fa c2'
    have HD := Lib.hid (HQ.out.trans (by rw [butA_drop Nd.id c.id g.ns i hlt]))
    have HX := Lib.hid (show LN.I g.ns[i] ∧ LN.J g.ns[i] ((al', cl'), (ap', cp')) w from ⟨x0, s1', s2'⟩)
    have hli : (i : Int) < (g.ns.length : Int) := by omega
    clear fa c0' c1' c2' s1' s2' x0
    generalize g.ns[i] = x at *
    by_cases hk : x.id = c.id
    ·have HZX := Lib.hid (show U = ps.map Prod.fst ++ butA Nd.id c.id (g.ns.drop (i + 1)) from by rw [HD.out]; simp [hk])
     have hkb : (x.id == c.id) = true := by rw [hk]; exact beq_self_eq_true _
     have hkc : (x.id != c.id) = false := by rw [bne, hkb]; rfl
     clear hk
     go_upto_region 10 with fail
     go_region
     go_wp2
     go_roundw
     case rel => exact ⟨i + 1, ps, by go_num, by omega, by omega, own_heap hown fun _ _ => rfl, HZX, HK, Lib.hid (HF.out.trans (Fuw.drew (Fuw.refl wo)))⟩
     case measure => simp [RowKit.intOf]; omega
    ·have HZX := Lib.hid (show U = (ps ++ [(x, ((al', cl'), (ap', cp')))]).map Prod.fst ++ butA Nd.id c.id (g.ns.drop (i + 1)) from by rw [HD.out]; simp [hk])
     have hkb : (x.id == c.id) = false := beq_eq_false_iff_ne.2 hk
     have hkc : (x.id != c.id) = true := by rw [bne_iff_ne]; exact hk
     clear hk
     go_upto_region 10 with fail
     go_region
     have HF2b := Lib.hid (HF.out.trans (Fuw.drew (Fuw.refl wo)))
     replace hown : (wo.drew).ownsRow w2.heap.size 51 3 u9 ps.length (LN.cs ps) := own_heap hown fun _ _ => rfl
     go_wp2_with (at_builtin; refine wpList_append_own_at _ rfl (.tmp 42) (.tmp 48) 22 rfl w2.heap.size 51 i0 _ 3 56 Tryz.underlying22 hi0 hz0 hz1 hz2 rfl (by decide) _ ps.length (LN.cs ps) rfl (hown.alloc _) ⟨(wo.drew).heap.size, 0, none⟩ 1 1 (LN.C x ((al', cl'), (ap', cp'))) rfl rfl (World.news_of_block (heap_alloc_new (wo.drew) _)) (one_LN _ _) (by unfold maxLen; omega) (by omega) (by have := HF2b.out.size; simp at *; omega) ?_; intro v5 w5 hown5 hgrow _ _)
     have HF5 := Lib.hid (show Fuw w2 w5 from Below.grown (HF2b.out.alloc _) hgrow (HF2b.out.alloc _).size (fun k hk => by
      exact (hown.lt k hk).1))
     have hown6 : w5.ownsRow w2.heap.size 51 3 v5 (ps ++ [(x, ((al', cl'), (ap', cp')))]).length (LN.cs (ps ++ [(x, ((al', cl'), (ap', cp')))])) := by
      rw [LN.cs_app, LN.cs_one, List.length_append]; exact hown5
     clear hown5 hgrow hown
     go_wp2
     go_roundw
     case rel => exact ⟨i + 1, (ps ++ [(x, ((al', cl'), (ap', cp')))]), by go_num, by omega, (by (try rw [List.length_append]); (try rw [List.length_append]); simp only [List.length_cons, List.length_nil]; omega), hown6, HZX, Lib.hid (HK.out.snoc HX.out.1 HX.out.2), HF5⟩
     case measure => simp [RowKit.intOf]; omega
   ·have hie : i = g.ns.length := by omega
    subst hie
    clear hii hlt
    have hd0 : g.ns.drop g.ns.length = [] := List.drop_of_length_le (Nat.le_refl _)
    have HU2 := Lib.hid (show U = ps.map Prod.fst from by rw [HQ.out, hd0]; show _ ++ [] = _; rw [List.append_nil])
    clear g0 g1 g2 g3 d1 hd0 HQ
    generalize wo = wq at *
    have HX := Lib.hid (show ∀ X : World, (∀ k, w2.heap.size ≤ k → X.heap[k]? = wq.heap[k]?) → Fuw w X → ∃ a c, u9 = .slice a U.length c ∧ SlN X a U c from fun X hx hf => by
     have hox : X.ownsRow w2.heap.size 51 3 u9 ps.length (LN.cs ps) := own_heap hown fun k hk => hx k (hown.lt k hk).1
     obtain ⟨a, c, e, -, hs⟩ := Lay.sl_own (Y := LN) hox (fun p hp => (HK.out p hp).1) (fun p hp => LNJ_on (HK.out p hp).2 hf)
     have hu : ps.map Prod.fst = U := HU2.out.symm
     rw [hu] at hs
     exact ⟨a, c, by rw [e, ← hu, List.length_map], hs⟩)
    obtain ⟨a', c', e5, -⟩ := HX.out wq (fun _ _ => rfl) (HF2.out.trans HF.out)
    subst e5
    have HGQ := Lib.hid (HG2.out.on HF.out)
    have HZQ := Lib.hid (HZ2.out.on HF.out)
    obtain ⟨g0, g1, g2, g3⟩ := HGQ.out.g4
    obtain ⟨f0, f1, f2, f3⟩ := HGQ.out.f4
    obtain ⟨z0, z1, z2, z3⟩ := HZQ.out.g4
    obtain ⟨y0, y1, y2, y3⟩ := HZQ.out.f4
    clear hown
    go_wp2
    refine g_ret2 rfl rfl rfl (((((HZQ.out.far (show w.heap.size + 1 + 1 + 1 ≠ w.heap.size by omega) _).set_ 0 _).set_ 1 _).set_ 2 _).set_ 3 _) ?_
    have hws := HWS.out
    have hs2 := HS2.out
    have hb1 : w.heap.size ≤ w.heap.size + 1 + 1 + 1 := by omega
    have hfz := fuwS (fuwS (fuwS (fuwS (fuwS (HF2.out.trans HF.out) (Nat.le_refl _) (j := 0) (u := .slice a' U.length c')) hb1 (j := 0) (u := .slice a' U.length c')) hb1 (j := 1) (u := .slice ae g.es.length ce)) hb1 (j := 2) (u := .int .i64 g.nn)) hb1 (j := 3) (u := .int .i64 g.ne)
    obtain ⟨a'', c'', e', hs⟩ := HX.out _ (fun k hk => (Below.heap_setCell _ ⟨w.heap.size + 1 + 1 + 1, 3, none⟩ _ k (show k ≠ w.heap.size + 1 + 1 + 1 by omega)).trans ((Below.heap_setCell _ ⟨w.heap.size + 1 + 1 + 1, 2, none⟩ _ k (show k ≠ w.heap.size + 1 + 1 + 1 by omega)).trans ((Below.heap_setCell _ ⟨w.heap.size + 1 + 1 + 1, 1, none⟩ _ k (show k ≠ w.heap.size + 1 + 1 + 1 by omega)).trans ((Below.heap_setCell _ ⟨w.heap.size + 1 + 1 + 1, 0, none⟩ _ k (show k ≠ w.heap.size + 1 + 1 + 1 by omega)).trans (Below.heap_setCell _ ⟨w.heap.size, 0, none⟩ _ k (show k ≠ w.heap.size by omega)))))) hfz
    injection e' with e1 _ e2
    subst e1 e2
    have hE := HE0.out
    have hT : TT = { g with ns := U } := by rw [HTT.out, HUL.out]; rfl
    exact ⟨a', ae, c', ce, by rw [hE, hT]; rfl, by rw [hT]; exact ⟨hs, (HGI.out.on hfz).e, HGI.out.i1, HGI.out.i2⟩, hfz⟩
end Go.Proofs.YtpamdlkagmlahaaGreatDoor
