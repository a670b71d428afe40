/-
  RbJ; RaB: texts of one kind in one file; each part says what it holds.
-/
import Derived.Test.YtpamdlkagmlahaaGreatDoorK36
import Derived.Test.YtpamdlkagmlahaaGreatDoorK41
import Derived.Test.YtpamdlkagmlahaaGreatDoorK42
import Derived.Test.YtpamdlkagmlahaaGreatDoorK38
import Derived.Test.YtpamdlkagmlahaaGreatDoorK37

set_option maxHeartbeats 12800000
set_option maxRecDepth 100000
namespace Go.Proofs.YtpamdlkagmlahaaGreatDoor
theorem chk_flat {c : Ch} (h : chkC c = 0) : c.v.ll = [] := by
 rcases (chkC_ok h).2.2.2.2 with q | q
 ·rw [nul_v q]; rfl
 ·exact pln_ll q
theorem chk_id {c : Ch} (h : chkC c = 0) : 1 ≤ c.id ∧ c.id ≤ 1000000 := by
 have q := (chkC_ok h).2.1
 unfold idsC idV at q
 simp only [Bool.and_eq_true, decide_eq_true_eq] at q
 exact q.1
theorem chk_op {c : Ch} (h : chkC c = 0) : 1 ≤ c.op ∧ c.op ≤ 8 := by
 have q := (chkC_ok h).1
 unfold opV at q
 simpa using q
def stpT (g : Gr) (c : Ch) : Gr := if stpE g c = 0 then stpG g c else zerG
theorem stpT_ok {g : Gr} {c : Ch} (h : stpE g c = 0) : stpT g c = stpG g c := by unfold stpT; rw [if_pos h]
theorem stpT_no {g : Gr} {c : Ch} (h : stpE g c ≠ 0) : stpT g c = zerG := by unfold stpT; rw [if_neg h]
theorem stpT_flat {g : Gr} {c : Ch} (h : Fine g) : Flat (stpT g c) := by
 by_cases q : stpE g c = 0
 ·rw [stpT_ok q]; exact (fine_step h q).flat
 ·rw [stpT_no q]; exact zerG_flat
section
variable {g : Gr} {c : Ch} (hc : chkC c = 0)
include hc
theorem stpE_1 (ho : c.op = 1) : stpE g c = if hasN g.ns c.id = true then 7 else if 2000 ≤ g.ns.length then 20 else 0 := by
 unfold stpE
 rw [if_neg (fun h => h hc), if_pos ho]
theorem stpE_6 (ho : c.op = 6) : stpE g c = if hasE g.es c.id = true then 7 else if (hasN g.ns c.fr && hasN g.ns c.tt) = false then 10 else if 4000 ≤ g.es.length then 20 else 0 := by
 unfold stpE
 rw [if_neg (fun h => h hc), if_neg (by omega), if_pos ho]
theorem stpE_e0 (ho : c.op = 7 ∨ c.op = 8) (hn : edgV g.es c.id = none) : stpE g c = 11 := by
 unfold stpE
 rw [if_neg (fun h => h hc), if_neg (by omega), if_neg (by omega), if_pos ho, hn]
theorem stpE_e (ho : c.op = 7 ∨ c.op = 8) {x : Ed} (hn : edgV g.es c.id = some x) : stpE g c = if c.op = 8 then setE x.ps c.nm c.v else 0 := by
 unfold stpE
 rw [if_neg (fun h => h hc), if_neg (by omega), if_neg (by omega), if_pos ho, hn]
theorem stpE_n0 (ho : c.op = 2 ∨ c.op = 3 ∨ c.op = 4 ∨ c.op = 5) (hn : nodV g.ns c.id = none) : stpE g c = 10 := by
 unfold stpE
 rw [if_neg (fun h => h hc), if_neg (by omega), if_neg (by omega), if_neg (by omega), hn]
theorem stpE_n (ho : c.op = 2 ∨ c.op = 3 ∨ c.op = 4 ∨ c.op = 5) {x : Nd} (hn : nodV g.ns c.id = some x) : stpE g c = nerr g c x := by
 unfold stpE
 rw [if_neg (fun h => h hc), if_neg (by omega), if_neg (by omega), if_neg (by omega), hn]
variable (hf : Fine g)
include hf
theorem ref2 (ho : c.op = 2) {n : Nd} (hn : nodV g.ns c.id = some n) : (if useV g.es c.id = true then (12 : Int) else 0) = stpE g c ∧ (if useV g.es c.id = true then zerG else { g with ns := butA Nd.id c.id g.ns }) = stpT g c := by
 have e : stpE g c = if useV g.es c.id = true then 12 else 0 := by
  rw [stpE_n hc (.inl ho) hn]
  unfold nerr
  rw [if_neg (by omega), if_neg (by omega), if_neg (by omega)]
 refine ⟨e.symm, ?_⟩
 by_cases h : useV g.es c.id = true
 ·rw [if_pos h, stpT_no (by rw [e, if_pos h]; decide)]
 ·have hh : hasN g.ns c.id = true := by rw [← nod_some, hn]; rfl
  rw [if_neg h, stpT_ok (by rw [e, if_neg h]), ref_delN hf hh]
  unfold stpG nedi
  rw [if_neg (by omega), if_neg (by omega), if_neg (by omega), if_neg (by omega), if_neg (by omega), if_neg (by omega), if_neg (by omega)]
theorem ref_put {n : Nd} (ho : Nop c.op) (hn : nodV g.ns c.id = some n) {y : Nd} (hy : y = nG c n) (hi : y.id = n.id) : ({ g with ns := putA Nd.id y false g.ns, nn := max g.nn (n.id + 1) } : Gr) = stpG g c := by
 subst hy
 rw [← ref_node hf hn ho hc, hi]
theorem ref3 (ho : c.op = 3) {n : Nd} (hn : nodV g.ns c.id = some n) : (if hasS n.ls c.nm = true then (7 : Int) else if 8 ≤ n.ls.length then 20 else 0) = stpE g c ∧ (if hasS n.ls c.nm = true then zerG else if 8 ≤ n.ls.length then zerG else { g with ns := putA Nd.id (⟨n.id, putS n.ls c.nm, n.ps⟩ : Nd) false g.ns, nn := max g.nn (n.id + 1) }) = stpT g c := by
 have e : stpE g c = if hasS n.ls c.nm = true then 7 else if 8 ≤ n.ls.length then 20 else 0 := by
  rw [stpE_n hc (.inr (.inl ho)) hn]
  unfold nerr
  rw [if_pos ho]
 refine ⟨e.symm, ?_⟩
 by_cases h : hasS n.ls c.nm = true
 ·rw [if_pos h, stpT_no (by rw [e, if_pos h]; decide)]
 ·by_cases h8 : 8 ≤ n.ls.length
  ·rw [if_neg h, if_pos h8, stpT_no (by rw [e, if_neg h, if_pos h8]; decide)]
  ·rw [if_neg h, if_neg h8, stpT_ok (by rw [e, if_neg h, if_neg h8])]
   exact ref_put hc hf (.inl ho) hn (ref_lab ho (by simpa using h)) rfl
theorem ref4 (ho : c.op = 4) {n : Nd} (hn : nodV g.ns c.id = some n) : (if hasS n.ls c.nm = true then (0 : Int) else 23) = stpE g c ∧ (if hasS n.ls c.nm = true then { g with ns := putA Nd.id (⟨n.id, butS c.nm n.ls, n.ps⟩ : Nd) false g.ns, nn := max g.nn (n.id + 1) } else zerG) = stpT g c := by
 have e : stpE g c = if hasS n.ls c.nm = true then 0 else 23 := by
  rw [stpE_n hc (.inr (.inr (.inl ho))) hn]
  unfold nerr
  rw [if_neg (by omega), if_pos ho]
 refine ⟨e.symm, ?_⟩
 obtain ⟨k, A, hg, hm, hi⟩ := at_n hf hn
 by_cases h : hasS n.ls c.nm = true
 ·rw [if_pos h, stpT_ok (by rw [e, if_pos h])]
  exact ref_put hc hf (.inr (.inl ho)) hn (ref_unl (hf.nf n hm).p ho h) rfl
 ·rw [if_neg h, stpT_no (by rw [e, if_neg h]; decide)]
theorem ref5 (ho : c.op = 5) {n : Nd} (hn : nodV g.ns c.id = some n) : (if decide ((putP c.nm c.v (isN c.v) false n.ps).length ≤ 16) = true then (0 : Int) else 20) = stpE g c ∧ (if decide ((putP c.nm c.v (isN c.v) false n.ps).length ≤ 16) = true then { g with ns := putA Nd.id (⟨n.id, n.ls, putP c.nm c.v (isN c.v) false n.ps⟩ : Nd) false g.ns, nn := max g.nn (n.id + 1) } else zerG) = stpT g c := by
 obtain ⟨k, A, hg, hm, hi⟩ := at_n hf hn
 have hp := (hf.nf n hm).p
 have e0 : stpE g c = setE n.ps c.nm c.v := by
  rw [stpE_n hc (.inr (.inr (.inr ho))) hn]
  unfold nerr
  rw [if_neg (by omega), if_neg (by omega), if_pos ho]
 have r := set_room (k := c.nm) (v := c.v) hp
 have es := putP_set c.nm c.v hp.ki
 rw [es]
 by_cases h : (setP n.ps c.nm c.v).length ≤ 16
 ·have hb : decide ((setP n.ps c.nm c.v).length ≤ 16) = true := decide_eq_true h
  rw [if_pos hb, if_pos hb, e0, r.1 h, stpT_ok (by rw [e0, r.1 h])]
  refine ⟨rfl, ?_⟩
  rw [← es]
  exact ref_put hc hf (.inr (.inr ho)) hn (ref_set hp ho) rfl
 ·have hb : ¬ decide ((setP n.ps c.nm c.v).length ≤ 16) = true := by simpa using h
  have e20 : setE n.ps c.nm c.v = 20 := by
   have := fun q => h (r.2 q)
   unfold setE at this ⊢
   split
   ·rfl
   ·rename_i q; exact absurd (by rw [if_neg q]) this
  rw [if_neg hb, if_neg hb, e0, e20, stpT_no (by rw [e0, e20]; decide)]
  exact ⟨rfl, rfl⟩
theorem ref7 (ho : c.op = 7) {n : Ed} (hn : edgV g.es c.id = some n) : (0 : Int) = stpE g c ∧ ({ g with es := butA Ed.id c.id g.es } : Gr) = stpT g c := by
 have e : stpE g c = 0 := by rw [stpE_e hc (.inl ho) hn, if_neg (by omega)]
 refine ⟨e.symm, ?_⟩
 have hh : hasE g.es c.id = true := by rw [← edg_some, hn]; rfl
 rw [stpT_ok e, ref_delE hf hh]
 unfold stpG
 rw [if_neg (by omega), if_neg (by omega), if_neg (by omega), if_pos ho]
theorem ref8 (ho : c.op = 8) {n : Ed} (hn : edgV g.es c.id = some n) : (if decide ((putP c.nm c.v (isN c.v) false n.ps).length ≤ 16) = true then (0 : Int) else 20) = stpE g c ∧ (if decide ((putP c.nm c.v (isN c.v) false n.ps).length ≤ 16) = true then { g with es := putA Ed.id (⟨n.id, n.fr, n.to, n.ty, putP c.nm c.v (isN c.v) false n.ps⟩ : Ed) false g.es, ne := max g.ne (n.id + 1) } else zerG) = stpT g c := by
 obtain ⟨k, A, hg, hm, hi⟩ := at_e hf hn
 have hp := (hf.ef n hm).p
 have e0 : stpE g c = setE n.ps c.nm c.v := by rw [stpE_e hc (.inr ho) hn, if_pos ho]
 have r := set_room (k := c.nm) (v := c.v) hp
 have es := putP_set c.nm c.v hp.ki
 rw [es]
 by_cases h : (setP n.ps c.nm c.v).length ≤ 16
 ·have hb : decide ((setP n.ps c.nm c.v).length ≤ 16) = true := decide_eq_true h
  rw [if_pos hb, if_pos hb, e0, r.1 h, stpT_ok (by rw [e0, r.1 h]), ← ref_edge hf hn ho hc]
  exact ⟨rfl, rfl⟩
 ·have hb : ¬ decide ((setP n.ps c.nm c.v).length ≤ 16) = true := by simpa using h
  have e20 : setE n.ps c.nm c.v = 20 := by
   have := fun q => h (r.2 q)
   unfold setE at this ⊢
   split
   ·rfl
   ·rename_i q; exact absurd (by rw [if_neg q]) this
  rw [if_neg hb, if_neg hb, e0, e20, stpT_no (by rw [e0, e20]; decide)]
  exact ⟨rfl, rfl⟩
theorem ref1 (ho : c.op = 1) (h1 : hasN g.ns c.id = false) (h2 : ¬ 2000 ≤ g.ns.length) : (0 : Int) = stpE g c ∧ ({ g with ns := putA Nd.id (⟨c.id, [], []⟩ : Nd) false g.ns, nn := max g.nn (c.id + 1) } : Gr) = stpT g c := by
 have e : stpE g c = 0 := by rw [stpE_1 hc ho, if_neg (by rw [h1]; decide), if_neg h2]
 refine ⟨e.symm, ?_⟩
 rw [stpT_ok e, ref_addN hf h1]
 unfold stpG
 rw [if_pos ho]
theorem ref6 (ho : c.op = 6) (h1 : hasE g.es c.id = false) (h2 : hasN g.ns c.fr = true) (h3 : hasN g.ns c.tt = true) (h4 : ¬ 4000 ≤ g.es.length) : (0 : Int) = stpE g c ∧ ({ g with es := putA Ed.id (⟨c.id, c.fr, c.tt, c.nm, []⟩ : Ed) false g.es, ne := max g.ne (c.id + 1) } : Gr) = stpT g c := by
 have e : stpE g c = 0 := by rw [stpE_6 hc ho, if_neg (by rw [h1]; decide), if_neg (by rw [h2, h3]; decide), if_neg h4]
 refine ⟨e.symm, ?_⟩
 rw [stpT_ok e, ref_addE hf h1]
 unfold stpG
 rw [if_neg (by omega), if_pos ho]
end
end Go.Proofs.YtpamdlkagmlahaaGreatDoor

namespace Go.Proofs.YtpamdlkagmlahaaGreatDoor
open Go.RowKit
theorem chkR_of {c : Ch} {i1 i2 i3 n em v zn nv pl : Bool} (h1 : i1 = idV c.id) (h2 : i2 = idV c.fr) (h3 : i3 = idV c.tt) (h4 : n = nmd c.op) (h5 : em = c.nm.isEmpty) (h6 : v = vld c.op) (h7 : zn = isN c.v) (h8 : nv = nameV c.nm) (h9 : pl = plnV c.v) :
  chkC c = if ((decide (1 ≤ c.op) && decide (c.op ≤ 8)) && (i1 && (!decide (c.op = 6) || (i2 && i3))) && ((decide (c.op = 6) || (decide (c.fr = 0) && decide (c.tt = 0))) && (n || em) && (v || zn))) = false then 1 else if (n && !nv) = true then 6 else if (!zn && !pl) = true then 8 else 0 := by
 subst h1 h2 h3 h4 h5 h6 h7 h8 h9; rfl
theorem rchk8_any (c : Ch) (a : Option Addr) (k : Nat) (w : World) (h : ChIn w c a k) : Calls Tryz.prog 10 #[.agg (chC c a k)] w (FwI w (chkC c)) := by
 obtain ⟨W, hW⟩ : ∃ W, W = w.alloc (.cells (chC c a k) 30) := ⟨_, rfl⟩
 have fW : Fuw w W := by rw [hW]; exact fuwA _ _
 have bW : Bk W w.heap.size (chC c a k) 30 := by rw [hW]; exact Bk.new _ _ _
 have HI1 := Lib.hid (fun (w' : World) => rid_any c.id w')
 have HI2 := Lib.hid (fun (w' : World) => rid_any c.fr w')
 have HI3 := Lib.hid (fun (w' : World) => rid_any c.tt w')
 have HNA := Lib.hid (fun (w' : World) => rnamed_any c.op w')
 have HVA := Lib.hid (fun (w' : World) => rvalued_any c.op w')
 have HNM := Lib.hid (fun (w' : World) => show Calls Tryz.prog 32 #[.string (bs c.nm)] w' (PureB w' (nameV c.nm)) from by
  have := rname_any (bs c.nm) w' (by rw [bs_size]; exact h.n)
  rwa [bs_data] at this)
 have HNU := Lib.hid (fun (w' : World) (hf : Fuw w w') => rnull_any c.v a k w' h.v (h.s.onw hf))
 have HPL := Lib.hid (fun (w' : World) (hf : Fuw w w') => rplain_any c.v a k w' h.v (h.s.onw hf))
 have HR := Lib.hid (chkR_of (c := c) rfl rfl rfl rfl rfl rfl rfl rfl rfl)
 have y1 : ((bs c.nm).toList == []) = c.nm.isEmpty := by rw [bs_list]; cases c.nm <;> rfl
 have y3 : (bs c.nm).toList.isEmpty = c.nm.isEmpty := by rw [bs_list]
 generalize chkC c = R at *
 have HB := Lib.hid bW
 have HF := Lib.hid fW
 obtain ⟨op, id, fr, tt, nm, v⟩ := c
 unfold vlv at HNU HPL
 unfold chC at *
 simp only at *
 generalize idV id = i1 at *
 generalize idV fr = i2 at *
 generalize idV tt = i3 at *
 generalize nmd op = n at *
 generalize vld op = vv at *
 generalize nm.isEmpty = em at *
 generalize nameV nm = nv at *
 generalize isN v = zn at *
 generalize plnV v = pl at *
 clear h bW fW
 go_enter Tryz.func10, Tryz.ntmps10
 go_upto_region 1 with fail
 rw [← hW]
 clear hW
 have c0 := HB.out.c 0; have c1 := HB.out.c 1; have c2 := HB.out.c 2; have c3 := HB.out.c 3; have c4 := HB.out.c 4; have c5 := HB.out.c 5; have c6 := HB.out.c 6; have c7 := HB.out.c 7; have c8 := HB.out.c 8; have c9 := HB.out.c 9
 by_cases h1 : op < 1
 ·skip
  have q := HR.out
  rw [decide_eq_false (show ¬ 1 ≤ op by omega)] at q
  replace HR := Lib.hid q
  clear q
  have HE := Lib.hid (show R = 1 from HR.out.trans (by simp))
  go_wp2
  go_ret
  exact ⟨ret_int HE.out.symm, HF.out⟩
 by_cases h2 : 8 < op
 ·skip
  have q := HR.out
  rw [decide_eq_false (show ¬ op ≤ 8 by omega)] at q
  replace HR := Lib.hid q
  clear q
  have HE := Lib.hid (show R = 1 from HR.out.trans (by simp))
  go_wp2
  go_ret
  exact ⟨ret_int HE.out.symm, HF.out⟩
 have q := HR.out
 rw [decide_eq_true (show 1 ≤ op by omega), decide_eq_true (show op ≤ 8 by omega)] at q
 replace HR := Lib.hid q
 clear q
 go_wp2_with fail
 go_at_call 28; refine (HI1.out _).mono ?_; rintro e1 w1 ⟨rfl, rfl⟩
 cases i1 with
 | false =>
  have HE := Lib.hid (show R = 1 from HR.out.trans (by simp))
  go_wp2
  go_ret
  exact ⟨ret_int HE.out.symm, HF.out⟩
 | true =>
  go_wp2_with fail
  go_at_call 29; refine (HNA.out _).mono ?_; rintro e1 w1 ⟨rfl, rfl⟩
  cases n with
  | false =>
   cases em with
   | false =>
    have HE := Lib.hid (show R = 1 from HR.out.trans (by simp))
    go_wp2
    go_ret
    exact ⟨ret_int HE.out.symm, HF.out⟩
   | true =>
    go_wp2_with fail
    go_at_call 30; refine (HVA.out _).mono ?_; rintro e1 w1 ⟨rfl, rfl⟩
    cases vv with
    | false =>
     go_wp2_with fail
     go_at_call 31; refine (HNU.out _ HF.out).mono ?_; rintro e1 w1 ⟨rfl, f1⟩
     replace HF := Lib.hid (HF.out.trans f1)
     replace HB := Lib.hid (HB.out.on f1)
     clear f1 c0 c1 c2 c3 c4 c5 c6 c7 c8 c9
     have c0 := HB.out.c 0; have c1 := HB.out.c 1; have c2 := HB.out.c 2; have c3 := HB.out.c 3; have c4 := HB.out.c 4; have c5 := HB.out.c 5; have c6 := HB.out.c 6; have c7 := HB.out.c 7; have c8 := HB.out.c 8; have c9 := HB.out.c 9
     cases zn with
     | false =>
      have HE := Lib.hid (show R = 1 from HR.out.trans (by simp))
      go_wp2
      go_ret
      exact ⟨ret_int HE.out.symm, HF.out⟩
     | true =>
      by_cases h6 : op = 6
      ·skip
       have q := HR.out
       rw [decide_eq_true h6] at q
       replace HR := Lib.hid q
       clear q
       subst h6
       go_wp2_with fail
       go_at_call 28; refine (HI2.out _).mono ?_; rintro e1 w1 ⟨rfl, rfl⟩
       cases i2 with
       | false =>
        have HE := Lib.hid (show R = 1 from HR.out.trans (by simp))
        go_wp2
        go_ret
        exact ⟨ret_int HE.out.symm, HF.out⟩
       | true =>
        go_wp2_with fail
        go_at_call 28; refine (HI3.out _).mono ?_; rintro e1 w1 ⟨rfl, rfl⟩
        cases i3 with
        | false =>
         have HE := Lib.hid (show R = 1 from HR.out.trans (by simp))
         go_wp2
         go_ret
         exact ⟨ret_int HE.out.symm, HF.out⟩
        | true =>
         go_wp2_with fail
         go_at_call 29; refine (HNA.out _).mono ?_; rintro e1 w1 ⟨rfl, rfl⟩
         go_wp2_with fail
         go_at_call 30; refine (HVA.out _).mono ?_; rintro e1 w1 ⟨rfl, rfl⟩
         have HE := Lib.hid (show R = 0 from HR.out.trans (by simp))
         go_wp2
         go_ret
         exact ⟨ret_int HE.out.symm, HF.out⟩
      ·skip
       have q := HR.out
       rw [decide_eq_false h6] at q
       replace HR := Lib.hid q
       clear q
       have h6b : (op == 6) = false := beq_eq_false_iff_ne.2 h6
       have h6c : (op != 6) = true := by rw [bne_iff_ne]; exact h6
       by_cases h3 : fr = 0
       ·skip
        have q := HR.out
        rw [decide_eq_true h3] at q
        replace HR := Lib.hid q
        clear q
        subst h3
        by_cases h4 : tt = 0
        ·skip
         have q := HR.out
         rw [decide_eq_true h4] at q
         replace HR := Lib.hid q
         clear q
         subst h4
         go_wp2_with fail
         go_at_call 29; refine (HNA.out _).mono ?_; rintro e1 w1 ⟨rfl, rfl⟩
         go_wp2_with fail
         go_at_call 30; refine (HVA.out _).mono ?_; rintro e1 w1 ⟨rfl, rfl⟩
         have HE := Lib.hid (show R = 0 from HR.out.trans (by simp))
         go_wp2
         go_ret
         exact ⟨ret_int HE.out.symm, HF.out⟩
        ·skip
         have q := HR.out
         rw [decide_eq_false h4] at q
         replace HR := Lib.hid q
         clear q
         have h4b : (tt == 0) = false := beq_eq_false_iff_ne.2 h4
         have h4c : (tt != 0) = true := by rw [bne_iff_ne]; exact h4
         have HE := Lib.hid (show R = 1 from HR.out.trans (by simp))
         go_wp2
         go_ret
         exact ⟨ret_int HE.out.symm, HF.out⟩
       ·skip
        have q := HR.out
        rw [decide_eq_false h3] at q
        replace HR := Lib.hid q
        clear q
        have h3b : (fr == 0) = false := beq_eq_false_iff_ne.2 h3
        have h3c : (fr != 0) = true := by rw [bne_iff_ne]; exact h3
        have HE := Lib.hid (show R = 1 from HR.out.trans (by simp))
        go_wp2
        go_ret
        exact ⟨ret_int HE.out.symm, HF.out⟩
    | true =>
     by_cases h6 : op = 6
     ·skip
      have q := HR.out
      rw [decide_eq_true h6] at q
      replace HR := Lib.hid q
      clear q
      subst h6
      go_wp2_with fail
      go_at_call 28; refine (HI2.out _).mono ?_; rintro e1 w1 ⟨rfl, rfl⟩
      cases i2 with
      | false =>
       have HE := Lib.hid (show R = 1 from HR.out.trans (by simp))
       go_wp2
       go_ret
       exact ⟨ret_int HE.out.symm, HF.out⟩
      | true =>
       go_wp2_with fail
       go_at_call 28; refine (HI3.out _).mono ?_; rintro e1 w1 ⟨rfl, rfl⟩
       cases i3 with
       | false =>
        have HE := Lib.hid (show R = 1 from HR.out.trans (by simp))
        go_wp2
        go_ret
        exact ⟨ret_int HE.out.symm, HF.out⟩
       | true =>
        go_wp2_with fail
        go_at_call 29; refine (HNA.out _).mono ?_; rintro e1 w1 ⟨rfl, rfl⟩
        go_wp2_with fail
        go_at_call 30; refine (HVA.out _).mono ?_; rintro e1 w1 ⟨rfl, rfl⟩
        go_wp2_with fail
        go_at_call 31; refine (HNU.out _ HF.out).mono ?_; rintro e1 w1 ⟨rfl, f1⟩
        replace HF := Lib.hid (HF.out.trans f1)
        replace HB := Lib.hid (HB.out.on f1)
        clear f1 c0 c1 c2 c3 c4 c5 c6 c7 c8 c9
        have c0 := HB.out.c 0; have c1 := HB.out.c 1; have c2 := HB.out.c 2; have c3 := HB.out.c 3; have c4 := HB.out.c 4; have c5 := HB.out.c 5; have c6 := HB.out.c 6; have c7 := HB.out.c 7; have c8 := HB.out.c 8; have c9 := HB.out.c 9
        cases zn with
        | false =>
         go_wp2_with fail
         go_at_call 33; refine (HPL.out _ HF.out).mono ?_; rintro e1 w1 ⟨rfl, f1⟩
         replace HF := Lib.hid (HF.out.trans f1)
         replace HB := Lib.hid (HB.out.on f1)
         clear f1 c0 c1 c2 c3 c4 c5 c6 c7 c8 c9
         have c0 := HB.out.c 0; have c1 := HB.out.c 1; have c2 := HB.out.c 2; have c3 := HB.out.c 3; have c4 := HB.out.c 4; have c5 := HB.out.c 5; have c6 := HB.out.c 6; have c7 := HB.out.c 7; have c8 := HB.out.c 8; have c9 := HB.out.c 9
         cases pl with
         | false =>
          have HE := Lib.hid (show R = 8 from HR.out.trans (by simp))
          go_wp2
          go_ret
          exact ⟨ret_int HE.out.symm, HF.out⟩
         | true =>
          have HE := Lib.hid (show R = 0 from HR.out.trans (by simp))
          go_wp2
          go_ret
          exact ⟨ret_int HE.out.symm, HF.out⟩
        | true =>
         have HE := Lib.hid (show R = 0 from HR.out.trans (by simp))
         go_wp2
         go_ret
         exact ⟨ret_int HE.out.symm, HF.out⟩
     ·skip
      have q := HR.out
      rw [decide_eq_false h6] at q
      replace HR := Lib.hid q
      clear q
      have h6b : (op == 6) = false := beq_eq_false_iff_ne.2 h6
      have h6c : (op != 6) = true := by rw [bne_iff_ne]; exact h6
      by_cases h3 : fr = 0
      ·skip
       have q := HR.out
       rw [decide_eq_true h3] at q
       replace HR := Lib.hid q
       clear q
       subst h3
       by_cases h4 : tt = 0
       ·skip
        have q := HR.out
        rw [decide_eq_true h4] at q
        replace HR := Lib.hid q
        clear q
        subst h4
        go_wp2_with fail
        go_at_call 29; refine (HNA.out _).mono ?_; rintro e1 w1 ⟨rfl, rfl⟩
        go_wp2_with fail
        go_at_call 30; refine (HVA.out _).mono ?_; rintro e1 w1 ⟨rfl, rfl⟩
        go_wp2_with fail
        go_at_call 31; refine (HNU.out _ HF.out).mono ?_; rintro e1 w1 ⟨rfl, f1⟩
        replace HF := Lib.hid (HF.out.trans f1)
        replace HB := Lib.hid (HB.out.on f1)
        clear f1 c0 c1 c2 c3 c4 c5 c6 c7 c8 c9
        have c0 := HB.out.c 0; have c1 := HB.out.c 1; have c2 := HB.out.c 2; have c3 := HB.out.c 3; have c4 := HB.out.c 4; have c5 := HB.out.c 5; have c6 := HB.out.c 6; have c7 := HB.out.c 7; have c8 := HB.out.c 8; have c9 := HB.out.c 9
        cases zn with
        | false =>
         go_wp2_with fail
         go_at_call 33; refine (HPL.out _ HF.out).mono ?_; rintro e1 w1 ⟨rfl, f1⟩
         replace HF := Lib.hid (HF.out.trans f1)
         replace HB := Lib.hid (HB.out.on f1)
         clear f1 c0 c1 c2 c3 c4 c5 c6 c7 c8 c9
         have c0 := HB.out.c 0; have c1 := HB.out.c 1; have c2 := HB.out.c 2; have c3 := HB.out.c 3; have c4 := HB.out.c 4; have c5 := HB.out.c 5; have c6 := HB.out.c 6; have c7 := HB.out.c 7; have c8 := HB.out.c 8; have c9 := HB.out.c 9
         cases pl with
         | false =>
          have HE := Lib.hid (show R = 8 from HR.out.trans (by simp))
          go_wp2
          go_ret
          exact ⟨ret_int HE.out.symm, HF.out⟩
         | true =>
          have HE := Lib.hid (show R = 0 from HR.out.trans (by simp))
          go_wp2
          go_ret
          exact ⟨ret_int HE.out.symm, HF.out⟩
        | true =>
         have HE := Lib.hid (show R = 0 from HR.out.trans (by simp))
         go_wp2
         go_ret
         exact ⟨ret_int HE.out.symm, HF.out⟩
       ·skip
        have q := HR.out
        rw [decide_eq_false h4] at q
        replace HR := Lib.hid q
        clear q
        have h4b : (tt == 0) = false := beq_eq_false_iff_ne.2 h4
        have h4c : (tt != 0) = true := by rw [bne_iff_ne]; exact h4
        have HE := Lib.hid (show R = 1 from HR.out.trans (by simp))
        go_wp2
        go_ret
        exact ⟨ret_int HE.out.symm, HF.out⟩
      ·skip
       have q := HR.out
       rw [decide_eq_false h3] at q
       replace HR := Lib.hid q
       clear q
       have h3b : (fr == 0) = false := beq_eq_false_iff_ne.2 h3
       have h3c : (fr != 0) = true := by rw [bne_iff_ne]; exact h3
       have HE := Lib.hid (show R = 1 from HR.out.trans (by simp))
       go_wp2
       go_ret
       exact ⟨ret_int HE.out.symm, HF.out⟩
  | true =>
   go_wp2_with fail
   go_at_call 30; refine (HVA.out _).mono ?_; rintro e1 w1 ⟨rfl, rfl⟩
   cases vv with
   | false =>
    go_wp2_with fail
    go_at_call 31; refine (HNU.out _ HF.out).mono ?_; rintro e1 w1 ⟨rfl, f1⟩
    replace HF := Lib.hid (HF.out.trans f1)
    replace HB := Lib.hid (HB.out.on f1)
    clear f1 c0 c1 c2 c3 c4 c5 c6 c7 c8 c9
    have c0 := HB.out.c 0; have c1 := HB.out.c 1; have c2 := HB.out.c 2; have c3 := HB.out.c 3; have c4 := HB.out.c 4; have c5 := HB.out.c 5; have c6 := HB.out.c 6; have c7 := HB.out.c 7; have c8 := HB.out.c 8; have c9 := HB.out.c 9
    cases zn with
    | false =>
     have HE := Lib.hid (show R = 1 from HR.out.trans (by simp))
     go_wp2
     go_ret
     exact ⟨ret_int HE.out.symm, HF.out⟩
    | true =>
     by_cases h6 : op = 6
     ·skip
      have q := HR.out
      rw [decide_eq_true h6] at q
      replace HR := Lib.hid q
      clear q
      subst h6
      go_wp2_with fail
      go_at_call 28; refine (HI2.out _).mono ?_; rintro e1 w1 ⟨rfl, rfl⟩
      cases i2 with
      | false =>
       have HE := Lib.hid (show R = 1 from HR.out.trans (by simp))
       go_wp2
       go_ret
       exact ⟨ret_int HE.out.symm, HF.out⟩
      | true =>
       go_wp2_with fail
       go_at_call 28; refine (HI3.out _).mono ?_; rintro e1 w1 ⟨rfl, rfl⟩
       cases i3 with
       | false =>
        have HE := Lib.hid (show R = 1 from HR.out.trans (by simp))
        go_wp2
        go_ret
        exact ⟨ret_int HE.out.symm, HF.out⟩
       | true =>
        go_wp2_with fail
        go_at_call 29; refine (HNA.out _).mono ?_; rintro e1 w1 ⟨rfl, rfl⟩
        go_wp2_with fail
        go_at_call 32; refine (HNM.out _).mono ?_; rintro e1 w1 ⟨rfl, rfl⟩
        cases nv with
        | false =>
         have HE := Lib.hid (show R = 6 from HR.out.trans (by simp))
         go_wp2
         go_ret
         exact ⟨ret_int HE.out.symm, HF.out⟩
        | true =>
         go_wp2_with fail
         go_at_call 30; refine (HVA.out _).mono ?_; rintro e1 w1 ⟨rfl, rfl⟩
         have HE := Lib.hid (show R = 0 from HR.out.trans (by simp))
         go_wp2
         go_ret
         exact ⟨ret_int HE.out.symm, HF.out⟩
     ·skip
      have q := HR.out
      rw [decide_eq_false h6] at q
      replace HR := Lib.hid q
      clear q
      have h6b : (op == 6) = false := beq_eq_false_iff_ne.2 h6
      have h6c : (op != 6) = true := by rw [bne_iff_ne]; exact h6
      by_cases h3 : fr = 0
      ·skip
       have q := HR.out
       rw [decide_eq_true h3] at q
       replace HR := Lib.hid q
       clear q
       subst h3
       by_cases h4 : tt = 0
       ·skip
        have q := HR.out
        rw [decide_eq_true h4] at q
        replace HR := Lib.hid q
        clear q
        subst h4
        go_wp2_with fail
        go_at_call 29; refine (HNA.out _).mono ?_; rintro e1 w1 ⟨rfl, rfl⟩
        go_wp2_with fail
        go_at_call 32; refine (HNM.out _).mono ?_; rintro e1 w1 ⟨rfl, rfl⟩
        cases nv with
        | false =>
         have HE := Lib.hid (show R = 6 from HR.out.trans (by simp))
         go_wp2
         go_ret
         exact ⟨ret_int HE.out.symm, HF.out⟩
        | true =>
         go_wp2_with fail
         go_at_call 30; refine (HVA.out _).mono ?_; rintro e1 w1 ⟨rfl, rfl⟩
         have HE := Lib.hid (show R = 0 from HR.out.trans (by simp))
         go_wp2
         go_ret
         exact ⟨ret_int HE.out.symm, HF.out⟩
       ·skip
        have q := HR.out
        rw [decide_eq_false h4] at q
        replace HR := Lib.hid q
        clear q
        have h4b : (tt == 0) = false := beq_eq_false_iff_ne.2 h4
        have h4c : (tt != 0) = true := by rw [bne_iff_ne]; exact h4
        have HE := Lib.hid (show R = 1 from HR.out.trans (by simp))
        go_wp2
        go_ret
        exact ⟨ret_int HE.out.symm, HF.out⟩
      ·skip
       have q := HR.out
       rw [decide_eq_false h3] at q
       replace HR := Lib.hid q
       clear q
       have h3b : (fr == 0) = false := beq_eq_false_iff_ne.2 h3
       have h3c : (fr != 0) = true := by rw [bne_iff_ne]; exact h3
       have HE := Lib.hid (show R = 1 from HR.out.trans (by simp))
       go_wp2
       go_ret
       exact ⟨ret_int HE.out.symm, HF.out⟩
   | true =>
    by_cases h6 : op = 6
    ·skip
     have q := HR.out
     rw [decide_eq_true h6] at q
     replace HR := Lib.hid q
     clear q
     subst h6
     go_wp2_with fail
     go_at_call 28; refine (HI2.out _).mono ?_; rintro e1 w1 ⟨rfl, rfl⟩
     cases i2 with
     | false =>
      have HE := Lib.hid (show R = 1 from HR.out.trans (by simp))
      go_wp2
      go_ret
      exact ⟨ret_int HE.out.symm, HF.out⟩
     | true =>
      go_wp2_with fail
      go_at_call 28; refine (HI3.out _).mono ?_; rintro e1 w1 ⟨rfl, rfl⟩
      cases i3 with
      | false =>
       have HE := Lib.hid (show R = 1 from HR.out.trans (by simp))
       go_wp2
       go_ret
       exact ⟨ret_int HE.out.symm, HF.out⟩
      | true =>
       go_wp2_with fail
       go_at_call 29; refine (HNA.out _).mono ?_; rintro e1 w1 ⟨rfl, rfl⟩
       go_wp2_with fail
       go_at_call 32; refine (HNM.out _).mono ?_; rintro e1 w1 ⟨rfl, rfl⟩
       cases nv with
       | false =>
        have HE := Lib.hid (show R = 6 from HR.out.trans (by simp))
        go_wp2
        go_ret
        exact ⟨ret_int HE.out.symm, HF.out⟩
       | true =>
        go_wp2_with fail
        go_at_call 30; refine (HVA.out _).mono ?_; rintro e1 w1 ⟨rfl, rfl⟩
        go_wp2_with fail
        go_at_call 31; refine (HNU.out _ HF.out).mono ?_; rintro e1 w1 ⟨rfl, f1⟩
        replace HF := Lib.hid (HF.out.trans f1)
        replace HB := Lib.hid (HB.out.on f1)
        clear f1 c0 c1 c2 c3 c4 c5 c6 c7 c8 c9
        have c0 := HB.out.c 0; have c1 := HB.out.c 1; have c2 := HB.out.c 2; have c3 := HB.out.c 3; have c4 := HB.out.c 4; have c5 := HB.out.c 5; have c6 := HB.out.c 6; have c7 := HB.out.c 7; have c8 := HB.out.c 8; have c9 := HB.out.c 9
        cases zn with
        | false =>
         go_wp2_with fail
         go_at_call 33; refine (HPL.out _ HF.out).mono ?_; rintro e1 w1 ⟨rfl, f1⟩
         replace HF := Lib.hid (HF.out.trans f1)
         replace HB := Lib.hid (HB.out.on f1)
         clear f1 c0 c1 c2 c3 c4 c5 c6 c7 c8 c9
         have c0 := HB.out.c 0; have c1 := HB.out.c 1; have c2 := HB.out.c 2; have c3 := HB.out.c 3; have c4 := HB.out.c 4; have c5 := HB.out.c 5; have c6 := HB.out.c 6; have c7 := HB.out.c 7; have c8 := HB.out.c 8; have c9 := HB.out.c 9
         cases pl with
         | false =>
          have HE := Lib.hid (show R = 8 from HR.out.trans (by simp))
          go_wp2
          go_ret
          exact ⟨ret_int HE.out.symm, HF.out⟩
         | true =>
          have HE := Lib.hid (show R = 0 from HR.out.trans (by simp))
          go_wp2
          go_ret
          exact ⟨ret_int HE.out.symm, HF.out⟩
        | true =>
         have HE := Lib.hid (show R = 0 from HR.out.trans (by simp))
         go_wp2
         go_ret
         exact ⟨ret_int HE.out.symm, HF.out⟩
    ·skip
     have q := HR.out
     rw [decide_eq_false h6] at q
     replace HR := Lib.hid q
     clear q
     have h6b : (op == 6) = false := beq_eq_false_iff_ne.2 h6
     have h6c : (op != 6) = true := by rw [bne_iff_ne]; exact h6
     by_cases h3 : fr = 0
     ·skip
      have q := HR.out
      rw [decide_eq_true h3] at q
      replace HR := Lib.hid q
      clear q
      subst h3
      by_cases h4 : tt = 0
      ·skip
       have q := HR.out
       rw [decide_eq_true h4] at q
       replace HR := Lib.hid q
       clear q
       subst h4
       go_wp2_with fail
       go_at_call 29; refine (HNA.out _).mono ?_; rintro e1 w1 ⟨rfl, rfl⟩
       go_wp2_with fail
       go_at_call 32; refine (HNM.out _).mono ?_; rintro e1 w1 ⟨rfl, rfl⟩
       cases nv with
       | false =>
        have HE := Lib.hid (show R = 6 from HR.out.trans (by simp))
        go_wp2
        go_ret
        exact ⟨ret_int HE.out.symm, HF.out⟩
       | true =>
        go_wp2_with fail
        go_at_call 30; refine (HVA.out _).mono ?_; rintro e1 w1 ⟨rfl, rfl⟩
        go_wp2_with fail
        go_at_call 31; refine (HNU.out _ HF.out).mono ?_; rintro e1 w1 ⟨rfl, f1⟩
        replace HF := Lib.hid (HF.out.trans f1)
        replace HB := Lib.hid (HB.out.on f1)
        clear f1 c0 c1 c2 c3 c4 c5 c6 c7 c8 c9
        have c0 := HB.out.c 0; have c1 := HB.out.c 1; have c2 := HB.out.c 2; have c3 := HB.out.c 3; have c4 := HB.out.c 4; have c5 := HB.out.c 5; have c6 := HB.out.c 6; have c7 := HB.out.c 7; have c8 := HB.out.c 8; have c9 := HB.out.c 9
        cases zn with
        | false =>
         go_wp2_with fail
         go_at_call 33; refine (HPL.out _ HF.out).mono ?_; rintro e1 w1 ⟨rfl, f1⟩
         replace HF := Lib.hid (HF.out.trans f1)
         replace HB := Lib.hid (HB.out.on f1)
         clear f1 c0 c1 c2 c3 c4 c5 c6 c7 c8 c9
         have c0 := HB.out.c 0; have c1 := HB.out.c 1; have c2 := HB.out.c 2; have c3 := HB.out.c 3; have c4 := HB.out.c 4; have c5 := HB.out.c 5; have c6 := HB.out.c 6; have c7 := HB.out.c 7; have c8 := HB.out.c 8; have c9 := HB.out.c 9
         cases pl with
         | false =>
          have HE := Lib.hid (show R = 8 from HR.out.trans (by simp))
          go_wp2
          go_ret
          exact ⟨ret_int HE.out.symm, HF.out⟩
         | true =>
          have HE := Lib.hid (show R = 0 from HR.out.trans (by simp))
          go_wp2
          go_ret
          exact ⟨ret_int HE.out.symm, HF.out⟩
        | true =>
         have HE := Lib.hid (show R = 0 from HR.out.trans (by simp))
         go_wp2
         go_ret
         exact ⟨ret_int HE.out.symm, HF.out⟩
      ·skip
       have q := HR.out
       rw [decide_eq_false h4] at q
       replace HR := Lib.hid q
       clear q
       have h4b : (tt == 0) = false := beq_eq_false_iff_ne.2 h4
       have h4c : (tt != 0) = true := by rw [bne_iff_ne]; exact h4
       have HE := Lib.hid (show R = 1 from HR.out.trans (by simp))
       go_wp2
       go_ret
       exact ⟨ret_int HE.out.symm, HF.out⟩
     ·skip
      have q := HR.out
      rw [decide_eq_false h3] at q
      replace HR := Lib.hid q
      clear q
      have h3b : (fr == 0) = false := beq_eq_false_iff_ne.2 h3
      have h3c : (fr != 0) = true := by rw [bne_iff_ne]; exact h3
      have HE := Lib.hid (show R = 1 from HR.out.trans (by simp))
      go_wp2
      go_ret
      exact ⟨ret_int HE.out.symm, HF.out⟩
end Go.Proofs.YtpamdlkagmlahaaGreatDoor
