/-
  KpA; KpB; M39: texts of one kind in one file; each part says what it holds.
-/
import Derived.Test.YtdalienglcpjbaaGreatDoorAlA
import Derived.Test.YtdalienglcpjbaaGreatDoorCpC
import Derived.Test.YtdalienglcpjbaaGreatDoorGtD
import Derived.Test.YtdalienglcpjbaaGreatDoorK32
import Derived.Test.YtdalienglcpjbaaGreatDoorM35
import Derived.Test.YtdalienglcpjbaaGreatDoorK01
import Derived.ProofKit
import Derived.Lib.SmallJoins
import Derived.OpenShut
import Derived.Deep.Slices
import Derived.ChangeSame
import Derived.Carry

/-! The laws of package change: ChangeKeeps. -/
namespace Go.Proofs.YtdalienglcpjbaaGreatDoor
open Go.RowKit

theorem ownns_keepK {base : Nat} {v : Value} {w w' : World} {ps : List (Nd × NMe)} (h2 : OwnNs base v w ps) (hs : w.heap.size ≤ w'.heap.size) (hk : ∀ b, base ≤ b → b < w.heap.size → w'.heap[b]? = w.heap[b]?) : OwnNs base v w' ps := by
  refine ⟨own_heap h2.own fun g hg => hk g (h2.own.lt g hg).1 (h2.own.lt g hg).2, fun p hp => LNi.on (h2.ins p hp) fun b k1 k2 => hk b ?_ ?_, h2.ord, fun p hp => ⟨(h2.rng p hp).1, Nat.le_trans (h2.rng p hp).2.1 hs, (h2.rng p hp).2.2⟩⟩
  · exact Nat.le_trans (h2.rng p hp).1 k1
  · exact Nat.lt_of_lt_of_le k2 (h2.rng p hp).2.1
theorem ownl_slK {l : List Ed} {base : Nat} {a : Option Addr} {k : Nat} {w : World} (h : OwnL LE 59 base l (.slice a l.length k) w) (hv : ∀ x ∈ l, LE.I x) : SlE w a l k := by
  obtain ⟨ps, rfl, h2, h3⟩ := h
  obtain ⟨ao, cap, e, -, hs⟩ := Lay.sl_own (Y := LE) h2 (fun p hp => hv _ (List.mem_map_of_mem hp)) h3.now
  rw [List.length_map] at e
  cases e
  exact hs
theorem ownn_slK {l : List Nd} {base : Nat} {a : Option Addr} {k : Nat} {w : World} (h : OwnN base l (.slice a l.length k) w) (hv : ∀ x ∈ l, I64 x.id) : SlN w a l k := by
  obtain ⟨ao, cap, e, hs⟩ := ownn_sl h hv
  cases e
  exact hs
theorem mem_nI {w : World} {ao : Option Addr} {l : List Nd} {cap : Nat} (h : SlN w ao l cap) : ∀ x ∈ l, I64 x.id := fun x hx => by
  obtain ⟨i, hi, rfl⟩ := List.getElem_of_mem hx
  obtain ⟨b, o, -, hc⟩ := h.get hi
  exact hc.1
theorem mem_eI {w : World} {ao : Option Addr} {l : List Ed} {cap : Nat} (h : SlE w ao l cap) : ∀ x ∈ l, LE.I x := fun x hx => by
  obtain ⟨i, hi, rfl⟩ := List.getElem_of_mem hx
  obtain ⟨b, o, -, hc⟩ := h.get hi
  exact ⟨hc.1, hc.2.1, hc.2.2.1, hc.2.2.2.1⟩
/-- A copy that the reference makes. -/
theorem kcopy_any (g : Gr) (an ae : Option Addr) (cn ce : Nat) (w : World) (hg : GIn w g an ae cn ce) (hm : ModG g) :
    Calls Tryz.prog 16 #[.agg #[.slice an g.ns.length cn, .slice ae g.es.length ce, .int .i64 g.nn, .int .i64 g.ne]] w (fun e w' => ∃ xn xe yn ye, e = .returned (.agg #[.slice xn g.ns.length yn, .slice xe g.es.length ye, .int .i64 g.nn, .int .i64 g.ne]) ∧ GIn w' g xn xe yn ye ∧ Fuw w w') := by
  refine (rcopy_any g an ae cn ce w hg hm).mono ?_
  rintro e w' ⟨s1, xn, xe, yn, ye, w1, rfl, hs1, hs2, hON, hs3, hKK, hOE, f⟩
  obtain ⟨ps, hps, hOs⟩ := hON
  have hN : OwnN s1 g.ns (.slice xn g.ns.length yn) w' := ⟨ps, hps, ownns_keepK hOs hs3 hKK⟩
  exact ⟨xn, xe, yn, ye, rfl, ⟨ownn_slK hN (mem_nI hg.n), ownl_slK hOE (mem_eI hg.e), hg.i1, hg.i2⟩, f⟩
theorem keep_maths {g : Gr} {c : Ch} (h : (appE g [c]).2 = 0) : chkV g = 0 ∧ chkV (appG g [c]) = 0 ∧ g.nn ≤ (appG g [c]).nn ∧ g.ne ≤ (appG g [c]).ne := by
  have e : appG g [c] = allG g [c] := by unfold appG; rw [if_pos h]
  by_cases k : chkV g = 0
  · have h' : (allE g [c] 0).2 = 0 := by unfold appE at h; rw [if_pos k] at h; exact h
    have h2 := fine_all [c] g 0 ((fine_iff g).1 k) h'
    have h3 := step_next g c
    rw [e]
    exact ⟨k, (fine_iff _).2 h2, h3⟩
  · unfold appE at h; rw [if_neg k] at h; exact absurd h k
theorem keep_zero {g : Gr} {c : Ch} (h : ¬ (appE g [c]).2 = 0) : appG g [c] = zerG := by unfold appG; rw [if_neg h]
end Go.Proofs.YtdalienglcpjbaaGreatDoor

/-! The laws of package change: ChangeKeeps, walked. -/
namespace Go.Proofs.YtdalienglcpjbaaGreatDoor
open Go.RowKit

set_option maxHeartbeats 12800000 in
set_option maxRecDepth 100000 in
theorem keeps_walk (g : Gr) (an ae : Option Addr) (cn ce : Nat) (c : Ch) (a : Option Addr) (k : Nat) (w : World) (hg : GIn w g an ae cn ce) (hi : ChIn w c a k) (hGd : Good w) :
    Calls Tryz.prog 4 #[grv g an ae cn ce, .agg (chC c a k)] w (FwB w true) := by
  obtain ⟨W, hW⟩ : ∃ W, W = (w.alloc (.cells #[.slice an g.ns.length cn, .slice ae g.es.length ce, .int .i64 g.nn, .int .i64 g.ne] 25)).alloc (.cells (chC c a k) 30) := ⟨_, rfl⟩
  have fW : Fuw w W := by rw [hW]; exact (fuwA _ _).trans (fuwA _ _)
  have HBW := Lib.hid (show Bk W w.heap.size #[.slice an g.ns.length cn, .slice ae g.es.length ce, .int .i64 g.nn, .int .i64 g.ne] 25 from by rw [hW]; exact (Bk.new w _ _).on (fuwA _ _))
  have HCW := Lib.hid (show Bk W (w.heap.size + 1) (chC c a k) 30 from by
    rw [hW]
    have := Bk.new (w.alloc (.cells #[.slice an g.ns.length cn, .slice ae g.es.length ce, .int .i64 g.nn, .int .i64 g.ne] 25)) (chC c a k) 30
    simpa using this)
  obtain ⟨V, hV⟩ : ∃ V, V = W.alloc (.cells (chC c a k) 30) := ⟨_, rfl⟩
  have fV : Fuw W V := by rw [hV]; exact fuwA _ _
  have HSM := Lib.hid (show Calls Tryz.prog 9 #[grv g an ae cn ce, .slice (some ⟨W.heap.size, 0, none⟩) 1 1] V (FwB V (smC g [c] 40)) from
    smallc_any g an ae cn ce [c] (some ⟨W.heap.size, 0, none⟩) 1 w V (hg.on (fW.trans fV)) (slC_one (by rw [hV]; exact Bk.new _ _ _) hi (fW.trans fV)))
  have HAL := Lib.hid (fun (w' : World) (hf : Fuw w w') => alivec_any w' (hGd.onw hf))
  have HCP := Lib.hid (fun (hs : smC g [c] 40 = true) (w' : World) (hf : Fuw w w') => kcopy_any g an ae cn ce w' (hg.on hf) (sml_mod (by unfold smC at hs; simp only [Bool.and_eq_true] at hs; exact hs.1) (by decide) (by decide)))
  have HAP := Lib.hid (fun (w' : World) (hf : Fuw w w') => apply_any g an ae cn ce c a k w' (hg.on hf) (hi.on hf))
  have HS1 := Lib.hid (fun (bn be : Option Addr) (dn de : Nat) (w' : World) (hf : Fuw w w') (hh : GIn w' g bn be dn de) => show Calls Tryz.prog 15 _ w' (FwB w' true) from by rw [← samG_self g]; exact rsame_any g g an ae bn be cn ce dn de w' (hg.on hf) hh)
  have HK1 := Lib.hid (fun (w' : World) (hf : Fuw w w') => check_any g an ae cn ce w' (hg.on hf))
  have HM := Lib.hid (@keep_maths g c)
  have HZ := Lib.hid (@keep_zero g c)
  have HFV := Lib.hid (fW.trans fV)
  have HVV := Lib.hid hV
  have HCV := Lib.hid (HBW.out.on fV)
  have HDV := Lib.hid (HCW.out.on fV)
  have c0 := HBW.out.c 0; have c1 := HBW.out.c 1; have c2 := HBW.out.c 2; have c3 := HBW.out.c 3
  have d0 := HCW.out.c 0; have d1 := HCW.out.c 1; have d2 := HCW.out.c 2; have d3 := HCW.out.c 3; have d4 := HCW.out.c 4; have d5 := HCW.out.c 5; have d6 := HCW.out.c 6; have d7 := HCW.out.c 7; have d8 := HCW.out.c 8; have d9 := HCW.out.c 9
  unfold RetA1 at HAP
  unfold chC grv at *
  rw [hV] at HSM
  generalize smC g [c] 40 = sm at *
  generalize appG g [c] = T at *
  generalize (appE g [c]).2 = R at *
  clear fW fV hg hi hV hGd HBW HCW
  go_enter Tryz.func4, Tryz.ntmps4
  go_upto_region 1 with fail
  rw [← hW]
  clear hW
  go_wp2_with fail
  go_at_call 9; refine HSM.out.mono ?_; rintro e1 w1 ⟨rfl, f1⟩
  have f1' : Fuw V w1 := by rw [HVV.out]; exact f1
  have HF1 := Lib.hid (HFV.out.trans f1')
  have HB1 := Lib.hid (HCV.out.on f1')
  have HD1 := Lib.hid (HDV.out.on f1')
  clear c0 c1 c2 c3 d0 d1 d2 d3 d4 d5 d6 d7 d8 d9 f1 f1' HSM HVV HFV HCV HDV
  cases sm with
  | false =>
    go_wp2_with fail
    go_at_call 10; refine (HAL.out _ HF1.out).mono ?_; rintro e2 w2 ⟨rfl, f2⟩
    have HF2 := Lib.hid (HF1.out.trans f2)
    clear f2
    go_wp2
    go_ret
    exact ⟨rfl, HF2.out⟩
  | true =>
    have c0 := HB1.out.c 0; have c1 := HB1.out.c 1; have c2 := HB1.out.c 2; have c3 := HB1.out.c 3
    go_wp2_with fail
    go_at_call 16; refine (HCP.out (by trivial) _ HF1.out).mono ?_; rintro e2 w2 ⟨xn, xe, yn, ye, rfl, hgc, f2⟩
    clear c0 c1 c2 c3
    obtain ⟨X, hX⟩ : ∃ X, X = w2.alloc (.cells #[.slice xn g.ns.length yn, .slice xe g.es.length ye, .int .i64 g.nn, .int .i64 g.ne] 25) := ⟨_, rfl⟩
    have fX : Fuw w2 X := by rw [hX]; exact fuwA _ _
    have HF2 := Lib.hid ((HF1.out.trans f2).trans fX)
    have HB2 := Lib.hid ((HB1.out.on f2).on fX)
    have HD2 := Lib.hid ((HD1.out.on f2).on fX)
    have HE2 := Lib.hid (show Bk X w2.heap.size #[.slice xn g.ns.length yn, .slice xe g.es.length ye, .int .i64 g.nn, .int .i64 g.ne] 25 from by rw [hX]; exact Bk.new _ _ _)
    have HGC := Lib.hid (hgc.on fX)
    clear f2 fX hgc HF1 HB1 HD1
    go_upto_region 4 with fail
    rw [← hX]
    clear hX
    generalize w2.heap.size = B2 at *
    have c0 := HB2.out.c 0; have c1 := HB2.out.c 1; have c2 := HB2.out.c 2; have c3 := HB2.out.c 3
    have d0 := HD2.out.c 0; have d1 := HD2.out.c 1; have d2 := HD2.out.c 2; have d3 := HD2.out.c 3; have d4 := HD2.out.c 4; have d5 := HD2.out.c 5; have d6 := HD2.out.c 6; have d7 := HD2.out.c 7; have d8 := HD2.out.c 8; have d9 := HD2.out.c 9
    go_wp2_with fail
    go_at_call 11; refine (HAP.out _ HF2.out).mono ?_; rintro e3 w3 ⟨bn, be, dn, de, rfl, hgt, f3⟩
    clear c0 c1 c2 c3 d0 d1 d2 d3 d4 d5 d6 d7 d8 d9
    obtain ⟨Y, hY⟩ : ∃ Y, Y = w3.alloc (.cells #[.slice bn T.ns.length dn, .slice be T.es.length de, .int .i64 T.nn, .int .i64 T.ne] 25) := ⟨_, rfl⟩
    have fY : Fuw w3 Y := by rw [hY]; exact fuwA _ _
    have HF3 := Lib.hid ((HF2.out.trans f3).trans fY)
    have HB3 := Lib.hid ((HB2.out.on f3).on fY)
    have HE3 := Lib.hid ((HE2.out.on f3).on fY)
    have HT3 := Lib.hid (show Bk Y w3.heap.size #[.slice bn T.ns.length dn, .slice be T.es.length de, .int .i64 T.nn, .int .i64 T.ne] 25 from by rw [hY]; exact Bk.new _ _ _)
    have HGK := Lib.hid ((HGC.out.on f3).on fY)
    have HGT := Lib.hid (hgt.on fY)
    clear f3 fY hgt HF2 HB2 HD2 HE2 HGC
    go_upto_region 5 with fail
    rw [← hY]
    clear hY
    generalize w3.heap.size = B3 at *
    have c0 := HB3.out.c 0; have c1 := HB3.out.c 1; have c2 := HB3.out.c 2; have c3 := HB3.out.c 3
    have d0 := HE3.out.c 0; have d1 := HE3.out.c 1; have d2 := HE3.out.c 2; have d3 := HE3.out.c 3
    go_wp2_with fail
    go_at_call 15; refine (HS1.out _ _ _ _ _ HF3.out HGK.out).mono ?_; rintro e4 w4 ⟨rfl, f4⟩
    clear c0 c1 c2 c3 d0 d1 d2 d3
    have HF4 := Lib.hid (HF3.out.trans f4)
    have HB4 := Lib.hid (HB3.out.on f4)
    have HT4 := Lib.hid (HT3.out.on f4)
    have HG4 := Lib.hid (HGT.out.on f4)
    clear f4 HF3 HB3 HE3 HT3 HGK HGT
    by_cases hR : R = 0
    · have HQ := Lib.hid (HM.out hR)
      subst hR
      have HK0 := Lib.hid (show ∀ (w' : World), Fuw w w' → Calls Tryz.prog 17 _ w' (FwI w' 0) from fun w' hf => by rw [← HQ.out.1]; exact HK1.out w' hf)
      have HKT := Lib.hid (show ∀ (w' : World), Fuw w4 w' → Calls Tryz.prog 17 #[.agg #[.slice bn T.ns.length dn, .slice be T.es.length de, .int .i64 T.nn, .int .i64 T.ne]] w' (FwI w' 0) from fun w' hf => by rw [← HQ.out.2.1]; exact check_any T bn be dn de w' (HG4.out.on hf))
      have c0 := HB4.out.c 0; have c1 := HB4.out.c 1; have c2 := HB4.out.c 2; have c3 := HB4.out.c 3
      go_wp2_with fail
      go_at_call 17; refine (HK0.out _ HF4.out).mono ?_; rintro e5 w5 ⟨rfl, f5⟩
      have HF5 := Lib.hid (HF4.out.trans f5)
      have HH5 := Lib.hid f5
      have d0 := (HT4.out.on f5).c 0; have d1 := (HT4.out.on f5).c 1; have d2 := (HT4.out.on f5).c 2; have d3 := (HT4.out.on f5).c 3
      clear c0 c1 c2 c3 f5
      go_wp2_with fail
      go_at_call 17; refine (HKT.out _ HH5.out).mono ?_; rintro e6 w6 ⟨rfl, f6⟩
      have HF6 := Lib.hid (HF5.out.trans f6)
      have hh := HH5.out.trans f6
      have b2 := (HB4.out.on hh).c 2; have b3 := (HB4.out.on hh).c 3
      have t2 := (HT4.out.on hh).c 2; have t3 := (HT4.out.on hh).c 3
      have l2 := HQ.out.2.2.1; have l3 := HQ.out.2.2.2
      clear d0 d1 d2 d3 f6 hh
      go_wp2_with fail
      go_at_call 10; refine (HAL.out _ HF6.out).mono ?_; rintro e7 w7 ⟨rfl, f7⟩
      have HF7 := Lib.hid (HF6.out.trans f7)
      clear f7
      go_wp2
      go_ret
      exact ⟨rfl, HF7.out⟩
    · have HTZ := Lib.hid (HZ.out hR)
      have HSZ := Lib.hid (show Calls Tryz.prog 15 #[.agg #[.slice bn T.ns.length dn, .slice be T.es.length de, .int .i64 T.nn, .int .i64 T.ne], .agg #[.slice none 0 0, .slice none 0 0, .int .i64 0, .int .i64 0]] w4 (FwB w4 true) from by
        have q := rsame_any T zerG bn be none none dn de 0 0 w4 HG4.out (zer_in w4)
        rw [HTZ.out, samG_self] at q
        rw [HTZ.out]
        exact q)
      have c0 := HT4.out.c 0; have c1 := HT4.out.c 1; have c2 := HT4.out.c 2; have c3 := HT4.out.c 3
      go_wp2_with fail
      go_at_call 15; refine HSZ.out.mono ?_; rintro e5 w5 ⟨rfl, f5⟩
      have HF5 := Lib.hid (HF4.out.trans f5)
      clear f5 c0 c1 c2 c3
      go_wp2_with fail
      go_at_call 10; refine (HAL.out _ HF5.out).mono ?_; rintro e7 w7 ⟨rfl, f7⟩
      have HF7 := Lib.hid (HF5.out.trans f7)
      clear f7
      go_wp2
      go_ret
      exact ⟨rfl, HF7.out⟩
end Go.Proofs.YtdalienglcpjbaaGreatDoor

/-! GrV; GrOp: texts of one kind in one file; each part says what it holds. -/

/-! An argument that is a value, opened: whatever can be read at the type of values is a value in memory (Vx). No statement is proved here. -/
namespace Go.Proofs.YtdalienglcpjbaaGreatDoor
open Go.ChangeShapes Go.WideShapes Go.ChangeAt Go.RowKit Go.Joins

theorem i64_of {n : Int} (h : (Lit.int .i64 n).wf = true) : -9223372036854775808 ≤ n ∧ n ≤ 9223372036854775807 := by
  simp [Lit.wf, IntKind.min, IntKind.max, IntKind.signed, IntKind.bits] at h
  omega
theorem cellsV : Tryz.prog.cellsOf 28 = 5 := by kernel_rfl
theorem cells1 : Tryz.prog.cellsOf 3 = 1 ∧ Tryz.prog.cellsOf 9 = 1 ∧ Tryz.prog.cellsOf 26 = 1 := ⟨by kernel_rfl, by kernel_rfl, by kernel_rfl⟩
/-- Values one behind the other, one at a time. -/
theorem VE_all (w : World) : ∀ (len b o : Nat), (∀ i, i < len → ∃ x, VC w x b (o + i * 5)) → ∃ l : List Vl, l.length = len ∧ VE w l b o
  | 0, _, _, _ => ⟨[], rfl, by unfold VE; trivial⟩
  | n + 1, b, o, h => by
    obtain ⟨x, hx⟩ := h 0 (by omega)
    obtain ⟨l, hl, hv⟩ := VE_all w n b (o + 5) (fun i hi => by
      obtain ⟨y, hy⟩ := h (i + 1) (by omega)
      exact ⟨y, by rwa [show o + 5 + i * 5 = o + (i + 1) * 5 by omega]⟩)
    refine ⟨x :: l, by rw [List.length_cons, hl], ?_⟩
    unfold VE
    exact ⟨by simpa using hx, hv⟩
theorem at_plain {w : World} {a : Addr} {v : Value} (h : w.cell? (a.add 0) = some v) : ∃ b o, a = ⟨b, o, none⟩ := by
  obtain ⟨b, o, spot⟩ := a
  have hspot : spot = none := by simpa [Addr.add] using World.cell?_spot h
  subst hspot
  exact ⟨b, o, rfl⟩
/-- The cells of a value. -/
def Cells5 (w : World) (cs : List Value) : Prop := ∃ x ao cap, cs = [.int .i64 x.kd, .int .i64 x.nn, .int .i64 x.dd, .string (bs x.ss), .slice ao x.ll.length cap] ∧ Vin x ∧ SlV w ao x.ll cap
set_option maxRecDepth 100000 in
/-- A slice of values that can be read. -/
theorem tr_slice {H : Type} {enc : TypeId × Value → H} {w : World} {sp : Nat → Bool} {fuel : Nat} {cs : List Value} {x : DataW H × List MemPlace}
    (ih : ∀ n cs y, n < fuel → DataW.trod enc Tryz.prog w 0 sp true n 28 cs = some y → Cells5 w cs)
    (h : DataW.trod enc Tryz.prog w 0 sp true fuel 26 cs = some x) : ∃ ao l cap, cs = [.slice ao l.length cap] ∧ SlV w ao l cap := by
  rcases DataW.trod_slice Tryz.underlying26 h with ⟨rfl, -⟩ | ⟨a, len, cap, elems, rest, n, hn, rfl, -, -, hl, hm, hlen, hel, -⟩
  · exact ⟨none, [], 0, rfl, ⟨Nat.le_refl _, Nat.zero_le _, fun _ => rfl, fun h => absurd h (by decide)⟩⟩
  · have hc : ∀ i, i < len → ∃ cs', w.cells? 0 (a.add (i * 5)) 5 = some cs' ∧ Cells5 w cs' := fun i hi => by
      have e := hel i hi
      rw [cellsV, List.getElem?_eq_getElem (by omega)] at e
      obtain ⟨cs', h1, h2⟩ := Option.bind_eq_some_iff.1 e
      exact ⟨cs', h1, ih n cs' _ (by omega) h2⟩
    rcases Nat.eq_zero_or_pos len with hz | hp
    · subst hz
      exact ⟨some a, [], cap, rfl, ⟨hl, hm, (fun e => by cases e), fun h => absurd h (by decide)⟩⟩
    · have hpl : ∃ b o, a = ⟨b, o, none⟩ := by
        obtain ⟨cs', h1, x0, ao0, cap0, rfl, -⟩ := hc 0 hp
        obtain ⟨-, -, hat⟩ := World.cells?_some h1
        have k := hat 0 (by decide)
        rw [Nat.zero_mul] at k
        have e : a.add 0 = a := by simp [Addr.add]
        rw [e] at k
        exact at_plain k
      obtain ⟨b, o, rfl⟩ := hpl
      obtain ⟨l, hl2, hv⟩ := VE_all w len b o (fun i hi => by
        obtain ⟨cs', h1, x0, ao0, cap0, rfl, hi0, hs0⟩ := hc i hi
        obtain ⟨-, -, hat⟩ := World.cells?_some h1
        have k : ∀ j, j < 5 → w.cell? ⟨b, o + i * 5 + j, none⟩ = ([.int .i64 x0.kd, .int .i64 x0.nn, .int .i64 x0.dd, .string (bs x0.ss), .slice ao0 x0.ll.length cap0] : List Value)[j]? := fun j hj => by
          have := hat j hj
          rw [Go.WideShapes.add_plain, Go.WideShapes.add_plain] at this
          exact this
        exact ⟨x0, VC_mk hi0 (k 0 (by decide)) (k 1 (by decide)) (k 2 (by decide)) (k 3 (by decide)) (k 4 (by decide)) hs0⟩)
      subst hl2
      exact ⟨_, l, cap, rfl, ⟨hl, hm, (fun e => by cases e), fun _ => ⟨b, o, rfl, hv⟩⟩⟩
set_option maxRecDepth 100000 in
theorem tr_val {H : Type} {enc : TypeId × Value → H} {w : World} {sp : Nat → Bool} : ∀ (fuel m : Nat), m ≤ fuel → ∀ (cs : List Value) (y : DataW H × List MemPlace), DataW.trod enc Tryz.prog w 0 sp true m 28 cs = some y → Cells5 w cs := by
  intro fuel
  induction fuel with
  | zero =>
    intro m hm cs y h
    obtain rfl : m = 0 := by omega
    simp [DataW.trod] at h
  | succ f ih =>
    intro m hm cs y h
    obtain ⟨xs, n, rfl, -, hlen, hxl, hf⟩ := DataW.trod_struct Tryz.underlying28 h
    rw [cellsV] at hlen
    match cs, hlen with
    | [v0, v1, v2, v3, v4], _ =>
      have f0 : DataW.trod enc Tryz.prog w 0 sp true n 3 (([v0, v1, v2, v3, v4].drop 0).take (Tryz.prog.cellsOf 3)) = xs[0]? := hf 0 _ rfl
      have f1 : DataW.trod enc Tryz.prog w 0 sp true n 3 (([v0, v1, v2, v3, v4].drop 1).take (Tryz.prog.cellsOf 3)) = xs[1]? := hf 1 _ rfl
      have f2 : DataW.trod enc Tryz.prog w 0 sp true n 3 (([v0, v1, v2, v3, v4].drop 2).take (Tryz.prog.cellsOf 3)) = xs[2]? := hf 2 _ rfl
      have f3 : DataW.trod enc Tryz.prog w 0 sp true n 9 (([v0, v1, v2, v3, v4].drop 3).take (Tryz.prog.cellsOf 9)) = xs[3]? := hf 3 _ rfl
      have f4 : DataW.trod enc Tryz.prog w 0 sp true n 26 (([v0, v1, v2, v3, v4].drop 4).take (Tryz.prog.cellsOf 26)) = xs[4]? := hf 4 _ rfl
      simp only [cells1.1, cells1.2.1, cells1.2.2, List.drop_zero, List.drop_succ_cons, List.take_succ_cons, List.take_zero] at f0 f1 f2 f3 f4
      have g : ∀ (j : Nat), j < 5 → ∃ z, xs[j]? = some z := fun j hj => by
        refine ⟨_, List.getElem?_eq_getElem ?_⟩
        have : xs.length = 5 := hxl
        omega
      obtain ⟨z0, e0⟩ := g 0 (by decide)
      obtain ⟨z1, e1⟩ := g 1 (by decide)
      obtain ⟨z2, e2⟩ := g 2 (by decide)
      obtain ⟨z3, e3⟩ := g 3 (by decide)
      obtain ⟨z4, e4⟩ := g 4 (by decide)
      rw [e0] at f0; rw [e1] at f1; rw [e2] at f2; rw [e3] at f3; rw [e4] at f4
      obtain ⟨k, hk, -, wk⟩ := DataW.trod_int Tryz.underlying3 f0
      obtain ⟨a, ha, -, wa⟩ := DataW.trod_int Tryz.underlying3 f1
      obtain ⟨d, hd, -, wd⟩ := DataW.trod_int Tryz.underlying3 f2
      obtain ⟨s, hs, -, ws⟩ := DataW.trod_string Tryz.underlying9 f3
      obtain ⟨ao, l, cap, hl, hsl⟩ := tr_slice (fun n' cs' y' hn' h' => ih n' (by omega) cs' y' h') f4
      obtain rfl : v0 = .int .i64 k := by simpa using hk
      obtain rfl : v1 = .int .i64 a := by simpa using ha
      obtain rfl : v2 = .int .i64 d := by simpa using hd
      obtain rfl : v3 = .string s := by simpa using hs
      obtain rfl : v4 = .slice ao l.length cap := by simpa using hl
      refine ⟨.mk k a d s.data.toList l, ao, cap, rfl, ⟨i64_of wk, i64_of wa, i64_of wd, ?_⟩, hsl⟩
      show s.data.toList.length ≤ maxLen
      rw [Array.length_toList]; exact ws
end Go.Proofs.YtdalienglcpjbaaGreatDoor

/-! An argument that is a graph, or a slice of strings, opened: whatever can be read at the type is a graph, or a list of strings, in memory. No statement is proved here. -/
namespace Go.Proofs.YtdalienglcpjbaaGreatDoor
open Go.ChangeShapes Go.WideShapes Go.ChangeAt Go.RowKit Go.Joins

theorem list_of {α : Type} (Q : Nat → α → Prop) : ∀ n, (∀ i, i < n → ∃ x, Q i x) → ∃ l : List α, l.length = n ∧ ∀ (i : Nat) (h : i < l.length), Q i l[i]
  | 0, _ => ⟨[], rfl, fun i h => absurd h (Nat.not_lt_zero i)⟩
  | n + 1, h => by
    obtain ⟨l, hl, hq⟩ := list_of Q n (fun i hi => h i (by omega))
    obtain ⟨x, hx⟩ := h n (by omega)
    refine ⟨l ++ [x], by rw [List.length_append, hl]; rfl, fun i hi => ?_⟩
    rw [List.length_append, hl] at hi
    have hi' : i < n + 1 := hi
    by_cases g : i < n
    · rw [List.getElem_append_left (by omega)]; exact hq i (by omega)
    · obtain rfl : i = n := by omega
      rw [List.getElem_append_right (by omega)]
      simpa [hl] using hx
section
variable {H : Type} {enc : TypeId × Value → H} {w : World} {sp : Nat → Bool}
set_option maxRecDepth 100000 in
/-- A slice whose elements can be read. -/
theorem tr_sl {α : Type} {P : World → α → Nat → Nat → Prop} {t e : TypeId} {k fuel : Nat} {cs : List Value} {x : DataW H × List MemPlace} (ht : Tryz.prog.underlying t = some (.slice e)) (hk : Tryz.prog.cellsOf e = k) (k0 : 0 < k)
    (hQ : ∀ n cs y, DataW.trod enc Tryz.prog w 0 sp true n e cs = some y → ∀ b o, (∀ j, j < k → w.cell? ⟨b, o + j, none⟩ = cs[j]?) → ∃ x, P w x b o)
    (h : DataW.trod enc Tryz.prog w 0 sp true fuel t cs = some x) : ∃ ao l cap, cs = [.slice ao l.length cap] ∧ Sl k P w ao l cap := by
  rcases DataW.trod_slice ht h with ⟨rfl, -⟩ | ⟨a, len, cap, elems, rest, n, hn, rfl, -, -, hl, hm, hlen, hel, -⟩
  · exact ⟨none, [], 0, rfl, Sl.empty _⟩
  · have hc : ∀ i, i < len → ∃ cs' y, w.cells? 0 (a.add (i * k)) k = some cs' ∧ DataW.trod enc Tryz.prog w 0 sp true n e cs' = some y := fun i hi => by
      have e := hel i hi
      rw [hk, List.getElem?_eq_getElem (by omega)] at e
      obtain ⟨cs', h1, h2⟩ := Option.bind_eq_some_iff.1 e
      exact ⟨cs', _, h1, h2⟩
    rcases Nat.eq_zero_or_pos len with hz | hp
    · subst hz
      exact ⟨some a, [], cap, rfl, ⟨hl, hm, (fun e => by cases e), fun h => absurd h (Nat.lt_irrefl 0)⟩⟩
    · have hpl : ∃ b o, a = ⟨b, o, none⟩ := by
        obtain ⟨cs', y, h1, -⟩ := hc 0 hp
        obtain ⟨-, hln, hat⟩ := World.cells?_some h1
        have q := hat 0 k0
        rw [Nat.zero_mul] at q
        have e : a.add 0 = a := by simp [Addr.add]
        rw [e] at q
        have hcs : 0 < cs'.length := by omega
        rw [List.getElem?_eq_getElem hcs] at q
        exact at_plain q
      obtain ⟨b, o, rfl⟩ := hpl
      obtain ⟨l, hl2, hv⟩ := list_of (fun i x => P w x b (o + i * k)) len (fun i hi => by
        obtain ⟨cs', y, h1, h2⟩ := hc i hi
        obtain ⟨-, -, hat⟩ := World.cells?_some h1
        refine hQ n cs' y h2 b (o + i * k) fun j hj => ?_
        have := hat j hj
        rw [Go.WideShapes.add_plain, Go.WideShapes.add_plain] at this
        exact this)
      subst hl2
      exact ⟨_, l, cap, rfl, ⟨hl, hm, (fun e => by cases e), fun _ => ⟨b, o, rfl, hv⟩⟩⟩
theorem cells6 : Tryz.prog.cellsOf 54 = 6 ∧ Tryz.prog.cellsOf 57 = 3 ∧ Tryz.prog.cellsOf 59 = 5 ∧ Tryz.prog.cellsOf 25 = 4 := ⟨by kernel_rfl, by kernel_rfl, by kernel_rfl, by kernel_rfl⟩
theorem cells1b : Tryz.prog.cellsOf 52 = 1 ∧ Tryz.prog.cellsOf 55 = 1 ∧ Tryz.prog.cellsOf 22 = 1 ∧ Tryz.prog.cellsOf 23 = 1 := ⟨by kernel_rfl, by kernel_rfl, by kernel_rfl, by kernel_rfl⟩
theorem tr_str {n : Nat} {cs : List Value} {y : DataW H × List MemPlace} (h : DataW.trod enc Tryz.prog w 0 sp true n 9 cs = some y) : ∃ s : List UInt8, cs = [.string (bs s)] ∧ s.length ≤ maxLen := by
  obtain ⟨s, hs, -, ws⟩ := DataW.trod_string Tryz.underlying9 h
  refine ⟨s.data.toList, by rw [hs]; simp [bs], ?_⟩
  rw [Array.length_toList]; exact ws
/-- A slice of strings. -/
theorem tr_strs {fuel : Nat} {cs : List Value} {x : DataW H × List MemPlace} (h : DataW.trod enc Tryz.prog w 0 sp true fuel 52 cs = some x) : ∃ ao l cap, cs = [.slice ao l.length cap] ∧ SlS w ao l cap :=
  tr_sl Tryz.underlying52 cells1.2.1 (by decide) (fun n cs y hy b o hc => by
    obtain ⟨s, rfl, hs⟩ := tr_str hy
    exact ⟨s, hs, hc 0 (by decide)⟩) h
set_option maxRecDepth 100000 in
theorem tr_prop {m : Nat} {cs : List Value} {y : DataW H × List MemPlace} (h : DataW.trod enc Tryz.prog w 0 sp true m 54 cs = some y) (b o : Nat) (hc : ∀ j, j < 6 → w.cell? ⟨b, o + j, none⟩ = cs[j]?) : ∃ p, PC w p b o := by
  obtain ⟨xs, n, -, -, hlen, hxl, hf⟩ := DataW.trod_struct Tryz.underlying54 h
  rw [cells6.1] at hlen
  match cs, hlen with
  | [v0, v1, v2, v3, v4, v5], _ =>
    have f0 : DataW.trod enc Tryz.prog w 0 sp true n 9 (([v0, v1, v2, v3, v4, v5].drop 0).take (Tryz.prog.cellsOf 9)) = xs[0]? := hf 0 _ rfl
    have f1 : DataW.trod enc Tryz.prog w 0 sp true n 28 (([v0, v1, v2, v3, v4, v5].drop 1).take (Tryz.prog.cellsOf 28)) = xs[1]? := hf 1 _ rfl
    simp only [cells1.2.1, cellsV, List.drop_zero, List.drop_succ_cons, List.take_succ_cons, List.take_zero] at f0 f1
    have hx2 : xs.length = 2 := hxl
    rw [List.getElem?_eq_getElem (show 0 < xs.length by omega)] at f0
    rw [List.getElem?_eq_getElem (show 1 < xs.length by omega)] at f1
    obtain ⟨s, hs, hl⟩ := tr_str f0
    obtain ⟨z, ao, cap, he, hi, hsl⟩ := tr_val n n (Nat.le_refl _) _ _ f1
    obtain rfl : v0 = .string (bs s) := by simpa using hs
    simp only [List.cons.injEq, and_true] at he
    obtain ⟨rfl, rfl, rfl, rfl, rfl⟩ := he
    exact ⟨⟨s, z⟩, hl, hc 0 (by decide), VC_mk hi (hc 1 (by decide)) (hc 2 (by decide)) (hc 3 (by decide)) (hc 4 (by decide)) (hc 5 (by decide)) hsl⟩
theorem tr_props {fuel : Nat} {cs : List Value} {x : DataW H × List MemPlace} (h : DataW.trod enc Tryz.prog w 0 sp true fuel 55 cs = some x) : ∃ ao l cap, cs = [.slice ao l.length cap] ∧ SlP w ao l cap :=
  tr_sl Tryz.underlying55 cells6.1 (by decide) (fun n cs y hy b o hc => tr_prop hy b o hc) h
set_option maxRecDepth 100000 in
theorem tr_node {m : Nat} {cs : List Value} {y : DataW H × List MemPlace} (h : DataW.trod enc Tryz.prog w 0 sp true m 57 cs = some y) (b o : Nat) (hc : ∀ j, j < 3 → w.cell? ⟨b, o + j, none⟩ = cs[j]?) : ∃ p, NC w p b o := by
  obtain ⟨xs, n, -, -, hlen, hxl, hf⟩ := DataW.trod_struct Tryz.underlying57 h
  rw [cells6.2.1] at hlen
  match cs, hlen with
  | [v0, v1, v2], _ =>
    have f0 : DataW.trod enc Tryz.prog w 0 sp true n 3 (([v0, v1, v2].drop 0).take (Tryz.prog.cellsOf 3)) = xs[0]? := hf 0 _ rfl
    have f1 : DataW.trod enc Tryz.prog w 0 sp true n 52 (([v0, v1, v2].drop 1).take (Tryz.prog.cellsOf 52)) = xs[1]? := hf 1 _ rfl
    have f2 : DataW.trod enc Tryz.prog w 0 sp true n 55 (([v0, v1, v2].drop 2).take (Tryz.prog.cellsOf 55)) = xs[2]? := hf 2 _ rfl
    simp only [cells1.1, cells1b.1, cells1b.2.1, List.drop_zero, List.drop_succ_cons, List.take_succ_cons, List.take_zero] at f0 f1 f2
    have hx3 : xs.length = 3 := hxl
    rw [List.getElem?_eq_getElem (show 0 < xs.length by omega)] at f0
    rw [List.getElem?_eq_getElem (show 1 < xs.length by omega)] at f1
    rw [List.getElem?_eq_getElem (show 2 < xs.length by omega)] at f2
    obtain ⟨k, hk, -, wk⟩ := DataW.trod_int Tryz.underlying3 f0
    obtain ⟨a1, l1, c1, e1, s1⟩ := tr_strs f1
    obtain ⟨a2, l2, c2, e2, s2⟩ := tr_props f2
    obtain rfl : v0 = .int .i64 k := by simpa using hk
    obtain rfl : v1 = .slice a1 l1.length c1 := by simpa using e1
    obtain rfl : v2 = .slice a2 l2.length c2 := by simpa using e2
    exact ⟨⟨k, l1, l2⟩, i64_of wk, hc 0 (by decide), ⟨a1, c1, hc 1 (by decide), s1⟩, a2, c2, hc 2 (by decide), s2⟩
set_option maxRecDepth 100000 in
theorem tr_edge {m : Nat} {cs : List Value} {y : DataW H × List MemPlace} (h : DataW.trod enc Tryz.prog w 0 sp true m 59 cs = some y) (b o : Nat) (hc : ∀ j, j < 5 → w.cell? ⟨b, o + j, none⟩ = cs[j]?) : ∃ p, EC w p b o := by
  obtain ⟨xs, n, -, -, hlen, hxl, hf⟩ := DataW.trod_struct Tryz.underlying59 h
  rw [cells6.2.2.1] at hlen
  match cs, hlen with
  | [v0, v1, v2, v3, v4], _ =>
    have f0 : DataW.trod enc Tryz.prog w 0 sp true n 3 (([v0, v1, v2, v3, v4].drop 0).take (Tryz.prog.cellsOf 3)) = xs[0]? := hf 0 _ rfl
    have f1 : DataW.trod enc Tryz.prog w 0 sp true n 3 (([v0, v1, v2, v3, v4].drop 1).take (Tryz.prog.cellsOf 3)) = xs[1]? := hf 1 _ rfl
    have f2 : DataW.trod enc Tryz.prog w 0 sp true n 3 (([v0, v1, v2, v3, v4].drop 2).take (Tryz.prog.cellsOf 3)) = xs[2]? := hf 2 _ rfl
    have f3 : DataW.trod enc Tryz.prog w 0 sp true n 9 (([v0, v1, v2, v3, v4].drop 3).take (Tryz.prog.cellsOf 9)) = xs[3]? := hf 3 _ rfl
    have f4 : DataW.trod enc Tryz.prog w 0 sp true n 55 (([v0, v1, v2, v3, v4].drop 4).take (Tryz.prog.cellsOf 55)) = xs[4]? := hf 4 _ rfl
    simp only [cells1.1, cells1.2.1, cells1b.2.1, List.drop_zero, List.drop_succ_cons, List.take_succ_cons, List.take_zero] at f0 f1 f2 f3 f4
    have hx5 : xs.length = 5 := hxl
    rw [List.getElem?_eq_getElem (show 0 < xs.length by omega)] at f0
    rw [List.getElem?_eq_getElem (show 1 < xs.length by omega)] at f1
    rw [List.getElem?_eq_getElem (show 2 < xs.length by omega)] at f2
    rw [List.getElem?_eq_getElem (show 3 < xs.length by omega)] at f3
    rw [List.getElem?_eq_getElem (show 4 < xs.length by omega)] at f4
    obtain ⟨k, hk, -, wk⟩ := DataW.trod_int Tryz.underlying3 f0
    obtain ⟨k1, hk1, -, wk1⟩ := DataW.trod_int Tryz.underlying3 f1
    obtain ⟨k2, hk2, -, wk2⟩ := DataW.trod_int Tryz.underlying3 f2
    obtain ⟨s, hs, hl⟩ := tr_str f3
    obtain ⟨a4, l4, c4, e4, s4⟩ := tr_props f4
    obtain rfl : v0 = .int .i64 k := by simpa using hk
    obtain rfl : v1 = .int .i64 k1 := by simpa using hk1
    obtain rfl : v2 = .int .i64 k2 := by simpa using hk2
    obtain rfl : v3 = .string (bs s) := by simpa using hs
    obtain rfl : v4 = .slice a4 l4.length c4 := by simpa using e4
    exact ⟨⟨k, k1, k2, s, l4⟩, i64_of wk, i64_of wk1, i64_of wk2, hl, hc 0 (by decide), hc 1 (by decide), hc 2 (by decide), hc 3 (by decide), a4, c4, hc 4 (by decide), s4⟩
set_option maxRecDepth 100000 in
theorem open_graph {v : Value} {base : Nat} {d : DataW H} {p : List MemPlace} (hv : Value.okWide Tryz.prog w .any base 25 v) (h : DataW.Trod enc Tryz.prog w 0 sp true 25 v d p) :
    ∃ g an ae cn ce, v = grv g an ae cn ce ∧ GIn w g an ae cn ce := by
  obtain ⟨cs, rfl, hsz⟩ := okWide_struct Tryz.underlying25 hv
  obtain ⟨l⟩ := cs
  obtain ⟨fuel, hf0⟩ := h
  obtain ⟨xs, n, -, -, hlen, hxl, hf⟩ := DataW.trod_struct Tryz.underlying25 hf0
  match l, hsz.trans cells6.2.2.2 with
  | [v0, v1, v2, v3], _ =>
    have f0 : DataW.trod enc Tryz.prog w 0 sp true n 22 (([v0, v1, v2, v3].drop 0).take (Tryz.prog.cellsOf 22)) = xs[0]? := hf 0 _ rfl
    have f1 : DataW.trod enc Tryz.prog w 0 sp true n 23 (([v0, v1, v2, v3].drop 1).take (Tryz.prog.cellsOf 23)) = xs[1]? := hf 1 _ rfl
    have f2 : DataW.trod enc Tryz.prog w 0 sp true n 3 (([v0, v1, v2, v3].drop 2).take (Tryz.prog.cellsOf 3)) = xs[2]? := hf 2 _ rfl
    have f3 : DataW.trod enc Tryz.prog w 0 sp true n 3 (([v0, v1, v2, v3].drop 3).take (Tryz.prog.cellsOf 3)) = xs[3]? := hf 3 _ rfl
    simp only [cells1.1, cells1b.2.2.1, cells1b.2.2.2, List.drop_zero, List.drop_succ_cons, List.take_succ_cons, List.take_zero] at f0 f1 f2 f3
    have hx4 : xs.length = 4 := hxl
    rw [List.getElem?_eq_getElem (show 0 < xs.length by omega)] at f0
    rw [List.getElem?_eq_getElem (show 1 < xs.length by omega)] at f1
    rw [List.getElem?_eq_getElem (show 2 < xs.length by omega)] at f2
    rw [List.getElem?_eq_getElem (show 3 < xs.length by omega)] at f3
    obtain ⟨a0, l0, c0, e0, s0⟩ := tr_sl (P := NC) Tryz.underlying22 cells6.2.1 (by decide) (fun n cs y hy b o hc => tr_node hy b o hc) f0
    obtain ⟨a1, l1, c1, e1, s1⟩ := tr_sl (P := EC) Tryz.underlying23 cells6.2.2.1 (by decide) (fun n cs y hy b o hc => tr_edge hy b o hc) f1
    obtain ⟨k2, hk2, -, wk2⟩ := DataW.trod_int Tryz.underlying3 f2
    obtain ⟨k3, hk3, -, wk3⟩ := DataW.trod_int Tryz.underlying3 f3
    obtain rfl : v0 = .slice a0 l0.length c0 := by simpa using e0
    obtain rfl : v1 = .slice a1 l1.length c1 := by simpa using e1
    obtain rfl : v2 = .int .i64 k2 := by simpa using hk2
    obtain rfl : v3 = .int .i64 k3 := by simpa using hk3
    exact ⟨⟨l0, l1, k2, k3⟩, a0, a1, c0, c1, rfl, s0, s1, i64_of wk2, i64_of wk3⟩
end
end Go.Proofs.YtdalienglcpjbaaGreatDoor
