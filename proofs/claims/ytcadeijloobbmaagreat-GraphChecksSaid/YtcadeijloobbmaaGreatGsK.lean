/-
  The law GraphChecks of package graph, walked.
-/
import Derived.Test.YtcadeijloobbmaaGreatGsE
import Derived.Test.YtcadeijloobbmaaGreatNi
import Derived.Test.YtcadeijloobbmaaGreatGrQ
namespace Go.Proofs.YtcadeijloobbmaaGreat
open Go.RowKit

set_option maxHeartbeats 1600000 in
set_option maxRecDepth 100000 in
theorem sstrs_eq (l : List (List UInt8)) (ao bo : Option Addr) (ca cb : Nat) (w : World) (ha : SlS w ao l ca) (hb : SlS w bo l cb) :
    Calls Tryz.prog 9 #[.slice ao l.length ca, .slice bo l.length cb] w (FwB w true) := by
  have la := ha.len
  have HA := Lib.hid ha
  have HB := Lib.hid hb
  clear ha hb
  go_enter Tryz.func9, Tryz.ntmps9
  go_wp2
  go_loopw [5] (fun iv wr => ∃ i : Nat, iv = .int .i64 i ∧ i ≤ l.length ∧ Hid (Fuw w wr)) (fun iv _ => l.length - (RowKit.intOf iv).toNat)
  case atStart => exact ⟨0, rfl, Nat.zero_le _, Fuw.refl _⟩
  case round =>
    obtain ⟨i, rfl, hi, hf⟩ := hrel
    by_cases hlt : i < l.length
    · obtain ⟨g, o, rfl, -, c0⟩ := (slS_on hf.out HA.out).get hlt
      obtain ⟨g', o', rfl, -, d0⟩ := (slS_on hf.out HB.out).get hlt
      rw [Nat.mul_one] at c0 d0
      generalize l[i] = s at *
      go_wp2
      go_quiet (fail)
      go_wp2
      go_roundw
      case rel => exact ⟨i + 1, by go_num, by omega, hf.out.trans (fuw_dr _ _)⟩
      case measure => simp [RowKit.intOf]; omega
    · go_wp2
      go_ret
      exact ⟨rfl, hf.out⟩
theorem ew_le : ∀ (l : List Ed) (a : Int), ewV l a ≤ a
  | [], a => Int.le_refl _
  | e :: r, a => by
    by_cases h : a < 0
    · rw [ew_neg h]; exact Int.le_refl _
    · show (if a < 0 then a else _) ≤ a
      rw [if_neg h]
      have k1 := ew_le r (wgpV e.ps (a - ((e.ty.length / 50 : Nat) : Int)))
      have k2 := wgp_le e.ps (a - ((e.ty.length / 50 : Nat) : Int))
      omega
theorem labs_nw : ∀ (ns : List Nd) (a : Int), 0 ≤ nwV ns a → ((labsV ns).length : Int) ≤ a
  | [], a, h => h
  | n :: r, a, h => by
    by_cases k : a < 0
    · rw [nw_neg k] at h; omega
    · have h' : 0 ≤ (if a < 0 then a else nwV r (nodW n a)) := h
      rw [if_neg k] at h'
      have ih := labs_nw r _ h'
      have k1 : nodW n a ≤ a - (n.ls.length : Int) := by
        unfold nodW
        have k1 := lbl_le n.ls (wgpV n.ps (a - (n.ls.length : Int)))
        have k2 := wgp_le n.ps (a - (n.ls.length : Int))
        omega
      have e : (labsV (n :: r)).length = n.ls.length + (labsV r).length := by
        unfold labsV
        rw [List.flatMap_cons, List.length_append]
      omega
theorem labs_sml {g : Gr} {N M : Nat} (h : smlV g N M = true) : (labsV g.ns).length ≤ 100000 := by
  have h1 := (sml_b h).2.2
  have h2 := ew_le g.es (nwV g.ns 2000)
  have h3 := labs_nw g.ns 2000 (by omega)
  omega
set_option maxHeartbeats 6400000 in
set_option maxRecDepth 100000 in
theorem checks_walk (g : Gr) (an ae : Option Addr) (cn ce : Nat) (w : World) (hg : GIn w g an ae cn ce) :
    Calls Tryz.prog 3 #[grv g an ae cn ce] w (FwB w true) := by
  have HG := Lib.hid hg
  have HS := Lib.hid (fun w' (hf : Fuw w w') => small_any g an ae cn ce 60 100 w' (HG.out.on hf))
  have HA := Lib.hid alive_any
  have HB := Lib.hid (fun (h : smlV g 60 100 = true) => (⟨(sml_b h).2.1, labs_sml h⟩ : g.es.length ≤ 100 ∧ (labsV g.ns).length ≤ 100000))
  clear hg
  have f0 := fuwA w (.cells #[.slice an g.ns.length cn, .slice ae g.es.length ce, .int .i64 g.nn, .int .i64 g.ne] 25)
  have p0 := GB.new w g an ae cn ce
  have F0 := Lib.hid f0
  unfold grv at *
  go_enter Tryz.func3, Tryz.ntmps3
  go_wp2_with fail
  go_at_call 5; refine (HS.out _ F0.out).mono ?_; rintro e1 w1 ⟨rfl, f1⟩
  have FT := Lib.hid (F0.out.trans f1)
  have PT := Lib.hid (p0.on f1)
  clear f0 p0 f1
  cases hsm : smlV g 60 100 with
  | false =>
    clear hsm
    go_wp2_with fail
    go_at_call 6; refine (HA.out _).mono ?_; rintro e2 w2 ⟨rfl, f2⟩
    go_wp2
    go_ret
    exact ⟨rfl, FT.out.trans f2⟩
  | true =>
    have HL := Lib.hid (HB.out hsm)
    clear hsm
    have C1 := Lib.hid (fun w' (hf : Fuw w w') => check_any g an ae cn ce w' (HG.out.on hf))
    have C2 := Lib.hid (fun w' (hf : Fuw w w') => rcheck_any g an ae cn ce w' (HG.out.on hf))
    have C3 := Lib.hid (fun w' (hf : Fuw w w') => labels_any g an ae cn ce w' (HG.out.on hf) HL.out.2)
    have C4 := Lib.hid (fun w' (hf : Fuw w w') => rlabels_any g an ae cn ce w' (HG.out.on hf) HL.out.2)
    have C5 := Lib.hid (fun w' (hf : Fuw w w') => types_any g an ae cn ce w' (HG.out.on hf) (by have := HL.out.1; omega))
    have C6 := Lib.hid (fun w' (hf : Fuw w w') => rtypes_any g an ae cn ce w' (HG.out.on hf) (by have := HL.out.1; omega))
    have CS := Lib.hid (fun (l : List (List UInt8)) ao bo ca cb w' (h1 : SlS w' ao l ca) (h2 : SlS w' bo l cb) => sstrs_eq l ao bo ca cb w' h1 h2)
    unfold grv at C1 C2 C3 C4 C5 C6
    generalize chkV g = d at *
    generalize dstV (labsV g.ns) = D1 at *
    generalize dstV (tysV g.es) = D2 at *
    go_upto_region 3 with fail
    have hd2 : (d == d) = true := by simp
    have ff : Fuw w1 w1.drew := Fuw.drew (Fuw.refl w1)
    clear HS HB HL HG
    go_region_held3 (fun w' => w'.cell? ⟨w.heap.size, 0, none⟩ = some (.slice an g.ns.length cn) ∧ w'.cell? ⟨w.heap.size, 1, none⟩ = some (.slice ae g.es.length ce) ∧ w'.cell? ⟨w.heap.size, 2, none⟩ = some (.int .i64 g.nn) ∧ w'.cell? ⟨w.heap.size, 3, none⟩ = some (.int .i64 g.ne))
      (first | exact ⟨(PT.out.on ff).c0, (PT.out.on ff).c1, (PT.out.on ff).c2, (PT.out.on ff).c3⟩)
      (first
        | (go_at_call 7; refine (C1.out _ (FT.out.trans ff)).mono ?_; rintro e3 v1 ⟨rfl, j1⟩; replace ff := ff.trans j1)
        | (go_at_call 8; refine (C2.out _ (FT.out.trans ff)).mono ?_; rintro e4 v2 ⟨rfl, j2⟩; replace ff := ff.trans j2)
        | (go_at_call 10; refine (C3.out _ (FT.out.trans ff)).mono ?_; rintro e5 v3 ⟨a1, k1, rfl, h1, j3⟩; replace ff := ff.trans j3)
        | (go_at_call 11; refine (C4.out _ (FT.out.trans ff)).mono ?_; rintro e6 v4 ⟨a2, k2, rfl, h2, j4⟩; replace h1 := slS_on j4 h1; replace ff := ff.trans j4)
        | (go_at_call 12; refine (C5.out _ (FT.out.trans ff)).mono ?_; rintro e7 v5 ⟨a3, k3, rfl, h3, j5⟩; replace ff := ff.trans j5)
        | (go_at_call 13; refine (C6.out _ (FT.out.trans ff)).mono ?_; rintro e8 v6 ⟨a4, k4, rfl, h4, j6⟩; replace h3 := slS_on j6 h3; replace ff := ff.trans j6)
        | (go_at_call 9; have hj := h4; refine (CS.out _ _ _ _ _ _ h3 h4).mono ?_; rintro e9 v7 ⟨rfl, j7⟩; replace ff := ff.trans j7)
        | (go_at_call 9; refine (CS.out _ _ _ _ _ _ h1 h2).mono ?_; rintro e9 v7 ⟨rfl, j7⟩; replace ff := ff.trans j7)
        | (go_at_call 6; refine (HA.out _).mono ?_; rintro e10 v8 ⟨rfl, j8⟩; replace ff := ff.trans j8))
    all_goals
      go_wp2
      go_ret
      exact ⟨rfl, FT.out.trans ff⟩
end Go.Proofs.YtcadeijloobbmaaGreat
