/-
  The law GraphMirror of package graph, walked; has: whether an entry stands in a list.
-/
import Derived.Test.YtcadeijloobbmaaGrU
import Derived.Test.YtcadeijloobbmaaGrMM
namespace Go.Proofs.Ytcadeijloobbmaa
open Go.RowKit

set_option maxHeartbeats 1600000 in
set_option maxRecDepth 100000 in
theorem hasj_any (l : List (Int × Int × Int)) (ao : Option Addr) (cap : Nat) (x : Int × Int × Int) (w : World) (hs : SlJ w ao l cap) (hx : x ∈ l) :
    Calls Try.prog 25 #[.slice ao l.length cap, .agg #[.int .i64 x.1, .int .i64 x.2.1, .int .i64 x.2.2]] w (FwB w true) := by
  have hl := hs.len
  have p0 := Bk.new w #[.int .i64 x.1, .int .i64 x.2.1, .int .i64 x.2.2] 56
  have f0 := fuwA w (.cells #[.int .i64 x.1, .int .i64 x.2.1, .int .i64 x.2.2] 56)
  obtain ⟨w0, hw0⟩ : ∃ w0, w0 = w.alloc (.cells #[.int .i64 x.1, .int .i64 x.2.1, .int .i64 x.2.2] 56) := ⟨_, rfl⟩
  rw [← hw0] at p0 f0
  have HW0 := Lib.hid hw0
  have HP := Lib.hid p0
  have F0 := Lib.hid f0
  have HS := Lib.hid (slJ_on f0 hs)
  have HX := Lib.hid (show x ∈ l.drop 0 by rw [List.drop_zero]; exact hx)
  clear hw0 p0 f0 hs hx
  go_enter Try.func25, Try.ntmps25
  go_wp2
  go_loopw [8] (fun iv wr => ∃ i : Nat, iv = .int .i64 i ∧ i ≤ l.length ∧ Hid (x ∈ l.drop i) ∧ Hid (Fuw w0 wr)) (fun iv _ => l.length - (RowKit.intOf iv).toNat)
  case atStart => exact ⟨0, rfl, Nat.zero_le _, HX, by rw [HW0.out]; exact Fuw.refl _⟩
  case round =>
    obtain ⟨i, rfl, hi, HM, hf⟩ := hrel
    have hlt : i < l.length := by
      rcases Nat.lt_or_ge i l.length with h | h
      · exact h
      · have := HM.out
        rw [List.drop_of_length_le h] at this
        cases this
    obtain ⟨b, o, rfl, c0, c1, c2⟩ := (slJ_on hf.out HS.out).get hlt
    have d0 : wr.cell? ⟨w.heap.size, 0, none⟩ = some (.int .i64 x.1) := (HP.out.on hf.out).c 0
    have d1 : wr.cell? ⟨w.heap.size, 1, none⟩ = some (.int .i64 x.2.1) := (HP.out.on hf.out).c 1
    have d2 : wr.cell? ⟨w.heap.size, 2, none⟩ = some (.int .i64 x.2.2) := (HP.out.on hf.out).c 2
    have hne := eql_adj l[i] x
    have hgd := fun (op : BinOp) (p q : Operand) (xs ys : Array Value) (w' : World) => run_eqGuard_agg w' op 56 p q xs ys guard_adj
    have HE := Lib.hid (show eqJ l[i] x = ((l[i].1 == x.1) && ((l[i].2.1 == x.2.1) && (l[i].2.2 == x.2.2))) from rfl)
    have HD := Lib.hid (show x = l[i] ∨ x ∈ l.drop (i + 1) by
      have := HM.out
      rw [List.drop_eq_getElem_cons hlt] at this
      exact List.mem_cons.1 this)
    generalize l[i] = y at *
    cases hr : eqJ y x with
    | true =>
      rw [hr] at hne
      clear hr
      generalize y.1 = y0 at *
      generalize y.2.1 = y1 at *
      generalize y.2.2 = y2 at *
      go_wp2
      go_quiet (fail)
      clear hne hgd
      go_wp2
      go_ret
      exact ⟨rfl, F0.out.trans (hf.out.trans (fuw_dr _ _))⟩
    | false =>
      rw [hr] at hne
      have HN := Lib.hid (show x ∈ l.drop (i + 1) from by
        rcases HD.out with h | h
        · exfalso
          rw [HE.out, ← h] at hr
          simp at hr
        · exact h)
      clear hr
      generalize y.1 = y0 at *
      generalize y.2.1 = y1 at *
      generalize y.2.2 = y2 at *
      go_wp2
      go_quiet (fail)
      clear hne hgd
      go_wp2
      go_roundw
      case rel => exact ⟨i + 1, by go_num, by omega, HN, hf.out.trans (fuw_dr _ _)⟩
      case measure => simp [RowKit.intOf]; omega
theorem jL_mem {id : Int} {L : List (Int × Int)} {x : Int × Int} (h : x ∈ L) : (id, x.1, x.2) ∈ jL id L := List.mem_map.2 ⟨x, h, rfl⟩
theorem jL_at {id : Int} {L : List (Int × Int)} (k : Nat) (h : k < (jL id L).length) (h' : k < L.length) : (jL id L)[k] = (id, L[k].1, L[k].2) := by simp [jL]
theorem adj_small (es : List Ed) (id : Int) (ts : List (List UInt8)) (dir : Int) : (adjV es id ts dir).length ≤ es.length := by
  rw [adj_len]; unfold stpV; exact List.length_filterMap_le _ _
theorem sml_n {g : Gr} {N M : Nat} (h : smlV g N M = true) : g.ns.length ≤ N := (sml_b h).1
/-- The sums that the law keeps. -/
def MirV (g : Gr) (ts : List (List UInt8)) (i o1 o2 o3 o4 : Nat) : Prop :=
  o1 + sumV (dV g.es ts 1) (g.ns.drop i) = cV g.es ts ∧ o2 + sumV (dV g.es ts 2) (g.ns.drop i) = cV g.es ts ∧ o3 + sumV (lV g.es ts) (g.ns.drop i) = loV g.es ts ∧ o4 + sumV (dV g.es ts 3) (g.ns.drop i) + loV g.es ts = 2 * cV g.es ts
theorem mir_0 {g : Gr} (ts : List (List UInt8)) (h : chkV g = 0) : MirV g ts 0 0 0 0 0 := by
  obtain ⟨h1, h2⟩ := chk_ok h
  have hp := ns_inc h1
  have he := es_ends g.es none h2
  refine ⟨?_, ?_, ?_, ?_⟩
  · rw [List.drop_zero, Nat.zero_add]; exact sum_d1 hp ts g.es he
  · rw [List.drop_zero, Nat.zero_add]; exact sum_d2 hp ts g.es he
  · rw [List.drop_zero, Nat.zero_add]; exact sum_l hp ts g.es he
  · rw [List.drop_zero, Nat.zero_add]; exact sum_d3 hp ts g.es he
theorem mir_s {g : Gr} {ts : List (List UInt8)} {i o1 o2 o3 o4 : Nat} (h : MirV g ts i o1 o2 o3 o4) (hi : i < g.ns.length) :
    MirV g ts (i + 1) (o1 + (adjV g.es g.ns[i].id ts 1).length) (o2 + (adjV g.es g.ns[i].id ts 2).length) (o3 + (adjV g.es g.ns[i].id ts 1).countP (fun x => x.1 == g.ns[i].id)) (o4 + (adjV g.es g.ns[i].id ts 3).length) := by
  obtain ⟨h1, h2, h3, h4⟩ := h
  rw [sum_drop _ _ _ hi] at h1 h2 h3 h4
  have hl : lV g.es ts g.ns[i] = (adjV g.es g.ns[i].id ts 1).countP (fun x => x.1 == g.ns[i].id) := by
    unfold lV adjV
    exact ((srtV_perm _).countP_eq _).symm
  unfold dV at h1 h2 h4
  rw [hl] at h3
  rw [← adj_len] at h1 h2 h4
  refine ⟨?_, ?_, ?_, ?_⟩
  · show _ + sumV (fun n => (stpV g.es n.id ts 1).length) _ = _
    omega
  · show _ + sumV (fun n => (stpV g.es n.id ts 2).length) _ = _
    omega
  · omega
  · show _ + sumV (fun n => (stpV g.es n.id ts 3).length) _ + _ = _
    omega
theorem mir_e {g : Gr} {ts : List (List UInt8)} {i o1 o2 o3 o4 : Nat} (h : MirV g ts i o1 o2 o3 o4) (hi : g.ns.length ≤ i) : o1 = cV g.es ts ∧ o2 = cV g.es ts ∧ o4 + o3 = 2 * cV g.es ts := by
  obtain ⟨h1, h2, h3, h4⟩ := h
  rw [sum_end _ _ _ hi] at h1 h2 h3 h4
  omega

set_option maxHeartbeats 12800000 in
set_option maxRecDepth 100000 in
theorem mirror_walk (g : Gr) (an ae : Option Addr) (cn ce : Nat) (ts : List (List UInt8)) (at_ : Option Addr) (ct : Nat) (w : World) (hg : GIn w g an ae cn ce) (ht : SlS w at_ ts ct) :
    Calls Try.prog 5 #[grv g an ae cn ce, .slice at_ ts.length ct] w (FwB w true) := by
  have HG := Lib.hid hg
  have HT := Lib.hid ht
  have HS := Lib.hid (fun w' (hf : Fuw w w') => small_any g an ae cn ce 30 60 w' (HG.out.on hf))
  have HF := Lib.hid (fun w' (hf : Fuw w w') => few_any ts at_ ct w' (slS_on hf HT.out))
  have HK := Lib.hid (fun w' (hf : Fuw w w') => check_any g an ae cn ce w' (HG.out.on hf))
  have HA := Lib.hid alive_any
  have HB := Lib.hid (fun (h : smlV g 30 60 = true) => (⟨sml_n h, (sml_b h).2.1⟩ : g.ns.length ≤ 30 ∧ g.es.length ≤ 60))
  have nt := ht.len
  clear hg ht
  unfold grv at *
  have f0 := fuwA w (.cells #[.slice an g.ns.length cn, .slice ae g.es.length ce, .int .i64 g.nn, .int .i64 g.ne] 25)
  have p0 := GB.new w g an ae cn ce
  have F0 := Lib.hid f0
  go_enter Try.func5, Try.ntmps5
  go_wp2_with fail
  go_at_call 7; refine (HS.out _ F0.out).mono ?_; rintro e1 w1 ⟨rfl, f1⟩
  have F1 := Lib.hid (F0.out.trans f1)
  have P1 := Lib.hid (p0.on f1)
  clear f0 p0 f1
  cases hsm : smlV g 30 60 with
  | false =>
    clear hsm
    go_wp2_with fail
    go_at_call 8; refine (HA.out _).mono ?_; rintro e2 w2 ⟨rfl, f2⟩
    go_wp2
    go_ret
    exact ⟨rfl, F1.out.trans f2⟩
  | true =>
    obtain ⟨hN, hM⟩ := HB.out hsm
    clear hsm HB HS
    go_wp2_with fail
    go_at_call 20; refine (HF.out _ F1.out).mono ?_; rintro e2 w2 ⟨b, rfl, rfl⟩
    cases b with
    | false =>
      go_wp2_with fail
      go_at_call 8; refine (HA.out _).mono ?_; rintro e2 w2 ⟨rfl, f2⟩
      go_wp2
      go_ret
      exact ⟨rfl, F1.out.trans f2⟩
    | true =>
      have q0 := P1.out.c0; have q1 := P1.out.c1; have q2 := P1.out.c2; have q3 := P1.out.c3
      go_wp2_with fail
      go_at_call 24; refine (HK.out _ F1.out).mono ?_; rintro e3 w3 ⟨rfl, f3⟩
      have F3 := Lib.hid (F1.out.trans f3)
      have P3 := Lib.hid (P1.out.on f3)
      clear f3 q0 q1 q2 q3 HF HK
      by_cases hc : chkV g = 0
      · have HM0 := Lib.hid (mir_0 ts hc)
        rw [hc]
        clear hc
        have q0 := P3.out.c0
        go_wp2
        go_loopw [5, 6, 7, 8, 35] (fun av bv lv dv iv wr => ∃ (i o1 o2 o3 o4 : Nat), iv = .int .i64 i ∧ av = .int .i64 o1 ∧ bv = .int .i64 o2 ∧ lv = .int .i64 o3 ∧ dv = .int .i64 o4 ∧ i ≤ g.ns.length ∧ o1 ≤ 60 * i ∧ o2 ≤ 60 * i ∧ o3 ≤ 60 * i ∧ o4 ≤ 60 * i ∧ Hid (MirV g ts i o1 o2 o3 o4) ∧ Hid (Fuw w3 wr)) (fun _ _ _ _ iv _ => g.ns.length - (RowKit.intOf iv).toNat)
        case atStart => exact ⟨0, 0, 0, 0, 0, rfl, rfl, rfl, rfl, rfl, Nat.zero_le _, Nat.le_refl _, Nat.le_refl _, Nat.le_refl _, Nat.le_refl _, HM0, Fuw.refl _⟩
        case round =>
          obtain ⟨i, o1, o2, o3, o4, rfl, rfl, rfl, rfl, rfl, hi, b1, b2, b3, b4, HM, hf⟩ := hrel
          clear HM0 q0
          by_cases hlt : i < g.ns.length
          · obtain ⟨b, o, hao, -, c0, ⟨al, cl, c1, -⟩, ap, cp, c2, -⟩ := (slN_on (F3.out.trans hf.out) HG.out.n).get hlt
            have HMS := Lib.hid (mir_s HM.out hlt)
            have HC := Lib.hid (fun x d w' (hf' : Fuw w w') => steps_any g an ae cn ce x ts at_ ct d w' (HG.out.on hf') (slS_on hf' HT.out) (by omega))
            unfold grv at HC
            have h1 := adj_small g.es g.ns[i].id ts 1
            have h2 := adj_small g.es g.ns[i].id ts 2
            have h3 := adj_small g.es g.ns[i].id ts 3
            have HMI := Lib.hid (fun x (h : x ∈ adjV g.es g.ns[i].id ts 1) => mir_in h)
            have FH := Lib.hid (F3.out.trans hf.out)
            have PH := Lib.hid (P3.out.on hf.out)
            subst hao
            generalize g.ns[i] = n at *
            go_upto_region 7 with fail
            obtain ⟨W, hW⟩ : ∃ W, W = wr.alloc (.cells #[.int .i64 n.id, .slice al n.ls.length cl, .slice ap n.ps.length cp] 31) := ⟨_, rfl⟩
            have hfW : Fuw wr W := by rw [hW]; exact fuwA _ _
            have hBn : Bk W wr.heap.size #[.int .i64 n.id, .slice al n.ls.length cl, .slice ap n.ps.length cp] 31 := by rw [hW]; exact Bk.new _ _ _
            rw [← hW]
            clear hW c0 c1 c2
            have FW := Lib.hid (FH.out.trans hfW)
            have FNX := Lib.hid (hf.out.trans hfW)
            have PW := Lib.hid (PH.out.on hfW)
            have HBn := Lib.hid hBn
            clear hfW hBn
            generalize wr.heap.size = Bn at *
            have S1 := Lib.hid (HC.out n.id 1)
            have S2 := Lib.hid (HC.out n.id 2)
            have S3 := Lib.hid (HC.out n.id 3)
            have HL1 := Lib.hid (show (jL n.id (adjV g.es n.id ts 1)).length = (adjV g.es n.id ts 1).length from jL_len _ _)
            have HL2 := Lib.hid (show (jL n.id (adjV g.es n.id ts 2)).length = (adjV g.es n.id ts 2).length from jL_len _ _)
            have HL3 := Lib.hid (show (jL n.id (adjV g.es n.id ts 3)).length = (adjV g.es n.id ts 3).length from jL_len _ _)
            obtain ⟨L1, hL1⟩ : ∃ L, L = adjV g.es n.id ts 1 := ⟨_, rfl⟩
            obtain ⟨L2, hL2⟩ : ∃ L, L = adjV g.es n.id ts 2 := ⟨_, rfl⟩
            obtain ⟨L3, hL3⟩ : ∃ L, L = adjV g.es n.id ts 3 := ⟨_, rfl⟩
            rw [← hL1] at S1 HL1 HMS h1 HMI
            rw [← hL2] at S2 HL2 HMS h2
            rw [← hL3] at S3 HL3 HMS h3
            clear hL1 hL2 hL3
            have q0 := (PW.out.on (Fuw.refl W)).c0; have q1 := (PW.out.on (Fuw.refl W)).c1; have q2 := (PW.out.on (Fuw.refl W)).c2; have q3 := (PW.out.on (Fuw.refl W)).c3
            have d0 : W.cell? ⟨Bn, 0, none⟩ = some (.int .i64 n.id) := (HBn.out.on (Fuw.refl W)).c 0
            go_wp2_with fail
            go_at_call 22; refine (S1.out _ FW.out).mono ?_; rintro e4 w4 ⟨ao4, k4, rfl, j4, f4⟩
            have F4 := Lib.hid f4
            have J4 := Lib.hid j4
            clear q0 q1 q2 q3 d0 j4 f4 S1
            have q0 := (PW.out.on F4.out).c0; have q1 := (PW.out.on F4.out).c1; have q2 := (PW.out.on F4.out).c2; have q3 := (PW.out.on F4.out).c3
            have d0 : w4.cell? ⟨Bn, 0, none⟩ = some (.int .i64 n.id) := (HBn.out.on F4.out).c 0
            go_wp2_with fail
            go_at_call 22; refine (S2.out _ (FW.out.trans F4.out)).mono ?_; rintro e5 w5 ⟨ao5, k5, rfl, -, f5⟩
            have F5 := Lib.hid (F4.out.trans f5)
            have J5 := Lib.hid (slJ_on f5 J4.out)
            have HCI := Lib.hid (show o3 + (L1.drop 0).countP (fun x => x.1 == n.id) = o3 + L1.countP (fun x => x.1 == n.id) by rw [List.drop_zero])
            have FB := Lib.hid (Fuw.refl w5)
            have hlen : ((jL n.id L1).length : Int) = (L1.length : Int) := by rw [HL1.out]
            clear q0 q1 q2 q3 d0 f5 S2 J4
            go_wp2
            go_loopw [7, 51] (fun lv kv wx => ∃ (c k : Nat), lv = .int .i64 c ∧ kv = .int .i64 k ∧ k ≤ L1.length ∧ c ≤ o3 + k ∧ Hid (c + (L1.drop k).countP (fun x => x.1 == n.id) = o3 + L1.countP (fun x => x.1 == n.id)) ∧ Hid (Fuw w5 wx)) (fun _ kv _ => L1.length - (RowKit.intOf kv).toNat)
            case atStart => exact ⟨o3, 0, rfl, rfl, Nat.zero_le _, Nat.le_refl _, HCI, FB⟩
            case round =>
              obtain ⟨c, k, rfl, rfl, hk, bc, HU, hfx⟩ := hrel
              clear HCI FB
              have FX := Lib.hid (F5.out.trans hfx.out)
              by_cases hlk : k < L1.length
              · have hlk' : k < (jL n.id L1).length := by rw [HL1.out]; exact hlk
                obtain ⟨gg, oo, hao5, m0, m1, m2⟩ := (slJ_on hfx.out J5.out).get hlk'
                rw [jL_at k hlk' hlk] at m0 m1 m2
                have HMK := Lib.hid (HMI.out L1[k] (List.getElem_mem hlk))
                have HCK := Lib.hid (show (L1.drop k).countP (fun x => x.1 == n.id) = (if L1[k].1 = n.id then 1 else 0) + (L1.drop (k + 1)).countP (fun x => x.1 == n.id) by
                  rw [List.drop_eq_getElem_cons hlk, List.countP_cons]
                  by_cases g : L1[k].1 = n.id <;> simp [g] <;> omega)
                subst hao5
                have hk1 : (k : Int) < (L1.length : Int) := by omega
                generalize L1[k] = x at *
                obtain ⟨x1, x2⟩ := x
                simp only at m0 m1 m2 HMK HCK
                go_upto_region 12 with fail
                obtain ⟨WJ, hWJ⟩ : ∃ W, W = wr.alloc (.cells #[.int .i64 n.id, .int .i64 x1, .int .i64 x2] 56) := ⟨_, rfl⟩
                have hfJ : Fuw wr WJ := by rw [hWJ]; exact fuwA _ _
                have hBJ : Bk WJ wr.heap.size #[.int .i64 n.id, .int .i64 x1, .int .i64 x2] 56 := by rw [hWJ]; exact Bk.new _ _ _
                rw [← hWJ]
                clear hWJ m0 m1 m2
                have FJ := Lib.hid (FX.out.trans hfJ)
                have FFJ := Lib.hid (hfx.out.trans hfJ)
                have HBJ := Lib.hid hBJ
                clear hfJ hBJ
                have ff : Fuw WJ WJ.drew := Fuw.drew (Fuw.refl WJ)
                have hq : (n.id != n.id) = false := by simp
                have SI := Lib.hid (HC.out x1 2)
                have HHA := Lib.hid (fun w' ao cap (hs : SlJ w' ao (jL x1 (adjV g.es x1 ts 2)) cap) => hasj_any (jL x1 (adjV g.es x1 ts 2)) ao cap (x1, n.id, x2) w' hs (jL_mem (x := (n.id, x2)) HMK.out))
                generalize adjV g.es x1 ts 2 = LI at *
                simp only at HHA
                go_region_held3 (fun w' => w'.cell? ⟨w.heap.size, 0, none⟩ = some (.slice (some ⟨b, o, none⟩) g.ns.length cn) ∧ w'.cell? ⟨w.heap.size, 1, none⟩ = some (.slice ae g.es.length ce) ∧ w'.cell? ⟨w.heap.size, 2, none⟩ = some (.int .i64 g.nn) ∧ w'.cell? ⟨w.heap.size, 3, none⟩ = some (.int .i64 g.ne) ∧ w'.cell? ⟨Bn, 0, none⟩ = some (.int .i64 n.id) ∧ w'.cell? ⟨wr.heap.size, 0, none⟩ = some (.int .i64 n.id) ∧ w'.cell? ⟨wr.heap.size, 1, none⟩ = some (.int .i64 x1) ∧ w'.cell? ⟨wr.heap.size, 2, none⟩ = some (.int .i64 x2))
                  (first | exact ⟨(PW.out.on (FJ.out.trans ff)).c0, (PW.out.on (FJ.out.trans ff)).c1, (PW.out.on (FJ.out.trans ff)).c2, (PW.out.on (FJ.out.trans ff)).c3, (HBn.out.on (FJ.out.trans ff)).c 0, (HBJ.out.on ff).c 0, (HBJ.out.on ff).c 1, (HBJ.out.on ff).c 2⟩)
                  (first
                    | (go_at_call 22; refine (SI.out _ (FW.out.trans (FJ.out.trans ff))).mono ?_; rintro e6 w6 ⟨ao6, k6, rfl, j6, f6⟩; replace ff := ff.trans f6)
                    | (go_at_call 25; refine (HHA.out _ _ _ j6).mono ?_; rintro e7 w7 ⟨rfl, f7⟩; replace ff := ff.trans f7))
                have FZ := Lib.hid (FFJ.out.trans ff)
                have m1 := (HBJ.out.on ff).c 1
                have d0 : World.cell? _ ⟨Bn, 0, none⟩ = some (.int .i64 n.id) := (HBn.out.on (FJ.out.trans ff)).c 0
                simp only [List.getElem?_toArray, List.getElem?_cons_zero, List.getElem?_cons_succ] at m1
                by_cases hx : x1 = n.id
                · have hx' : (x1 == n.id) = true := by rw [hx]; simp
                  have HV := Lib.hid (show (c + 1) + (L1.drop (k + 1)).countP (fun x => x.1 == n.id) = o3 + L1.countP (fun x => x.1 == n.id) by
                    have := HU.out
                    rw [HCK.out, if_pos hx] at this
                    omega)
                  clear hx
                  go_wp2
                  go_roundw
                  case rel => exact ⟨c + 1, k + 1, by go_num, by go_num, by omega, by omega, HV, FZ⟩
                  case measure => simp [RowKit.intOf]; omega
                · have hx' : (x1 == n.id) = false := beq_eq_false_iff_ne.2 hx
                  have HV := Lib.hid (show c + (L1.drop (k + 1)).countP (fun x => x.1 == n.id) = o3 + L1.countP (fun x => x.1 == n.id) by
                    have := HU.out
                    rw [HCK.out, if_neg hx] at this
                    omega)
                  clear hx
                  go_wp2
                  go_roundw
                  case rel => exact ⟨c, k + 1, rfl, by go_num, by omega, by omega, HV, FZ⟩
                  case measure => simp [RowKit.intOf]; omega
              · have HCE := Lib.hid (show c = o3 + L1.countP (fun x => x.1 == n.id) by
                  have := HU.out
                  rwa [List.drop_of_length_le (by omega), List.countP_nil, Nat.add_zero] at this)
                have hl2 : ((jL n.id L2).length : Int) = (L2.length : Int) := by rw [HL2.out]
                have hl3 : ((jL n.id L3).length : Int) = (L3.length : Int) := by rw [HL3.out]
                have hkk : ¬ (k : Int) < (L1.length : Int) := by omega
                have q0 := (PW.out.on FX.out).c0; have q1 := (PW.out.on FX.out).c1; have q2 := (PW.out.on FX.out).c2; have q3 := (PW.out.on FX.out).c3
                have d0 : World.cell? _ ⟨Bn, 0, none⟩ = some (.int .i64 n.id) := (HBn.out.on FX.out).c 0
                go_wp2_with fail
                go_at_call 22; refine (S3.out _ (FW.out.trans FX.out)).mono ?_; rintro e8 w8 ⟨ao8, k8, rfl, -, f8⟩
                have hc3 : L1.countP (fun x => x.1 == n.id) ≤ L1.length := List.countP_le_length
                have HNX := Lib.hid (show MirV g ts (i + 1) (o1 + L1.length) (o2 + L2.length) c (o4 + L3.length) by rw [HCE.out]; exact HMS.out)
                have FN := Lib.hid (FNX.out.trans (FX.out.trans f8))
                have bc3 : c ≤ 60 * (i + 1) := by rw [HCE.out]; omega
                clear q0 q1 q2 q3 d0 f8
                go_wp2
                go_roundw
                case rel => exact ⟨i + 1, o1 + L1.length, o2 + L2.length, c, o4 + L3.length, by go_num, by go_num, by go_num, rfl, by go_num, by omega, by omega, by omega, bc3, by omega, HNX, FN⟩
                case measure => simp [RowKit.intOf]; omega
          · obtain ⟨g1, g2, g3⟩ := mir_e HM.out (by omega)
            have HE1 := Lib.hid g1
            have HE2 := Lib.hid g2
            have HE3 := Lib.hid g3
            have q1 := (P3.out.on hf.out).c1
            have HC0 := Lib.hid (show 0 + (g.es.drop 0).countP (fun e => hasT e.ty ts) = cV g.es ts by rw [List.drop_zero, Nat.zero_add]; rfl)
            have HES := Lib.hid (slE_on (F3.out.trans hf.out) HG.out.e)
            have FB := Lib.hid (Fuw.refl wr)
            clear g1 g2 g3 HM
            go_wp2
            go_loopw [15, 104] (fun cv kv wx => ∃ (c k : Nat), cv = .int .i64 c ∧ kv = .int .i64 k ∧ k ≤ g.es.length ∧ c ≤ k ∧ Hid (c + (g.es.drop k).countP (fun e => hasT e.ty ts) = cV g.es ts) ∧ Hid (Fuw wr wx)) (fun _ kv _ => g.es.length - (RowKit.intOf kv).toNat)
            case atStart => exact ⟨0, 0, rfl, rfl, Nat.zero_le _, Nat.le_refl _, HC0, FB⟩
            case round =>
              obtain ⟨c, k, rfl, rfl, hk, bc, HU, hfx⟩ := hrel
              clear HC0 FB
              by_cases hlk : k < g.es.length
              · obtain ⟨b', o', rfl, -, -, -, -, c0, c1, c2, c3, ap, cp, c4, -⟩ := (slE_on hfx.out HES.out).get hlk
                have HH := Lib.hid (fun w' (hf' : Fuw w w') => hast_any g.es[k] ap cp ts at_ ct w' (slS_on hf' HT.out))
                have HCK := Lib.hid (show (g.es.drop k).countP (fun e => hasT e.ty ts) = (if hasT g.es[k].ty ts = true then 1 else 0) + (g.es.drop (k + 1)).countP (fun e => hasT e.ty ts) by
                  rw [List.drop_eq_getElem_cons hlk, List.countP_cons]
                  cases hasT g.es[k].ty ts <;> simp <;> omega)
                unfold edv at HH
                generalize g.es[k] = e at *
                generalize hasT e.ty ts = t at *
                go_wp2_with fail
                go_at_call 16; refine (HH.out _ (F3.out.trans (hf.out.trans (hfx.out.trans (fuwA _ _))))).mono ?_; rintro e9 w9 ⟨rfl, f9⟩
                have FZ := Lib.hid (hfx.out.trans ((fuwA _ _).trans f9))
                clear f9
                cases t
                · have HV := Lib.hid (show c + (g.es.drop (k + 1)).countP (fun e => hasT e.ty ts) = cV g.es ts by
                    have := HU.out
                    rw [HCK.out] at this
                    simpa using this)
                  go_wp2
                  go_roundw
                  case rel => exact ⟨c, k + 1, rfl, by go_num, by omega, by omega, HV, FZ⟩
                  case measure => simp [RowKit.intOf]; omega
                · have HV := Lib.hid (show (c + 1) + (g.es.drop (k + 1)).countP (fun e => hasT e.ty ts) = cV g.es ts by
                    have := HU.out
                    rw [HCK.out] at this
                    simp at this
                    omega)
                  go_wp2
                  go_roundw
                  case rel => exact ⟨c + 1, k + 1, by go_num, by go_num, by omega, by omega, HV, FZ⟩
                  case measure => simp [RowKit.intOf]; omega
              · have hcc : c = cV g.es ts := by
                  have := HU.out
                  rwa [List.drop_of_length_le (by omega), List.countP_nil, Nat.add_zero] at this
                have t1 : ((o1 : Int) == (c : Int)) = true := by rw [HE1.out, hcc]; simp
                have t2 : ((o2 : Int) == (c : Int)) = true := by rw [HE2.out, hcc]; simp
                have t3 : ((o4 : Int) == 2 * (c : Int) - (o3 : Int)) = true := by
                  have := HE3.out
                  rw [← hcc] at this
                  rw [beq_iff_eq]; omega
                have b5 : (o3 : Int) ≤ 3600 := by omega
                have b6 : (c : Int) ≤ 60 := by omega
                have hkk : ¬ (k : Int) < (g.es.length : Int) := by omega
                clear hcc
                go_wp2_with fail
                go_at_call 8; refine (HA.out _).mono ?_; rintro e2 w2 ⟨rfl, f2⟩
                go_wp2
                go_ret
                exact ⟨rfl, F3.out.trans (hf.out.trans (hfx.out.trans f2))⟩
      · have hc' : (chkV g != 0) = true := by rw [bne_iff_ne]; exact hc
        generalize chkV g = c at *
        clear hc
        go_wp2_with fail
        go_at_call 8; refine (HA.out _).mono ?_; rintro e2 w2 ⟨rfl, f2⟩
        go_wp2
        go_ret
        exact ⟨rfl, F3.out.trans f2⟩
end Go.Proofs.Ytcadeijloobbmaa
