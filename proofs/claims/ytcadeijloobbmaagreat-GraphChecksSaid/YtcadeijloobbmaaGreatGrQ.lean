/-
  The reference of package graph: Small. Nothing that was there turns.
-/
import Derived.Test.YtcadeijloobbmaaGreatNj
namespace Go.Proofs.YtcadeijloobbmaaGreat
open Go.RowKit

/-- What is left of a budget behind labels, nodes, edges. -/
def lblV : List (List UInt8) → Int → Int
  | [], a => a
  | s :: r, a => if a < 0 then a else lblV r (a - ((s.length / 50 : Nat) : Int))
def nodW (n : Nd) (a : Int) : Int := lblV n.ls (wgpV n.ps (a - (n.ls.length : Int)))
def nwV : List Nd → Int → Int
  | [], a => a
  | n :: r, a => if a < 0 then a else nwV r (nodW n a)
def ewV : List Ed → Int → Int
  | [], a => a
  | e :: r, a => if a < 0 then a else ewV r (wgpV e.ps (a - ((e.ty.length / 50 : Nat) : Int)))
def smlV (g : Gr) (N M : Nat) : Bool := (decide (g.ns.length ≤ N) && decide (g.es.length ≤ M)) && decide (0 ≤ ewV g.es (nwV g.ns 2000))
theorem lbl_neg {a : Int} (h : a < 0) : ∀ l : List (List UInt8), lblV l a = a
  | [] => rfl
  | p :: r => by unfold lblV; rw [if_pos h]
theorem nw_neg {a : Int} (h : a < 0) : ∀ l : List Nd, nwV l a = a
  | [] => rfl
  | p :: r => by unfold nwV; rw [if_pos h]
theorem ew_neg {a : Int} (h : a < 0) : ∀ l : List Ed, ewV l a = a
  | [] => rfl
  | p :: r => by unfold ewV; rw [if_pos h]
theorem lbl_drop (l : List (List UInt8)) (i : Nat) (h : i < l.length) {a : Int} (ha : 0 ≤ a) : lblV (l.drop i) a = lblV (l.drop (i + 1)) (a - ((l[i].length / 50 : Nat) : Int)) := by
  rw [List.drop_eq_getElem_cons h]
  show (if a < 0 then a else _) = _
  rw [if_neg (by omega)]
theorem nw_drop (l : List Nd) (i : Nat) (h : i < l.length) {a : Int} (ha : 0 ≤ a) : nwV (l.drop i) a = nwV (l.drop (i + 1)) (nodW l[i] a) := by
  rw [List.drop_eq_getElem_cons h]
  show (if a < 0 then a else _) = _
  rw [if_neg (by omega)]
theorem ew_drop (l : List Ed) (i : Nat) (h : i < l.length) {a : Int} (ha : 0 ≤ a) : ewV (l.drop i) a = ewV (l.drop (i + 1)) (wgpV l[i].ps (a - ((l[i].ty.length / 50 : Nat) : Int))) := by
  rw [List.drop_eq_getElem_cons h]
  show (if a < 0 then a else _) = _
  rw [if_neg (by omega)]
theorem lbl_le : ∀ (l : List (List UInt8)) (a : Int), lblV l a ≤ a
  | [], a => Int.le_refl _
  | p :: r, a => by
    by_cases h : a < 0
    · rw [lbl_neg h]; exact Int.le_refl _
    · show (if a < 0 then a else _) ≤ a
      rw [if_neg h]
      have k1 := lbl_le r (a - ((p.length / 50 : Nat) : Int))
      omega
theorem nod_le (n : Nd) (a : Int) : nodW n a ≤ a := by
  unfold nodW
  have k1 := lbl_le n.ls (wgpV n.ps (a - (n.ls.length : Int)))
  have k2 := wgp_le n.ps (a - (n.ls.length : Int))
  omega
theorem sml_b {g : Gr} {N M : Nat} (h : smlV g N M = true) : g.ns.length ≤ N ∧ g.es.length ≤ M ∧ 0 ≤ ewV g.es (nwV g.ns 2000) := by
  unfold smlV at h
  simp only [Bool.and_eq_true, decide_eq_true_eq] at h
  exact ⟨h.1.1, h.1.2, h.2⟩
theorem sml_1 {g : Gr} {N M : Nat} (h : N < g.ns.length) : smlV g N M = false := by
  unfold smlV; rw [decide_eq_false (show ¬ g.ns.length ≤ N by omega)]; rfl
theorem sml_2 {g : Gr} {N M : Nat} (h : M < g.es.length) : smlV g N M = false := by
  unfold smlV; rw [decide_eq_false (show ¬ g.es.length ≤ M by omega), Bool.and_false]; rfl
theorem sml_c {g : Gr} {N M : Nat} (h : g.ns.length ≤ N) (h' : g.es.length ≤ M) : smlV g N M = decide (0 ≤ ewV g.es (nwV (g.ns.drop 0) 2000)) := by
  unfold smlV; rw [decide_eq_true h, decide_eq_true h']; rfl

set_option maxHeartbeats 6400000 in
set_option maxRecDepth 100000 in
theorem small_any (g : Gr) (an ae : Option Addr) (cn ce : Nat) (N M : Nat) (w : World) (hg : GIn w g an ae cn ce) :
    Calls Tryz.prog 5 #[grv g an ae cn ce, .int .i64 (N : Int), .int .i64 (M : Int)] w (FwB w (smlV g N M)) := by
  have hb0 := GB.new w g an ae cn ce
  have f0 := fuwA w (.cells #[.slice an g.ns.length cn, .slice ae g.es.length ce, .int .i64 g.nn, .int .i64 g.ne] 25)
  have l1 := hg.n.len
  have l2 := hg.e.len
  by_cases h1 : N < g.ns.length
  · have HZ := Lib.hid (sml_1 (M := M) h1)
    have h1' : (N : Int) < (g.ns.length : Int) := by omega
    have F0 := Lib.hid f0
    clear f0 hb0 hg
    generalize smlV g N M = R at *
    unfold grv
    go_enter Tryz.func5, Tryz.ntmps5
    go_wp2
    go_ret
    exact ⟨ret_bool HZ.out.symm, F0.out⟩
  · by_cases h2 : M < g.es.length
    · have HZ := Lib.hid (sml_2 (N := N) h2)
      have h1' : ¬ (N : Int) < (g.ns.length : Int) := by omega
      have h2' : (M : Int) < (g.es.length : Int) := by omega
      have F0 := Lib.hid f0
      clear f0 hb0 hg
      generalize smlV g N M = R at *
      unfold grv
      go_enter Tryz.func5, Tryz.ntmps5
      go_wp2
      go_ret
      exact ⟨ret_bool HZ.out.symm, F0.out⟩
    · have HZ := Lib.hid (sml_c (g := g) (N := N) (M := M) (by omega) (by omega))
      have h1' : ¬ (N : Int) < (g.ns.length : Int) := by omega
      have h2' : ¬ (M : Int) < (g.es.length : Int) := by omega
      generalize smlV g N M = R at *
      unfold grv
      obtain ⟨w0, hw0⟩ : ∃ w0, w0 = w.alloc (.cells #[.slice an g.ns.length cn, .slice ae g.es.length ce, .int .i64 g.nn, .int .i64 g.ne] 25) := ⟨_, rfl⟩
      rw [← hw0] at f0 hb0
      have HW0 := Lib.hid hw0
      have F0 := Lib.hid f0
      have HB := Lib.hid hb0
      have HN := Lib.hid (slN_on f0 hg.n)
      have HE := Lib.hid (slE_on f0 hg.e)
      clear hw0 f0 hb0 hg
      go_enter Tryz.func5, Tryz.ntmps5
      go_wp2
      go_loopw [7, 8] (fun lv iv wr => ∃ (c : Int) (i : Nat), lv = .int .i64 c ∧ iv = .int .i64 i ∧ i ≤ g.ns.length ∧ c ≤ 2000 ∧ Hid (R = decide (0 ≤ ewV g.es (nwV (g.ns.drop i) c))) ∧ Hid (Fuw w0 wr)) (fun _ iv _ => g.ns.length - (RowKit.intOf iv).toNat)
      case atStart => exact ⟨2000, 0, rfl, rfl, Nat.zero_le _, Int.le_refl _, HZ, by rw [HW0.out]; exact Fuw.refl _⟩
      case round =>
        obtain ⟨c, i, rfl, rfl, hi, hc, HQ, hf⟩ := hrel
        clear HZ
        have q0 := (HB.out.on hf.out).c0
        by_cases hgo : i < g.ns.length ∧ 0 ≤ c
        · obtain ⟨hlt, hc0⟩ := hgo
          obtain ⟨b, o, rfl, i1, c0, ⟨al, cl, c1, hsl⟩, ap, cp, c2, hsp⟩ := (slN_on hf.out HN.out).get hlt
          have HA := Lib.hid (nw_drop g.ns i hlt hc0)
          have HD := Lib.hid (show nodW g.ns[i] c = lblV (g.ns[i].ls.drop 0) (wgpV g.ns[i].ps (c - (g.ns[i].ls.length : Int))) from rfl)
          have hle := wgp_le g.ns[i].ps (c - (g.ns[i].ls.length : Int))
          have HC := Lib.hid (fun w' (hf' : Fuw wr w') => weigh_any g.ns[i].ps ap cp (c - (g.ns[i].ls.length : Int)) w' (slP_on hf' hsp) (by omega))
          have HLS := Lib.hid hsl
          have nl := hsl.len
          clear hsl hsp i1
          generalize g.ns[i] = n at *
          generalize wgpV n.ps (c - (n.ls.length : Int)) = r at *
          generalize nodW n c = nd at *
          go_upto_region 8 with fail
          obtain ⟨W, hW⟩ : ∃ W, W = wr.alloc (.cells #[.int .i64 n.id, .slice al n.ls.length cl, .slice ap n.ps.length cp] 38) := ⟨_, rfl⟩
          have hfW : Fuw wr W := by rw [hW]; exact fuwA _ _
          have hBn : Bk W wr.heap.size #[.int .i64 n.id, .slice al n.ls.length cl, .slice ap n.ps.length cp] 38 := by rw [hW]; exact Bk.new _ _ _
          rw [← hW]
          clear hW q0 c0 c1 c2
          have d1 : W.cell? ⟨wr.heap.size, 1, none⟩ = some (.slice al n.ls.length cl) := hBn.c 1
          have d2 : W.cell? ⟨wr.heap.size, 2, none⟩ = some (.slice ap n.ps.length cp) := hBn.c 2
          have HBn := Lib.hid hBn
          have FW := Lib.hid hfW
          clear hBn hfW
          go_wp2_with fail
          go_at_call 17; refine (HC.out _ FW.out).mono ?_; rintro e1 w1 ⟨rfl, f1⟩
          have F1 := Lib.hid f1
          have HR0 := Lib.hid (show nd = lblV (n.ls.drop 0) r from HD.out)
          have hr : r ≤ 2000 := by omega
          have FB := Lib.hid (show Fuw w1 w1 from Fuw.refl _)
          clear d1 d2 f1 hle
          go_wp2
          go_loopw [7, 10] (fun lv kv wx => ∃ (d : Int) (k : Nat), lv = .int .i64 d ∧ kv = .int .i64 k ∧ k ≤ n.ls.length ∧ d ≤ 2000 ∧ Hid (nd = lblV (n.ls.drop k) d) ∧ Hid (Fuw w1 wx)) (fun _ kv _ => n.ls.length - (RowKit.intOf kv).toNat)
          case atStart => exact ⟨r, 0, rfl, rfl, Nat.zero_le _, hr, HR0, FB⟩
          case round =>
            obtain ⟨d, k, rfl, rfl, hk, hd, HU, hfx⟩ := hrel
            have FX := Lib.hid (FW.out.trans (F1.out.trans hfx.out))
            have d1 : wr.cell? ⟨_, 1, none⟩ = some (.slice al n.ls.length cl) := (HBn.out.on (F1.out.trans hfx.out)).c 1
            by_cases hgo : k < n.ls.length ∧ 0 ≤ d
            · obtain ⟨hlk, hd0⟩ := hgo
              obtain ⟨b', o', rfl, hz, c0⟩ := (slS_on FX.out HLS.out).get hlk
              have HV := Lib.hid (HU.out.trans (lbl_drop n.ls k hlk hd0))
              rw [Nat.mul_one] at c0
              have hz' : (bs n.ls[k]).size = n.ls[k].length := bs_size _
              unfold maxLen at hz
              obtain ⟨m, hm⟩ : ∃ m, m = n.ls[k].length / 50 := ⟨_, rfl⟩
              rw [← hm] at HV
              have hm2 : ((n.ls[k].length : Int)) / 50 = (m : Int) := by omega
              clear hm
              generalize n.ls[k] = s at *
              go_wp2
              go_roundw
              case rel => exact ⟨d - (m : Int), k + 1, rfl, by go_num, by omega, by omega, HV, hfx⟩
              case measure => simp [RowKit.intOf]; omega
            · have HV := Lib.hid (show nd = d by
                rw [HU.out]
                by_cases g1 : k < n.ls.length
                · exact lbl_neg (by omega) _
                · rw [List.drop_of_length_le (by omega)]; rfl)
              have HT := Lib.hid (show R = decide (0 ≤ ewV g.es (nwV (g.ns.drop (i + 1)) d)) by rw [HQ.out, HA.out, HV.out])
              have HFF := Lib.hid (hf.out.trans FX.out)
              by_cases g1 : k < n.ls.length
              · have g2 : ¬ 0 ≤ d := by omega
                clear hgo
                go_wp2
                go_roundw
                case rel => exact ⟨d, i + 1, rfl, by go_num, by omega, hd, HT, HFF⟩
                case measure => simp [RowKit.intOf]; omega
              · clear hgo
                go_wp2
                go_roundw
                case rel => exact ⟨d, i + 1, rfl, by go_num, by omega, hd, HT, HFF⟩
                case measure => simp [RowKit.intOf]; omega
        · have HV := Lib.hid (show R = decide (0 ≤ ewV (g.es.drop 0) c) from by
            rw [HQ.out]
            by_cases g1 : i < g.ns.length
            · rw [nw_neg (by omega)]; rfl
            · rw [List.drop_of_length_le (show g.ns.length ≤ i by omega)]; rfl)
          have HTL := Lib.hid (fun (W : World) => Fuw.refl W)
          by_cases g1 : i < g.ns.length
          all_goals
            (try have g2 : ¬ 0 ≤ c := by omega)
            clear hgo
            go_wp2
            go_loopw [7, 11] (fun lv kv wx => ∃ (d : Int) (k : Nat), lv = .int .i64 d ∧ kv = .int .i64 k ∧ k ≤ g.es.length ∧ d ≤ 2000 ∧ Hid (R = decide (0 ≤ ewV (g.es.drop k) d)) ∧ Hid (Fuw w0 wx)) (fun _ kv _ => g.es.length - (RowKit.intOf kv).toNat)
            case atStart => exact ⟨c, 0, rfl, rfl, Nat.zero_le _, hc, HV, hf⟩
            case round =>
              obtain ⟨d, k, rfl, rfl, hk, hd, HU, hfx⟩ := hrel
              have q1 := (HB.out.on hfx.out).c1
              by_cases hgo : k < g.es.length ∧ 0 ≤ d
              · obtain ⟨hlk, hd0⟩ := hgo
                obtain ⟨b', o', rfl, -, -, -, hz, c0, c1, c2, c3, ap, cp, c4, hsp⟩ := (slE_on hfx.out HE.out).get hlk
                have HA := Lib.hid (HU.out.trans (by rw [ew_drop g.es k hlk hd0]))
                have hz' : (bs g.es[k].ty).size = g.es[k].ty.length := bs_size _
                unfold maxLen at hz
                have HC := Lib.hid (fun w' (hf' : Fuw _ w') => weigh_any g.es[k].ps ap cp (d - ((g.es[k].ty.length / 50 : Nat) : Int)) w' (slP_on hf' hsp) (by omega))
                have hle := wgp_le g.es[k].ps (d - ((g.es[k].ty.length / 50 : Nat) : Int))
                clear hsp
                obtain ⟨n, hn⟩ : ∃ n, n = g.es[k].ty.length / 50 := ⟨_, rfl⟩
                rw [← hn] at HA HC hle
                have n1 : (g.es[k].ty.length : Int).tdiv 50 = (n : Int) := by
                  rw [Int.tdiv_eq_ediv_of_nonneg (by omega)]; omega
                have n2 : (g.es[k].ty.length : Int) / 50 = (n : Int) := by omega
                have n3 : IntKind.i64.wrap (n : Int) = (n : Int) := IntWalk.i64_in _ (by omega)
                have n4 : IntKind.i64.wrap (d - (n : Int)) = d - (n : Int) := IntWalk.i64_in _ (by omega)
                have k2 : (k : Int) < (g.es.length : Int) := by omega
                have k3 : (0 : Int) ≤ (k : Int) := by omega
                clear hn hz
                generalize wgpV g.es[k].ps (d - (n : Int)) = r at *
                generalize g.es[k] = e at *
                go_upto_region 16 with fail
                have ff : Fuw wr wr.drew := Fuw.drew (Fuw.refl wr)
                go_region_held3 (fun w' => w'.cell? ⟨w.heap.size, 1, none⟩ = some (.slice (some ⟨b', o', none⟩) g.es.length ce) ∧ w'.cell? ⟨b', o' + k * 5 + 3, none⟩ = some (.string (bs e.ty)) ∧ w'.cell? ⟨b', o' + k * 5 + 4, none⟩ = some (.slice ap e.ps.length cp))
                  (first | exact ⟨q1, c3, c4⟩ | exact ⟨cellOnw (ff.trans f4) q1, cellOnw (ff.trans f4) c3, cellOnw (ff.trans f4) c4⟩)
                  (first | (go_at_call 17; refine (HC.out _ ff).mono ?_; rintro e w4 ⟨rfl, f4⟩))
                have HF := Lib.hid (hfx.out.trans (ff.trans f4))
                clear n1 n2 n3 n4
                go_wp2
                go_roundw
                case rel => exact ⟨r, k + 1, rfl, by go_num, by omega, by omega, HA, HF⟩
                case measure => simp [RowKit.intOf]; omega
              · have HW := Lib.hid (show R = decide (0 ≤ d) from by
                  rw [HU.out]
                  by_cases g3 : k < g.es.length
                  · rw [ew_neg (by omega)]
                  · rw [List.drop_of_length_le (show g.es.length ≤ k by omega)]; try rfl)
                have hbd : (decide (0 ≤ d) = true) ∨ (decide (0 ≤ d) = false) := by cases decide (0 ≤ d) <;> simp
                by_cases g3 : k < g.es.length
                · have g4 : ¬ 0 ≤ d := by omega
                  clear hgo hbd
                  go_wp2
                  go_ret
                  exact ⟨ret_bool (by rw [HW.out]; simp [g4]), F0.out.trans hfx.out⟩
                · clear hgo hbd
                  go_wp2
                  all_goals
                    go_ret
                    exact ⟨ret_bool (by first | exact HW.out.symm | (rw [HW.out]; simp_all)), F0.out.trans hfx.out⟩
end Go.Proofs.YtcadeijloobbmaaGreat
