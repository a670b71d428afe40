/-
  ChZ; CiB; CiC: texts of one kind in one file; each part says what it holds.
-/
import Derived.Test.YtfbijdoomkgodaaGreatDoorTK25
import Derived.Deep.RegionWith

/-! Package change: a property set or removed: the walk. -/
namespace Go.Proofs.YtfbijdoomkgodaaGreatDoor
open Go.RowKit

set_option maxHeartbeats 6400000 in
set_option maxRecDepth 100000 in
theorem setprop_any {w0 w : World} {base B g o : Nat} {v : Value} {pm : List (Pp × AC)} (F : List Pp → Gr) (mk : Value → List (Pp × AC) → Gp)
    (hrow : (rowP v pm).Own w base) (hpm : PmOk w0 pm) (hf0 : Fuw w0 w) (hb : base ≤ w.heap.size) (hc : w.cell? ⟨g, o, none⟩ = some v)
    (xs : List Rw) (hmk : ∀ v' pm', (mk v' pm').gr = F (pm'.map Prod.fst)) (hxs : ∀ v' pm', (mk v' pm').xs = xs)
    (hset : ∀ (w1 : World) (v' : Value) (pm' : List (Pp × AC)) (w2 : World), Fuw w w1 → (rowP v' pm').Own w2 base → w1.grownBy w2 v.ownBlock → (v'.ownBlock = v.ownBlock ∨ ∀ k, v'.ownBlock = some k → w1.heap.size ≤ k) → PmOk w0 pm' →
      w2.cell? ⟨g, o, none⟩ = some v ∧ w2.frozen? ⟨g, o, none⟩ = false ∧ Below base w2 (w2.setCell ⟨g, o, none⟩ v') ∧ GBox w0 (w2.setCell ⟨g, o, none⟩ v') base B (mk v' pm'))
    (key : List UInt8) (hk : key.length ≤ maxLen) (x : Vl) (hx : Vin x) (ax : Option Addr) (kx : Nat) (hsx : SlV w0 ax x.ll kx) (hinc : incS (keysV (pm.map Prod.fst))) (h16 : pm.length ≤ 16) :
    Calls Tryz.prog 122 #[.pointer (some ⟨g, o, none⟩), .string (bs key), vlv x ax kx] w (RetEd w0 w base B xs (setE (pm.map Prod.fst) key x) (F (setP (pm.map Prod.fst) key x))) := by
  have HXS := Lib.hid hxs
  clear hxs
  obtain ⟨ap, cp, ev, sp⟩ := pm_row hrow hpm hf0
  obtain ⟨W, hW⟩ : ∃ W, W = w.alloc (.cells #[.int .i64 x.kd, .int .i64 x.nn, .int .i64 x.dd, .string (bs x.ss), .slice ax x.ll.length kx] 28) := ⟨_, rfl⟩
  have fW : Fuw w W := by rw [hW]; exact fuwA _ _
  have bW : Bk W w.heap.size #[.int .i64 x.kd, .int .i64 x.nn, .int .i64 x.dd, .string (bs x.ss), .slice ax x.ll.length kx] 28 := by rw [hW]; exact Bk.new _ _ _
  obtain ⟨kf, ka⟩ := fnd_key (s := key) hinc
  have HFN := Lib.hid (show Calls Tryz.prog 176 #[.slice ap pm.length cp, .string (bs key), .func (.func 177) #[] #[]] W (RetFi W (atS (keysV (pm.map Prod.fst)) key) (hasK (pm.map Prod.fst) key)) from by
    have k := fnp_any (pm.map Prod.fst) ap cp key W (slP_on fW sp) (mon_key hinc) (by rw [List.length_map]; omega)
    rw [List.length_map] at k
    refine k.mono fun e' w' ⟨h1, h2⟩ => ⟨?_, h2⟩
    rw [h1, kf, ka])
  have HNU := Lib.hid (fun (w' : World) (hf : Fuw w w') => isnull_any x ax kx w' hx (hsx.onw (hf0.trans hf)))
  have hat := fun e => at_hasK (k := key) hinc e
  have hil : atS (keysV (pm.map Prod.fst)) key ≤ pm.length := by
    have := atS_le (keysV (pm.map Prod.fst)) key
    unfold keysV at this ⊢
    rwa [List.length_map, List.length_map] at this
  have hps : hasK (pm.map Prod.fst) key = true → PmOk w0 (pm.set (atS (keysV (pm.map Prod.fst)) key) (⟨key, x⟩, (ax, kx))) := fun _ p hp => by
    rcases set_mem hp with rfl | hp
    · exact ⟨⟨hk, hx⟩, hsx⟩
    · exact hpm p hp
  have hpi : PmOk w0 (insA pm (atS (keysV (pm.map Prod.fst)) key) (⟨key, x⟩, (ax, kx))) := fun p hp => by
    rcases insA_mem.1 hp with rfl | hp
    · exact ⟨⟨hk, hx⟩, hsx⟩
    · exact hpm p hp
  have hpd : PmOk w0 (delA pm (atS (keysV (pm.map Prod.fst)) key)) := fun p hp => hpm p (delA_mem hp)
  obtain ⟨R, hR⟩ : ∃ R, R = setE (pm.map Prod.fst) key x := ⟨_, rfl⟩
  obtain ⟨T, hT⟩ : ∃ T, T = F (setP (pm.map Prod.fst) key x) := ⟨_, rfl⟩
  rw [← hR, ← hT]
  unfold setE at hR
  unfold setP at hT
  rw [List.length_map] at hR
  have hst : hasK (pm.map Prod.fst) key = true → ∃ hl : atS (keysV (pm.map Prod.fst)) key < pm.length, pm[atS (keysV (pm.map Prod.fst)) key].1.k = key := fun e => by
    obtain ⟨hl, h2⟩ := hat e
    rw [List.length_map] at hl
    rw [List.getElem_map] at h2
    exact ⟨hl, h2⟩
  clear kf ka hat sp hinc
  obtain ⟨i, hi⟩ : ∃ i, i = atS (keysV (pm.map Prod.fst)) key := ⟨_, rfl⟩
  rw [← hi] at HFN hil hps hpi hpd hT hst
  generalize hasK (pm.map Prod.fst) key = q at *
  generalize isN x = z at *
  have HR := Lib.hid hR
  have HT := Lib.hid hT
  have HST := Lib.hid hst
  have HPS := Lib.hid hps
  have HPI := Lib.hid hpi
  have HPD := Lib.hid hpd
  have HMK := Lib.hid hmk
  have HSET := Lib.hid hset
  have HBW := Lib.hid bW
  have HFW := Lib.hid fW
  have HB := Lib.hid hb
  have HEV := Lib.hid ev
  have HBV := Lib.hid (fun k (e : v.ownBlock = some k) => hrow.lt k e)
  unfold rowP Rw.Own at hrow
  simp only [ev] at hrow
  have HROW := Lib.hid hrow
  have HPM := Lib.hid hpm
  rw [ev] at hc
  have HC := Lib.hid hc
  have c1 : W.cell? ⟨g, o, none⟩ = some (.slice ap pm.length cp) := cellOnw fW hc
  clear hR hT hst hps hpi hpd hmk hset bW fW hb ev hrow hpm hc hf0 hsx hx hi hk
  unfold vlv at *
  go_enter Tryz.func122, Tryz.ntmps122
  go_upto_region 1 with fail
  rw [← hW]
  clear hW
  go_wp2_with fail
  go_at_call 176; refine HFN.out.mono ?_; rintro e1 w1 ⟨rfl, f1⟩
  have HF1 := Lib.hid (HFW.out.trans f1)
  have b1 := HBW.out.on f1
  have c0 := b1.c 0; have c2 := b1.c 1; have c3 := b1.c 2; have c4 := b1.c 3; have c5 := b1.c 4
  have c6 : w1.cell? ⟨g, o, none⟩ = some (.slice ap pm.length cp) := cellOnw f1 c1
  have HB1 := Lib.hid b1
  clear c1 HFN f1 b1 HBW HFW
  cases q with
  | true =>
    have HE := Lib.hid (show R = 0 from HR.out.trans (if_neg (fun k => by cases k.1)))
    obtain ⟨hl, hkey⟩ := HST.out rfl
    have HCS := Lib.hid (show LP.cs (pm.set i (⟨key, x⟩, (ax, kx))) = set5 (LP.cs pm) (i * 6 + 1) x ax kx from (congrArg (fun s => LP.cs (pm.set i (⟨s, x⟩, (ax, kx)))) hkey).symm.trans (lp_set pm i x ax kx hl))
    have HL := Lib.hid hl
    rcases (HROW.out).form' with ⟨-, h0⟩ | ⟨gl, cl', e, hc1, hc2⟩
    · omega
    cases e
    have hi5 : (i : Int) + 1 ≤ 9223372036854775807 := by unfold maxLen at hc2; omega
    clear hc1 hc2 hil hkey
    go_wp2_with fail
    go_at_call 34; refine (HNU.out _ HF1.out).mono ?_; rintro e2 w2 ⟨rfl, f2⟩
    have HF2 := Lib.hid (HF1.out.trans f2)
    have b2 := HB1.out.on f2
    have d0 := b2.c 0; have d1 := b2.c 1; have d2 := b2.c 2; have d3 := b2.c 3; have d4 := b2.c 4
    have d6 : w2.cell? ⟨g, o, none⟩ = some (.slice (some ⟨gl, 0, none⟩) pm.length cp) := cellOnw f2 c6
    clear c0 c2 c3 c4 c5 c6 f2 b2 HNU HB1
    have hob : (Value.slice (some ⟨gl, 0, none⟩) pm.length cp).ownBlock = some gl := rfl
    cases z with
    | true =>
      have HTT := Lib.hid (show T = F ((delA pm i).map Prod.fst) from by rw [HT.out, delA_map]; simp)
      have HIN := Lib.hid (show Calls Tryz.prog 178 #[.slice (some ⟨gl, 0, none⟩) pm.length cp, .int .i64 (i : Int), .int .i64 ((i : Int) + 1)] w2 (RetDel w2 base 53 6 gl cp (pm.length - 1) ((LP.cs pm).take (i * 6) ++ (LP.cs pm).drop ((i + 1) * 6))) from
        del_p (own_on HROW.out HF2.out) i hl (lp_one _))
      go_upto_region 4 with fail
      go_wp2_with fail
      go_at_call 178; refine HIN.out.mono ?_; rintro e3 w3 ⟨rfl, hown3, hgr3⟩
      rw [← hob, ← HEV.out] at hgr3
      obtain ⟨m0, z0, hbl, hgb⟩ := HSET.out w2 (.slice (some ⟨gl, 0, none⟩) (pm.length - 1) cp) (delA pm i) w3 HF2.out (by unfold rowP Rw.Own; simp only; rw [lp_del, show (delA pm i).length = pm.length - 1 by have := delA_len pm i HL.out; omega]; exact hown3) hgr3 (.inl (by rw [HEV.out]; rfl)) HPD.out
      rw [HEV.out] at m0
      have HFIN := Lib.hid (show RetEd w0 w base B xs R T (.returned (.int .i64 0)) (w3.setCell ⟨g, o, none⟩ (.slice (some ⟨gl, 0, none⟩) (pm.length - 1) cp)) from
        ⟨by rw [HE.out], ((below_of HF2.out HB.out).trans (below_grown hgr3 (by have := HF2.out.size; have := HB.out; omega) (fun k e => (HBV.out k e).1))).trans hbl, by have := HF2.out.size; have := hgr3.size; simp; omega, fun _ => ⟨_, hgb, (HMK.out _ _).trans HTT.out.symm, HXS.out _ _⟩⟩)
      clear hbl hgb hgr3 hown3 HIN d6 hob
      go_wp2
      go_ret
      exact HFIN.out
    | false =>
      have HTT := Lib.hid (show T = F ((pm.set i (⟨key, x⟩, (ax, kx))).map Prod.fst) from by rw [HT.out, List.map_set]; simp)
      have hrow2 := own_on HROW.out HF2.out
      obtain ⟨h5, g5⟩ := own_set5 (k := i * 6 + 1) (x := x) (a := ax) (c := kx) hrow2
      rw [← hob, ← HEV.out] at g5
      rw [← HCS.out] at h5
      obtain ⟨u1, u2, u3, u4, u5, ⟨m1, z1⟩, ⟨m2, z2⟩, ⟨m3, z3⟩, ⟨m4, z4⟩, m5, z5⟩ := row5 hrow2 hl
      obtain ⟨V, hV⟩ : ∃ V, V = (((((w2.setCell ⟨gl, i * 6 + 1, none⟩ (.int .i64 x.kd)).setCell ⟨gl, i * 6 + 1 + 1, none⟩ (.int .i64 x.nn)).setCell ⟨gl, i * 6 + 1 + 2, none⟩ (.int .i64 x.dd)).setCell ⟨gl, i * 6 + 1 + 3, none⟩ (.string (bs x.ss))).setCell ⟨gl, i * 6 + 1 + 4, none⟩ (.slice ax x.ll.length kx)) := ⟨_, rfl⟩
      rw [← hV] at h5 g5
      obtain ⟨m0, z0, hbl, hgb⟩ := HSET.out w2 v (pm.set i (⟨key, x⟩, (ax, kx))) V HF2.out (by unfold rowP Rw.Own; simp only; rw [HEV.out, List.length_set]; exact h5) g5 (.inl rfl) (HPS.out (by first | rfl | trivial))
      rw [setCell_id m0] at hgb
      have HFIN := Lib.hid (show RetEd w0 w base B xs R T (.returned (.int .i64 0)) V.drew from
        ⟨by rw [HE.out], Below.drew ((below_of HF2.out HB.out).trans (below_grown g5 (by have := HF2.out.size; have := HB.out; omega) (fun k e => (HBV.out k e).1))), by have := HF2.out.size; have := g5.size; simp; omega, fun _ => ⟨_, ⟨hgb.own.drew, hgb.box, hgb.far, hgb.hi⟩, (HMK.out _ _).trans HTT.out.symm, HXS.out _ _⟩⟩)
      have hl6 := hl
      clear hbl hgb g5 h5 hrow2 m0 z0 hob
      rw [hV] at HFIN
      clear hV
      go_upto_region 6 with fail
      go_region
      all_goals
        go_wp2
        go_ret
        exact HFIN.out
  | false =>
    go_upto_region 7 with fail
    go_wp2_with fail
    go_at_call 34; refine (HNU.out _ HF1.out).mono ?_; rintro e2 w2 ⟨rfl, f2⟩
    have HF2 := Lib.hid (HF1.out.trans f2)
    have b2 := HB1.out.on f2
    have d0 := b2.c 0; have d1 := b2.c 1; have d2 := b2.c 2; have d3 := b2.c 3; have d4 := b2.c 4
    have d6 : w2.cell? ⟨g, o, none⟩ = some (.slice ap pm.length cp) := cellOnw f2 c6
    have HB2 := Lib.hid b2
    clear c0 c2 c3 c4 c5 c6 f2 b2 HNU HB1
    cases z with
    | true =>
      have HE := Lib.hid (show R = 0 from HR.out.trans (if_neg (fun k => by cases k.2.1)))
      have HTT := Lib.hid (show T = F (pm.map Prod.fst) from by rw [HT.out]; simp)
      obtain ⟨m0, z0, hbl, hgb⟩ := HSET.out w2 v pm w2 HF2.out (by unfold rowP Rw.Own; simp only; rw [HEV.out]; exact own_on HROW.out HF2.out) (grown_refl _ _) (.inl rfl) HPM.out
      rw [setCell_id m0] at hgb
      have HFIN := Lib.hid (show RetEd w0 w base B xs R T (.returned (.int .i64 0)) w2 from
        ⟨by rw [HE.out], below_of HF2.out HB.out, HF2.out.size, fun _ => ⟨_, hgb, (HMK.out _ _).trans HTT.out.symm, HXS.out _ _⟩⟩)
      clear m0 z0 hbl hgb
      go_wp2
      go_ret
      exact HFIN.out
    | false =>
      by_cases hfull : 16 ≤ pm.length
      · have hq : ((pm.length : Int) == 16) = true := by rw [beq_iff_eq]; omega
        have HE := Lib.hid (show R = 20 from by rw [HR.out]; simp [hfull])
        go_wp2
        go_ret
        exact ⟨ret_int HE.out.symm, below_of HF2.out HB.out, HF2.out.size, fun e => by rw [HE.out] at e; cases e⟩
      · have hq : ((pm.length : Int) == 16) = false := by rw [beq_eq_false_iff_ne]; omega
        have HE := Lib.hid (show R = 0 from by rw [HR.out]; simp [hfull])
        have HTT := Lib.hid (show T = F ((insA pm i (⟨key, x⟩, (ax, kx))).map Prod.fst) from by rw [HT.out, insA_map]; simp)
        have hsz := HF2.out.size
        have HIN := Lib.hid (show Calls Tryz.prog 179 #[.slice ap pm.length cp, .int .i64 (i : Int), .slice (some ⟨w2.heap.size, 0, none⟩) 1 1] (w2.drew.alloc (.cells #[.string (bs key), .int .i64 x.kd, .int .i64 x.nn, .int .i64 x.dd, .string (bs x.ss), .slice ax x.ll.length kx] 53)) (RetIns (w2.drew.alloc (.cells #[.string (bs key), .int .i64 x.kd, .int .i64 x.nn, .int .i64 x.dd, .string (bs x.ss), .slice ax x.ll.length kx] 53)) base 53 6 (.slice ap pm.length cp) (pm.length + 1) ((LP.cs pm).take (i * 6) ++ [.string (bs key), .int .i64 x.kd, .int .i64 x.nn, .int .i64 x.dd, .string (bs x.ss), .slice ax x.ll.length kx] ++ (LP.cs pm).drop (i * 6))) from
          ins_p (own_on HROW.out (HF2.out.trans ((Fuw.drew (Fuw.refl _)).alloc _))) i hil (by omega) (by have := HB.out; simp; omega) (Bk.new w2.drew _ _) rfl (fun e => by have := (HBV.out _ (by rw [HEV.out]; exact e)).2; omega) (lp_one _) (by intro u hu; simp at hu; rcases hu with rfl | rfl | rfl | rfl | rfl | rfl <;> rfl))
        have HFA := Lib.hid (show Fuw w (w2.drew.alloc (.cells #[.string (bs key), .int .i64 x.kd, .int .i64 x.nn, .int .i64 x.dd, .string (bs x.ss), .slice ax x.ll.length kx] 53)) from HF2.out.trans ((Fuw.drew (Fuw.refl _)).alloc _))
        have lg : g < w2.heap.size := cell_lt' d6
        have lw : w.heap.size < w2.heap.size := HB2.out.lt
        clear hfull hil
        go_upto_region 2 with fail
        go_region_with (first
          | (go_at_call 179; refine HIN.out.mono ?_; rintro e3 w3 ⟨v3, rfl, hown3, hgr3, hat3⟩; obtain ⟨g3, k3, rfl, -⟩ := hown3.form (by omega); rw [← HEV.out] at hgr3 hat3; obtain ⟨m0, z0, hbl, hgb⟩ := HSET.out _ (.slice (some ⟨g3, 0, none⟩) (pm.length + 1) k3) (insA pm i (⟨key, x⟩, (ax, kx))) w3 HFA.out (by unfold rowP Rw.Own; simp only; rw [lp_ins, insA_len]; exact hown3) hgr3 hat3 HPI.out; rw [HEV.out] at m0))
        all_goals
          have HFIN := Lib.hid (show RetEd w0 w base B xs R T (.returned (.int .i64 0)) (w3.setCell ⟨g, o, none⟩ (.slice (some ⟨g3, 0, none⟩) (pm.length + 1) k3)) from
            ⟨by rw [HE.out], ((below_of HFA.out HB.out).trans (below_grown hgr3 (by have := HFA.out.size; have := HB.out; omega) (fun k e => (HBV.out k e).1))).trans hbl, by have := HFA.out.size; have := hgr3.size; simp at *; omega, fun _ => ⟨_, hgb, (HMK.out _ _).trans HTT.out.symm, HXS.out _ _⟩⟩)
          clear hbl hgb hgr3 hown3 HIN d6 hat3
          go_wp2
          go_ret
          exact HFIN.out
end Go.Proofs.YtfbijdoomkgodaaGreatDoor

/-! Package change: a change of a node that must be there. -/
namespace Go.Proofs.YtfbijdoomkgodaaGreatDoor
open Go.RowKit

theorem RetEd.after {w0 w w1 w' : World} {base B : Nat} {xs : List Rw} {R : Int} {g : Gr} {e : Ending} (hf : Fuw w w1) (hb : base ≤ w.heap.size) (h : RetEd w0 w1 base B xs R g e w') : RetEd w0 w base B xs R g e w' :=
  ⟨h.1, (below_of hf hb).trans h.2.1, Nat.le_trans hf.size h.2.2.1, h.2.2.2⟩
theorem lab_congr {G : Gp} {p : Nat} (hp : p < G.ns.length) {f f' : Nd → Nd} (e : f G.ns[p].nd = f' G.ns[p].nd) : labN G.gr p f = labN G.gr p f' := by
  have hl : p < (G.ns.map Np.nd).length := by rw [List.length_map]; exact hp
  have k : (G.ns.map Np.nd)[p] = G.ns[p].nd := by rw [List.getElem_map]
  unfold labN Gp.gr
  simp only
  rw [← set_modify f _ p hl, ← set_modify f' _ p hl, k, e]
set_option maxHeartbeats 6400000 in
set_option maxRecDepth 100000 in
theorem editnode_any {w0 w : World} {base B : Nat} {G : Gp} (h : GBox w0 w base B G) (hv : Fine G.gr) (c : Ch) (a : Option Addr) (k : Nat) (hin : ChIn w0 c a k) :
    Calls Tryz.prog 84 #[.pointer (some ⟨B, 0, none⟩), .agg (chC c a k)] w (RetEd w0 w base B G.xs (match nodV G.gr.ns c.id with | none => 10 | some n => nerr G.gr c n) (nedi G.gr c)) := by
  obtain ⟨W, hW⟩ : ∃ W, W = w.alloc (.cells (chC c a k) 30) := ⟨_, rfl⟩
  have fW : Fuw w W := by rw [hW]; exact fuwA _ _
  have bW : Bk W w.heap.size (chC c a k) 30 := by rw [hW]; exact Bk.new _ _ _
  have HFN := Lib.hid (fnode_any (h.later fW) c.id hv.pn (by have := hv.n; unfold Gp.gr at this; rw [List.length_map] at this; omega))
  obtain ⟨R, hR⟩ : ∃ R, R = (match nodV G.gr.ns c.id with | none => 10 | some n => nerr G.gr c n : Int) := ⟨_, rfl⟩
  rw [← hR]
  have HB := Lib.hid h.hb
  have HIN := Lib.hid hin
  have HH := Lib.hid h
  have HV := Lib.hid hv
  have HFW := Lib.hid fW
  have HBW := Lib.hid bW
  have d1 := bW.c 1
  unfold chC at hW d1 ⊢
  rcases at_nod (x := c.id) hv.pn with ⟨q1, hl, q2, q3⟩ | ⟨q1, q2⟩
  · rw [q1] at HFN
    rw [q2] at hR
    obtain ⟨p, hp⟩ : ∃ p, p = atI (nidsV G.gr.ns) c.id := ⟨_, rfl⟩
    rw [← hp] at HFN
    have hl' : p < G.ns.length := by rw [hp]; have := hl; unfold Gp.gr at this; rw [List.length_map] at this; exact this
    have HL := Lib.hid hl'
    have hnd : G.gr.ns[atI (nidsV G.gr.ns) c.id] = G.ns[p].nd := by
      have e1 : G.gr.ns[atI (nidsV G.gr.ns) c.id]? = some G.ns[p].nd := by rw [← hp]; exact nd_get hl'
      rw [List.getElem?_eq_getElem hl] at e1
      injection e1
    have hR' : R = nerr G.gr c G.ns[p].nd := by rw [hR]; simp only; rw [hnd]
    have HR := Lib.hid hR'
    have HPP := Lib.hid hp
    have HID := Lib.hid (show G.ns[p].id = c.id from (congrArg Nd.id hnd).symm.trans q3)
    have HND := Lib.hid (show NdF G.gr.nn G.ns[p].nd from hv.nf _ (List.mem_map.2 ⟨_, List.getElem_mem hl', rfl⟩))
    have HNX := Lib.hid (show nedi G.gr c = if c.op = 3 then labN G.gr p (fun n => { n with ls := insA n.ls (atS n.ls c.nm) c.nm }) else if c.op = 4 then labN G.gr p (fun n => { n with ls := delA n.ls (atS n.ls c.nm) }) else if c.op = 5 then labN G.gr p (fun n => { n with ps := setP n.ps c.nm c.v }) else { G.gr with ns := delA G.gr.ns p } from by rw [hp]; rfl)
    obtain ⟨T, hT⟩ : ∃ T, T = nedi G.gr c := ⟨_, rfl⟩
    rw [← hT] at HNX ⊢
    obtain ⟨g, cap, ev, hgb, hgl⟩ := h.own.formN (by omega)
    have HEV := Lib.hid ev
    have c0 : W.cell? ⟨B, 0, none⟩ = some (.slice (some ⟨g, 0, none⟩) G.ns.length cap) := by
      have := (h.later fW).box.c 0
      rw [this, ev]; rfl
    have hp5 : (p : Int) < (G.ns.length : Int) := by omega
    clear h hv hin fW bW hR hR' hnd q1 q2 q3 hl hp hT ev hgb hgl
    go_enter Tryz.func84, Tryz.ntmps84
    go_upto_region 1 with fail
    rw [← hW]
    clear hW
    go_wp2_with fail
    go_at_call 117; refine HFN.out.mono ?_; rintro e1 w1 ⟨rfl, f1⟩
    have HF1 := Lib.hid (HFW.out.trans f1)
    have HG1 := Lib.hid (HH.out.later HF1.out)
    have HB1 := Lib.hid (HBW.out.on f1)
    have m0 := HB1.out.c 0
    have m4 := HB1.out.c 4; have m5 := HB1.out.c 5; have m6 := HB1.out.c 6; have m7 := HB1.out.c 7; have m8 := HB1.out.c 8; have m9 := HB1.out.c 9
    unfold chC at m0 m4 m5 m6 m7 m8 m9
    have d0 : w1.cell? ⟨B, 0, none⟩ = some (.slice (some ⟨g, 0, none⟩) G.ns.length cap) := cellOnw f1 c0
    clear d1 c0 f1 HFN HFW HBW
    by_cases o3 : c.op = 3
    · have HQ := Lib.hid (fun (e : Ending) (w' : World) (hr : RetEd w0 w1 base B G.xs R T e w') => RetEd.after HF1.out HB.out hr)
      have HT3 : T = labN G.gr p (fun n => { n with ls := insA n.ls (atS n.ls c.nm) c.nm }) := by rw [HNX.out, if_pos o3]
      have HR3 : R = if hasS G.ns[p].ls c.nm = true then 7 else if 8 ≤ G.ns[p].ls.length then 20 else 0 := by rw [HR.out]; unfold nerr; rw [if_pos o3]; rfl
      have HAL := Lib.hid (show Calls Tryz.prog 124 #[.pointer (some ⟨g, p * 3, none⟩), .string (bs c.nm)] w1 (RetEd w0 w1 base B G.xs R T) from by rw [HT3, HR3]; exact addlabel_any HG1.out HL.out HEV.out c.nm HIN.out.n HND.out.p.li HND.out.p.l8)
      rw [o3] at m0
      clear HT3 HR3
      go_wp2_with fail
      go_at_call 124; refine HAL.out.mono ?_; intro e2 w2 hr
      obtain ⟨rfl, hr2⟩ := hr
      have HZ := Lib.hid (HQ.out _ _ ⟨rfl, hr2⟩)
      clear hr2
      go_wp2
      go_ret
      exact HZ.out
    · by_cases o4 : c.op = 4
      · have HQ := Lib.hid (fun (e : Ending) (w' : World) (hr : RetEd w0 w1 base B G.xs R T e w') => RetEd.after HF1.out HB.out hr)
        have HT3 : T = labN G.gr p (fun n => { n with ls := delA n.ls (atS n.ls c.nm) }) := by rw [HNX.out, if_neg o3, if_pos o4]
        have HR3 : R = if hasS G.ns[p].ls c.nm = true then 0 else 23 := by rw [HR.out]; unfold nerr; rw [if_neg o3, if_pos o4]; rfl
        have HAL := Lib.hid (show Calls Tryz.prog 125 #[.pointer (some ⟨g, p * 3, none⟩), .string (bs c.nm)] w1 (RetEd w0 w1 base B G.xs R T) from by rw [HT3, HR3]; exact dellabel_any HG1.out HL.out HEV.out c.nm HND.out.p.li HND.out.p.l8)
        rw [o4] at m0
        clear HT3 HR3
        go_wp2_with fail
        go_at_call 125; refine HAL.out.mono ?_; intro e2 w2 hr
        obtain ⟨rfl, hr2⟩ := hr
        have HZ := Lib.hid (HQ.out _ _ ⟨rfl, hr2⟩)
        clear hr2
        go_wp2
        go_ret
        exact HZ.out
      · by_cases o5 : c.op = 5
        · have HT3 : T = labN G.gr p (fun n => { n with ps := setP (G.ns[p].pm.map Prod.fst) c.nm c.v }) := by
            rw [HNX.out, if_neg o3, if_neg o4, if_pos o5]
            exact lab_congr HL.out rfl
          have HR3 : R = setE (G.ns[p].pm.map Prod.fst) c.nm c.v := by rw [HR.out]; unfold nerr; rw [if_neg o3, if_neg o4, if_pos o5]; rfl
          have HAL := Lib.hid (fun (w2 : World) (hf : Fuw w1 w2) => setprop_any (w0 := w0) (w := w2) (base := base) (B := B) (g := g) (o := p * 3 + 2) (v := G.ns[p].vp) (pm := G.ns[p].pm) (fun ps => labN G.gr p (fun n => { n with ps := ps }))
            (fun v' pm' => { G with ns := G.ns.set p { G.ns[p] with pm := pm', vp := v' } }) ((HG1.out.later hf).own.prow (List.getElem_mem HL.out)) (HG1.out.own.no _ (List.getElem_mem HL.out)).p (HG1.out.later hf).own.fu (HG1.out.later hf).hb
            (by
              have hN := (HG1.out.later hf).own.nrow
              unfold rowN Rw.Own at hN
              simp only [HEV.out] at hN
              exact (rowC_own hN (j := p * 3 + 2) (by have := HL.out; omega) (u := G.ns[p].vp) (by rw [csN_get G.ns p 2 HL.out (by omega)]; rfl)).1)
            G.xs (fun v' pm' => gr_setN HL.out _ _ rfl) (fun _ _ => rfl)
            (fun w3 v' pm' w4 hf3 ho hg hat hpm => GBox.setP ((HG1.out.later hf).later hf3) HL.out HEV.out ho hg hat hpm)
            c.nm HIN.out.n c.v HIN.out.v a k HIN.out.s HND.out.p.ki (by have := HND.out.p.p16; unfold Np.nd at this; simp only [List.length_map] at this; exact this))
          rw [← HR3] at HAL
          have HAL2 := Lib.hid (fun (w2 : World) (hf : Fuw w1 w2) => show Calls Tryz.prog 122 #[.pointer (some ⟨g, p * 3 + 2, none⟩), .string (bs c.nm), .agg #[.int .i64 c.v.kd, .int .i64 c.v.nn, .int .i64 c.v.dd, .string (bs c.v.ss), .slice a c.v.ll.length k]] w2 (RetEd w0 w base B G.xs R T) from
            ((HAL.out w2 hf).mono fun e w' hr => by rw [HT3]; exact RetEd.after (HF1.out.trans hf) HB.out hr))
          rw [o5] at m0
          clear HT3 HR3 HAL
          go_upto_region 11 with fail
          go_region_with (first
            | (go_at_call 122; refine (HAL2.out _ (Fuw.drew (Fuw.refl _))).mono ?_; intro e2 w2 hr; obtain ⟨rfl, hr2⟩ := hr))
          all_goals
            have HZ := Lib.hid (show RetEd w0 w base B G.xs R T (.returned (.int .i64 R)) w2 from ⟨rfl, hr2⟩)
            clear hr2
            go_wp2
            go_ret
            exact HZ.out
        · have HT3 : T = { G.gr with ns := delA G.gr.ns p } := by rw [HNX.out, if_neg o3, if_neg o4, if_neg o5]
          have hid : G.ns[p].id = c.id := HID.out
          have HR3 : R = if useV G.gr.es G.ns[p].id = true then 12 else 0 := by rw [HR.out, hid]; unfold nerr; rw [if_neg o3, if_neg o4, if_neg o5]
          have HAL := Lib.hid (show Calls Tryz.prog 126 #[.pointer (some ⟨B, 0, none⟩), .int .i64 (p : Int)] w1 (RetEd w0 w1 base B G.xs R T) from by rw [HT3, HR3]; exact delnode_any HG1.out p HL.out)
          have HQ := Lib.hid (fun (e : Ending) (w' : World) (hr : RetEd w0 w1 base B G.xs R T e w') => RetEd.after HF1.out HB.out hr)
          clear HT3 HR3 hid
          go_wp2_with fail
          go_at_call 126; refine HAL.out.mono ?_; intro e2 w2 hr
          obtain ⟨rfl, hr2⟩ := hr
          have HZ := Lib.hid (HQ.out _ _ ⟨rfl, hr2⟩)
          clear hr2
          go_wp2
          go_ret
          exact HZ.out
  · rw [q1] at HFN
    rw [q2] at hR
    have HE := Lib.hid (show R = 10 from hR)
    clear h hv hin fW bW hR q1 q2
    go_enter Tryz.func84, Tryz.ntmps84
    go_upto_region 1 with fail
    rw [← hW]
    clear hW
    go_wp2_with fail
    go_at_call 117; refine HFN.out.mono ?_; rintro e1 w1 ⟨rfl, f1⟩
    have HF1 := Lib.hid (HFW.out.trans f1)
    clear f1
    go_wp2
    go_ret
    exact ⟨ret_int HE.out.symm, below_of HF1.out HB.out, HF1.out.size, fun e => by rw [HE.out] at e; cases e⟩
end Go.Proofs.YtfbijdoomkgodaaGreatDoor

/-! Package change: a change of an edge that must be there. -/
namespace Go.Proofs.YtfbijdoomkgodaaGreatDoor
open Go.RowKit

def labE (g : Gr) (p : Nat) (f : Ed → Ed) : Gr := { g with es := g.es.modify p f }
theorem ed_get {G : Gp} {p : Nat} (hp : p < G.es.length) : (G.es.map Ep.ed)[p]? = some G.es[p].ed := by rw [List.getElem?_map, List.getElem?_eq_getElem hp]; rfl
theorem gr_setE {G : Gp} {p : Nat} (hp : p < G.es.length) (x : Ep) (f : Ed → Ed) (e : x.ed = f G.es[p].ed) : ({ G with es := G.es.set p x } : Gp).gr = labE G.gr p f := by
  unfold labE Gp.gr
  simp only
  rw [List.map_set, e, ← set_modify f _ p (by rw [List.length_map]; exact hp), List.getElem_map]
theorem labE_congr {G : Gp} {p : Nat} (hp : p < G.es.length) {f f' : Ed → Ed} (e : f G.es[p].ed = f' G.es[p].ed) : labE G.gr p f = labE G.gr p f' := by
  have hl : p < (G.es.map Ep.ed).length := by rw [List.length_map]; exact hp
  have k : (G.es.map Ep.ed)[p] = G.es[p].ed := by rw [List.getElem_map]
  unfold labE Gp.gr
  simp only
  rw [← set_modify f _ p hl, ← set_modify f' _ p hl, k, e]
set_option maxHeartbeats 6400000 in
set_option maxRecDepth 100000 in
theorem editedge_any {w0 w : World} {base B : Nat} {G : Gp} (h : GBox w0 w base B G) (hv : Fine G.gr) (c : Ch) (a : Option Addr) (k : Nat) (hin : ChIn w0 c a k) :
    Calls Tryz.prog 83 #[.pointer (some ⟨B, 0, none⟩), .agg (chC c a k)] w (RetEd w0 w base B G.xs (match edgV G.gr.es c.id with | none => 11 | some e => if c.op = 8 then setE e.ps c.nm c.v else 0) (if c.op = 8 then ediE G.gr c.id (fun e => { e with ps := setP e.ps c.nm c.v }) else delE G.gr c.id)) := by
  obtain ⟨W, hW⟩ : ∃ W, W = w.alloc (.cells (chC c a k) 30) := ⟨_, rfl⟩
  have fW : Fuw w W := by rw [hW]; exact fuwA _ _
  have bW : Bk W w.heap.size (chC c a k) 30 := by rw [hW]; exact Bk.new _ _ _
  have HFN := Lib.hid (fedge_any (h.later fW) c.id hv.pe (by have := hv.e; unfold Gp.gr at this; rw [List.length_map] at this; omega))
  obtain ⟨R, hR⟩ : ∃ R, R = (match edgV G.gr.es c.id with | none => 11 | some e => if c.op = 8 then setE e.ps c.nm c.v else 0 : Int) := ⟨_, rfl⟩
  rw [← hR]
  have HB := Lib.hid h.hb
  have HIN := Lib.hid hin
  have HH := Lib.hid h
  have HV := Lib.hid hv
  have HFW := Lib.hid fW
  have HBW := Lib.hid bW
  have d1 := bW.c 1
  unfold chC at hW d1 ⊢
  rcases at_edg (x := c.id) hv.pe with ⟨q1, hl, q2, q3⟩ | ⟨q1, q2⟩
  · rw [q1] at HFN
    rw [q2] at hR
    obtain ⟨p, hp⟩ : ∃ p, p = atI (eidsV G.gr.es) c.id := ⟨_, rfl⟩
    rw [← hp] at HFN
    have hl' : p < G.es.length := by rw [hp]; have := hl; unfold Gp.gr at this; rw [List.length_map] at this; exact this
    have HL := Lib.hid hl'
    have hnd : G.gr.es[atI (eidsV G.gr.es) c.id] = G.es[p].ed := by
      have e1 : G.gr.es[atI (eidsV G.gr.es) c.id]? = some G.es[p].ed := by rw [← hp]; exact ed_get hl'
      rw [List.getElem?_eq_getElem hl] at e1
      injection e1
    have hR' : R = if c.op = 8 then setE G.es[p].ed.ps c.nm c.v else 0 := by rw [hR]; simp only; rw [hnd]
    have HR := Lib.hid hR'
    have HND := Lib.hid (show EdF G.gr.ns G.gr.ne G.es[p].ed from hv.ef _ (List.mem_map.2 ⟨_, List.getElem_mem hl', rfl⟩))
    have HNX := Lib.hid (show (if c.op = 8 then ediE G.gr c.id (fun e => { e with ps := setP e.ps c.nm c.v }) else delE G.gr c.id) = if c.op = 8 then labE G.gr p (fun n => { n with ps := setP n.ps c.nm c.v }) else { G.gr with es := delA G.gr.es p } from by rw [hp]; rfl)
    obtain ⟨T, hT⟩ : ∃ T, T = (if c.op = 8 then ediE G.gr c.id (fun e => { e with ps := setP e.ps c.nm c.v }) else delE G.gr c.id) := ⟨_, rfl⟩
    rw [← hT] at HNX ⊢
    obtain ⟨g, cap, ev, hgb, hgl⟩ := h.own.formE (by omega)
    have HEV := Lib.hid ev
    have HGB := Lib.hid hgb
    have c0 : W.cell? ⟨B, 1, none⟩ = some (.slice (some ⟨g, 0, none⟩) G.es.length cap) := by
      have := (h.later fW).box.c 1
      rw [this, ← ev]; rfl
    have hp5 : (p : Int) < (G.es.length : Int) := by omega
    have hn5 : (p : Int) + 1 ≤ 9223372036854775807 := by
      have := hv.e
      unfold Gp.gr at this
      rw [List.length_map] at this
      omega
    clear h hv hin fW bW hR hR' hnd q1 q2 q3 hl hp hT ev hgb hgl
    go_enter Tryz.func83, Tryz.ntmps83
    go_upto_region 1 with fail
    rw [← hW]
    clear hW
    go_wp2_with fail
    go_at_call 119; refine HFN.out.mono ?_; rintro e1 w1 ⟨rfl, f1⟩
    have HF1 := Lib.hid (HFW.out.trans f1)
    have HG1 := Lib.hid (HH.out.later HF1.out)
    have HB1 := Lib.hid (HBW.out.on f1)
    have m0 := HB1.out.c 0
    have m4 := HB1.out.c 4; have m5 := HB1.out.c 5; have m6 := HB1.out.c 6; have m7 := HB1.out.c 7; have m8 := HB1.out.c 8; have m9 := HB1.out.c 9
    unfold chC at m0 m4 m5 m6 m7 m8 m9
    have d0 : w1.cell? ⟨B, 1, none⟩ = some (.slice (some ⟨g, 0, none⟩) G.es.length cap) := cellOnw f1 c0
    clear d1 c0 f1 HFN HFW HBW
    by_cases o8 : c.op = 8
    · have HT3 : T = labE G.gr p (fun n => { n with ps := setP (G.es[p].pm.map Prod.fst) c.nm c.v }) := by
        rw [HNX.out, if_pos o8]
        exact labE_congr HL.out rfl
      have HR3 : R = setE (G.es[p].pm.map Prod.fst) c.nm c.v := by rw [HR.out, if_pos o8]; rfl
      have HAL := Lib.hid (fun (w2 : World) (hf : Fuw w1 w2) => setprop_any (w0 := w0) (w := w2) (base := base) (B := B) (g := g) (o := p * 5 + 4) (v := G.es[p].vp) (pm := G.es[p].pm) (fun ps => labE G.gr p (fun n => { n with ps := ps }))
        (fun v' pm' => { G with es := G.es.set p { G.es[p] with pm := pm', vp := v' } }) ((HG1.out.later hf).own.qrow (List.getElem_mem HL.out)) (HG1.out.own.eo _ (List.getElem_mem HL.out)).p (HG1.out.later hf).own.fu (HG1.out.later hf).hb
        (by
          have hN := (HG1.out.later hf).own.erow
          unfold rowE Rw.Own at hN
          simp only [HEV.out] at hN
          exact (rowC_own hN (j := p * 5 + 4) (by have := HL.out; omega) (u := G.es[p].vp) (by rw [csE_get G.es p 4 HL.out (by omega)]; rfl)).1)
        G.xs (fun v' pm' => gr_setE HL.out _ _ rfl) (fun _ _ => rfl)
        (fun w3 v' pm' w4 hf3 ho hg hat hpm => GBox.setQ ((HG1.out.later hf).later hf3) HL.out HEV.out ho hg hat hpm)
        c.nm HIN.out.n c.v HIN.out.v a k HIN.out.s HND.out.p.ki (by have := HND.out.p.p16; unfold Ep.ed at this; simp only [List.length_map] at this; exact this))
      rw [← HR3] at HAL
      have HAL2 := Lib.hid (fun (w2 : World) (hf : Fuw w1 w2) => show Calls Tryz.prog 122 #[.pointer (some ⟨g, p * 5 + 4, none⟩), .string (bs c.nm), .agg #[.int .i64 c.v.kd, .int .i64 c.v.nn, .int .i64 c.v.dd, .string (bs c.v.ss), .slice a c.v.ll.length k]] w2 (RetEd w0 w base B G.xs R T) from
        ((HAL.out w2 hf).mono fun e w' hr => by rw [HT3]; exact RetEd.after (HF1.out.trans hf) HB.out hr))
      rw [o8] at m0
      clear HT3 HR3 HAL
      go_upto_region 5 with fail
      go_region_with (first
        | (go_at_call 122; refine (HAL2.out _ (Fuw.drew (Fuw.refl _))).mono ?_; intro e2 w2 hr; obtain ⟨rfl, hr2⟩ := hr))
      all_goals
        have HZ := Lib.hid (show RetEd w0 w base B G.xs R T (.returned (.int .i64 R)) w2 from ⟨rfl, hr2⟩)
        clear hr2
        go_wp2
        go_ret
        exact HZ.out
    · have HT3 := Lib.hid (show T = { G.gr with es := delA G.gr.es p } by rw [HNX.out, if_neg o8])
      have HE := Lib.hid (show R = 0 by rw [HR.out, if_neg o8])
      have HD := Lib.hid (show Calls Tryz.prog 123 #[.slice (some ⟨g, 0, none⟩) G.es.length cap, .int .i64 (p : Int), .int .i64 ((p : Int) + 1)] w1 (RetDel w1 base 58 5 g cap (G.es.length - 1) ((csE G.es).take (p * 5) ++ (csE G.es).drop ((p + 1) * 5))) from by
        have hr := HG1.out.own.erow
        unfold rowE Rw.Own at hr
        simp only [HEV.out] at hr
        exact del_e hr p HL.out HG1.out.own.oneE)
      have hne : B ≠ g := fun e => HG1.out.far (blks_mem.2 ⟨rowE G.ve G.es, List.mem_cons_of_mem _ (List.mem_cons_self ..), by unfold rowE; rw [HEV.out, e]; rfl⟩)
      have HNE := Lib.hid hne
      have hb8 : (c.op == 8) = false := by simpa using o8
      go_upto_region 6 with fail
      go_wp2_with fail
      go_at_call 123; refine HD.out.mono ?_; rintro e2 w2 ⟨rfl, hown2, hgr2⟩
      have bx2 : Bk w2 B #[G.vn, .slice (some ⟨g, 0, none⟩) G.es.length cap, .int .i64 G.nn, .int .i64 G.ne] 25 := by
        have := HG1.out.box.grow hgr2 (fun e => HNE.out (by injection e))
        rw [HEV.out] at this
        exact this
      have n0 := bx2.c 1
      have z0 := bx2.f 1
      have HFIN := Lib.hid (show RetEd w0 w base B G.xs R T (.returned (.int .i64 0)) (w2.setCell ⟨B, 1, none⟩ (.slice (some ⟨g, 0, none⟩) (G.es.length - 1) cap)) from by
        have hbB := HG1.out.hi
        have hbl : Below base w1 w2 := below_grown hgr2 (by have := HF1.out.size; have := HB.out; omega) (fun k e => by injection e with e; rw [← e]; exact HGB.out)
        have hfu : Fuw w0 w2 := HG1.out.own.fu.trans_below hbl HG1.out.own.lo
        obtain ⟨hn1, hn2⟩ := GOwn.delE HG1.out.own hown2 HL.out (by rw [HEV.out]; exact hgr2) (by rw [HEV.out]; rfl) hfu
        have hfar := fun e => HG1.out.far (hn2 B e)
        refine ⟨by rw [HE.out], Below.setCell ((below_of HF1.out HB.out).trans hbl) hbB _, ?_, fun _ => ⟨_, ⟨hn1.far hfar hbB, ?_, hfar, hbB⟩, ?_, rfl⟩⟩
        · have := HF1.out.size
          have := hgr2.size
          simp; omega
        · exact bx2.set_ 1 _
        · rw [HT3.out]
          unfold Gp.gr
          simp only [delA_map])
      clear bx2 hgr2 hown2 HD d0 m0 m4 m5 m6 m7 m8 m9
      go_wp2
      go_ret
      exact HFIN.out
  · rw [q1] at HFN
    rw [q2] at hR
    have HE := Lib.hid (show R = 11 from hR)
    generalize (if c.op = 8 then ediE G.gr c.id (fun e => { e with ps := setP e.ps c.nm c.v }) else delE G.gr c.id) = T
    clear h hv hin fW bW hR q1 q2
    go_enter Tryz.func83, Tryz.ntmps83
    go_upto_region 1 with fail
    rw [← hW]
    clear hW
    go_wp2_with fail
    go_at_call 119; refine HFN.out.mono ?_; rintro e1 w1 ⟨rfl, f1⟩
    have HF1 := Lib.hid (HFW.out.trans f1)
    clear f1
    go_wp2
    go_ret
    exact ⟨ret_int HE.out.symm, below_of HF1.out HB.out, HF1.out.size, fun e => by rw [HE.out] at e; cases e⟩
end Go.Proofs.YtfbijdoomkgodaaGreatDoor
