/-
  CkM; FwA: texts of one kind in one file; each part says what it holds.
-/
import Derived.Test.YtpamdlkagmlahaaGreatDoorK32
import Derived.Test.YtpamdlkagmlahaaGreatDoorK31
import Derived.Test.YtpamdlkagmlahaaGreatDoorK28

namespace Go.Proofs.YtpamdlkagmlahaaGreatDoor
open Go.RowKit
theorem infoCs : (Tryz.prog.info? 32).map (fun i => (i.zero, i.size, i.bytes)) = some (some (.slice none 0 0), 1, 24) := by kernel_rfl
theorem allE_step {g : Gr} {l : List Ch} {i n : Nat} (h : i < l.length) (he : allE g (l.drop i) i = (n, 0)) : stpE g l[i] = 0 ∧ allE (stpG g l[i]) (l.drop (i + 1)) (i + 1) = (n, 0) := by
 rw [(allC_drop g l i h).1] at he
 by_cases q : stpE g l[i] = 0
 ·rw [if_pos q] at he; exact ⟨q, he⟩
 ·rw [if_neg q] at he
  exact absurd (Prod.mk.inj he).2 q
theorem RetIv.bad {w0 w w' : World} {g : Gr} {l : List Ch} {x : Int} (h : (appE g l).2 = x) (hx : x ≠ 0) (hf : Fuw w w') : RetIv w0 w g l (.returned (.tuple #[.slice none 0 0, .int .i64 ((appE g l).1 : Int), .int .i64 x])) w' := by
 have e : invR g l = [] := by unfold invR; rw [h]; exact if_neg hx
 exact ⟨_, [], by rw [h], e.symm, (fun _ h => by cases h), World.ownsRow_nil _ _ _ _, hf⟩
theorem made_nil (n : Nat) : (madeCells (Value.slice none 0 0).cells (n * 1)).toList = List.replicate n (.slice none 0 0) := by
 apply List.ext_getElem?
 intro i
 by_cases h : i < n
 ·simp [madeCells, h, Value.cells, Nat.mod_one]
 ·simp [madeCells, h, Value.cells]
set_option maxHeartbeats 12800000 in
set_option maxRecDepth 100000 in
theorem invert_by (g : Gr) (an ae : Option Addr) (cn ce : Nat) (l : List Ch) (al : Option Addr) (cl : Nat) (w0 w : World) (hg : GIn w0 g an ae cn ce) (hl : Sl 10 (CCz w0) w al l cl) (hf0 : Fuw w0 w) (hll : l.length ≤ 1000) (hinv : ∀ c ∈ l, InvOk w0 c) :
  Calls Tryz.prog 12 #[grv g an ae cn ce, .slice al l.length cl] w (RetIv w0 w g l) := by
 obtain ⟨i0, hi0, hz0, hz1, hz2⟩ := info_parts infoCs
 obtain ⟨W, hW⟩ : ∃ W, W = w.alloc (.cells #[.slice an g.ns.length cn, .slice ae g.es.length ce, .int .i64 g.nn, .int .i64 g.ne] 25) := ⟨_, rfl⟩
 have fW : Fuw w W := by rw [hW]; exact fuwA _ _
 have HBW := Lib.hid (show Bk W w.heap.size #[.slice an g.ns.length cn, .slice ae g.es.length ce, .int .i64 g.nn, .int .i64 g.ne] 25 from by rw [hW]; exact Bk.new _ _ _)
 have HAP := Lib.hid (applyall_any g an ae cn ce l al cl w0 W hg (slCz_on fW hl) (hf0.trans fW))
 have HCO := Lib.hid (fun (w' : World) (hf : Fuw w w') (hv : Fine g) => copyof_any g an ae cn ce w0 w' hg (hf0.trans hf) hv)
 have HF0 := Lib.hid hf0
 have HFW := Lib.hid fW
 have HL := Lib.hid hl
 have HIO := Lib.hid hinv
 have HFI := Lib.hid (show (appE g l).2 = 0 → Fine g ∧ allE g (l.drop 0) 0 = ((appE g l).1, 0) from fun e => by
  unfold appE at e ⊢
  by_cases q : chkV g = 0
  ·rw [if_pos q] at e ⊢
   exact ⟨(fine_iff g).1 q, Prod.ext rfl e⟩
  ·rw [if_neg q] at e; exact absurd e q)
 unfold grv at *
 unfold RetAp at HAP
 obtain ⟨E, hE⟩ : ∃ E, E = appE g l := ⟨_, rfl⟩
 rw [← hE] at HAP HFI
 have HEE := Lib.hid hE
 obtain ⟨n, x⟩ := E
 have c0 := HBW.out.c 0; have c1 := HBW.out.c 1; have c2 := HBW.out.c 2; have c3 := HBW.out.c 3
 clear hE hg hl hf0 fW hinv
 go_enter Tryz.func12, Tryz.ntmps12
 go_upto_region 1 with fail
 rw [← hW]
 clear hW
 go_wp2_with fail
 go_at_call 19; refine HAP.out.mono ?_; rintro e1 w1 ⟨⟨vn, ve, ns, es, nn, ne, xs⟩, base, rfl, -, hown, -, f1⟩
 obtain ⟨a1, k1, e1, -⟩ := hown.sln
 have e1' : vn = .slice a1 ns.length k1 := e1
 obtain ⟨a2, k2, e2, -⟩ := hown.sle
 have e2' : ve = .slice a2 es.length k2 := e2
 subst e1' e2'
 obtain ⟨V, hV⟩ : ∃ V, V = w1.alloc (.cells #[.slice a1 ns.length k1, .slice a2 es.length k2, .int .i64 nn, .int .i64 ne] 25) := ⟨_, rfl⟩
 have fV : Fuw w1 V := by rw [hV]; exact fuwA _ _
 have HFV := Lib.hid ((HFW.out.trans f1).trans fV)
 have HBV := Lib.hid ((HBW.out.on f1).on fV)
 clear hown e1 e2 f1 c0 c1 c2 c3 HAP HBW fV
 go_upto_region 2 with fail
 rw [← hV]
 clear hV
 by_cases hx : x = 0
 ·subst hx
  obtain ⟨hv, hall⟩ := HFI.out rfl
  have HV := Lib.hid hv
  have HC := Lib.hid (HCO.out V HFV.out hv)
  have HN := Lib.hid (show ∀ G i, allE G (l.drop i) i = (n, 0) → i = l.length → n = l.length from fun G i h e => by
   subst e
   rw [List.drop_of_length_le (Nat.le_refl _)] at h
   exact (Prod.mk.inj h).1.symm)
  have HALL := Lib.hid hall
  have c0 := HBV.out.c 0; have c1 := HBV.out.c 1; have c2 := HBV.out.c 2; have c3 := HBV.out.c 3
  clear hv hall HFI HCO
  go_upto_region 4 with fail
  go_wp2_with fail
  go_at_call 35; refine HC.out.mono ?_; rintro e2 w2 ⟨⟨vn, ve, ns, es, nn, ne, xs⟩, base, rfl, hgr, hxs, hown, hb1, hb2, f2⟩
  obtain ⟨a1, k1, e1, -⟩ := hown.sln
  have e1' : vn = .slice a1 ns.length k1 := e1
  obtain ⟨a2, k2, e2, -⟩ := hown.sle
  have e2' : ve = .slice a2 es.length k2 := e2
  have e3' : xs = [] := hxs
  subst e1' e2' e3'
  obtain ⟨X, hX⟩ : ∃ X, X = w2.alloc (.cells #[.slice a1 ns.length k1, .slice a2 es.length k2, .int .i64 nn, .int .i64 ne] 25) := ⟨_, rfl⟩
  have fX : Fuw w2 X := by rw [hX]; exact fuwA _ _
  have HGX := Lib.hid (show GBox w0 X base w2.heap.size ⟨.slice a1 ns.length k1, .slice a2 es.length k2, ns, es, nn, ne, []⟩ from
   ⟨hown.later fX, by rw [hX]; exact Bk.new _ _ _, fun hm => by have := (hown.rows.shut hm).2; omega, hb2⟩)
  have HGR := Lib.hid hgr
  have HFX := Lib.hid ((HFV.out.trans f2).trans fX)
  have HBS := Lib.hid (show w.heap.size ≤ base from Nat.le_trans HFV.out.size hb1)
  clear c0 c1 c2 c3 hgr hxs hown hb1 hb2 HC e1 e2 fX f2
  go_upto_region 5 with fail
  rw [← hX]
  clear hX
  generalize w2.heap.size = B at *
  have hz1' : i0.size = 1 := hz1
  go_upto_region 6 with (at_make; refine wpList_make_full _ rfl (.tmp 28) (.tmp 28) 67 rfl X.heap.size 32 i0 (.slice none 0 0) 1 (by kernel_rfl) hi0 hz0 hz1 .i64 .i64 _ _ l.length rfl rfl rfl rfl (by rw [hz2]; omega) (by unfold maxLen; omega) (Nat.le_refl _) ?_; intro w3 hown3 hgrow3)
  have fX3 : Fuw X w3 := Below.grown (Below.refl _ _) hgrow3 (Nat.le_refl _) (fun k hk => by cases hk)
  have HG3 := Lib.hid (show GBox w0 w3 base B ⟨.slice a1 ns.length k1, .slice a2 es.length k2, ns, es, nn, ne, xsU X.heap.size l.length 0 []⟩ from
   GBox.addX (r := rowU X.heap.size l.length 0 []) HGX.out fX3 (by
    unfold rowU hdU Rw.Own
    simp only
    rw [Nat.sub_zero, List.map_nil, List.append_nil, ← made_nil]
    exact hown3) (Nat.le_refl _))
  have HF3 := Lib.hid (HFX.out.trans fX3)
  clear hown3 hgrow3 fX3 HGX hz1'
  obtain ⟨gu, hgu⟩ : ∃ gu, gu = X.heap.size := ⟨_, rfl⟩
  rw [← hgu] at HG3 ⊢
  clear hgu
  have HA0 := Lib.hid (show allE (⟨.slice a1 ns.length k1, .slice a2 es.length k2, ns, es, nn, ne, xsU gu l.length 0 []⟩ : Gp).gr (l.drop 0) 0 = (n, 0) from by
   have e : (⟨.slice a1 ns.length k1, .slice a2 es.length k2, ns, es, nn, ne, xsU gu l.length 0 []⟩ : Gp).gr = g := HGR.out
   rw [e]; exact HALL.out)
  have HV0 := Lib.hid (show Fine (⟨.slice a1 ns.length k1, .slice a2 es.length k2, ns, es, nn, ne, xsU gu l.length 0 []⟩ : Gp).gr from by
   have e : (⟨.slice a1 ns.length k1, .slice a2 es.length k2, ns, es, nn, ne, xsU gu l.length 0 []⟩ : Gp).gr = g := HGR.out
   rw [e]; exact HV.out)
  have HI0 := Lib.hid (show invAll g l = invAll (⟨.slice a1 ns.length k1, .slice a2 es.length k2, ns, es, nn, ne, xsU gu l.length 0 []⟩ : Gp).gr (l.drop 0) ++ (flC []).map Prod.fst from by
   have e : (⟨.slice a1 ns.length k1, .slice a2 es.length k2, ns, es, nn, ne, xsU gu l.length 0 []⟩ : Gp).gr = g := HGR.out
   rw [e]; show invAll g l = invAll g l ++ []; rw [List.append_nil])
  obtain ⟨G, hG⟩ : ∃ G : Gp, G = ⟨.slice a1 ns.length k1, .slice a2 es.length k2, ns, es, nn, ne, xsU gu l.length 0 []⟩ := ⟨_, rfl⟩
  have HX0 := Lib.hid (show G.xs = xsU gu l.length 0 [] from by rw [hG])
  rw [← hG] at HG3 HA0 HV0 HI0
  clear hG HGR HALL HV HFX
  go_upto_region 7 with fail
  go_loopw [32] (fun iv wr => ∃ (i : Nat) (G : Gp) (Ls : List HdC), iv = .int .i64 i ∧ i ≤ l.length ∧ Hid (GBox w0 wr base B G) ∧ Hid (G.xs = xsU gu l.length i Ls) ∧ Hid (Ls.length = i ∧ lenC Ls ≤ 25 * i ∧ Cok w0 (flC Ls)) ∧ Hid (Fine G.gr) ∧ Hid (allE G.gr (l.drop i) i = (n, 0)) ∧ Hid (invAll g l = invAll G.gr (l.drop i) ++ (flC Ls).map Prod.fst) ∧ Hid (Fuw w wr)) (fun iv _ => l.length - (RowKit.intOf iv).toNat)
  case atStart => exact ⟨0, G, [], rfl, Nat.zero_le _, HG3, HX0, Lib.hid ⟨rfl, Nat.zero_le _, fun _ h => by cases h⟩, HV0, HA0, HI0, HF3⟩
  case round =>
   clear HG3 HX0 HV0 HA0 HI0 HF3
   obtain ⟨i, G', Ls, rfl, hi, HG, HX, HLs, HV, HA, HI, HF⟩ := hrel
   generalize wr = wo at *
   by_cases hlt : i < l.length
   ·obtain ⟨b, o, e, hcc⟩ := (slCz_on HF.out HL.out).get hlt
    subst e
    obtain ⟨av, kv, hin, Xc⟩ := hcc
    have q0 := Xc.c0; have q1 := Xc.c1; have q2 := Xc.c2; have q3 := Xc.c3; have q4 := Xc.c4; have q5 := Xc.c5; have q6 := Xc.c6; have q7 := Xc.c7; have q8 := Xc.c8; have q9 := Xc.c9
    have HIN := Lib.hid hin
    have HST := Lib.hid (allE_step hlt HA.out)
    have HII := Lib.hid (HI.out.trans (congrArg (· ++ (flC Ls).map Prod.fst) (invAll_drop G'.gr l i hlt)))
    have hli : (i : Int) < (l.length : Int) := by omega
    have hix : (l.length : Int) - 1 - (i : Int) = ((l.length - 1 - i : Nat) : Int) := by omega
    have hil : l.length - 1 - i < l.length := by omega
    clear hin Xc
    have HIC := Lib.hid (HIO.out _ (List.getElem_mem hlt))
    generalize l[i] = c at *
    obtain ⟨Y, hY⟩ : ∃ Y, Y = wo.alloc (.cells #[.int .i64 c.op, .int .i64 c.id, .int .i64 c.fr, .int .i64 c.tt, .string (bs c.nm), .int .i64 c.v.kd, .int .i64 c.v.nn, .int .i64 c.v.dd, .string (bs c.v.ss), .slice av c.v.ll.length kv] 30) := ⟨_, rfl⟩
    have HYC := Lib.hid (show Bk Y wo.heap.size (chC c av kv) 30 from by rw [hY]; exact Bk.new _ _ _)
    have fY : Fuw wo Y := by rw [hY]; exact fuwA _ _
    have HGY := Lib.hid (HG.out.later fY)
    have HFY := Lib.hid (HF.out.trans fY)
    obtain ⟨an', ae', cn', ce', e1, e2, hgi⟩ := HGY.out.own.gin
    have HE1 := Lib.hid e1
    have HE2 := Lib.hid e2
    have HSZ := Lib.hid (show G'.gr.ns.length = G'.ns.length ∧ G'.gr.es.length = G'.es.length ∧ G'.gr.nn = G'.nn ∧ G'.gr.ne = G'.ne from ⟨by unfold Gp.gr; simp, by unfold Gp.gr; simp, rfl, rfl⟩)
    have HINV := Lib.hid (HIC.out G'.gr an' ae' cn' ce' av kv Y hgi (HIN.out.on HGY.out.own.fu) HV.out)
    unfold grv at HINV
    rw [HSZ.out.1, HSZ.out.2.1, HSZ.out.2.2.1, HSZ.out.2.2.2] at HINV
    have HVL := Lib.hid (invC_len HV.out c)
    have b0 := HGY.out.box.c 0; have b1 := HGY.out.box.c 1; have b2 := HGY.out.box.c 2; have b3 := HGY.out.box.c 3
    simp only [e1] at b0
    simp only [e2] at b1
    have d0 := HYC.out.c 0; have d1 := HYC.out.c 1; have d2 := HYC.out.c 2; have d3 := HYC.out.c 3; have d4 := HYC.out.c 4; have d5 := HYC.out.c 5; have d6 := HYC.out.c 6; have d7 := HYC.out.c 7; have d8 := HYC.out.c 8; have d9 := HYC.out.c 9
    unfold chC at HINV d0 d1 d2 d3 d4 d5 d6 d7 d8 d9
    clear fY e1 e2 hgi
    go_upto_region 9 with fail
    rw [← hY]
    clear hY q0 q1 q2 q3 q4 q5 q6 q7 q8 q9
    go_wp2_with fail
    go_at_call 36; refine HINV.out.mono ?_; rintro e4 w4 ⟨v4, ps4, rfl, hm4, hok4, hown4, f4⟩
    obtain ⟨a4, k4, q4, -⟩ := own_form hown4
    have q4' : v4 = .slice a4 ps4.length k4 := q4
    subst q4'
    have HG4 := Lib.hid (show GBox w0 w4 base B { G' with xs := rowC (.slice a4 ps4.length k4) ps4 :: xsU gu l.length i Ls } from by
     have := HGY.out.addX f4 hown4 (Nat.le_refl _)
     rw [HX.out] at this
     exact this)
    have hU := HG4.out.ownX (r := rowU gu l.length i Ls) (List.mem_cons_of_mem _ (List.mem_cons_self ..))
    have hU' : w4.ownsRow base 32 1 (.slice (some ⟨gu, 0, none⟩) l.length l.length) l.length (hdU l.length i Ls) := hU
    have m0 := hU'.cellAt (l.length - 1 - i) (by omega)
    have hget : ∃ u, (hdU l.length i Ls)[l.length - 1 - i]? = some u := by
     refine ⟨_, List.getElem?_eq_getElem ?_⟩
     have := hU'.1
     rw [Nat.mul_one] at this
     omega
    obtain ⟨u0, hu0⟩ := hget
    rw [hu0] at m0
    have z0 := hU'.frozenAt (l.length - 1 - i)
    have HG5 := Lib.hid (show GBox w0 (w4.setCell ⟨gu, l.length - 1 - i, none⟩ (.slice a4 ps4.length k4)) base B { G' with xs := xsU gu l.length (i + 1) ((.slice a4 ps4.length k4, ps4) :: Ls) } from
     HG4.out.putX (r := rowU gu l.length i Ls) (X := rowC (.slice a4 ps4.length k4) ps4 :: Ls.map fun p => rowC p.1 p.2) (List.Perm.swap _ _ _) rfl rfl (by
      unfold xsU rowU
      simp only
      rw [hdU_set hlt]
      exact List.Perm.refl _))
    have HM4 := Lib.hid hm4
    have HOK4 := Lib.hid hok4
    have HF4 := Lib.hid (HFY.out.trans f4)
    have HC4 := Lib.hid (HYC.out.on f4)
    clear b0 b1 b2 b3 d0 d1 d2 d3 d4 d5 d6 d7 d8 d9 hU hU' hu0 hm4 hok4 hown4 f4 HINV q4
    obtain ⟨Z, hZ⟩ : ∃ Z, Z = w4.setCell ⟨gu, l.length - 1 - i, none⟩ (.slice a4 ps4.length k4) := ⟨_, rfl⟩
    have hgu : gu < wo.heap.size := (HG.out.ownX (r := rowU gu l.length i Ls) (by rw [HX.out]; exact List.mem_cons_self ..)).lt gu rfl |>.2
    have HCZ := Lib.hid (show Bk Z wo.heap.size (chC c av kv) 30 from by rw [hZ]; exact HC4.out.far (show wo.heap.size ≠ gu by omega) _)
    have hgb : base ≤ gu := (HG.out.ownX (r := rowU gu l.length i Ls) (by rw [HX.out]; exact List.mem_cons_self ..)).lt gu rfl |>.1
    have HFZ := Lib.hid (show Fuw w Z from by rw [hZ]; exact fuwS HF4.out (Nat.le_trans HBS.out hgb))
    rw [← hZ] at HG5
    have HED := Lib.hid (edit_any HG5.out (show Fine ({ G' with xs := xsU gu l.length (i + 1) ((.slice a4 ps4.length k4, ps4) :: Ls) } : Gp).gr from HV.out) c av kv HIN.out)
    have hgr5 : ({ G' with xs := xsU gu l.length (i + 1) ((.slice a4 ps4.length k4, ps4) :: Ls) } : Gp).gr = G'.gr := rfl
    rw [hgr5, HST.out.1] at HED
    go_upto_region 10 with fail
    rw [← hZ]
    have d0 := HCZ.out.c 0; have d1 := HCZ.out.c 1; have d2 := HCZ.out.c 2; have d3 := HCZ.out.c 3; have d4 := HCZ.out.c 4; have d5 := HCZ.out.c 5; have d6 := HCZ.out.c 6; have d7 := HCZ.out.c 7; have d8 := HCZ.out.c 8; have d9 := HCZ.out.c 9
    unfold chC at HED d0 d1 d2 d3 d4 d5 d6 d7 d8 d9
    clear hZ hgu hgb m0 z0 hgr5 HG4 HC4 HF4 HG5
    go_wp2_with fail
    go_at_call 37; refine HED.out.mono ?_; rintro e5 w5 ⟨rfl, hbl, hsz, hok⟩
    obtain ⟨G'', hG'', hgr, hxs⟩ := hok rfl
    have HG2 := Lib.hid hG''
    have HX2 := Lib.hid (show G''.xs = xsU gu l.length (i + 1) ((.slice a4 ps4.length k4, ps4) :: Ls) from hxs)
    have hp25 : ps4.length ≤ 25 := by rw [← List.length_map (f := Prod.fst), HM4.out]; exact HVL.out
    have HLs2 := Lib.hid (show ((.slice a4 ps4.length k4, ps4) :: Ls : List HdC).length = i + 1 ∧ lenC ((.slice a4 ps4.length k4, ps4) :: Ls) ≤ 25 * (i + 1) ∧ Cok w0 (flC ((.slice a4 ps4.length k4, ps4) :: Ls)) from by
     have h := HLs.out
     refine ⟨by rw [List.length_cons, h.1], ?_, HOK4.out.app h.2.2⟩
     have e : flC ((.slice a4 ps4.length k4, ps4) :: Ls) = ps4 ++ flC Ls := rfl
     have h2 : (flC Ls).length ≤ 25 * i := h.2.1
     unfold lenC
     rw [e, List.length_append]
     omega)
    have HV2 := Lib.hid (show Fine G''.gr from by rw [hgr]; exact fine_step HV.out HST.out.1)
    have HA2 := Lib.hid (show allE G''.gr (l.drop (i + 1)) (i + 1) = (n, 0) from by rw [hgr]; exact HST.out.2)
    have HI2 := Lib.hid (show invAll g l = invAll G''.gr (l.drop (i + 1)) ++ (flC ((.slice a4 ps4.length k4, ps4) :: Ls)).map Prod.fst from by
     have e : flC ((.slice a4 ps4.length k4, ps4) :: Ls) = ps4 ++ flC Ls := rfl
     rw [hgr, HII.out, e, List.map_append, HM4.out, List.append_assoc])
    have HF5 := Lib.hid (show Fuw w w5 from HFZ.out.trans_below hbl HBS.out)
    clear hG'' hgr hxs hok hbl hsz d0 d1 d2 d3 d4 d5 d6 d7 d8 d9 HED HG HX HLs HV HA HI HF HII
    go_wp2
    go_roundw
    case rel => exact ⟨i + 1, G'', _, by go_num, by omega, HG2, HX2, HLs2, HV2, HA2, HI2, HF5⟩
    case measure => simp [RowKit.intOf]; omega
   ·have hie : i = l.length := by omega
    subst hie
    have HCN := Lib.hid (show Calls Tryz.prog 38 #[.slice (some ⟨gu, 0, none⟩) l.length l.length] wo (RetRw w0 wo ((flC Ls).map Prod.fst)) from by
     have hU := HG.out.ownX (r := rowU gu l.length l.length Ls) (by rw [HX.out]; exact List.mem_cons_self ..)
     have hU' : wo.ownsRow base 32 1 (.slice (some ⟨gu, 0, none⟩) l.length l.length) l.length (hdU l.length l.length Ls) := hU
     have h := HLs.out
     have q := concat_any Ls (some ⟨gu, 0, none⟩) l.length w0 wo (fun j hj => ⟨gu, rfl, by rw [hU'.cellAt j (by omega), hdU_get rfl j hj]⟩) (fun p hp => own_low (HG.out.ownX (r := rowC p.1 p.2) (by rw [HX.out]; exact List.mem_cons_of_mem _ (List.mem_map.2 ⟨p, hp, rfl⟩))) (Nat.zero_le _)) h.2.2 (by omega) (by omega)
     rw [h.1] at q
     exact q)
    have HNL := Lib.hid (HN.out _ _ HA.out rfl)
    have HEND := Lib.hid (show invR g l = (flC Ls).map Prod.fst from by
     unfold invR
     rw [← HEE.out]
     show (if (0 : Int) = 0 then invAll g l else []) = _
     rw [if_pos rfl, HI.out, List.drop_of_length_le (Nat.le_refl _)]
     rfl)
    go_wp2_with fail
    go_at_call 38; refine HCN.out.mono ?_; rintro e4 w4 ⟨v4, ps4, rfl, hm4, hok4, hown4, f4⟩
    have HM4 := Lib.hid hm4
    have HO4 := Lib.hid (own_low hown4 HF.out.size)
    have HK4 := Lib.hid hok4
    have HF4 := Lib.hid (HF.out.trans f4)
    clear hm4 hok4 hown4 f4 HCN
    go_wp2
    refine bodyPost_ret (v := .tuple #[v4, .int .i64 (l.length : Int), .int .i64 0]) (by simp [results, Tryz.results12, go_sem]) rfl ?_
    exact ⟨v4, ps4, by rw [← HEE.out, HNL.out], by rw [HEND.out]; exact HM4.out, HK4.out, HO4.out, HF4.out⟩
 ·have HNZ := Lib.hid hx
  have hq0 : (x != 0) = true := by rw [bne_iff_ne]; exact hx
  have HE2 := Lib.hid (show (appE g l).2 = x from by rw [← HEE.out])
  have HE1 := Lib.hid (show (appE g l).1 = n from by rw [← HEE.out])
  clear HFI HCO
  go_wp2
  refine bodyPost_ret (v := .tuple #[.slice none 0 0, .int .i64 (n : Int), .int .i64 x]) (by simp [results, Tryz.results12, go_sem]) rfl ?_
  have q := RetIv.bad (w0 := w0) HE2.out HNZ.out HFV.out
  rw [HE1.out] at q
  exact q
end Go.Proofs.YtpamdlkagmlahaaGreatDoor

namespace Go.Proofs.YtpamdlkagmlahaaGreatDoor
open Go.RowKit
def fwV : List Ch → Int → Int
 | [], a => a
 | p :: r, a => if a < 0 then a else fwV r (weiV 12 p.v (a - 3 - ((p.nm.length / 50 : Nat) : Int)))
def fewV (l : List Ch) (N : Nat) : Bool := decide (0 ≤ fwV l (N * 4)) && decide (l.length ≤ N)
theorem fw_neg {a : Int} (h : a < 0) : ∀ l : List Ch, fwV l a = a
 | [] => rfl
 | p :: r => by unfold fwV; rw [if_pos h]
theorem fw_drop (l : List Ch) (i : Nat) (h : i < l.length) {a : Int} (ha : 0 ≤ a) : fwV (l.drop i) a = fwV (l.drop (i + 1)) (weiV 12 l[i].v (a - 3 - ((l[i].nm.length / 50 : Nat) : Int))) := by
 rw [List.drop_eq_getElem_cons h]
 show (if a < 0 then a else _) = _
 rw [if_neg (by omega)]
set_option maxHeartbeats 6400000 in
set_option maxRecDepth 100000 in
theorem few_any (l : List Ch) (al : Option Addr) (cl N : Nat) (w0 w : World) (hN : N ≤ 1000) (hl : Sl 10 (CCz w0) w al l cl) :
  Calls Tryz.prog 16 #[.slice al l.length cl, .int .i64 (N : Int)] w (FwB w (fewV l N)) := by
 have hll := hl.le
 have hlm := hl.max
 unfold maxLen at hlm
 have HL := Lib.hid hl
 have HE := Lib.hid (show fewV l N = (decide (0 ≤ fwV (l.drop 0) (N * 4)) && decide (l.length ≤ N)) from rfl)
 clear hl
 generalize fewV l N = R at *
 go_enter Tryz.func16, Tryz.ntmps16
 go_wp2
 go_loopw [5, 6] (fun lv iv wr => ∃ (c : Int) (i : Nat), lv = .int .i64 c ∧ iv = .int .i64 i ∧ i ≤ l.length ∧ c ≤ 4000 ∧ Hid (R = (decide (0 ≤ fwV (l.drop i) c) && decide (l.length ≤ N))) ∧ Hid (Fuw w wr)) (fun _ iv _ => l.length - (RowKit.intOf iv).toNat)
 case atStart =>
  refine ⟨(N : Int) * 4, 0, congrArg (Value.int .i64) ?_, rfl, Nat.zero_le _, by omega, HE, Lib.hid (Fuw.refl _)⟩
  omega
 case round =>
  obtain ⟨c, i, rfl, rfl, hi, hc, HR, hf⟩ := hrel
  by_cases hgo : i < l.length ∧ 0 ≤ c
  ·obtain ⟨hlt, hc0⟩ := hgo
   obtain ⟨b, o, rfl, hv⟩ := (slCz_on hf.out HL.out).get hlt
   obtain ⟨av, kv, -, X⟩ := hv
   have q4 := X.c4; have q5 := X.c5; have q6 := X.c6; have q7 := X.c7; have q8 := X.c8; have q9 := X.c9
   have hn := X.i.n
   unfold maxLen at hn
   have HA := Lib.hid (HR.out.trans (by rw [fw_drop l i hlt hc0]))
   have HW := Lib.hid (fun w' (hf' : Fuw wr w') => wq_any 12 (by decide) l[i].v av kv (c - 3 - ((l[i].nm.length / 50 : Nat) : Int)) w' (by omega) (by omega) X.i.v (X.i.s.onw hf'))
   have hle : weiV 12 l[i].v (c - 3 - ((l[i].nm.length / 50 : Nat) : Int)) ≤ 4000 := by
    by_cases g : 0 ≤ c - 3 - ((l[i].nm.length / 50 : Nat) : Int)
    ·have := weiV_lt 12 l[i].v g; omega
    ·have := wei_lt' 12 l[i].v c hc0 (3 + ((l[i].nm.length / 50 : Nat) : Int)) (by omega)
     rw [show c - (3 + ((l[i].nm.length / 50 : Nat) : Int)) = c - 3 - ((l[i].nm.length / 50 : Nat) : Int) by omega] at this
     omega
   have hz : (bs l[i].nm).size = l[i].nm.length := bs_size _
   unfold vlv at HW
   clear X
   obtain ⟨n, hn'⟩ : ∃ n, n = l[i].nm.length / 50 := ⟨_, rfl⟩
   rw [← hn'] at HA HW hle
   have n1 : (l[i].nm.length : Int).tdiv 50 = (n : Int) := by
    rw [Int.tdiv_eq_ediv_of_nonneg (by omega)]; omega
   have n2 : (l[i].nm.length : Int) / 50 = (n : Int) := by omega
   have n3 : IntKind.i64.wrap (n : Int) = (n : Int) := IntWalk.i64_in _ (by omega)
   have n5 : IntKind.i64.wrap (c - 3) = c - 3 := IntWalk.i64_in _ (by omega)
   have n4 : IntKind.i64.wrap (c - 3 - (n : Int)) = c - 3 - (n : Int) := IntWalk.i64_in _ (by omega)
   have k2 : (i : Int) < (l.length : Int) := by omega
   have k3 : (0 : Int) ≤ (i : Int) := by omega
   clear hn'
   generalize weiV 12 l[i].v (c - 3 - (n : Int)) = r at *
   generalize l[i] = e at *
   go_upto_region 5 with fail
   have ff : Fuw wr wr.drew := Fuw.drew (Fuw.refl wr)
   go_region_held3 (fun w' => w'.cell? ⟨b, o + i * 10 + 4, none⟩ = some (.string (bs e.nm)) ∧ w'.cell? ⟨b, o + i * 10 + 5, none⟩ = some (.int .i64 e.v.kd) ∧ w'.cell? ⟨b, o + i * 10 + 6, none⟩ = some (.int .i64 e.v.nn) ∧ w'.cell? ⟨b, o + i * 10 + 7, none⟩ = some (.int .i64 e.v.dd) ∧ w'.cell? ⟨b, o + i * 10 + 8, none⟩ = some (.string (bs e.v.ss)) ∧ w'.cell? ⟨b, o + i * 10 + 9, none⟩ = some (.slice av e.v.ll.length kv))
    (first | exact ⟨q4, q5, q6, q7, q8, q9⟩ | exact ⟨cellOnw (ff.trans f4) q4, cellOnw (ff.trans f4) q5, cellOnw (ff.trans f4) q6, cellOnw (ff.trans f4) q7, cellOnw (ff.trans f4) q8, cellOnw (ff.trans f4) q9⟩)
    (first | (go_at_call 43; refine (HW.out _ ff).mono ?_; rintro e4 w4 ⟨rfl, f4⟩))
   have HF := Lib.hid (hf.out.trans (ff.trans f4))
   clear n1 n2 n3 n4 n5
   go_wp2
   go_roundw
   case rel => exact ⟨r, i + 1, rfl, by go_num, by omega, hle, HA, HF⟩
   case measure => simp [RowKit.intOf]; omega
  ·have HV := Lib.hid (show R = (decide (0 ≤ c) && decide (l.length ≤ N)) from by
    rw [HR.out]
    by_cases g : i < l.length
    ·rw [fw_neg (by omega)]
    ·rw [List.drop_of_length_le (by omega)]; rfl)
   have e1 : decide ((l.length : Int) ≤ (N : Int)) = decide (l.length ≤ N) := decide_eq_decide.2 (by omega)
   by_cases g1 : i < l.length
   ·have g2 : ¬ 0 ≤ c := by omega
    have HQ := Lib.hid (show R = false from by rw [HV.out, decide_eq_false g2]; rfl)
    clear hgo e1
    go_wp2
    go_ret
    exact ⟨ret_bool (by rw [HQ.out]; try simp [g2]), hf.out⟩
   ·by_cases g2 : 0 ≤ c
    ·have HQ := Lib.hid (show R = decide ((l.length : Int) ≤ (N : Int)) from by rw [HV.out, decide_eq_true g2, e1]; rfl)
     clear hgo e1
     go_wp2
     go_ret
     exact ⟨ret_bool (by rw [HQ.out]; try simp), hf.out⟩
    ·have HQ := Lib.hid (show R = false from by rw [HV.out, decide_eq_false g2]; rfl)
     clear hgo e1
     go_wp2
     go_ret
     exact ⟨ret_bool (by rw [HQ.out]; try simp [g2]), hf.out⟩
def smC (g : Gr) (l : List Ch) (N : Nat) : Bool := smlV g 40 60 && fewV l N
set_option maxHeartbeats 6400000 in
set_option maxRecDepth 100000 in
theorem smallc_any (g : Gr) (an ae : Option Addr) (cn ce : Nat) (l : List Ch) (al : Option Addr) (cl : Nat) (w0 w : World) (hg : GIn w g an ae cn ce) (hl : Sl 10 (CCz w0) w al l cl) :
  Calls Tryz.prog 5 #[grv g an ae cn ce, .slice al l.length cl] w (FwB w (smC g l 40)) := by
 obtain ⟨W, hW⟩ : ∃ W, W = w.alloc (.cells #[.slice an g.ns.length cn, .slice ae g.es.length ce, .int .i64 g.nn, .int .i64 g.ne] 25) := ⟨_, rfl⟩
 have fW : Fuw w W := by rw [hW]; exact fuwA _ _
 have hB : Bk W w.heap.size #[.slice an g.ns.length cn, .slice ae g.es.length ce, .int .i64 g.nn, .int .i64 g.ne] 25 := by rw [hW]; exact Bk.new _ _ _
 have HS := Lib.hid (show Calls Tryz.prog 15 #[grv g an ae cn ce, .int .i64 40, .int .i64 60] W (FwB W (smlV g 40 60)) from small_any g an ae cn ce 40 60 W (hg.on fW))
 have HF := Lib.hid (fun w' (hf : Fuw W w') => show Calls Tryz.prog 16 #[.slice al l.length cl, .int .i64 40] w' (FwB w' (fewV l 40)) from few_any l al cl 40 w0 w' (by decide) (slCz_on (fW.trans hf) hl))
 have HFW := Lib.hid fW
 have c0 := hB.c 0; have c1 := hB.c 1; have c2 := hB.c 2; have c3 := hB.c 3
 unfold smC grv at *
 generalize smlV g 40 60 = p at *
 generalize fewV l 40 = q at *
 clear hg hl fW hB
 go_enter Tryz.func5, Tryz.ntmps5
 go_upto_region 1 with fail
 rw [← hW]
 clear hW
 go_wp2_with fail
 go_at_call 15; refine HS.out.mono ?_; rintro e1 w1 ⟨rfl, f1⟩
 have HF1 := Lib.hid f1
 clear c0 c1 c2 c3 f1
 cases p with
 | false =>
  go_wp2
  go_ret
  exact ⟨rfl, HFW.out.trans HF1.out⟩
 | true =>
  go_wp2_with fail
  go_at_call 16; refine (HF.out _ HF1.out).mono ?_; rintro e2 w2 ⟨rfl, f2⟩
  have HF2 := Lib.hid f2
  clear f2
  go_wp2
  go_ret
  exact ⟨rfl, (HFW.out.trans HF1.out).trans HF2.out⟩
end Go.Proofs.YtpamdlkagmlahaaGreatDoor
