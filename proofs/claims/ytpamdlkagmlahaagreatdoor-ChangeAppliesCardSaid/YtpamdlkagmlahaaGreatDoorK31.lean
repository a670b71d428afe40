/-
  CkE; CkG; CkH: texts of one kind in one file; each part says what it holds.
-/
import Derived.Test.YtpamdlkagmlahaaGreatDoorK27
import Derived.Test.YtpamdlkagmlahaaGreatDoorCkD
import Derived.Test.YtpamdlkagmlahaaGreatDoorK22
import Derived.Laws.AppendOwnNone

namespace Go.Proofs.YtpamdlkagmlahaaGreatDoor
open Go.RowKit
def CC (w : World) (c : Ch) (b o : Nat) : Prop := I64 c.op ∧ I64 c.id ∧ I64 c.fr ∧ I64 c.tt ∧ c.nm.length ≤ maxLen ∧ w.cell? ⟨b, o, none⟩ = some (.int .i64 c.op) ∧ w.cell? ⟨b, o + 1, none⟩ = some (.int .i64 c.id) ∧ w.cell? ⟨b, o + 2, none⟩ = some (.int .i64 c.fr) ∧
 w.cell? ⟨b, o + 3, none⟩ = some (.int .i64 c.tt) ∧ w.cell? ⟨b, o + 4, none⟩ = some (.string (bs c.nm)) ∧ VC w c.v b (o + 5)
structure CCx (w : World) (c : Ch) (b o : Nat) (a : Option Addr) (k : Nat) : Prop where
 i : ChIn w c a k
 c0 : w.cell? ⟨b, o, none⟩ = some (.int .i64 c.op)
 c1 : w.cell? ⟨b, o + 1, none⟩ = some (.int .i64 c.id)
 c2 : w.cell? ⟨b, o + 2, none⟩ = some (.int .i64 c.fr)
 c3 : w.cell? ⟨b, o + 3, none⟩ = some (.int .i64 c.tt)
 c4 : w.cell? ⟨b, o + 4, none⟩ = some (.string (bs c.nm))
 c5 : w.cell? ⟨b, o + 5, none⟩ = some (.int .i64 c.v.kd)
 c6 : w.cell? ⟨b, o + 6, none⟩ = some (.int .i64 c.v.nn)
 c7 : w.cell? ⟨b, o + 7, none⟩ = some (.int .i64 c.v.dd)
 c8 : w.cell? ⟨b, o + 8, none⟩ = some (.string (bs c.v.ss))
 c9 : w.cell? ⟨b, o + 9, none⟩ = some (.slice a c.v.ll.length k)
theorem CCx.on {w w' : World} {c : Ch} {b o : Nat} {a : Option Addr} {k : Nat} (h : CCx w c b o a k) (hf : Fuw w w') : CCx w' c b o a k :=
 ⟨h.i.on hf, cellOnw hf h.c0, cellOnw hf h.c1, cellOnw hf h.c2, cellOnw hf h.c3, cellOnw hf h.c4, cellOnw hf h.c5, cellOnw hf h.c6, cellOnw hf h.c7, cellOnw hf h.c8, cellOnw hf h.c9⟩
def CCz (w0 w : World) (c : Ch) (b o : Nat) : Prop := ∃ a k, ChIn w0 c a k ∧ CCx w c b o a k
theorem CCz_on {w0 w w' : World} (hf : Fuw w w') {c : Ch} {b o : Nat} (h : CCz w0 w c b o) : CCz w0 w' c b o := by
 obtain ⟨a, k, h1, h2⟩ := h
 exact ⟨a, k, h1, h2.on hf⟩
theorem slCz_on {w0 w w' : World} (hf : Fuw w w') {ao : Option Addr} {l : List Ch} {cap : Nat} (h : Sl 10 (CCz w0) w ao l cap) : Sl 10 (CCz w0) w' ao l cap := h.onP fun _ _ _ k => CCz_on hf k
theorem results_ctt {fn : Func} {p u v : Tmp} {ty : TypeId} (h : fn.results = #[.cell p ty, .tmp u, .tmp v]) (tmps : Array Value) (P : Program) (w : World) :
  (results fn tmps).run P w = ((asAddr (tmps.getD p undef)).run P w).andThen fun a w₁ => ((loadVar ty a).run P w₁).andThen fun x w₂ => .ok (.tuple #[x, tmps.getD u undef, tmps.getD v undef]) w₂ := by
 simp only [results, h]
 simp [Sem.run_bind, Result.andThen]
theorem g_ret3 {fn : Func} {p u v : Tmp} (hres : fn.results = #[.cell p 25, .tmp u, .tmp v]) {tmps : Array Value} {B : Nat} {an ae : Option Addr} {ln le cn ce : Nat} {x y : Int} {n m : Value} {w : World} {t : TypeId} {Q : Ending → World → Prop}
  (hp : tmps.getD p undef = .pointer (some ⟨B, 0, none⟩)) (hu : tmps.getD u undef = n) (hv : tmps.getD v undef = m) (h : Bk w B #[.slice an ln cn, .slice ae le ce, .int .i64 x, .int .i64 y] t)
  (hQ : Q (.returned (.tuple #[.agg #[.slice an ln cn, .slice ae le ce, .int .i64 x, .int .i64 y], n, m])) w) : bodyPost Tryz.prog fn Q Exit.ret { tmps := tmps, defers := [] } w := by
 refine bodyPost_ret (v := .tuple #[.agg #[.slice an ln cn, .slice ae le ce, .int .i64 x, .int .i64 y], n, m]) ?_ rfl hQ
 have e : (asAddr (.pointer (some ⟨B, 0, none⟩))).run Tryz.prog w = .ok ⟨B, 0, none⟩ w := by go_simp
 rw [results_ctt hres, hp, hu, hv, e]
 simp only [Result.andThen]
 rw [load_gr w B an ae ln le cn ce x y (h.c 0) (h.c 1) (h.c 2) (h.c 3)]
def zerG : Gr := ⟨[], [], 0, 0⟩
theorem GOwn.far' {w0 w : World} {base B j : Nat} {G : Gp} {u : Value} (h : GOwn w0 w base G) (hB : B ∉ blks G.rows) (hb : w0.heap.size ≤ B) : GOwn w0 (w.setCell ⟨B, j, none⟩ u) base G :=
 ⟨h.rows.far hB, h.no, h.eo, h.i1, h.i2, fuwS h.fu hb, h.lo⟩
theorem gin_at {w0 w : World} {base : Nat} {G : Gp} (h : GOwn w0 w base G) {an ae : Option Addr} {ln le cn ce : Nat} (e1 : G.vn = .slice an ln cn) (e2 : G.ve = .slice ae le ce) : GIn w G.gr an ae cn ce := by
 obtain ⟨an', ae', cn', ce', h1, h2, h3⟩ := h.gin
 rw [e1] at h1
 rw [e2] at h2
 injection h1 with h1 _ h1'
 injection h2 with h2 _ h2'
 subst h1 h1' h2 h2'
 exact h3
def appE (g : Gr) (l : List Ch) : Nat × Int := if chkV g = 0 then allE g l 0 else (0, chkV g)
def appG (g : Gr) (l : List Ch) : Gr := if (appE g l).2 = 0 then allG g l else zerG
def RetAp (w0 w : World) (g : Gr) (l : List Ch) (e : Ending) (w' : World) : Prop := ∃ (G : Gp) (base : Nat), e = .returned (.tuple #[.agg #[G.vn, G.ve, .int .i64 G.nn, .int .i64 G.ne], .int .i64 ((appE g l).1 : Int), .int .i64 (appE g l).2]) ∧ G.gr = appG g l ∧ GOwn w0 w' base G ∧ w.heap.size ≤ base ∧ Fuw w w'
def zerP : Gp := ⟨.slice none 0 0, .slice none 0 0, [], [], 0, 0, []⟩
theorem zerP_own {w0 w : World} {base : Nat} (hf : Fuw w0 w) (hb : w0.heap.size ≤ base) : GOwn w0 w base zerP := by
 refine ⟨⟨fun r hr => ?_, by show (blks [_, _]).Nodup; decide⟩, (fun _ h => by cases h), (fun _ h => by cases h), ⟨by decide, by decide⟩, ⟨by decide, by decide⟩, hf, hb⟩
 have hr' : r ∈ [rowN (.slice none 0 0) [], rowE (.slice none 0 0) []] := hr
 simp only [List.mem_cons, List.not_mem_nil, or_false] at hr'
 rcases hr' with rfl | rfl
 ·exact World.ownsRow_nil _ _ _ _
 ·exact World.ownsRow_nil _ _ _ _
theorem RetAp.bad {w0 w w' : World} {g : Gr} {l : List Ch} {n : Nat} {x : Int} (h : appE g l = (n, x)) (hx : x ≠ 0) (h0 : Fuw w0 w) (hf : Fuw w w') : RetAp w0 w g l (.returned (.tuple #[.agg #[.slice none 0 0, .slice none 0 0, .int .i64 0, .int .i64 0], .int .i64 (n : Int), .int .i64 x])) w' := by
 have e : appG g l = zerG := by unfold appG; rw [h]; exact if_neg hx
 exact ⟨zerP, w.heap.size, by rw [h]; rfl, by rw [e]; rfl, zerP_own (h0.trans hf) h0.size, Nat.le_refl _, hf⟩
theorem RetAp.good {w0 w w' : World} {g : Gr} {l : List Ch} {n base : Nat} {G : Gp} {vn ve : Value} (h : appE g l = (n, 0)) (hG : allG g l = G.gr) (hi : GOwn w0 w' base G) (hb : w.heap.size ≤ base) (hf : Fuw w w') (e1 : G.vn = vn) (e2 : G.ve = ve) : RetAp w0 w g l (.returned (.tuple #[.agg #[vn, ve, .int .i64 G.nn, .int .i64 G.ne], .int .i64 (n : Int), .int .i64 0])) w' := by
 have e : appG g l = G.gr := by unfold appG; rw [h]; exact (if_pos rfl).trans hG
 exact ⟨G, base, by rw [h, e1, e2], e.symm, hi, hb, hf⟩
theorem allC_drop (g : Gr) (l : List Ch) (i : Nat) (h : i < l.length) : allE g (l.drop i) i = (if stpE g l[i] = 0 then allE (stpG g l[i]) (l.drop (i + 1)) (i + 1) else (i, stpE g l[i])) ∧ allG g (l.drop i) = allG (stpG g l[i]) (l.drop (i + 1)) := by
 rw [List.drop_eq_getElem_cons h]
 exact ⟨rfl, rfl⟩
set_option maxHeartbeats 12800000 in
set_option maxRecDepth 100000 in
theorem applyall_any (g : Gr) (an ae : Option Addr) (cn ce : Nat) (l : List Ch) (al : Option Addr) (cl : Nat) (w0 w : World) (hg : GIn w0 g an ae cn ce) (hl : Sl 10 (CCz w0) w al l cl) (hf0 : Fuw w0 w) :
  Calls Tryz.prog 19 #[grv g an ae cn ce, .slice al l.length cl] w (RetAp w0 w g l) := by
 have HF0 := Lib.hid hf0
 have hll : l.length ≤ maxLen := Nat.le_trans hl.le hl.max
 unfold maxLen at hll
 obtain ⟨W, hW⟩ : ∃ W, W = (w.alloc (.cells #[.slice an g.ns.length cn, .slice ae g.es.length ce, .int .i64 g.nn, .int .i64 g.ne] 25)).alloc (.cells #[.slice none 0 0, .slice none 0 0, .int .i64 0, .int .i64 0] 25) := ⟨_, rfl⟩
 have HFW := Lib.hid (show Fuw w W from by rw [hW]; exact (fuwA _ _).trans (fuwA _ _))
 have HBW := Lib.hid (show Bk W w.heap.size #[.slice an g.ns.length cn, .slice ae g.es.length ce, .int .i64 g.nn, .int .i64 g.ne] 25 from by rw [hW]; exact (Bk.new w _ _).on (fuwA _ _))
 have HZW := Lib.hid (show Bk W (w.heap.size + 1) #[.slice none 0 0, .slice none 0 0, .int .i64 0, .int .i64 0] 25 from by
  rw [hW]
  have := Bk.new (w.alloc (.cells #[.slice an g.ns.length cn, .slice ae g.es.length ce, .int .i64 g.nn, .int .i64 g.ne] 25)) #[.slice none 0 0, .slice none 0 0, .int .i64 0, .int .i64 0] 25
  simpa using this)
 have HWZ := Lib.hid (show w.heap.size + 1 < W.heap.size from by rw [hW]; simp)
 have HCK := Lib.hid (check_any g an ae cn ce W (hg.on (hf0.trans HFW.out)))
 have HCO := Lib.hid (fun (w' : World) (hf : Fuw w0 w') (hv : Fine g) => copyof_any g an ae cn ce w0 w' hg hf hv)
 unfold grv at HCK HCO ⊢
 have HL := Lib.hid hl
 have HAE := Lib.hid (show ∀ q : Int, q = chkV g → q ≠ 0 → appE g l = (0, q) from fun q e hq => by unfold appE; rw [← e, if_neg hq])
 have HAG := Lib.hid (show chkV g = 0 → appE g l = allE g l 0 from fun e => by unfold appE; rw [if_pos e])
 obtain ⟨q, hq⟩ : ∃ q, q = chkV g := ⟨_, rfl⟩
 have HQ := Lib.hid hq
 rw [← hq] at HCK
 have c0 := HBW.out.c 0; have c1 := HBW.out.c 1; have c2 := HBW.out.c 2; have c3 := HBW.out.c 3
 clear hg hl hq hf0
 go_enter Tryz.func19, Tryz.ntmps19
 go_upto_region 1 with fail
 rw [← hW]
 clear hW
 go_wp2_with fail
 go_at_call 47; refine HCK.out.mono ?_; rintro e1 w1 ⟨rfl, f1⟩
 have HF1 := Lib.hid (HFW.out.trans f1)
 have HB1 := Lib.hid (HBW.out.on f1)
 have HZ1 := Lib.hid (HZW.out.on f1)
 have HW1 := Lib.hid (show w.heap.size + 1 < w1.heap.size from Nat.lt_of_lt_of_le HWZ.out f1.size)
 clear c0 c1 c2 c3 f1 HFW HBW HZW HCK HWZ
 by_cases hv : q = 0
 ·have HV := Lib.hid ((fine_iff g).1 (HQ.out.symm.trans hv))
  have HE0 := Lib.hid (HAG.out (HQ.out.symm.trans hv))
  subst hv
  have c0 := HB1.out.c 0; have c1 := HB1.out.c 1; have c2 := HB1.out.c 2; have c3 := HB1.out.c 3
  have HC := Lib.hid (HCO.out w1 (HF0.out.trans HF1.out) HV.out)
  clear HCO HAE HAG
  go_wp2_with fail
  go_at_call 35; refine HC.out.mono ?_; rintro e2 w2 ⟨⟨vn, ve, ns, es, nn, ne, xs⟩, base, rfl, hgr, hxs, hown, hb1, hb2, f2⟩
  obtain ⟨a1, k1, e1, -⟩ := hown.sln
  have e1' : vn = .slice a1 ns.length k1 := e1
  obtain ⟨a2, k2, e2, -⟩ := hown.sle
  have e2' : ve = .slice a2 es.length k2 := e2
  subst e1' e2'
  obtain ⟨V, hV⟩ : ∃ V, w2.alloc (.cells #[.slice a1 ns.length k1, .slice a2 es.length k2, .int .i64 nn, .int .i64 ne] 25) = V := ⟨_, rfl⟩
  obtain ⟨B, hB⟩ : ∃ B, w2.heap.size = B := ⟨_, rfl⟩
  have fV : Fuw w2 V := by rw [← hV]; exact fuwA _ _
  have HBX := Lib.hid (show GBox w0 V base B ⟨.slice a1 ns.length k1, .slice a2 es.length k2, ns, es, nn, ne, xs⟩ from
   ⟨hown.later fV, by rw [← hV, ← hB]; exact Bk.new _ _ _, fun hm => by have := (hown.rows.shut hm).2; omega, by rw [← hB]; exact hb2⟩)
  have HZ2 := Lib.hid (show Bk V (w.heap.size + 1) #[.slice none 0 0, .slice none 0 0, .int .i64 0, .int .i64 0] 25 from (HZ1.out.on f2).on fV)
  have HFV := Lib.hid (show Fuw w V from (HF1.out.trans f2).trans fV)
  have HBB := Lib.hid (show w.heap.size + 1 < base from Nat.lt_of_lt_of_le HW1.out hb1)
  have HFI := Lib.hid (show Fine (⟨.slice a1 ns.length k1, .slice a2 es.length k2, ns, es, nn, ne, xs⟩ : Gp).gr from by rw [hgr]; exact HV.out)
  have HA1 := Lib.hid (show appE g l = allE (⟨.slice a1 ns.length k1, .slice a2 es.length k2, ns, es, nn, ne, xs⟩ : Gp).gr (l.drop 0) 0 from by rw [hgr]; exact HE0.out)
  have HA2 := Lib.hid (show allG g l = allG (⟨.slice a1 ns.length k1, .slice a2 es.length k2, ns, es, nn, ne, xs⟩ : Gp).gr (l.drop 0) from by rw [hgr]; rfl)
  clear c0 c1 c2 c3 hgr hxs hown hb1 hb2 HC HB1 HZ1 e1 e2 fV f2
  obtain ⟨G, hG⟩ : ∃ G : Gp, G = ⟨.slice a1 ns.length k1, .slice a2 es.length k2, ns, es, nn, ne, xs⟩ := ⟨_, rfl⟩
  rw [← hG] at HBX HFI HA1 HA2
  clear hG
  go_upto_region 6 with fail
  (try rw [hV]); (try rw [hB])
  clear hV hB
  go_loopw [22] (fun iv wr => ∃ (i : Nat) (G : Gp), iv = .int .i64 i ∧ i ≤ l.length ∧ Hid (GBox w0 wr base B G) ∧ Hid (Fine G.gr) ∧ Hid (appE g l = allE G.gr (l.drop i) i) ∧ Hid (allG g l = allG G.gr (l.drop i)) ∧ Hid (Bk wr (w.heap.size + 1) #[.slice none 0 0, .slice none 0 0, .int .i64 0, .int .i64 0] 25) ∧ Hid (Fuw w wr)) (fun iv _ => l.length - (RowKit.intOf iv).toNat)
  case atStart => exact ⟨0, G, rfl, Nat.zero_le _, HBX, HFI, HA1, HA2, HZ2, HFV⟩
  case round =>
   clear HBX HFI HA1 HA2 HZ2 HFV
   obtain ⟨i, G', rfl, hi, HG, HF, HE1, HE2, HZ, HFW⟩ := hrel
   generalize wr = wo at *
   have HFO := Lib.hid HG.out.own.fu
   by_cases hlt : i < l.length
   ·obtain ⟨b, o, e, hcc⟩ := (slCz_on HFW.out HL.out).get hlt
    subst e
    obtain ⟨av, kv, hin, X⟩ := hcc
    have q0 := X.c0; have q1 := X.c1; have q2 := X.c2; have q3 := X.c3; have q4 := X.c4; have q5 := X.c5; have q6 := X.c6; have q7 := X.c7; have q8 := X.c8; have q9 := X.c9
    have HEA := Lib.hid (HE1.out.trans (allC_drop G'.gr l i hlt).1)
    have HEB := Lib.hid (HE2.out.trans (allC_drop G'.gr l i hlt).2)
    have HIN := Lib.hid hin
    have hli : (i : Int) < (l.length : Int) := by omega
    clear hin X
    generalize l[i] = c at *
    obtain ⟨Y, hY⟩ : ∃ Y, wo.alloc (.cells #[.int .i64 c.op, .int .i64 c.id, .int .i64 c.fr, .int .i64 c.tt, .string (bs c.nm), .int .i64 c.v.kd, .int .i64 c.v.nn, .int .i64 c.v.dd, .string (bs c.v.ss), .slice av c.v.ll.length kv] 30) = Y := ⟨_, rfl⟩
    have HYC := Lib.hid (show Bk Y wo.heap.size #[.int .i64 c.op, .int .i64 c.id, .int .i64 c.fr, .int .i64 c.tt, .string (bs c.nm), .int .i64 c.v.kd, .int .i64 c.v.nn, .int .i64 c.v.dd, .string (bs c.v.ss), .slice av c.v.ll.length kv] 30 from by rw [← hY]; exact Bk.new _ _ _)
    have fY : Fuw wo Y := by rw [← hY]; exact fuwA _ _
    have HED := Lib.hid (edit_any (HG.out.later fY) HF.out c av kv HIN.out)
    unfold chC at HED
    have HST := Lib.hid (fun (q : stpE G'.gr c = 0) => fine_step HF.out q)
    have HZY := Lib.hid (HZ.out.on fY)
    have HHB := Lib.hid (HG.out.later fY).hb
    generalize stpE G'.gr c = R at *
    generalize stpG G'.gr c = T at *
    have HFY := Lib.hid (HFW.out.trans fY)
    clear fY
    go_upto_region 8 with fail
    (try rw [hY])
    clear hY q0 q1 q2 q3 q4 q5 q6 q7 q8 q9
    have d0 := HYC.out.c 0; have d1 := HYC.out.c 1; have d2 := HYC.out.c 2; have d3 := HYC.out.c 3; have d4 := HYC.out.c 4; have d5 := HYC.out.c 5; have d6 := HYC.out.c 6; have d7 := HYC.out.c 7; have d8 := HYC.out.c 8; have d9 := HYC.out.c 9
    go_wp2_with fail
    go_at_call 37; refine HED.out.mono ?_; rintro e3 w3 ⟨rfl, hbl, hsz, hok⟩
    have HZ3 := Lib.hid (Bk.below HZY.out hbl HBB.out)
    have HFU := Lib.hid (show Fuw w w3 from HFY.out.trans_below hbl (by have := HBB.out; omega))
    have HOK := Lib.hid hok
    clear d0 d1 d2 d3 d4 d5 d6 d7 d8 d9 hbl hsz hok HED HYC
    by_cases hR : R = 0
    ·obtain ⟨G'', hG'', hgr, -⟩ := HOK.out hR
     have HG2 := Lib.hid hG''
     have HF2 := Lib.hid (show Fine G''.gr from by rw [hgr]; exact HST.out hR)
     have HE3 := Lib.hid (show appE g l = allE G''.gr (l.drop (i + 1)) (i + 1) from by rw [hgr, HEA.out, if_pos hR])
     have HE4 := Lib.hid (show allG g l = allG G''.gr (l.drop (i + 1)) from by rw [hgr]; exact HEB.out)
     subst hR
     clear hG'' hgr
     go_wp2
     go_roundw
     case rel => exact ⟨i + 1, G'', by go_num, by omega, HG2, HF2, HE3, HE4, HZ3, HFU⟩
     case measure => simp [RowKit.intOf]; omega
    ·have HNZ := Lib.hid hR
     have HBD := Lib.hid (show appE g l = (i, R) from by rw [HEA.out, if_neg hR])
     have hq0 : (R != 0) = true := by rw [bne_iff_ne]; exact hR
     have z0 := HZ3.out.c 0; have z1 := HZ3.out.c 1; have z2 := HZ3.out.c 2; have z3 := HZ3.out.c 3
     have f0 := HZ3.out.f 0; have f1 := HZ3.out.f 1; have f2 := HZ3.out.f 2; have f3 := HZ3.out.f 3
     go_wp2
     refine g_ret3 rfl rfl rfl rfl ((((HZ3.out.set_ 0 _).set_ 1 _).set_ 2 _).set_ 3 _) ?_
     exact RetAp.bad HBD.out HNZ.out HF0.out (fuwS (fuwS (fuwS (fuwS HFU.out (Nat.le_succ _)) (Nat.le_succ _)) (Nat.le_succ _)) (Nat.le_succ _))
   ·have hie : i = l.length := by omega
    subst hie
    obtain ⟨an', ae', cn', ce', e1, e2, hin⟩ := HG.out.own.gin
    have b0 := HG.out.box.c 0; have b1 := HG.out.box.c 1; have b2 := HG.out.box.c 2; have b3 := HG.out.box.c 3
    simp only [e1] at b0
    simp only [e2] at b1
    have HEND := Lib.hid (show appE g l = (l.length, 0) from by
     have q := HE1.out
     rw [List.drop_of_length_le (Nat.le_refl _)] at q
     exact q)
    have HENG := Lib.hid (show allG g l = G'.gr from by
     have q := HE2.out
     rw [List.drop_of_length_le (Nat.le_refl _)] at q
     exact q)
    have HE1' := Lib.hid e1
    have HE2' := Lib.hid e2
    have z0 := HZ.out.c 0; have z1 := HZ.out.c 1; have z2 := HZ.out.c 2; have z3 := HZ.out.c 3
    have f0 := HZ.out.f 0; have f1 := HZ.out.f 1; have f2 := HZ.out.f 2; have f3 := HZ.out.f 3
    clear e1 e2 hin
    go_wp2
    refine g_ret3 rfl rfl rfl rfl ((((HZ.out.set_ 0 _).set_ 1 _).set_ 2 _).set_ 3 _) ?_
    have hnb : w.heap.size + 1 ∉ blks G'.rows := fun hm => by have := (HG.out.own.rows.shut hm).1; have := HBB.out; omega
    have hw0 : w0.heap.size ≤ w.heap.size + 1 := Nat.le_succ_of_le HF0.out.size
    have q4 := (((HG.out.own.far' hnb hw0 (j := 0) (u := .slice an' G'.ns.length cn')).far' hnb hw0 (j := 1) (u := .slice ae' G'.es.length ce')).far' hnb hw0 (j := 2) (u := .int .i64 G'.nn)).far' hnb hw0 (j := 3) (u := .int .i64 G'.ne)
    exact RetAp.good HEND.out HENG.out q4 (Nat.le_of_lt (Nat.lt_of_succ_lt HBB.out)) (fuwS (fuwS (fuwS (fuwS HFW.out (Nat.le_succ _)) (Nat.le_succ _)) (Nat.le_succ _)) (Nat.le_succ _)) HE1'.out HE2'.out
 ·have HE := Lib.hid (HAE.out q HQ.out hv)
  have HNZ := Lib.hid hv
  have hq0 : (q != 0) = true := by rw [bne_iff_ne]; exact hv
  have z0 := HZ1.out.c 0; have z1 := HZ1.out.c 1; have z2 := HZ1.out.c 2; have z3 := HZ1.out.c 3
  have f0 := HZ1.out.f 0; have f1 := HZ1.out.f 1; have f2 := HZ1.out.f 2; have f3 := HZ1.out.f 3
  go_wp2
  refine g_ret3 rfl rfl rfl rfl ((((HZ1.out.set_ 0 _).set_ 1 _).set_ 2 _).set_ 3 _) ?_
  exact RetAp.bad HE.out HNZ.out HF0.out (fuwS (fuwS (fuwS (fuwS HF1.out (Nat.le_succ _)) (Nat.le_succ _)) (Nat.le_succ _)) (Nat.le_succ _))
end Go.Proofs.YtpamdlkagmlahaaGreatDoor

namespace Go.Proofs.YtpamdlkagmlahaaGreatDoor
open Go.RowKit
theorem infoC : (Tryz.prog.info? 30).map (fun i => (i.zero, i.size, i.bytes)) = some (some (.agg #[.int .i64 0, .int .i64 0, .int .i64 0, .int .i64 0, .string ⟨#[]⟩, .int .i64 0, .int .i64 0, .int .i64 0, .string ⟨#[]⟩, .slice none 0 0]), 10, 112) := by kernel_rfl
def LC : Lay Ch AC where
 size := 10
 C c m := [.int .i64 c.op, .int .i64 c.id, .int .i64 c.fr, .int .i64 c.tt, .string (bs c.nm), .int .i64 c.v.kd, .int .i64 c.v.nn, .int .i64 c.v.dd, .string (bs c.v.ss), .slice m.1 c.v.ll.length m.2]
 I c := I64 c.op ∧ I64 c.id ∧ I64 c.fr ∧ I64 c.tt ∧ c.nm.length ≤ maxLen ∧ Vin c.v
 J c m w := SlV w m.1 c.v.ll m.2
 P := CC
 len _ _ := rfl
 pos := by decide
 row w c m b o h1 h2 hc := ⟨h1.1, h1.2.1, h1.2.2.1, h1.2.2.2.1, h1.2.2.2.2.1, hc 0 (by decide), hc 1 (by decide), hc 2 (by decide), hc 3 (by decide), hc 4 (by decide), VC_mk h1.2.2.2.2.2 (hc 5 (by decide)) (hc 6 (by decide)) (hc 7 (by decide)) (hc 8 (by decide)) (hc 9 (by decide)) h2⟩
theorem one_C (c : Ch) (m : AC) : ∀ u ∈ LC.C c m, u.oneCell' = true := by
 intro u hu
 unfold LC at hu
 simp only [List.mem_cons, List.not_mem_nil, or_false] at hu
 rcases hu with rfl | rfl | rfl | rfl | rfl | rfl | rfl | rfl | rfl | rfl <;> rfl
theorem news_C {w : World} {B : Nat} {c : Ch} {a : Option Addr} {k : Nat} {t : TypeId} (h : Bk w B (chC c a k) t) : ∀ j u, (LC.C c (a, k))[j]? = some u → w.cell? ((⟨B, 0, none⟩ : Addr).add j) = some u := by
 intro j u hj
 rw [Addr.add_lit, Nat.zero_add, h.c j, ← hj]
 unfold chC LC
 simp
def Cok (w0 : World) (ps : List (Ch × AC)) : Prop := ∀ p ∈ ps, LC.I p.1 ∧ LC.J p.1 p.2 w0
theorem Cok.snoc {w0 : World} {ps : List (Ch × AC)} {p : Ch × AC} (h : Cok w0 ps) (h1 : LC.I p.1) (h2 : LC.J p.1 p.2 w0) : Cok w0 (ps ++ [p]) := fun q hq => by
 rcases List.mem_append.1 hq with e | e
 ·exact h q e
 ·rw [List.mem_singleton] at e; subst e; exact ⟨h1, h2⟩
theorem Cok.app {w0 : World} {ps qs : List (Ch × AC)} (h : Cok w0 ps) (h' : Cok w0 qs) : Cok w0 (ps ++ qs) := fun q hq => (List.mem_append.1 hq).elim (h q) (h' q)
def rowC (v : Value) (ps : List (Ch × AC)) : Rw := ⟨30, 10, v, ps.length, LC.cs ps⟩
def RetRw (w0 w : World) (L : List Ch) (e : Ending) (w' : World) : Prop := ∃ (v : Value) (ps : List (Ch × AC)), e = .returned v ∧ ps.map Prod.fst = L ∧ Cok w0 ps ∧ (rowC v ps).Own w' w.heap.size ∧ Fuw w w'
def setC (op id : Int) (p : Pp) : Ch := ⟨op, id, 0, 0, p.k, p.v⟩
def setV (op id : Int) (l : List Pp) : List Ch := l.map (setC op id)
set_option maxHeartbeats 3200000 in
set_option maxRecDepth 100000 in
theorem setall_any (op id : Int) (hop : I64 op) (hid : I64 id) (l : List Pp) (ap : Option Addr) (cap : Nat) (w0 w : World) (hs : SlP w0 ap l cap) (hf0 : Fuw w0 w) (hn : l.length ≤ 1000) :
  Calls Tryz.prog 106 #[.int .i64 op, .int .i64 id, .slice ap l.length cap] w (RetRw w0 w (setV op id l)) := by
 obtain ⟨i0, hi0, hz0, hz1, hz2⟩ := info_parts infoC
 have HS := Lib.hid hs
 have HF0 := Lib.hid hf0
 have HOI := Lib.hid (And.intro hop hid)
 clear hs hf0 hop hid
 go_enter Tryz.func106, Tryz.ntmps106
 go_wp2
 go_loopw [7, 12] (fun ov iv wr => ∃ (i : Nat) (ps : List (Ch × AC)), iv = .int .i64 i ∧ i ≤ l.length ∧ wr.ownsRow w.heap.size 30 10 ov ps.length (LC.cs ps) ∧ Hid (ps.map Prod.fst = (setV op id l).take i) ∧ Hid (Cok w0 ps) ∧ Hid (Fuw w wr)) (fun _ iv _ => l.length - (RowKit.intOf iv).toNat)
 case atStart => exact ⟨0, [], rfl, Nat.zero_le _, World.ownsRow_nil _ _ _ _, Lib.hid rfl, Lib.hid (fun _ h => by cases h), Lib.hid (Fuw.refl _)⟩
 case round =>
  obtain ⟨i, ps, rfl, hii, hown, HT, HK, HF⟩ := hrel
  obtain ⟨ov, rfl⟩ : ∃ z, z = u7 := ⟨u7, rfl⟩
  generalize wr = wo at *
  by_cases hlt : i < l.length
  ·have hlt' : (i : Int) < (l.length : Int) := by omega
   obtain ⟨b, o, rfl, k0, q0, hv⟩ := HS.out.get hlt
   obtain ⟨hy, q1, q2, q3, q4, a1, k1, q5, hs1⟩ := VC_of hv
   have fa := HF0.out.trans HF.out
   have c0 := cellOnw fa q0; have c1 := cellOnw fa q1; have c2 := cellOnw fa q2; have c3 := cellOnw fa q3; have c4 := cellOnw fa q4; have c5 := cellOnw fa q5
   have hps : ps.length ≤ 1000 := by
    have := congrArg List.length HT.out
    unfold setV at this
    rw [List.length_map, List.length_take, List.length_map] at this
    omega
   have HT2 := Lib.hid (show ∀ m : AC, (ps ++ [(setC op id l[i], m)]).map Prod.fst = (setV op id l).take (i + 1) from fun m => by
    rw [List.map_append, HT.out]
    unfold setV
    rw [List.take_succ_eq_append_getElem (by rw [List.length_map]; exact hlt), List.getElem_map]; rfl)
   have HI := Lib.hid (show LC.I (setC op id l[i]) from ⟨HOI.out.1, HOI.out.2, ⟨by show (-9223372036854775808 : Int) ≤ 0; decide, by show (0 : Int) ≤ 9223372036854775807; decide⟩, ⟨by show (-9223372036854775808 : Int) ≤ 0; decide, by show (0 : Int) ≤ 9223372036854775807; decide⟩, k0, hy⟩)
   have HJ := Lib.hid (show LC.J (setC op id l[i]) (a1, k1) w0 from hs1)
   clear fa q0 q1 q2 q3 q4 q5 hv k0 hs1 hy
   generalize l[i] = p at *
   obtain ⟨V, hV⟩ : ∃ V, V = wo.alloc (.cells #[.string (bs p.k), .int .i64 p.v.kd, .int .i64 p.v.nn, .int .i64 p.v.dd, .string (bs p.v.ss), .slice a1 p.v.ll.length k1] 48) := ⟨_, rfl⟩
   have bV : Bk V wo.heap.size #[.string (bs p.k), .int .i64 p.v.kd, .int .i64 p.v.nn, .int .i64 p.v.dd, .string (bs p.v.ss), .slice a1 p.v.ll.length k1] 48 := by rw [hV]; exact Bk.new _ _ _
   have fV : Fuw wo V := by rw [hV]; exact fuwA _ _
   have HFV := Lib.hid (HF.out.trans fV)
   go_upto_region 5 with fail
   rw [← hV]
   have d0 := bV.c 0; have d1 := bV.c 1; have d2 := bV.c 2; have d3 := bV.c 3; have d4 := bV.c 4; have d5 := bV.c 5
   have fA := fuwA V (.cells (chC (setC op id p) a1 k1) 30)
   have HO := Lib.hid (own_on hown (fV.trans fA))
   have HNW := Lib.hid (news_C (Bk.new V (chC (setC op id p) a1 k1) 30))
   have HFA := Lib.hid (HFV.out.trans fA)
   unfold chC setC at HO HNW HFA
   clear hV bV fV fA c0 c1 c2 c3 c4 c5 hown
   go_wp2_with (at_builtin; refine wpList_append_own _ rfl (.tmp 16) (.tmp 24) 32 rfl w.heap.size 30 i0 _ 10 112 Tryz.underlying32 hi0 hz0 hz1 hz2 rfl (by decide) ov ps.length (LC.cs ps) rfl HO.out ⟨V.heap.size, 0, none⟩ 1 1 (LC.C (setC op id p) (a1, k1)) rfl rfl HNW.out (one_C _ _) (by unfold maxLen; omega) (by omega) HFA.out.size ?_)
   intro v' w1 hown hgrow hnil
   have HB := Lib.hid (fun k (hk : ov.ownBlock = some k) => (World.ownsRow.lt HO.out k hk).1)
   have HO2 := Lib.hid (show w1.ownsRow w.heap.size 30 10 v' (ps ++ [(setC op id p, (a1, k1))]).length (LC.cs (ps ++ [(setC op id p, (a1, k1))])) from by
    rw [LC.cs_app, LC.cs_one, List.length_append]; exact hown)
   have HF2 := Lib.hid (show Fuw w w1 from Below.grown HFA.out hgrow HFA.out.size (fun k hk => HB.out k hk))
   clear hown hgrow hnil HO HNW d0 d1 d2 d3 d4 d5
   go_wp2
   go_roundw
   case rel => exact ⟨i + 1, _, by go_num, by omega, HO2.out, Lib.hid (HT2.out (a1, k1)), Lib.hid (HK.out.snoc HI.out HJ.out), HF2⟩
   case measure => simp [RowKit.intOf]; omega
  ·have hie : i = l.length := by omega
   have HEND := Lib.hid (show ps.map Prod.fst = setV op id l from by
    rw [HT.out, List.take_of_length_le (by unfold setV; rw [List.length_map]; omega)])
   have HO := Lib.hid hown
   clear hown hie
   go_wp2
   go_ret
   exact ⟨ov, ps, rfl, HEND.out, HK.out, HO.out, HF.out⟩
end Go.Proofs.YtpamdlkagmlahaaGreatDoor

namespace Go.Proofs.YtpamdlkagmlahaaGreatDoor
open Go.RowKit
theorem pln_ll {x : Vl} (h : plnV x = true) : x.ll = [] := by
 cases x with
 | mk k n d s l =>
  unfold plnV at h
  simp only [Bool.and_eq_true, Bool.or_eq_true, beq_iff_eq, Vl.kd] at h
  obtain ⟨h1, h2⟩ := h
  unfold okX okV at h1
  rw [if_neg (by omega), if_neg (by omega)] at h1
  show l = []
  unfold okFlat bareV at h1
  rcases h2 with (rfl | rfl) | rfl <;> simp at h1 <;> simp [h1]
theorem slv_nil {w w' : World} {a : Option Addr} {k : Nat} (h : SlV w a [] k) : SlV w' a [] k := ⟨h.le, h.max, h.nil, fun hp => absurd hp (Nat.lt_irrefl 0)⟩
theorem Cok.any {w w0 : World} {ps : List (Ch × AC)} (h : Cok w ps) (hl : ∀ p ∈ ps, p.1.v.ll = []) : Cok w0 ps := fun p hp => by
 refine ⟨(h p hp).1, ?_⟩
 have q : SlV w p.2.1 p.1.v.ll p.2.2 := (h p hp).2
 show SlV w0 p.2.1 p.1.v.ll p.2.2
 rw [hl p hp] at q ⊢
 exact slv_nil q
def labC (id : Int) (s : List UInt8) : Ch := ⟨3, id, 0, 0, s, nulV⟩
def rebN (g : Gr) (id : Int) : List Ch := ⟨1, id, 0, 0, [], nulV⟩ :: (((nodV g.ns id).getD nilN).ls.map (labC id) ++ setV 5 id ((nodV g.ns id).getD nilN).ps)
def rebE (g : Gr) (id : Int) : List Ch := ⟨6, id, ((edgV g.es id).getD nilE).fr, ((edgV g.es id).getD nilE).to, ((edgV g.es id).getD nilE).ty, nulV⟩ :: setV 8 id ((edgV g.es id).getD nilE).ps
theorem i64z : I64 0 := ⟨by show (-9223372036854775808 : Int) ≤ 0; decide, by show (0 : Int) ≤ 9223372036854775807; decide⟩
theorem i64s {n : Int} (h1 : 0 ≤ n) (h2 : n ≤ 9) : I64 n := ⟨by show (-9223372036854775808 : Int) ≤ n; omega, by show n ≤ (9223372036854775807 : Int); omega⟩
theorem lit_C (w : World) (c : Ch) (a : Option Addr) (k : Nat) {base : Nat} (hb : base ≤ w.heap.size) : (rowC (.slice (some ⟨w.heap.size, 0, none⟩) 1 1) [(c, (a, k))]).Own (w.alloc (.cells (chC c a k) 30)) base := by
 have h := World.ownsRow_lit (e := 30) (size := 10) w (chC c a k) 1 hb (by unfold maxLen; decide) rfl
 have e : LC.cs [(c, (a, k))] = (chC c a k).toList := by rw [LC.cs_one]; rfl
 unfold rowC Rw.Own
 rw [e]
 exact h
theorem row_app {w w1 : World} {base : Nat} {v v' : Value} {ps qs : List (Ch × AC)} (h : w1.ownsRow base 30 10 v' (ps.length + qs.length) (LC.cs ps ++ LC.cs qs)) : (rowC v' (ps ++ qs)).Own w1 base := by
 have _ := (w, v)
 unfold rowC Rw.Own
 simp only
 rw [LC.cs_app, List.length_append]
 exact h
theorem one_Cs (ps : List (Ch × AC)) : ∀ u ∈ LC.cs ps, u.oneCell' = true := by
 intro u hu
 obtain ⟨p, -, hm⟩ := List.mem_flatMap.1 hu
 exact one_C p.1 p.2 u hm
theorem fine_nod {g : Gr} (h : Fine g) (id : Int) : ((nodV g.ns id).getD nilN).ls.length ≤ 8 ∧ ((nodV g.ns id).getD nilN).ps.length ≤ 16 ∧ (∀ p ∈ ((nodV g.ns id).getD nilN).ps, p.v.ll = []) := by
 cases hn : nodV g.ns id with
 | none => exact ⟨by decide, by decide, fun _ h => by cases h⟩
 | some n =>
  have hm : n ∈ g.ns := by unfold nodV at hn; exact List.mem_of_find?_eq_some hn
  have q := (h.nf n hm).p
  exact ⟨q.l8, q.p16, fun p hp => pln_ll (q.pv p hp)⟩
theorem fine_edg {g : Gr} (h : Fine g) (id : Int) : ((edgV g.es id).getD nilE).ps.length ≤ 16 ∧ (∀ p ∈ ((edgV g.es id).getD nilE).ps, p.v.ll = []) := by
 cases hn : edgV g.es id with
 | none => exact ⟨by decide, fun _ h => by cases h⟩
 | some n =>
  have hm : n ∈ g.es := by unfold edgV at hn; exact List.mem_of_find?_eq_some hn
  have q := (h.ef n hm).p
  exact ⟨q.p16, fun p hp => pln_ll (q.pv p hp)⟩
theorem setV_ll {op id : Int} {l : List Pp} (h : ∀ p ∈ l, p.v.ll = []) : ∀ c ∈ setV op id l, c.v.ll = [] := by
 intro c hc
 unfold setV at hc
 obtain ⟨p, hp, rfl⟩ := List.mem_map.1 hc
 exact h p hp
theorem fst_ll {ps : List (Ch × AC)} {L : List Ch} (e : ps.map Prod.fst = L) (h : ∀ c ∈ L, c.v.ll = []) : ∀ p ∈ ps, p.1.v.ll = [] := fun p hp => h p.1 (by rw [← e]; exact List.mem_map.2 ⟨p, hp, rfl⟩)
end Go.Proofs.YtpamdlkagmlahaaGreatDoor
