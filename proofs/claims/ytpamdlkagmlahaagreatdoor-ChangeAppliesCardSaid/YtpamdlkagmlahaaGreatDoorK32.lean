/-
  CkI; CkJ; CkK; CkF; CkL: texts of one kind in one file; each part says what it holds.
-/
import Derived.Test.YtpamdlkagmlahaaGreatDoorK31
import Derived.Test.YtpamdlkagmlahaaGreatDoorK24
import Derived.Test.YtpamdlkagmlahaaGreatDoorChI

namespace Go.Proofs.YtpamdlkagmlahaaGreatDoor
open Go.RowKit
theorem lab_ok (id : Int) (hid : I64 id) (s : List UInt8) (hs : s.length ≤ maxLen) (w0 : World) : LC.I (labC id s) ∧ LC.J (labC id s) (none, 0) w0 :=
 ⟨⟨i64s (n := 3) (by decide) (by decide), hid, i64z, i64z, hs, nulV_in⟩, nulV_sl _⟩
set_option maxHeartbeats 6400000 in
set_option maxRecDepth 100000 in
theorem rebn_any (g : Gr) (an ae : Option Addr) (cn ce : Nat) (id : Int) (hid : I64 id) (w0 w : World) (hg : GIn w g an ae cn ce) (hv : Fine g) :
  Calls Tryz.prog 71 #[grv g an ae cn ce, .int .i64 id] w (RetRw w0 w (rebN g id)) := by
 obtain ⟨W, hW⟩ : ∃ W, W = w.alloc (.cells #[.slice an g.ns.length cn, .slice ae g.es.length ce, .int .i64 g.nn, .int .i64 g.ne] 25) := ⟨_, rfl⟩
 have fW : Fuw w W := by rw [hW]; exact fuwA _ _
 have bW : Bk W w.heap.size #[.slice an g.ns.length cn, .slice ae g.es.length ce, .int .i64 g.nn, .int .i64 g.ne] 25 := by rw [hW]; exact Bk.new _ _ _
 have HND := Lib.hid (lnode_any g an ae cn ce id W (hg.on fW))
 obtain ⟨hl8, hp16, hpl⟩ := fine_nod hv id
 have HPL := Lib.hid hpl
 unfold rebN
 unfold RetN at HND
 generalize (nodV g.ns id).isSome = sm at *
 generalize (nodV g.ns id).getD nilN = e at *
 have HFW := Lib.hid fW
 have HID := Lib.hid hid
 have c0 := bW.c 0; have c1 := bW.c 1; have c2 := bW.c 2; have c3 := bW.c 3
 obtain ⟨i0, hi0, hz0, hz1, hz2⟩ := info_parts infoC
 unfold grv ndv at *
 clear hg hv fW bW hpl hid
 go_enter Tryz.func71, Tryz.ntmps71
 go_upto_region 1 with fail
 rw [← hW]
 clear hW
 go_wp2_with fail
 go_at_call 72; refine HND.out.mono ?_; rintro e1 w1 ⟨al, ap, cl, cp, rfl, hin, f1⟩
 have HIN := Lib.hid hin
 have HF1 := Lib.hid (HFW.out.trans f1)
 clear hin f1 c0 c1 c2 c3 HND
 obtain ⟨V, hV⟩ : ∃ V, V = w1.alloc (.cells #[.int .i64 e.id, .slice al e.ls.length cl, .slice ap e.ps.length cp] 51) := ⟨_, rfl⟩
 have fV : Fuw w1 V := by rw [hV]; exact fuwA _ _
 have bV : Bk V w1.heap.size #[.int .i64 e.id, .slice al e.ls.length cl, .slice ap e.ps.length cp] 51 := by rw [hV]; exact Bk.new _ _ _
 go_upto_region 2 with fail
 rw [← hV]
 clear hV
 obtain ⟨X, hX⟩ : ∃ X, X = V.alloc (.cells (chC ⟨1, id, 0, 0, [], nulV⟩ none 0) 30) := ⟨_, rfl⟩
 have fX : Fuw V X := by rw [hX]; exact fuwA _ _
 have HRX := Lib.hid (show X.ownsRow V.heap.size 30 10 (.slice (some ⟨V.heap.size, 0, none⟩) 1 1) 1 (LC.cs [(⟨1, id, 0, 0, [], nulV⟩, (none, 0))]) from by
  have q : (rowC (.slice (some ⟨V.heap.size, 0, none⟩) 1 1) [(⟨1, id, 0, 0, [], nulV⟩, (none, 0))]).Own X V.heap.size := by
   rw [hX]; exact lit_C V _ none 0 (Nat.le_refl _)
  exact q)
 have HFX := Lib.hid (HF1.out.trans fV)
 have HVX := Lib.hid fX
 have HBX := Lib.hid bV
 have HLS := Lib.hid (slS_on fV HIN.out.2.1)
 have HPS := Lib.hid (slP_on fV HIN.out.2.2)
 have HSA := Lib.hid (fun (w' : World) (hf : Fuw V w') => setall_any 5 id (i64s (by decide) (by decide)) HID.out e.ps ap cp w' w' (slP_on hf HPS.out) (Fuw.refl _) (by omega))
 have hX2 : X = V.alloc (.cells #[.int .i64 1, .int .i64 id, .int .i64 0, .int .i64 0, .string ⟨#[]⟩, .int .i64 0, .int .i64 0, .int .i64 0, .string ⟨#[]⟩, .slice none 0 0] 30) := hX
 clear fX fV bV hX
 go_upto_region 3 with fail
 rw [← hX2]
 clear hX2
 have d1 := (HBX.out.on HVX.out).c 1
 go_upto_region 4 with fail
 clear d1
 go_loopw [7, 22] (fun ov iv wr => ∃ (i : Nat) (ps : List (Ch × AC)), iv = .int .i64 i ∧ i ≤ e.ls.length ∧ wr.ownsRow V.heap.size 30 10 ov ps.length (LC.cs ps) ∧ Hid (ps.map Prod.fst = ⟨1, id, 0, 0, [], nulV⟩ :: (e.ls.take i).map (labC id)) ∧ Hid (Cok w0 ps) ∧ Hid (Fuw V wr)) (fun _ iv _ => e.ls.length - (RowKit.intOf iv).toNat)
 case atStart =>
  refine ⟨0, [(⟨1, id, 0, 0, [], nulV⟩, (none, 0))], rfl, Nat.zero_le _, HRX.out, Lib.hid rfl, Lib.hid (fun p hp => ?_), HVX⟩
  rw [List.mem_singleton] at hp
  subst hp
  exact ⟨⟨i64s (n := 1) (by decide) (by decide), HID.out, i64z, i64z, Nat.zero_le _, nulV_in⟩, nulV_sl _⟩
 case round =>
  obtain ⟨i, ps, rfl, hii, hown, HT, HK, HF⟩ := hrel
  obtain ⟨ov, rfl⟩ : ∃ z, z = u7 := ⟨u7, rfl⟩
  generalize wr = wo at *
  have hps : ps.length ≤ 9 := by
   have := congrArg List.length HT.out
   rw [List.length_map, List.length_cons, List.length_map, List.length_take] at this
   omega
  have HWB := Lib.hid (show V.heap.size ≤ wo.heap.size from HF.out.size)
  by_cases hlt : i < e.ls.length
  ·have hlt' : (i : Int) < (e.ls.length : Int) := by omega
   obtain ⟨b, o, hal, k0, q0⟩ := HLS.out.get hlt
   subst hal
   have c0 := cellOnw HF.out q0
   rw [Nat.mul_one] at c0
   have HT2 := Lib.hid (show ∀ m : AC, (ps ++ [(labC id e.ls[i], m)]).map Prod.fst = ⟨1, id, 0, 0, [], nulV⟩ :: (e.ls.take (i + 1)).map (labC id) from fun m => by
    rw [List.map_append, HT.out, List.take_succ_eq_append_getElem hlt, List.map_append]; rfl)
   have HLO := Lib.hid (lab_ok id HID.out e.ls[i] k0 w0)
   clear q0 k0
   generalize e.ls[i] = s at *
   have fA := fuwA wo (.cells (chC (labC id s) none 0) 30)
   have HO := Lib.hid (own_on hown fA)
   have HNW := Lib.hid (news_C (Bk.new wo (chC (labC id s) none 0) 30))
   have HFA := Lib.hid (HF.out.trans fA)
   have HWA := Lib.hid (show V.heap.size ≤ (wo.alloc (.cells (chC (labC id s) none 0) 30)).heap.size from Nat.le_trans HWB.out fA.size)
   have e1 : chC (labC id s) none 0 = #[.int .i64 3, .int .i64 id, .int .i64 0, .int .i64 0, .string (bs s), .int .i64 0, .int .i64 0, .int .i64 0, .string ⟨#[]⟩, .slice none 0 0] := rfl
   rw [e1] at HO HNW HFA HWA
   clear fA hown e1
   go_wp2_with (at_builtin; refine wpList_append_own _ rfl (.tmp 26) (.tmp 30) 32 rfl V.heap.size 30 i0 _ 10 112 Tryz.underlying32 hi0 hz0 hz1 hz2 rfl (by decide) ov ps.length (LC.cs ps) rfl HO.out ⟨wo.heap.size, 0, none⟩ 1 1 (LC.C (labC id s) (none, 0)) rfl rfl HNW.out (one_C _ _) (by unfold maxLen; omega) (by omega) HWA.out ?_)
   intro v' w2 hown hgrow hnil
   have HB := Lib.hid (fun k (hk : ov.ownBlock = some k) => (World.ownsRow.lt HO.out k hk).1)
   have HO2 := Lib.hid (show w2.ownsRow V.heap.size 30 10 v' (ps ++ [(labC id s, ((none, 0) : AC))]).length (LC.cs (ps ++ [(labC id s, (none, 0))])) from by
    rw [LC.cs_app, LC.cs_one, List.length_append]; exact hown)
   have HF2 := Lib.hid (show Fuw V w2 from Below.grown HFA.out hgrow HWA.out (fun k hk => HB.out k hk))
   clear hown hgrow hnil HO HNW c0
   go_wp2
   go_roundw
   case rel => exact ⟨i + 1, _, by go_num, by omega, HO2.out, Lib.hid (HT2.out (none, 0)), Lib.hid (HK.out.snoc HLO.out.1 HLO.out.2), HF2⟩
   case measure => simp [RowKit.intOf]; omega
  ·have hie : i = e.ls.length := by omega
   have HEND := Lib.hid (show ps.map Prod.fst = ⟨1, id, 0, 0, [], nulV⟩ :: e.ls.map (labC id) from by
    rw [HT.out, List.take_of_length_le (by omega)])
   have HO := Lib.hid hown
   have HSW := Lib.hid (HSA.out wo HF.out)
   obtain ⟨av, cv, qv, -⟩ := own_form (r := rowC ov ps) hown
   have qv' : ov = .slice av ps.length cv := qv
   subst qv'
   have d2 := (HBX.out.on HF.out).c 2
   clear hown hie HT HSA qv
   go_upto_region 8 with fail
   go_wp2_with fail
   go_at_call 106; refine HSW.out.mono ?_; rintro e2 w2 ⟨v2, qs, rfl, hm, hok, hown, f2⟩
   have hpl2 : qs.length ≤ 16 := by rw [← List.length_map (f := Prod.fst), hm]; unfold setV; rw [List.length_map]; exact hp16
   have HM := Lib.hid hm
   have HF2 := Lib.hid (HF.out.trans f2)
   have HRX2 := Lib.hid (show w2.ownsRow V.heap.size 30 10 (.slice av ps.length cv) ps.length (LC.cs ps) from own_on HO.out f2)
   have HOA := Lib.hid (show Cok w0 qs from hok.any (fst_ll hm (setV_ll HPL.out)))
   have HWV := Lib.hid (show Fuw w V from HFX.out)
   rcases hown.2 with ⟨ev, h0⟩ | ⟨gq, cq, cur, ev, hb, -⟩
   ·have ev' : v2 = .slice none 0 0 := ev
    have h0' : qs = [] := List.eq_nil_of_length_eq_zero h0
    subst ev' h0'
    have HE := Lib.hid (show setV 5 id e.ps = [] from HM.out.symm)
    clear hm hok hown f2 ev h0 d2 HSW
    go_wp2_with (at_builtin; refine wpList_append_own_none rfl (.tmp 33) (.tmp 37) 32 rfl V.heap.size 30 i0 10 Tryz.underlying32 hi0 (.slice av ps.length cv) ps.length _ rfl HRX2.out rfl ?_)
    go_wp2
    go_ret
    exact ⟨_, ps, rfl, by rw [HE.out, List.append_nil]; exact HEND.out, HK.out, own_low (r := rowC (.slice av ps.length cv) ps) HRX2.out HWV.out.size, HWV.out.trans HF2.out⟩
   ·have ev' : v2 = .slice (some ⟨gq, 0, none⟩) qs.length cq := ev
    subst ev'
    have HCS := Lib.hid (show ∀ j u, (LC.cs qs)[j]? = some u → w2.cell? ((⟨gq, 0, none⟩ : Addr).add j) = some u from World.ownsRow.cells hown rfl)
    have HSZ := Lib.hid HF2.out.size
    clear hm hok hown f2 ev d2 HSW hb
    go_wp2_with (at_builtin; refine wpList_append_own _ rfl (.tmp 33) (.tmp 37) 32 rfl V.heap.size 30 i0 _ 10 112 Tryz.underlying32 hi0 hz0 hz1 hz2 rfl (by decide) (.slice av ps.length cv) ps.length _ rfl HRX2.out ⟨gq, 0, none⟩ qs.length cq (LC.cs qs) rfl (LC.cs_len qs) HCS.out (one_Cs qs) (by unfold maxLen; omega) (by omega) HSZ.out ?_)
    intro v' w3 hown hgrow hnil
    have HO3 := Lib.hid (show (rowC v' (ps ++ qs)).Own w3 V.heap.size from row_app (w := w) (v := v') hown)
    have HF3 := Lib.hid (show Fuw V w3 from Below.grown HF2.out hgrow HF2.out.size (fun k hk => (World.ownsRow.lt HRX2.out k hk).1))
    clear hown hgrow hnil
    go_wp2
    go_ret
    exact ⟨v', ps ++ qs, rfl, by rw [List.map_append, HM.out, HEND.out]; rfl, HK.out.app HOA.out, own_low HO3.out HWV.out.size, HWV.out.trans HF3.out⟩
end Go.Proofs.YtpamdlkagmlahaaGreatDoor

namespace Go.Proofs.YtpamdlkagmlahaaGreatDoor
open Go.RowKit
def invC (g : Gr) (c : Ch) : List Ch :=
 if c.op = 1 then [⟨2, c.id, 0, 0, [], nulV⟩] else if c.op = 2 then rebN g c.id else if c.op = 3 then [⟨4, c.id, 0, 0, c.nm, nulV⟩] else if c.op = 4 then [⟨3, c.id, 0, 0, c.nm, nulV⟩]
 else if c.op = 5 then [⟨5, c.id, 0, 0, c.nm, prpV ((nodV g.ns c.id).getD nilN).ps c.nm⟩] else if c.op = 6 then [⟨7, c.id, 0, 0, [], nulV⟩] else if c.op = 7 then rebE g c.id
 else [⟨8, c.id, 0, 0, c.nm, prpV ((edgV g.es c.id).getD nilE).ps c.nm⟩]
theorem RetRw.one {w0 w W : World} (c : Ch) (a : Option Addr) (k : Nat) (hf : Fuw w W) (h1 : LC.I c) (h2 : LC.J c (a, k) w0) : RetRw w0 w [c] (.returned (.slice (some ⟨W.heap.size, 0, none⟩) 1 1)) (W.alloc (.cells (chC c a k) 30)) :=
 ⟨_, [(c, (a, k))], rfl, rfl, (fun p hp => by rw [List.mem_singleton] at hp; subst hp; exact ⟨h1, h2⟩), lit_C W c a k hf.size, hf.trans (fuwA _ _)⟩
theorem RetRw.on {w0 w w1 w' : World} {L : List Ch} {e : Ending} (hf : Fuw w w1) (h : RetRw w0 w1 L e w') : RetRw w0 w L e w' := by
 obtain ⟨v, ps, e1, e2, e3, e4, e5⟩ := h
 exact ⟨v, ps, e1, e2, e3, own_low e4 hf.size, hf.trans e5⟩
def InvOk (w0 : World) (c : Ch) : Prop := ∀ (g : Gr) (an ae : Option Addr) (cn ce : Nat) (a : Option Addr) (k : Nat) (w : World), GIn w g an ae cn ce → ChIn w c a k → Fine g → Calls Tryz.prog 36 #[grv g an ae cn ce, .agg (chC c a k)] w (RetRw w0 w (invC g c))
set_option maxHeartbeats 3200000 in
set_option maxRecDepth 100000 in
theorem inverse_two (w0 : World) (c : Ch) (o2 : c.op = 2) : InvOk w0 c := by
 intro g an ae cn ce a k w hg hi hv
 obtain ⟨W, hW⟩ : ∃ W, W = (w.alloc (.cells #[.slice an g.ns.length cn, .slice ae g.es.length ce, .int .i64 g.nn, .int .i64 g.ne] 25)).alloc (.cells (chC c a k) 30) := ⟨_, rfl⟩
 have fW : Fuw w W := by rw [hW]; exact (fuwA _ _).trans (fuwA _ _)
 have HBW := Lib.hid (show Bk W w.heap.size #[.slice an g.ns.length cn, .slice ae g.es.length ce, .int .i64 g.nn, .int .i64 g.ne] 25 from by rw [hW]; exact (Bk.new w _ _).on (fuwA _ _))
 have HCW := Lib.hid (show Bk W (w.heap.size + 1) (chC c a k) 30 from by
  rw [hW]
  have := Bk.new (w.alloc (.cells #[.slice an g.ns.length cn, .slice ae g.es.length ce, .int .i64 g.nn, .int .i64 g.ne] 25)) (chC c a k) 30
  simpa using this)
 have HFW := Lib.hid fW
 have HRN := Lib.hid (rebn_any g an ae cn ce c.id hi.i w0 W (hg.on fW) hv)
 obtain ⟨R, hR⟩ : ∃ R, R = invC g c := ⟨_, rfl⟩
 rw [← hR]
 have HE := Lib.hid (show R = rebN g c.id from by rw [hR]; unfold invC; rw [if_neg (by omega), if_pos o2])
 have d0 := HCW.out.c 0; have d1 := HCW.out.c 1
 have c0 := HBW.out.c 0; have c1 := HBW.out.c 1; have c2 := HBW.out.c 2; have c3 := HBW.out.c 3
 unfold chC at hW d0 d1 ⊢
 unfold grv at *
 rw [o2] at d0
 clear hR hg hi hv fW o2
 go_enter Tryz.func36, Tryz.ntmps36
 go_upto_region 1 with fail
 rw [← hW]
 clear hW
 go_wp2_with fail
 go_at_call 71; refine HRN.out.mono ?_; intro e1 w1 hr
 have HZ := Lib.hid (hr.on HFW.out)
 obtain ⟨v, ps, rfl, hr2⟩ := hr
 clear hr2
 go_wp2
 go_ret
 rw [HE.out]
 exact HZ.out
end Go.Proofs.YtpamdlkagmlahaaGreatDoor

namespace Go.Proofs.YtpamdlkagmlahaaGreatDoor
open Go.RowKit
def RetGw (w : World) (e : Ending) (w' : World) : Prop := ∃ v, e = .returned v ∧ w'.ownsRow w.heap.size 30 10 v 0 [] ∧ Fuw w w'
set_option maxHeartbeats 3200000 in
set_option maxRecDepth 1000000 in
theorem growc_any (n : Nat) (hn : n ≤ 1000000) (w : World) : Calls Tryz.prog 80 #[.slice none 0 0, .int .i64 (n : Int)] w (RetGw w) := by
 obtain ⟨i0, hi0, hz0, hz1, hz2⟩ := info_parts infoC
 rcases Nat.eq_zero_or_pos n with h0 | h0
 ·subst h0
  have hz : ¬ ((0 : Int) < 0) := by decide
  clear hi0 hz0 hz1 hz2
  show Calls _ _ #[_, .int .i64 0] _ _
  go_enter Tryz.func80, Tryz.ntmps80
  go_wp2
  go_ret
  exact ⟨_, rfl, World.ownsRow_nil _ _ _ _, Fuw.refl _⟩
 ·obtain ⟨G, hG⟩ : ∃ G, G = grownCap w n 0 30 := ⟨_, rfl⟩
  obtain ⟨ROW, hROW⟩ : ∃ ROW : Array Value, ROW = ([] : List Value).toArray ++ Builtin.zeroCells (Value.cells (.agg #[.int .i64 0, .int .i64 0, .int .i64 0, .int .i64 0, .string ⟨#[]⟩, .int .i64 0, .int .i64 0, .int .i64 0, .string ⟨#[]⟩, .slice none 0 0])) n ++ Builtin.zeroCells (Value.cells (.agg #[.int .i64 0, .int .i64 0, .int .i64 0, .int .i64 0, .string ⟨#[]⟩, .int .i64 0, .int .i64 0, .int .i64 0, .string ⟨#[]⟩, .slice none 0 0])) (G - n) := ⟨_, rfl⟩
  have hrz : ∀ ty, (Builtin.append_ #[32, 3] ty #[.slice none 0 0, .int .i64 (n : Int)]).run Tryz.prog w = .ok (.slice (some ⟨w.heap.size, 0, none⟩) n G) (w.drew.alloc (.cells ROW 30)) := fun ty => by
   have h := Lib.run_append_grow_zeros w 32 3 ty 30 i0 _ .i64 .i64 Tryz.underlying32 Tryz.underlying3 hi0 hz0 none 0 0 [] (by simp [Builtin.firstCells]) n h0 (by rw [hz1]; decide) (by omega) (by omega) (by rw [hz2]; omega) (by rw [hz2, Nat.zero_add]; unfold Builtin.nextslicecap; simp [h0]; omega)
   rw [Nat.zero_add, ← hG, ← hROW] at h
   exact h
  have hGn : n ≤ G := by rw [hG]; exact grownCap_ge w _ _ _
  have hGm : G ≤ maxLen := by rw [hG]; exact grownCap_le_maxLen w n 0 30 (by unfold maxLen; omega)
  have hRl : ROW.size = G * 10 := by
   rw [hROW]
   have hzc : (Value.cells (.agg #[.int .i64 0, .int .i64 0, .int .i64 0, .int .i64 0, .string ⟨#[]⟩, .int .i64 0, .int .i64 0, .int .i64 0, .string ⟨#[]⟩, .slice none 0 0])).size = 10 := rfl
   simp only [Array.size_append, Builtin.zeroCells, Array.size_map, Array.size_range, List.size_toArray, hzc, List.length_nil]
   omega
  have HO := Lib.hid (show RetGw w (.returned (.slice (some ⟨w.heap.size, 0, none⟩) 0 G)) (w.drew.alloc (.cells ROW 30)) from by
   refine ⟨_, rfl, ?_, (Fuw.drew (Fuw.refl _)).alloc _⟩
   have h1 : (w.drew.alloc (.cells ROW 30)).heap[w.heap.size]? = some (.cells ROW.toList.toArray 30 (0, 0)) := by rw [Array.toArray_toList]; exact heap_alloc_new w.drew _
   have := own_of (n := 0) (size := 10) h1 (Nat.le_refl _) (Nat.zero_le G) hGm (by rw [Array.length_toList]; exact hRl)
   simpa using this)
  have HRZ := Lib.hid hrz
  have hn0 : (0 : Int) < (n : Int) := by omega
  have hG63 : G ≤ 9223372036854775807 := by unfold maxLen at hGm; omega
  clear hrz hG hROW hRl hGm hi0 hz0 hz1 hz2
  have hw : IntKind.i64.wrap (n : Int) = (n : Int) := by rw [IntKind.wrap_i64]; omega
  have hGz : ¬ (G = 0) := by omega
  go_enter Tryz.func80, Tryz.ntmps80
  go_wp2_with (at_builtin; refine Lib.wpList_append_run _ rfl _ _ _ _ rfl _ _ rfl rfl _ _ (HRZ.out _) ?_)
  go_wp2
  go_ret
  exact HO.out
abbrev HdC := Value × List (Ch × AC)
def flC (L : List HdC) : List (Ch × AC) := L.flatMap Prod.snd
def lenC (L : List HdC) : Nat := (flC L).length
theorem flC_take {L : List HdC} {i : Nat} (h : i < L.length) : flC (L.take (i + 1)) = flC (L.take i) ++ L[i].2 := by
 unfold flC
 rw [List.take_succ_eq_append_getElem h, List.flatMap_append, List.flatMap_cons, List.flatMap_nil, List.append_nil]
theorem flC_le {L : List HdC} (i : Nat) : lenC (L.take i) ≤ lenC L := by
 unfold lenC flC
 conv => rhs; rw [← List.take_append_drop i L]
 rw [List.flatMap_append, List.length_append]
 omega
set_option maxHeartbeats 6400000 in
set_option maxRecDepth 100000 in
theorem concat_any (L : List HdC) (au : Option Addr) (cu : Nat) (w0 w : World) (hcell : ∀ (j : Nat) (h : j < L.length), ∃ gu, au = some ⟨gu, 0, none⟩ ∧ w.cell? ⟨gu, j, none⟩ = some L[j].1) (hrow : ∀ p ∈ L, (rowC p.1 p.2).Own w 0) (hok : Cok w0 (flC L)) (hlen : lenC L ≤ 100000) (hL : L.length ≤ 100000) :
  Calls Tryz.prog 38 #[.slice au L.length cu] w (RetRw w0 w ((flC L).map Prod.fst)) := by
 obtain ⟨i0, hi0, hz0, hz1, hz2⟩ := info_parts infoC
 have HC := Lib.hid hcell
 have HR := Lib.hid hrow
 have HOK := Lib.hid hok
 clear hcell hrow hok
 go_enter Tryz.func38, Tryz.ntmps38
 go_upto_region 3 with fail
 go_loopw [3, 11] (fun sv iv wr => ∃ (i k : Nat), iv = .int .i64 i ∧ sv = .int .i64 k ∧ i ≤ L.length ∧ k ≤ 100000 ∧ Hid (k = lenC (L.take i)) ∧ Hid (w = wr)) (fun _ iv _ => L.length - (RowKit.intOf iv).toNat)
 case atStart => exact ⟨0, 0, rfl, rfl, Nat.zero_le _, Nat.zero_le _, Lib.hid rfl, Lib.hid rfl⟩
 case round =>
  obtain ⟨i, k, rfl, rfl, hii, hk1, HK, HW⟩ := hrel
  obtain rfl := HW.out
  clear HW
  by_cases hlt : i < L.length
  ·have hlt' : (i : Int) < (L.length : Int) := by omega
   obtain ⟨gu, rfl, hce⟩ := HC.out i hlt
   obtain ⟨a1, c1, e1, -⟩ := own_form (HR.out _ (List.getElem_mem hlt))
   have e1' : L[i].1 = .slice a1 L[i].2.length c1 := e1
   rw [e1'] at hce
   have HN := Lib.hid (show k + L[i].2.length = lenC (L.take (i + 1)) from by rw [HK.out]; unfold lenC; rw [flC_take hlt, List.length_append])
   have hkn : k + L[i].2.length ≤ 100000 := by rw [HN.out]; exact Nat.le_trans (flC_le _) hlen
   clear e1 e1'
   generalize L[i].2.length = m at *
   have hnn : ¬ ((k : Int) + (m : Int) < 0) := by omega
   go_wp2
   go_roundw
   case rel => exact ⟨i + 1, k + m, by go_num, by go_num, by omega, hkn, HN, by first | exact Lib.hid rfl | exact Lib.hid trivial⟩
   case measure => simp [RowKit.intOf]; omega
  ·have hge : ¬ ((i : Int) < (L.length : Int)) := by omega
   have HG := Lib.hid (fun (w' : World) => growc_any k (by omega) w')
   go_upto_region 9 with fail
   go_wp2_with fail
   go_at_call 80; refine (HG.out _).mono ?_; rintro e1 w1 ⟨v1, rfl, hown1, f1⟩
   have HF1 := Lib.hid f1
   have HO1 := Lib.hid hown1
   clear hown1 f1 HG hlt hge HK
   go_upto_region 11 with fail
   go_loopw [6, 27] (fun ov iv wr => ∃ (i : Nat) (ps : List (Ch × AC)), iv = .int .i64 i ∧ i ≤ L.length ∧ wr.ownsRow w.heap.size 30 10 ov ps.length (LC.cs ps) ∧ Hid (ps = flC (L.take i)) ∧ Hid (Fuw w wr)) (fun _ iv _ => L.length - (RowKit.intOf iv).toNat)
   case atStart => exact ⟨0, [], rfl, Nat.zero_le _, HO1.out, Lib.hid rfl, HF1⟩
   case round =>
    obtain ⟨j, ps, rfl, hjj, hown, HP, HF⟩ := hrel
    obtain ⟨ov, rfl⟩ : ∃ z, z = u6 := ⟨u6, rfl⟩
    generalize wr = wo at *
    have hps : ps.length ≤ 100000 := by rw [HP.out]; exact Nat.le_trans (flC_le j) hlen
    by_cases hjt : j < L.length
    ·have hjt' : (j : Int) < (L.length : Int) := by omega
     obtain ⟨gu, rfl, hce⟩ := HC.out j hjt
     have hro := own_on (HR.out _ (List.getElem_mem hjt)) HF.out
     have HPN := Lib.hid (show ps ++ L[j].2 = flC (L.take (j + 1)) from by rw [flC_take hjt, ← HP.out])
     have hpn : ps.length + L[j].2.length ≤ 100000 := by
      rw [← List.length_append, HPN.out]; exact Nat.le_trans (flC_le _) hlen
     have HOV := Lib.hid hown
     have HSZ := Lib.hid HF.out.size
     rcases hro.2 with ⟨ev, h0⟩ | ⟨gq, cq, cur, ev, hb, -⟩
     ·have ev' : L[j].1 = .slice none 0 0 := ev
      have h0' : L[j].2 = [] := List.eq_nil_of_length_eq_zero h0
      rw [ev'] at hce
      have c0 := cellOnw HF.out hce
      rw [h0', List.append_nil] at HPN
      clear hce hro ev ev' h0 h0' hown hpn
      go_wp2_with (at_builtin; refine wpList_append_own_none rfl (.tmp 31) (.tmp 32) 32 rfl w.heap.size 30 i0 10 Tryz.underlying32 hi0 ov ps.length _ rfl HOV.out rfl ?_)
      go_wp2
      go_roundw
      case rel => exact ⟨j + 1, ps, by go_num, by omega, HOV.out, HPN, HF⟩
      case measure => simp [RowKit.intOf]; omega
     ·have ev' : L[j].1 = .slice (some ⟨gq, 0, none⟩) L[j].2.length cq := ev
      rw [ev'] at hce
      have c0 := cellOnw HF.out hce
      have HCS := Lib.hid (show ∀ t u, (LC.cs L[j].2)[t]? = some u → wo.cell? ((⟨gq, 0, none⟩ : Addr).add t) = some u from World.ownsRow.cells hro (by show L[j].1.ownBlock = some gq; rw [ev']; rfl))
      clear hce hro ev ev' hown hb
      generalize L[j].2 = qs at *
      go_wp2_with (at_builtin; refine wpList_append_own _ rfl (.tmp 31) (.tmp 32) 32 rfl w.heap.size 30 i0 _ 10 112 Tryz.underlying32 hi0 hz0 hz1 hz2 rfl (by decide) ov ps.length _ rfl HOV.out ⟨gq, 0, none⟩ qs.length cq (LC.cs qs) rfl (LC.cs_len qs) HCS.out (one_Cs qs) (by unfold maxLen; omega) (by omega) HSZ.out ?_)
      intro v' w3 hown hgrow hnil
      have HO3 := Lib.hid (show w3.ownsRow w.heap.size 30 10 v' (ps ++ qs).length (LC.cs (ps ++ qs)) from row_app (w := w) (v := v') hown)
      have HF3 := Lib.hid (show Fuw w w3 from Below.grown HF.out hgrow HF.out.size (fun k hk => (World.ownsRow.lt HOV.out k hk).1))
      clear hown hgrow hnil c0
      go_wp2
      go_roundw
      case rel => exact ⟨j + 1, ps ++ qs, by go_num, by omega, HO3.out, HPN, HF3⟩
      case measure => simp [RowKit.intOf]; omega
    ·have hge : ¬ ((j : Int) < (L.length : Int)) := by omega
     have HEND := Lib.hid (show ps = flC L from by rw [HP.out, List.take_of_length_le (by omega)])
     have HO := Lib.hid hown
     clear hown
     go_wp2
     go_ret
     exact ⟨ov, ps, rfl, by rw [HEND.out], by rw [HEND.out]; exact HOK.out, HO.out, HF.out⟩
end Go.Proofs.YtpamdlkagmlahaaGreatDoor

namespace Go.Proofs.YtpamdlkagmlahaaGreatDoor
open Go.RowKit
theorem g_ret2 {fn : Func} {p u : Tmp} (hres : fn.results = #[.cell p 25, .tmp u]) {tmps : Array Value} {B : Nat} {an ae : Option Addr} {ln le cn ce : Nat} {x y : Int} {n : Value} {w : World} {t : TypeId} {Q : Ending → World → Prop}
  (hp : tmps.getD p undef = .pointer (some ⟨B, 0, none⟩)) (hu : tmps.getD u undef = n) (h : Bk w B #[.slice an ln cn, .slice ae le ce, .int .i64 x, .int .i64 y] t)
  (hQ : Q (.returned (.tuple #[.agg #[.slice an ln cn, .slice ae le ce, .int .i64 x, .int .i64 y], n])) w) : bodyPost Tryz.prog fn Q Exit.ret { tmps := tmps, defers := [] } w := by
 refine bodyPost_ret (v := .tuple #[.agg #[.slice an ln cn, .slice ae le ce, .int .i64 x, .int .i64 y], n]) ?_ rfl hQ
 have e : (asAddr (.pointer (some ⟨B, 0, none⟩))).run Tryz.prog w = .ok ⟨B, 0, none⟩ w := by go_simp
 rw [results_cell_tmp hres, hp, hu, e]
 simp only [Result.andThen]
 rw [load_gr w B an ae ln le cn ce x y (h.c 0) (h.c 1) (h.c 2) (h.c 3)]
theorem slC_one {w0 w : World} {B : Nat} {c : Ch} {a : Option Addr} {k : Nat} {t : TypeId} (h : Bk w B (chC c a k) t) (hi : ChIn w0 c a k) (hf : Fuw w0 w) : Sl 10 (CCz w0) w (some ⟨B, 0, none⟩) [c] 1 :=
 ⟨Nat.le_refl _, by unfold maxLen; decide, (fun e => by cases e), fun _ => ⟨B, 0, rfl, fun i hi' => by
  have e : i = 0 := by simp at hi'; omega
  subst e
  exact ⟨a, k, hi, hi.on hf, h.c 0, h.c 1, h.c 2, h.c 3, h.c 4, h.c 5, h.c 6, h.c 7, h.c 8, h.c 9⟩⟩⟩
def RetA2 (w : World) (g : Gr) (c : Ch) (e : Ending) (w' : World) : Prop := ∃ (G : Gp) (base : Nat), e = .returned (.tuple #[.agg #[G.vn, G.ve, .int .i64 G.nn, .int .i64 G.ne], .int .i64 (appE g [c]).2]) ∧ G.gr = appG g [c] ∧ GOwn w w' base G ∧ w.heap.size < base ∧ Fuw w w'
set_option maxHeartbeats 3200000 in
set_option maxRecDepth 100000 in
theorem apply_own (g : Gr) (an ae : Option Addr) (cn ce : Nat) (c : Ch) (a : Option Addr) (k : Nat) (w : World) (hg : GIn w g an ae cn ce) (hi : ChIn w c a k) :
  Calls Tryz.prog 7 #[grv g an ae cn ce, .agg (chC c a k)] w (RetA2 w g c) := by
 obtain ⟨W, hW⟩ : ∃ W, W = ((w.alloc (.cells #[.slice an g.ns.length cn, .slice ae g.es.length ce, .int .i64 g.nn, .int .i64 g.ne] 25)).alloc (.cells (chC c a k) 30)).alloc (.cells #[.slice none 0 0, .slice none 0 0, .int .i64 0, .int .i64 0] 25) := ⟨_, rfl⟩
 have fW : Fuw w W := by rw [hW]; exact ((fuwA _ _).trans (fuwA _ _)).trans (fuwA _ _)
 have HBW := Lib.hid (show Bk W w.heap.size #[.slice an g.ns.length cn, .slice ae g.es.length ce, .int .i64 g.nn, .int .i64 g.ne] 25 from by rw [hW]; exact (Bk.new w _ _).on ((fuwA _ _).trans (fuwA _ _)))
 have HCW := Lib.hid (show Bk W (w.heap.size + 1) (chC c a k) 30 from by
  rw [hW]
  have := Bk.new (w.alloc (.cells #[.slice an g.ns.length cn, .slice ae g.es.length ce, .int .i64 g.nn, .int .i64 g.ne] 25)) (chC c a k) 30
  exact Bk.on (by simpa using this) (fuwA _ _))
 have HZW := Lib.hid (show Bk W (w.heap.size + 1 + 1) #[.slice none 0 0, .slice none 0 0, .int .i64 0, .int .i64 0] 25 from by
  rw [hW]
  have := Bk.new ((w.alloc (.cells #[.slice an g.ns.length cn, .slice ae g.es.length ce, .int .i64 g.nn, .int .i64 g.ne] 25)).alloc (.cells (chC c a k) 30)) #[.slice none 0 0, .slice none 0 0, .int .i64 0, .int .i64 0] 25
  simpa using this)
 obtain ⟨V, hV⟩ : ∃ V, V = W.alloc (.cells (chC c a k) 30) := ⟨_, rfl⟩
 have fV : Fuw W V := by rw [hV]; exact fuwA _ _
 have HV := Lib.hid (show Calls Tryz.prog 19 #[grv g an ae cn ce, .slice (some ⟨W.heap.size, 0, none⟩) 1 1] V (RetAp w V g [c]) from
  applyall_any g an ae cn ce [c] (some ⟨W.heap.size, 0, none⟩) 1 w V hg (slC_one (by rw [hV]; exact Bk.new _ _ _) hi (fW.trans fV)) (fW.trans fV))
 have c0 := HBW.out.c 0; have c1 := HBW.out.c 1; have c2 := HBW.out.c 2; have c3 := HBW.out.c 3
 have d0 := HCW.out.c 0; have d1 := HCW.out.c 1; have d2 := HCW.out.c 2; have d3 := HCW.out.c 3; have d4 := HCW.out.c 4; have d5 := HCW.out.c 5; have d6 := HCW.out.c 6; have d7 := HCW.out.c 7; have d8 := HCW.out.c 8; have d9 := HCW.out.c 9
 have HFV := Lib.hid (fW.trans fV)
 have HZV := Lib.hid (HZW.out.on fV)
 have HWZ := Lib.hid (show w.heap.size + 1 + 1 < W.heap.size from by rw [hW]; simp)
 unfold chC at hW d0 d1 d2 d3 d4 d5 d6 d7 d8 d9 hV
 have HVV := Lib.hid hV
 unfold RetAp at HV
 unfold RetA2 chC grv
 generalize appG g [c] = T at *
 generalize appE g [c] = R at *
 rw [hV] at HV
 have HVS := Lib.hid (show V.heap.size = W.heap.size + 1 from by rw [hV]; simp)
 clear fW fV hg hi hV
 go_enter Tryz.func7, Tryz.ntmps7
 go_upto_region 1 with fail
 rw [← hW]
 clear hW
 go_wp2_with fail
 go_at_call 19; refine HV.out.mono ?_; rintro e1 w1 ⟨⟨vn, ve, ns, es, nn, ne, xs⟩, base, rfl, hgr, hown, hb, f1⟩
 obtain ⟨a1, k1, e1, -⟩ := hown.sln
 have e1' : vn = .slice a1 ns.length k1 := e1
 obtain ⟨a2, k2, e2, -⟩ := hown.sle
 have e2' : ve = .slice a2 es.length k2 := e2
 subst e1' e2'
 have HF1 := Lib.hid (show Fuw w w1 from HFV.out.trans (by rw [HVV.out]; exact f1))
 have HZ1 := Lib.hid (show Bk w1 (w.heap.size + 1 + 1) #[.slice none 0 0, .slice none 0 0, .int .i64 0, .int .i64 0] 25 from HZV.out.on (by rw [HVV.out]; exact f1))
 have HOW := Lib.hid hown
 have HGR := Lib.hid hgr
 have HBS := Lib.hid (show W.heap.size < base from by have h1 := HVS.out; rw [HVV.out] at h1; omega)
 clear hown hgr hb f1 c0 c1 c2 c3 d0 d1 d2 d3 d4 d5 d6 d7 d8 d9 HV e1 e2
 obtain ⟨X, hX⟩ : ∃ X, X = w1.alloc (.cells #[.slice a1 ns.length k1, .slice a2 es.length k2, .int .i64 nn, .int .i64 ne] 25) := ⟨_, rfl⟩
 have fX : Fuw w1 X := by rw [hX]; exact fuwA _ _
 have bX : Bk X w1.heap.size #[.slice a1 ns.length k1, .slice a2 es.length k2, .int .i64 nn, .int .i64 ne] 25 := by rw [hX]; exact Bk.new _ _ _
 go_upto_region 2 with fail
 rw [← hX]
 have z0 := (HZ1.out.on fX).c 0; have z1 := (HZ1.out.on fX).c 1; have z2 := (HZ1.out.on fX).c 2; have z3 := (HZ1.out.on fX).c 3
 have f0 := (HZ1.out.on fX).f 0; have f1 := (HZ1.out.on fX).f 1; have f2 := (HZ1.out.on fX).f 2; have f3 := (HZ1.out.on fX).f 3
 have b0 := bX.c 0; have b1 := bX.c 1; have b2 := bX.c 2; have b3 := bX.c 3
 have HFX := Lib.hid fX
 have HZX := Lib.hid (HZ1.out.on fX)
 clear hX fX bX
 go_wp2
 refine g_ret2 rfl rfl rfl ((((HZX.out.set_ 0 _).set_ 1 _).set_ 2 _).set_ 3 _) ?_
 have hlt : w.heap.size + 1 + 1 < base := Nat.lt_trans HWZ.out HBS.out
 have hB : w.heap.size + 1 + 1 ∉ blks (⟨.slice a1 ns.length k1, .slice a2 es.length k2, ns, es, nn, ne, xs⟩ : Gp).rows := fun hm => by have := (HOW.out.rows.shut hm).1; omega
 have hw0 : w.heap.size ≤ w.heap.size + 1 + 1 := by omega
 have q := HOW.out.later HFX.out
 have q4 := (((q.far' hB hw0 (j := 0) (u := .slice a1 ns.length k1)).far' hB hw0 (j := 1) (u := .slice a2 es.length k2)).far' hB hw0 (j := 2) (u := .int .i64 nn)).far' hB hw0 (j := 3) (u := .int .i64 ne)
 exact ⟨⟨.slice a1 ns.length k1, .slice a2 es.length k2, ns, es, nn, ne, xs⟩, base, rfl, HGR.out, q4, by omega, fuwS (fuwS (fuwS (fuwS (HF1.out.trans HFX.out) hw0) hw0) hw0) hw0⟩
def RetA1 (w : World) (g : Gr) (c : Ch) (e : Ending) (w' : World) : Prop := ∃ an ae cn ce, e = .returned (.tuple #[grv (appG g [c]) an ae cn ce, .int .i64 (appE g [c]).2]) ∧ GIn w' (appG g [c]) an ae cn ce ∧ Fuw w w'
theorem apply_any (g : Gr) (an ae : Option Addr) (cn ce : Nat) (c : Ch) (a : Option Addr) (k : Nat) (w : World) (hg : GIn w g an ae cn ce) (hi : ChIn w c a k) :
  Calls Tryz.prog 7 #[grv g an ae cn ce, .agg (chC c a k)] w (RetA1 w g c) := by
 refine (apply_own g an ae cn ce c a k w hg hi).mono ?_
 rintro e w' ⟨G, base, rfl, hgr, hown, -, hf⟩
 obtain ⟨bn, be, dn, de, e1, e2, hin⟩ := hown.gin
 rw [hgr] at hin
 have hl1 : (appG g [c]).ns.length = G.ns.length := by rw [← hgr]; unfold Gp.gr; simp
 have hl2 : (appG g [c]).es.length = G.es.length := by rw [← hgr]; unfold Gp.gr; simp
 have hx1 : (appG g [c]).nn = G.nn := by rw [← hgr]; rfl
 have hx2 : (appG g [c]).ne = G.ne := by rw [← hgr]; rfl
 exact ⟨bn, be, dn, de, by unfold grv; rw [e1, e2, hl1, hl2, hx1, hx2], hin, hf⟩
end Go.Proofs.YtpamdlkagmlahaaGreatDoor

namespace Go.Proofs.YtpamdlkagmlahaaGreatDoor
open Go.RowKit
def coreG (G : Gp) : List Rw := rowN G.vn G.ns :: rowE G.ve G.es :: (G.ns.flatMap Np.rows ++ G.es.flatMap Ep.rows)
theorem rowsX (G : Gp) (xs : List Rw) : ({ G with xs := xs } : Gp).rows.Perm (xs ++ coreG G) := by
 have e : ({ G with xs := xs } : Gp).rows = coreG G ++ xs := by
  unfold Gp.rows coreG inR
  simp
 rw [e]
 exact List.perm_append_comm
theorem GBox.rx {w0 w : World} {base B : Nat} {G : Gp} (h : GBox w0 w base B G) : Rows w base (G.xs ++ coreG G) := h.own.rows.perm (rowsX G G.xs)
theorem GBox.reX {w0 w w' : World} {base B : Nat} {G : Gp} {xs : List Rw} (h : GBox w0 w base B G) (hr : Rows w' base (xs ++ coreG G)) (hb : Bk w' B #[G.vn, G.ve, .int .i64 G.nn, .int .i64 G.ne] 25) (hfar : ∀ r ∈ xs, r.v.ownBlock ≠ some B) (hf : Fuw w0 w') : GBox w0 w' base B { G with xs := xs } := by
 refine ⟨⟨hr.perm (rowsX G xs).symm, h.own.no, h.own.eo, h.own.i1, h.own.i2, hf, h.own.lo⟩, hb, fun hm => ?_, h.hi⟩
 obtain ⟨r, hr', hk⟩ := blks_mem.1 ((blks_perm (rowsX G xs)).mem_iff.1 hm)
 rcases List.mem_append.1 hr' with e | e
 ·exact hfar r e hk
 ·refine h.far (blks_mem.2 ⟨r, ?_, hk⟩)
  have := (rowsX G G.xs).mem_iff.2 (List.mem_append.2 (.inr e))
  exact this
theorem GBox.farX {w0 w : World} {base B : Nat} {G : Gp} (h : GBox w0 w base B G) {r : Rw} (hr : r ∈ G.xs) : r.v.ownBlock ≠ some B := fun e => h.far (blks_mem.2 ⟨r, List.mem_cons_of_mem _ (List.mem_cons_of_mem _ (mem_rowsX hr)), e⟩)
theorem GBox.ownX {w0 w : World} {base B : Nat} {G : Gp} (h : GBox w0 w base B G) {r : Rw} (hr : r ∈ G.xs) : r.Own w base := h.own.rows.own _ (List.mem_cons_of_mem _ (List.mem_cons_of_mem _ (mem_rowsX hr)))
theorem GBox.addX {w0 w w1 : World} {base B b1 : Nat} {G : Gp} (h : GBox w0 w base B G) {r : Rw} (hf : Fuw w w1) (ho : r.Own w1 b1) (hb1 : w.heap.size ≤ b1) : GBox w0 w1 base B { G with xs := r :: G.xs } := by
 have hbs : base ≤ w.heap.size := h.hb
 refine h.reX (h.rx.more hf (own_low ho (by omega)) (fun k hk => Nat.le_trans hb1 (World.ownsRow.lt ho k hk).1)) (h.box.on hf) (fun q hq e => ?_) (h.own.fu.trans hf)
 rcases List.mem_cons.1 hq with rfl | hq
 ·have h1 := (World.ownsRow.lt ho B e).1
  have h2 := h.box.lt
  omega
 ·exact h.farX hq e
theorem GBox.putX {w0 w : World} {base B g n cap j : Nat} {G : Gp} {r : Rw} {X Y : List Rw} {u : Value} (h : GBox w0 w base B G) (hx : G.xs.Perm (r :: X)) (hv : r.v = .slice (some ⟨g, 0, none⟩) n cap) (hn : r.n = n) (hY : (⟨r.e, r.s, r.v, r.n, r.xs.set j u⟩ :: X).Perm Y) :
  GBox w0 (w.setCell ⟨g, j, none⟩ u) base B { G with xs := Y } := by
 have hr : Rows w base (r :: (X ++ coreG G)) := h.rx.perm (hx.append_right _)
 have hp := Rows.put (j := j) (u := u) hr hv hn
 have hmem : ∀ q ∈ r :: X, q ∈ G.xs := fun q hq => hx.mem_iff.2 hq
 have hgb : base ≤ g := (hr.own r (List.mem_cons_self ..)).lt g (by rw [hv]; rfl) |>.1
 have hne : B ≠ g := fun e => h.farX (hmem r (List.mem_cons_self ..)) (by rw [hv, e]; rfl)
 refine h.reX ((hp.perm (List.Perm.append_right _ hY))) (h.box.far hne u) (fun q hq e => ?_) (fuwS h.own.fu (Nat.le_trans h.own.lo hgb))
 rcases List.mem_cons.1 (hY.mem_iff.2 hq) with rfl | hq
 ·exact h.farX (hmem r (List.mem_cons_self ..)) e
 ·exact h.farX (hmem q (List.mem_cons_of_mem _ hq)) e
def hdU (n i : Nat) (Ls : List HdC) : List Value := List.replicate (n - i) (.slice none 0 0) ++ Ls.map Prod.fst
def rowU (g n i : Nat) (Ls : List HdC) : Rw := ⟨32, 1, .slice (some ⟨g, 0, none⟩) n n, n, hdU n i Ls⟩
def xsU (g n i : Nat) (Ls : List HdC) : List Rw := rowU g n i Ls :: Ls.map fun p => rowC p.1 p.2
theorem hdU_set {n i : Nat} {Ls : List HdC} (hi : i < n) (v : Value) (ps : List (Ch × AC)) : (hdU n i Ls).set (n - 1 - i) v = hdU n (i + 1) ((v, ps) :: Ls) := by
 unfold hdU
 obtain ⟨m, hm⟩ : ∃ m, n - i = m + 1 := ⟨n - i - 1, by omega⟩
 rw [hm, show n - 1 - i = m by omega, show n - (i + 1) = m by omega, List.replicate_succ', List.append_assoc]
 have e : m = (List.replicate m (Value.slice none 0 0)).length := by rw [List.length_replicate]
 conv => lhs; rw [List.set_append_right _ _ (by rw [List.length_replicate]; exact Nat.le_refl _)]
 rw [List.length_replicate, Nat.sub_self]
 rfl
theorem hdU_get {n i : Nat} {Ls : List HdC} (hi : i = n) (j : Nat) (hj : j < Ls.length) : (hdU n i Ls)[j]? = some Ls[j].1 := by
 unfold hdU
 rw [hi, Nat.sub_self, List.replicate_zero, List.nil_append, List.getElem?_map, List.getElem?_eq_getElem hj]
 rfl
def invAll : Gr → List Ch → List Ch
 | _, [] => []
 | g, c :: r => invAll (stpG g c) r ++ invC g c
def invR (g : Gr) (l : List Ch) : List Ch := if (appE g l).2 = 0 then invAll g l else []
def RetIv (w0 w : World) (g : Gr) (l : List Ch) (e : Ending) (w' : World) : Prop := ∃ (v : Value) (ps : List (Ch × AC)), e = .returned (.tuple #[v, .int .i64 ((appE g l).1 : Int), .int .i64 (appE g l).2]) ∧ ps.map Prod.fst = invR g l ∧ Cok w0 ps ∧ (rowC v ps).Own w' w.heap.size ∧ Fuw w w'
theorem invC_len {g : Gr} (h : Fine g) (c : Ch) : (invC g c).length ≤ 25 := by
 obtain ⟨h1, h2, -⟩ := fine_nod h c.id
 obtain ⟨h3, -⟩ := fine_edg h c.id
 unfold invC rebN rebE setV
 split
 ·simp
 ·split
  ·simp only [List.length_cons, List.length_append, List.length_map]; omega
  ·split
   ·simp
   ·split
    ·simp
    ·split
     ·simp
     ·split
      ·simp
      ·split
       ·simp only [List.length_cons, List.length_map]; omega
       ·simp
theorem invAll_drop (g : Gr) (l : List Ch) (i : Nat) (h : i < l.length) : invAll g (l.drop i) = invAll (stpG g l[i]) (l.drop (i + 1)) ++ invC g l[i] := by
 rw [List.drop_eq_getElem_cons h]; rfl
end Go.Proofs.YtpamdlkagmlahaaGreatDoor
