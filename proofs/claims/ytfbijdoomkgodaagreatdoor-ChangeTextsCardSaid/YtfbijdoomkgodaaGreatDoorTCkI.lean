/-
  Package change: the changes that build a node again.
-/
import Derived.Test.YtfbijdoomkgodaaGreatDoorTK34
namespace Go.Proofs.YtfbijdoomkgodaaGreatDoor
open Go.RowKit

theorem lab_ok (id : Int) (hid : I64 id) (s : List UInt8) (hs : s.length ≤ maxLen) (w0 : World) : LC.I (labC id s) ∧ LC.J (labC id s) (none, 0) w0 :=
  ⟨⟨i64s (n := 3) (by decide) (by decide), hid, i64z, i64z, hs, nulV_in⟩, nulV_sl _⟩
set_option maxHeartbeats 6400000 in
set_option maxRecDepth 100000 in
theorem rebn_any (g : Gr) (an ae : Option Addr) (cn ce : Nat) (id : Int) (hid : I64 id) (w0 w : World) (hg : GIn w g an ae cn ce) (hv : Fine g) :
    Calls Tryz.prog 87 #[grv g an ae cn ce, .int .i64 id] w (RetRw w0 w (rebN g id)) := by
  obtain ⟨W, hW⟩ : ∃ W, W = w.alloc (.cells #[.slice an g.ns.length cn, .slice ae g.es.length ce, .int .i64 g.nn, .int .i64 g.ne] 25) := ⟨_, rfl⟩
  have fW : Fuw w W := by rw [hW]; exact fuwA _ _
  have bW : Bk W w.heap.size #[.slice an g.ns.length cn, .slice ae g.es.length ce, .int .i64 g.nn, .int .i64 g.ne] 25 := by rw [hW]; exact Bk.new _ _ _
  have HND := Lib.hid (lnode_any g an ae cn ce id W (hg.on fW))
  obtain ⟨hl8, hp16, hpl⟩ := fine_nod hv id
  have HPL := Lib.hid hpl
  unfold rebN
  unfold RetN at HND
  generalize (nodV g.ns id).isSome = sm at *
  generalize (nodV g.ns id).getD nilN = e at *
  have HFW := Lib.hid fW
  have HID := Lib.hid hid
  have c0 := bW.c 0; have c1 := bW.c 1; have c2 := bW.c 2; have c3 := bW.c 3
  obtain ⟨i0, hi0, hz0, hz1, hz2⟩ := info_parts infoC
  unfold grv ndv at *
  clear hg hv fW bW hpl hid
  go_enter Tryz.func87, Tryz.ntmps87
  go_upto_region 1 with fail
  rw [← hW]
  clear hW
  go_wp2_with fail
  go_at_call 88; refine HND.out.mono ?_; rintro e1 w1 ⟨al, ap, cl, cp, rfl, hin, f1⟩
  have HIN := Lib.hid hin
  have HF1 := Lib.hid (HFW.out.trans f1)
  clear hin f1 c0 c1 c2 c3 HND
  obtain ⟨V, hV⟩ : ∃ V, V = w1.alloc (.cells #[.int .i64 e.id, .slice al e.ls.length cl, .slice ap e.ps.length cp] 56) := ⟨_, rfl⟩
  have fV : Fuw w1 V := by rw [hV]; exact fuwA _ _
  have bV : Bk V w1.heap.size #[.int .i64 e.id, .slice al e.ls.length cl, .slice ap e.ps.length cp] 56 := by rw [hV]; exact Bk.new _ _ _
  go_upto_region 2 with fail
  rw [← hV]
  clear hV
  obtain ⟨X, hX⟩ : ∃ X, X = V.alloc (.cells (chC ⟨1, id, 0, 0, [], nulV⟩ none 0) 30) := ⟨_, rfl⟩
  have fX : Fuw V X := by rw [hX]; exact fuwA _ _
  have HRX := Lib.hid (show X.ownsRow V.heap.size 30 10 (.slice (some ⟨V.heap.size, 0, none⟩) 1 1) 1 (LC.cs [(⟨1, id, 0, 0, [], nulV⟩, (none, 0))]) from by
    have q : (rowC (.slice (some ⟨V.heap.size, 0, none⟩) 1 1) [(⟨1, id, 0, 0, [], nulV⟩, (none, 0))]).Own X V.heap.size := by
      rw [hX]; exact lit_C V _ none 0 (Nat.le_refl _)
    exact q)
  have HFX := Lib.hid (HF1.out.trans fV)
  have HVX := Lib.hid fX
  have HBX := Lib.hid bV
  have HLS := Lib.hid (slS_on fV HIN.out.2.1)
  have HPS := Lib.hid (slP_on fV HIN.out.2.2)
  have HSA := Lib.hid (fun (w' : World) (hf : Fuw V w') => setall_any 5 id (i64s (by decide) (by decide)) HID.out e.ps ap cp w' w' (slP_on hf HPS.out) (Fuw.refl _) (by omega))
  have hX2 : X = V.alloc (.cells #[.int .i64 1, .int .i64 id, .int .i64 0, .int .i64 0, .string ⟨#[]⟩, .int .i64 0, .int .i64 0, .int .i64 0, .string ⟨#[]⟩, .slice none 0 0] 30) := hX
  clear fX fV bV hX
  go_upto_region 3 with fail
  rw [← hX2]
  clear hX2
  have d1 := (HBX.out.on HVX.out).c 1
  go_upto_region 4 with fail
  clear d1
  go_loopw [7, 22] (fun ov iv wr => ∃ (i : Nat) (ps : List (Ch × AC)), iv = .int .i64 i ∧ i ≤ e.ls.length ∧ wr.ownsRow V.heap.size 30 10 ov ps.length (LC.cs ps) ∧ Hid (ps.map Prod.fst = ⟨1, id, 0, 0, [], nulV⟩ :: (e.ls.take i).map (labC id)) ∧ Hid (Cok w0 ps) ∧ Hid (Fuw V wr)) (fun _ iv _ => e.ls.length - (RowKit.intOf iv).toNat)
  case atStart =>
    refine ⟨0, [(⟨1, id, 0, 0, [], nulV⟩, (none, 0))], rfl, Nat.zero_le _, HRX.out, Lib.hid rfl, Lib.hid (fun p hp => ?_), HVX⟩
    rw [List.mem_singleton] at hp
    subst hp
    exact ⟨⟨i64s (n := 1) (by decide) (by decide), HID.out, i64z, i64z, Nat.zero_le _, nulV_in⟩, nulV_sl _⟩
  case round =>
    obtain ⟨i, ps, rfl, hii, hown, HT, HK, HF⟩ := hrel
    obtain ⟨ov, rfl⟩ : ∃ z, z = u7 := ⟨u7, rfl⟩
    generalize wr = wo at *
    have hps : ps.length ≤ 9 := by
      have := congrArg List.length HT.out
      rw [List.length_map, List.length_cons, List.length_map, List.length_take] at this
      omega
    have HWB := Lib.hid (show V.heap.size ≤ wo.heap.size from HF.out.size)
    by_cases hlt : i < e.ls.length
    · have hlt' : (i : Int) < (e.ls.length : Int) := by omega
      obtain ⟨b, o, hal, k0, q0⟩ := HLS.out.get hlt
      subst hal
      have c0 := cellOnw HF.out q0
      rw [Nat.mul_one] at c0
      have HT2 := Lib.hid (show ∀ m : AC, (ps ++ [(labC id e.ls[i], m)]).map Prod.fst = ⟨1, id, 0, 0, [], nulV⟩ :: (e.ls.take (i + 1)).map (labC id) from fun m => by
        rw [List.map_append, HT.out, List.take_succ_eq_append_getElem hlt, List.map_append]; rfl)
      have HLO := Lib.hid (lab_ok id HID.out e.ls[i] k0 w0)
      clear q0 k0
      generalize e.ls[i] = s at *
      have fA := fuwA wo (.cells (chC (labC id s) none 0) 30)
      have HO := Lib.hid (own_on hown fA)
      have HNW := Lib.hid (news_C (Bk.new wo (chC (labC id s) none 0) 30))
      have HFA := Lib.hid (HF.out.trans fA)
      have HWA := Lib.hid (show V.heap.size ≤ (wo.alloc (.cells (chC (labC id s) none 0) 30)).heap.size from Nat.le_trans HWB.out fA.size)
      have e1 : chC (labC id s) none 0 = #[.int .i64 3, .int .i64 id, .int .i64 0, .int .i64 0, .string (bs s), .int .i64 0, .int .i64 0, .int .i64 0, .string ⟨#[]⟩, .slice none 0 0] := rfl
      rw [e1] at HO HNW HFA HWA
      clear fA hown e1
      go_wp2_with (at_builtin; refine wpList_append_own _ rfl (.tmp 26) (.tmp 30) 32 rfl V.heap.size 30 i0 _ 10 112 Tryz.underlying32 hi0 hz0 hz1 hz2 rfl (by decide) ov ps.length (LC.cs ps) rfl HO.out ⟨wo.heap.size, 0, none⟩ 1 1 (LC.C (labC id s) (none, 0)) rfl rfl HNW.out (one_C _ _) (by unfold maxLen; omega) (by omega) HWA.out ?_)
      intro v' w2 hown hgrow hnil
      have HB := Lib.hid (fun k (hk : ov.ownBlock = some k) => (World.ownsRow.lt HO.out k hk).1)
      have HO2 := Lib.hid (show w2.ownsRow V.heap.size 30 10 v' (ps ++ [(labC id s, ((none, 0) : AC))]).length (LC.cs (ps ++ [(labC id s, (none, 0))])) from by
        rw [LC.cs_app, LC.cs_one, List.length_append]; exact hown)
      have HF2 := Lib.hid (show Fuw V w2 from Below.grown HFA.out hgrow HWA.out (fun k hk => HB.out k hk))
      clear hown hgrow hnil HO HNW c0
      go_wp2
      go_roundw
      case rel => exact ⟨i + 1, _, by go_num, by omega, HO2.out, Lib.hid (HT2.out (none, 0)), Lib.hid (HK.out.snoc HLO.out.1 HLO.out.2), HF2⟩
      case measure => simp [RowKit.intOf]; omega
    · have hie : i = e.ls.length := by omega
      have HEND := Lib.hid (show ps.map Prod.fst = ⟨1, id, 0, 0, [], nulV⟩ :: e.ls.map (labC id) from by
        rw [HT.out, List.take_of_length_le (by omega)])
      have HO := Lib.hid hown
      have HSW := Lib.hid (HSA.out wo HF.out)
      obtain ⟨av, cv, qv, -⟩ := own_form (r := rowC ov ps) hown
      have qv' : ov = .slice av ps.length cv := qv
      subst qv'
      have d2 := (HBX.out.on HF.out).c 2
      clear hown hie HT HSA qv
      go_upto_region 8 with fail
      go_wp2_with fail
      go_at_call 133; refine HSW.out.mono ?_; rintro e2 w2 ⟨v2, qs, rfl, hm, hok, hown, f2⟩
      have hpl2 : qs.length ≤ 16 := by rw [← List.length_map (f := Prod.fst), hm]; unfold setV; rw [List.length_map]; exact hp16
      have HM := Lib.hid hm
      have HF2 := Lib.hid (HF.out.trans f2)
      have HRX2 := Lib.hid (show w2.ownsRow V.heap.size 30 10 (.slice av ps.length cv) ps.length (LC.cs ps) from own_on HO.out f2)
      have HOA := Lib.hid (show Cok w0 qs from hok.any (fst_ll hm (setV_ll HPL.out)))
      have HWV := Lib.hid (show Fuw w V from HFX.out)
      rcases hown.2 with ⟨ev, h0⟩ | ⟨gq, cq, cur, ev, hb, -⟩
      · have ev' : v2 = .slice none 0 0 := ev
        have h0' : qs = [] := List.eq_nil_of_length_eq_zero h0
        subst ev' h0'
        have HE := Lib.hid (show setV 5 id e.ps = [] from HM.out.symm)
        clear hm hok hown f2 ev h0 d2 HSW
        go_wp2_with (at_builtin; refine wpList_append_own_none rfl (.tmp 33) (.tmp 37) 32 rfl V.heap.size 30 i0 10 Tryz.underlying32 hi0 (.slice av ps.length cv) ps.length _ rfl HRX2.out rfl ?_)
        go_wp2
        go_ret
        exact ⟨_, ps, rfl, by rw [HE.out, List.append_nil]; exact HEND.out, HK.out, own_low (r := rowC (.slice av ps.length cv) ps) HRX2.out HWV.out.size, HWV.out.trans HF2.out⟩
      · have ev' : v2 = .slice (some ⟨gq, 0, none⟩) qs.length cq := ev
        subst ev'
        have HCS := Lib.hid (show ∀ j u, (LC.cs qs)[j]? = some u → w2.cell? ((⟨gq, 0, none⟩ : Addr).add j) = some u from World.ownsRow.cells hown rfl)
        have HSZ := Lib.hid HF2.out.size
        clear hm hok hown f2 ev d2 HSW hb
        go_wp2_with (at_builtin; refine wpList_append_own _ rfl (.tmp 33) (.tmp 37) 32 rfl V.heap.size 30 i0 _ 10 112 Tryz.underlying32 hi0 hz0 hz1 hz2 rfl (by decide) (.slice av ps.length cv) ps.length _ rfl HRX2.out ⟨gq, 0, none⟩ qs.length cq (LC.cs qs) rfl (LC.cs_len qs) HCS.out (one_Cs qs) (by unfold maxLen; omega) (by omega) HSZ.out ?_)
        intro v' w3 hown hgrow hnil
        have HO3 := Lib.hid (show (rowC v' (ps ++ qs)).Own w3 V.heap.size from row_app (w := w) (v := v') hown)
        have HF3 := Lib.hid (show Fuw V w3 from Below.grown HF2.out hgrow HF2.out.size (fun k hk => (World.ownsRow.lt HRX2.out k hk).1))
        clear hown hgrow hnil
        go_wp2
        go_ret
        exact ⟨v', ps ++ qs, rfl, by rw [List.map_append, HM.out, HEND.out]; rfl, HK.out.app HOA.out, own_low HO3.out HWV.out.size, HWV.out.trans HF3.out⟩
end Go.Proofs.YtfbijdoomkgodaaGreatDoor
