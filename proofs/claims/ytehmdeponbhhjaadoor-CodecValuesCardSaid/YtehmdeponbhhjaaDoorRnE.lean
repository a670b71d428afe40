/-
  The reference of package codec: the elements of a path, out of what each is. Nothing that was there turns.
-/
import Derived.Test.YtehmdeponbhhjaaDoorRnD
namespace Go.Proofs.YtehmdeponbhhjaaDoor
open Go.RowKit

set_option maxHeartbeats 12800000 in
set_option maxRecDepth 100000 in
theorem relems7 (ao : Option Addr) (l : List UInt8) (cap : Nat) (a lists : Int) (h0 : -9223372036854775808 ≤ a) (h1 : a ≤ 9223372036854775807) (hs0 : 0 ≤ lists) (hs1 : lists ≤ 100) (w : World) (h : IsB w ao l cap) (hl : l.length ≤ 1000000000000) (rv : Nat → Int → Rs)
    (HV : ∀ (i : Nat) (b : Int) (w' : World), i ≤ 100 → 0 ≤ b → b ≤ l.length → Fuw w w' → Calls Tryd.prog 15 #[.slice ao l.length cap, .int .i64 b, .int .i64 lists, .int .i64 (i : Int)] w' (RetG w' (rv i b)))
    (HB : ∀ (i : Nat) (b : Int) (x : Vl) (E : Int), 0 ≤ b → b ≤ l.length → rv i b = .ok x E → Vin x ∧ b ≤ E ∧ E ≤ l.length) :
    Calls Tryd.prog 47 #[.slice ao l.length cap, .int .i64 a, .int .i64 7, .int .i64 lists] w (RetC w (ofL 7 (seqG l bad7 rv a))) := by
  obtain ⟨n, E0, c, hu⟩ : ∃ u e c, uintV l a = (u, e, c) := ⟨_, _, _, rfl⟩
  have hok := uint_ok hu
  have HU := Lib.hid (fun w' (hf : Fuw w w') => ruint_is ao l cap a h0 h1 w' (h.on hf) hl n E0 c hu)
  unfold seqG
  rw [hu]
  simp only
  have HV' := Lib.hid HV
  have HB' := Lib.hid HB
  clear HV HB hu h0 h1 h hl
  by_cases hc : c = 0
  case neg =>
    rw [if_pos hc]
    have hcb : (c != 0) = true := by rw [bne_iff_ne]; exact hc
    have HC := Lib.hid hc
    clear hok hc
    go_enter Tryd.func47, Tryd.ntmps47
    go_upto_region 2 with fail
    obtain ⟨W, hW⟩ : ∃ W, (w.alloc (.cells #[.int .i64 0, .int .i64 0, .int .i64 0, .string ⟨#[]⟩, .slice none 0 0] 26)).alloc (.cells #[.int .i64 7, .int .i64 0, .int .i64 0, .string ⟨#[]⟩, .slice none 0 0] 26) = W := ⟨_, rfl⟩
    obtain ⟨hR, hB, hF⟩ : W.heap[w.heap.size]? = some (.cells (vc v0 none 0) 26 (0, 0)) ∧ W.heap[w.heap.size + 1]? = some (.cells (vc (vk 7) none 0) 26 (0, 0)) ∧ Fuw w W := by rw [← hW]; exact two_box w 7
    rw [hW]
    clear hW
    have HF := Lib.hid hF
    have HR := Lib.hid (show W.heap[w.heap.size]? = some (.cells #[.int .i64 0, .int .i64 0, .int .i64 0, .string ⟨#[]⟩, .slice none 0 0] 26 (0, 0)) from hR)
    have HB := Lib.hid (show W.heap[w.heap.size + 1]? = some (.cells #[.int .i64 7, .int .i64 0, .int .i64 0, .string ⟨#[]⟩, .slice none 0 0] 26 (0, 0)) from hB)
    clear hF hR hB
    go_wp2_with fail
    go_at_call 68; refine (HU.out _ HF.out).mono ?_; rintro e1 w1 ⟨rfl, rfl⟩
    clear HU
    obtain ⟨x0, x1, x2, x3, x4, xf, xl⟩ := five_cells HB.out
    obtain ⟨y0, y1, y2, y3, y4, yf, yl⟩ := five_cells HR.out
    have yf0 := yf 0; have yf1 := yf 1; have yf2 := yf 2; have yf3 := yf 3; have yf4 := yf 4
    clear xf yf
    go_wp2
    try simp only [Exit.inBlock, Exit.then]
    exact vg_ret (x := vk 7) (B := w.heap.size) (cap := 0) (ao := none) rfl rfl rfl rfl (val_put' _ w.heap.size _ _ _ _ _ _ _ _ _ _ _ _ HR.out) ⟨fuw_put5 HF.out (Nat.le_refl _) _ _ _ _ _, vk 7, none, 0, 0, rfl, HC.out⟩
  subst hc
  rw [if_neg (fun t => t rfl)]
  have hb := hok.2.2.2.1 rfl
  have hn0 : 0 ≤ n := hok.1
  clear hok
  by_cases hbd : bad7 n = true
  case pos =>
    rw [if_pos hbd]
    have g1 : 25 < n ∨ (¬ 25 < n ∧ n % 2 = 0) := by
      unfold bad7 at hbd
      rw [Bool.or_eq_true, decide_eq_true_eq, beq_iff_eq] at hbd
      omega
    clear hbd hb
    rcases g1 with g1 | ⟨g1, g2⟩
    · go_enter Tryd.func47, Tryd.ntmps47
      go_upto_region 2 with fail
      obtain ⟨W, hW⟩ : ∃ W, (w.alloc (.cells #[.int .i64 0, .int .i64 0, .int .i64 0, .string ⟨#[]⟩, .slice none 0 0] 26)).alloc (.cells #[.int .i64 7, .int .i64 0, .int .i64 0, .string ⟨#[]⟩, .slice none 0 0] 26) = W := ⟨_, rfl⟩
      obtain ⟨hR, hB, hF⟩ : W.heap[w.heap.size]? = some (.cells (vc v0 none 0) 26 (0, 0)) ∧ W.heap[w.heap.size + 1]? = some (.cells (vc (vk 7) none 0) 26 (0, 0)) ∧ Fuw w W := by rw [← hW]; exact two_box w 7
      rw [hW]
      clear hW
      have HF := Lib.hid hF
      have HR := Lib.hid (show W.heap[w.heap.size]? = some (.cells #[.int .i64 0, .int .i64 0, .int .i64 0, .string ⟨#[]⟩, .slice none 0 0] 26 (0, 0)) from hR)
      have HB := Lib.hid (show W.heap[w.heap.size + 1]? = some (.cells #[.int .i64 7, .int .i64 0, .int .i64 0, .string ⟨#[]⟩, .slice none 0 0] 26 (0, 0)) from hB)
      clear hF hR hB
      go_wp2_with fail
      go_at_call 68; refine (HU.out _ HF.out).mono ?_; rintro e1 w1 ⟨rfl, rfl⟩
      clear HU
      obtain ⟨x0, x1, x2, x3, x4, xf, xl⟩ := five_cells HB.out
      obtain ⟨y0, y1, y2, y3, y4, yf, yl⟩ := five_cells HR.out
      have yf0 := yf 0; have yf1 := yf 1; have yf2 := yf 2; have yf3 := yf 3; have yf4 := yf 4
      clear xf yf
      go_wp2
      try simp only [Exit.inBlock, Exit.then]
      exact vg_ret (x := vk 7) (B := w.heap.size) (cap := 0) (ao := none) rfl rfl rfl rfl (val_put' _ w.heap.size _ _ _ _ _ _ _ _ _ _ _ _ HR.out) ⟨fuw_put5 HF.out (Nat.le_refl _) _ _ _ _ _, vk 7, none, 0, 0, rfl, by decide⟩
    · have g3 : (n % 2 == 0) = true := by rw [g2]; rfl
      clear g2
      go_enter Tryd.func47, Tryd.ntmps47
      go_upto_region 2 with fail
      obtain ⟨W, hW⟩ : ∃ W, (w.alloc (.cells #[.int .i64 0, .int .i64 0, .int .i64 0, .string ⟨#[]⟩, .slice none 0 0] 26)).alloc (.cells #[.int .i64 7, .int .i64 0, .int .i64 0, .string ⟨#[]⟩, .slice none 0 0] 26) = W := ⟨_, rfl⟩
      obtain ⟨hR, hB, hF⟩ : W.heap[w.heap.size]? = some (.cells (vc v0 none 0) 26 (0, 0)) ∧ W.heap[w.heap.size + 1]? = some (.cells (vc (vk 7) none 0) 26 (0, 0)) ∧ Fuw w W := by rw [← hW]; exact two_box w 7
      rw [hW]
      clear hW
      have HF := Lib.hid hF
      have HR := Lib.hid (show W.heap[w.heap.size]? = some (.cells #[.int .i64 0, .int .i64 0, .int .i64 0, .string ⟨#[]⟩, .slice none 0 0] 26 (0, 0)) from hR)
      have HB := Lib.hid (show W.heap[w.heap.size + 1]? = some (.cells #[.int .i64 7, .int .i64 0, .int .i64 0, .string ⟨#[]⟩, .slice none 0 0] 26 (0, 0)) from hB)
      clear hF hR hB
      go_wp2_with fail
      go_at_call 68; refine (HU.out _ HF.out).mono ?_; rintro e1 w1 ⟨rfl, rfl⟩
      clear HU
      obtain ⟨x0, x1, x2, x3, x4, xf, xl⟩ := five_cells HB.out
      obtain ⟨y0, y1, y2, y3, y4, yf, yl⟩ := five_cells HR.out
      have yf0 := yf 0; have yf1 := yf 1; have yf2 := yf 2; have yf3 := yf 3; have yf4 := yf 4
      clear xf yf
      go_wp2
      try simp only [Exit.inBlock, Exit.then]
      exact vg_ret (x := vk 7) (B := w.heap.size) (cap := 0) (ao := none) rfl rfl rfl rfl (val_put' _ w.heap.size _ _ _ _ _ _ _ _ _ _ _ _ HR.out) ⟨fuw_put5 HF.out (Nat.le_refl _) _ _ _ _ _, vk 7, none, 0, 0, rfl, by decide⟩
  rw [if_neg hbd]
  have g1 : ¬ 25 < n := by intro t; apply hbd; unfold bad7; rw [decide_eq_true t]; rfl
  have g2 : (n % 2 == 0) = false := by
    cases e : (n % 2 == 0) with
    | false => rfl
    | true => exfalso; apply hbd; unfold bad7; rw [e, Bool.or_true]
  clear hbd
  obtain ⟨m, rfl⟩ : ∃ m : Nat, n = (m : Int) := ⟨n.toNat, by omega⟩
  rw [Int.toNat_natCast]
  have hm : m ≤ 64 := by omega
  go_enter Tryd.func47, Tryd.ntmps47
  go_upto_region 2 with fail
  obtain ⟨W, hW⟩ : ∃ W, (w.alloc (.cells #[.int .i64 0, .int .i64 0, .int .i64 0, .string ⟨#[]⟩, .slice none 0 0] 26)).alloc (.cells #[.int .i64 7, .int .i64 0, .int .i64 0, .string ⟨#[]⟩, .slice none 0 0] 26) = W := ⟨_, rfl⟩
  obtain ⟨hR, hB, hF⟩ : W.heap[w.heap.size]? = some (.cells (vc v0 none 0) 26 (0, 0)) ∧ W.heap[w.heap.size + 1]? = some (.cells (vc (vk 7) none 0) 26 (0, 0)) ∧ Fuw w W := by rw [← hW]; exact two_box w 7
  rw [hW]
  clear hW
  have HF := Lib.hid hF
  have HR := Lib.hid (show W.heap[w.heap.size]? = some (.cells #[.int .i64 0, .int .i64 0, .int .i64 0, .string ⟨#[]⟩, .slice none 0 0] 26 (0, 0)) from hR)
  have HB := Lib.hid (show W.heap[w.heap.size + 1]? = some (.cells #[.int .i64 7, .int .i64 0, .int .i64 0, .string ⟨#[]⟩, .slice none 0 0] 26 (0, 0)) from hB)
  clear hF hR hB
  go_wp2_with fail
  go_at_call 68; refine (HU.out _ HF.out).mono ?_; rintro e1 w1 ⟨rfl, rfl⟩
  clear HU
  go_wp2
  go_loopw [15, 13] (fun iv ev wr => ∃ (i : Nat) (b : Int), iv = .int .i64 (i : Int) ∧ ev = .int .i64 b ∧ i ≤ m ∧ 0 ≤ b ∧ b ≤ l.length ∧ Hid (Fuw w wr) ∧ Hid (wr.heap[w.heap.size]? = some (.cells #[.int .i64 0, .int .i64 0, .int .i64 0, .string ⟨#[]⟩, .slice none 0 0] 26 (0, 0))) ∧ ∃ (hs : List H3) (aL : Option Addr) (cL : Nat), Hid (wr.heap[w.heap.size + 1]? = some (.cells #[.int .i64 7, .int .i64 0, .int .i64 0, .string ⟨#[]⟩, .slice aL i cL] 26 (0, 0))) ∧ Hid (Row (w.heap.size + 1) wr (.slice aL i cL) i hs) ∧ Hid (elsG rv m 0 E0 = appL (hs.map Prod.fst) (elsG rv (m - i) i b))) (fun iv _ _ => m - (RowKit.intOf iv).toNat)
  case atStart => exact ⟨0, E0, rfl, rfl, Nat.zero_le _, by omega, by omega, HF, HR, [], none, 0, HB, Lib.hid (row_nil _ _), Lib.hid (by rw [List.map_nil, appL_nil, Nat.sub_zero])⟩
  case round =>
    obtain ⟨i, b, rfl, rfl, hi, hb0, hb1, hf, HR, hs, aL, cL, HB, HRow, HE⟩ := hrel
    obtain ⟨x0, x1, x2, x3, x4, xf, xl⟩ := five_cells HB.out
    obtain ⟨y0, y1, y2, y3, y4, yf, yl⟩ := five_cells HR.out
    have yf0 := yf 0; have yf1 := yf 1; have yf2 := yf 2; have yf3 := yf 3; have yf4 := yf 4
    have xf4 := xf 4
    have HX := Lib.hid xl
    clear xf yf
    by_cases hlt : i < m
    · have hltI : (i : Int) < (m : Int) := by omega
      have hi0 : (0 : Int) ≤ i := by omega
      have hin : IntKind.i64.wrap (lists + 1) = lists + 1 := IntWalk.i64_in _ (by omega)
      obtain ⟨mi, hmi⟩ : ∃ mi, m - i = mi + 1 := ⟨m - i - 1, by omega⟩
      have HM := Lib.hid hmi
      have hcall := HV'.out i b wr (by omega) hb0 hb1 hf.out
      have hbnd := HB'.out i b
      cases hrv : rv i b with
      | er c2 =>
        have HE2 := Lib.hid (show elsG rv m 0 E0 = .er c2 by rw [HE.out, HM.out, elsG_er hrv]; rfl)
        rw [hrv] at hcall
        have HC := Lib.hid hcall
        clear hcall hbnd hrv hmi
        unfold RetG at HC
        simp only at HC
        go_wp2_with fail
        go_at_call 15; refine HC.out.mono ?_; rintro e2 w2 ⟨f2, he2, hc0⟩
        unfold vc v0 at he2
        subst he2
        have hcb : (c2 != 0) = true := by rw [bne_iff_ne]; exact hc0
        have HC0 := Lib.hid hc0
        have HR2 := Lib.hid (bz_on HR.out f2); have HB2 := Lib.hid (bz_on HB.out f2); have HF2 := Lib.hid (Fuw.trans hf.out f2)
        clear f2 hc0 x0 x1 x2 x3 x4 xl y0 y1 y2 y3 y4 yl yf0 yf1 yf2 yf3 yf4 xf4
        go_upto_region 16 with fail
        generalize hV : w2.alloc _ = V1
        have HR1 := Lib.hid (show V1.heap[w.heap.size]? = some (.cells #[.int .i64 0, .int .i64 0, .int .i64 0, .string ⟨#[]⟩, .slice none 0 0] 26 (0, 0)) from by rw [← hV]; exact bz_on HR2.out ((Fuw.refl w2).alloc _))
        have HB1 := Lib.hid (show V1.heap[w.heap.size + 1]? = some (.cells #[.int .i64 7, .int .i64 0, .int .i64 0, .string ⟨#[]⟩, .slice aL i cL] 26 (0, 0)) from by rw [← hV]; exact bz_on HB2.out ((Fuw.refl w2).alloc _))
        have HF1 := Lib.hid (show Fuw w V1 from by rw [← hV]; exact (HF2.out).alloc _)
        clear hV
        obtain ⟨x0, x1, x2, x3, x4, xf, xl⟩ := five_cells HB1.out
        obtain ⟨y0, y1, y2, y3, y4, yf, yl⟩ := five_cells HR1.out
        have yf0 := yf 0; have yf1 := yf 1; have yf2 := yf 2; have yf3 := yf 3; have yf4 := yf 4
        clear xf yf
        have HLN := Lib.hid (show (hs.map Prod.fst).length = i by rw [List.length_map]; exact HRow.out.2.1)
        go_wp2
        try simp only [Exit.inBlock, Exit.then]
        refine vg_ret (x := .mk 7 0 0 [] (hs.map Prod.fst)) (B := w.heap.size) (cap := cL) (ao := aL) rfl rfl rfl rfl ?_ ?_
        · unfold vc
          simp only [Vl.ll, HLN.out]
          exact val_put' _ w.heap.size _ _ _ _ _ _ _ _ _ _ _ _ HR1.out
        · rw [HE2.out]
          exact ⟨fuw_put5 HF1.out (Nat.le_refl _) _ _ _ _ _, .mk 7 0 0 [] (hs.map Prod.fst), aL, cL, 0, rfl, HC0.out⟩
      | ok x E =>
        obtain ⟨hx, hE1, hE2⟩ := hbnd x E hb0 hb1 hrv
        have HE2 := Lib.hid (show elsG rv m 0 E0 = appL (hs.map Prod.fst ++ [x]) (elsG rv mi (i + 1) E) by rw [HE.out, HM.out, elsG_ok hrv, appL_app])
        rw [hrv] at hcall
        have HC := Lib.hid hcall
        have HVX := Lib.hid hx
        clear hcall hbnd hrv hmi hx
        unfold RetG at HC
        simp only at HC
        go_wp2_with fail
        go_at_call 15; refine HC.out.mono ?_; rintro e2 w2 ⟨f2, a2, c2, he2, hkp⟩
        unfold vc at he2
        subst he2
        have HK := Lib.hid hkp
        have HR2 := Lib.hid (bz_on HR.out f2); have HB2 := Lib.hid (bz_on HB.out f2); have HF2 := Lib.hid (Fuw.trans hf.out f2)
        have hf2 := Lib.hid f2
        clear f2 hkp x0 x1 x2 x3 x4 xl y0 y1 y2 y3 y4 yl yf0 yf1 yf2 yf3 yf4 xf4
        go_upto_region 16 with fail
        obtain ⟨V1, hV⟩ : ∃ V, w2.alloc (.cells #[.int .i64 x.kd, .int .i64 x.nn, .int .i64 x.dd, .string (bs x.ss), .slice a2 x.ll.length c2] 26) = V := ⟨_, rfl⟩
        have HR1 := Lib.hid (show V1.heap[w.heap.size]? = some (.cells #[.int .i64 0, .int .i64 0, .int .i64 0, .string ⟨#[]⟩, .slice none 0 0] 26 (0, 0)) from by rw [← hV]; exact bz_on HR2.out ((Fuw.refl w2).alloc _))
        have HB1 := Lib.hid (show V1.heap[w.heap.size + 1]? = some (.cells #[.int .i64 7, .int .i64 0, .int .i64 0, .string ⟨#[]⟩, .slice aL i cL] 26 (0, 0)) from by rw [← hV]; exact bz_on HB2.out ((Fuw.refl w2).alloc _))
        have HX1 := Lib.hid (show V1.heap[w2.heap.size]? = some (.cells #[.int .i64 x.kd, .int .i64 x.nn, .int .i64 x.dd, .string (bs x.ss), .slice a2 x.ll.length c2] 26 (0, 0)) from by
          rw [← hV]
          show (w2.heap.push _)[w2.heap.size]? = _
          rw [Array.getElem?_push, if_pos rfl])
        have HF1 := Lib.hid (show Fuw w V1 from by rw [← hV]; exact (HF2.out).alloc _)
        have HV1 := Lib.hid (show Fuw w2 V1 from by rw [← hV]; exact (Fuw.refl w2).alloc _)
        rw [hV]
        clear hV
        obtain ⟨v3, w3, hr3, hrow3, hlow3, hbel3⟩ := row_app HRow.out (by omega) hf2.out HX.out x a2 c2 HVX.out HK.out HV1.out
        obtain ⟨a3, c3, hv3⟩ := own_sl hrow3.1
        subst hv3
        have HRN := Lib.hid hr3
        have HB3 := Lib.hid ((hlow3 _ (Nat.le_refl _)).trans HB1.out)
        have HR3 := Lib.hid ((hlow3 w.heap.size (by omega)).trans HR1.out)
        have HRow3 := Lib.hid hrow3
        have HF3 := Lib.hid (show Fuw w w3 from Below.trans HF1.out (Below.mono hbel3 (by omega)))
        clear hr3 hrow3 hlow3 hbel3
        obtain ⟨x0, x1, x2, x3, x4, xf, xl⟩ := five_cells HB1.out
        obtain ⟨z0, z1, z2, z3, z4, zf, zl⟩ := five_cells HX1.out
        obtain ⟨t0, t1, t2, t3, t4, tf, tl⟩ := five_cells HB3.out
        have tf4 := tf 4
        clear xf zf tf
        go_wp2_with (at_builtin; refine Lib.wpList_append_run _ rfl _ _ _ _ rfl _ _ rfl rfl _ _ HRN.out ?_)
        go_roundw
        case rel => exact ⟨i + 1, E, by go_num, rfl, by omega, by omega, hE2, Lib.hid (fuw_set HF3.out (by omega)), Lib.hid ((heap_set_other (by omega)).trans HR3.out), hs ++ [(x, a2, c2)], a3, c3, Lib.hid (five_set4 HB3.out), Lib.hid (row_set HRow3.out (Nat.le_refl _)), Lib.hid (by rw [HE2.out, List.map_append, show m - (i + 1) = mi by have := HM.out; omega]; rfl)⟩
        case measure => simp [RowKit.intOf]; omega
    · obtain rfl : i = m := by omega
      have hltI : ¬ (i : Int) < (i : Int) := by omega
      have HE2 := Lib.hid (show elsG rv i 0 E0 = .ok (hs.map Prod.fst) b by rw [HE.out, Nat.sub_self]; show Rl.ok _ _ = _; rw [List.append_nil])
      have HLN := Lib.hid (show (hs.map Prod.fst).length = i by rw [List.length_map]; exact HRow.out.2.1)
      go_wp2
      try simp only [Exit.inBlock, Exit.then]
      refine vg_ret (x := .mk 7 0 0 [] (hs.map Prod.fst)) (B := w.heap.size) (cap := cL) (ao := aL) rfl rfl rfl rfl ?_ ?_
      · unfold vc
        simp only [Vl.ll, HLN.out]
        exact val_put' _ w.heap.size _ _ _ _ _ _ _ _ _ _ _ _ HR.out
      · rw [HE2.out]
        refine ⟨fuw_put5 hf.out (Nat.le_refl _) _ _ _ _ _, aL, cL, rfl, ?_⟩
        have q := row_kp HRow.out.1 (Nat.lt_succ_self _) HRow.out.2.1 HRow.out.2.2 w.heap.size (Nat.le_succ _)
        intro w9 hs9 hw9
        refine q w9 (by simpa using hs9) fun b9 h1 h2 => ?_
        rw [hw9 b9 h1 (by simpa using h2), heap_set_other (by omega), heap_set_other (by omega), heap_set_other (by omega), heap_set_other (by omega), heap_set_other (by omega)]
end Go.Proofs.YtehmdeponbhhjaaDoor
