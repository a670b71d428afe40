/-
  The laws of package change: ChangeAll, walked.
-/
import Derived.Test.YtfbijdoomkgodaaGreatDoorJAmA
import Derived.Test.YtfbijdoomkgodaaGreatDoorK27
namespace Go.Proofs.YtfbijdoomkgodaaGreatDoor
open Go.RowKit

theorem twoL {P : Program} {ops : Array Oper} {Q : Exit → Act → World → Prop} {S : World → Prop} {N : List Nat} {i j : Nat} {o p : Oper} {n : Nat} {L : Array Bool} {a : Act} {w : World} (hi : ops[i]? = some o) (hj : ops[j]? = some p) (hr : Region.ready .any ops L = [i, j]) (hn : some1 N (L.setIfInBounds i true) = true)
    (h : ∀ K : Act → World → Prop, (∀ a' w', Lst P ops Q N S n (L.setIfInBounds i true) a' w' → K a' w') → if Region.wanted o (yielded ops a.tmps) = true then Oper.wp P o a w K Q else K (a.put o.dst undef) w)
    (h' : ∀ K : Act → World → Prop, (∀ a' w', S w' → Lst P ops Q N S n (L.setIfInBounds j true) a' w' → K a' w') → if Region.wanted p (yielded ops a.tmps) = true then Oper.wp P p a w K Q else K (a.put p.dst undef) w) : Lst P ops Q N S (n + 1) L a w := by
  refine ⟨fun e => absurd hr (by rw [e]; simp), fun k hk => ?_⟩
  rw [hr] at hk
  simp only [List.mem_cons, List.not_mem_nil, or_false] at hk
  rcases hk with rfl | rfl
  · exact wpOp_step hi fun K hK => h K fun a' w' hw => hK a' w' ⟨.inl hn, hw⟩
  · exact wpOp_step hj fun K hK => h' K fun a' w' hS hw => hK a' w' ⟨.inr hS, hw⟩
set_option maxHeartbeats 12800000 in
set_option maxRecDepth 100000 in
theorem all_walk (g : Gr) (an ae : Option Addr) (cn ce : Nat) (l : List Ch) (al : Option Addr) (cl : Nat) (w : World) (hg : GIn w g an ae cn ce) (hl : SlC w al l cl) (hGd : Good w) :
    Calls Tryz.prog 4 #[grv g an ae cn ce, .slice al l.length cl] w (FwB w true) := by
  have hll : l.length ≤ maxLen := Nat.le_trans hl.le hl.max
  unfold maxLen at hll
  obtain ⟨W, hW⟩ : ∃ W, W = w.alloc (.cells #[.slice an g.ns.length cn, .slice ae g.es.length ce, .int .i64 g.nn, .int .i64 g.ne] 25) := ⟨_, rfl⟩
  have fW : Fuw w W := by rw [hW]; exact fuwA _ _
  obtain ⟨B, hB⟩ : ∃ B, w.heap.size = B := ⟨_, rfl⟩
  have HBW := Lib.hid (show Bk W B #[.slice an g.ns.length cn, .slice ae g.es.length ce, .int .i64 g.nn, .int .i64 g.ne] 25 from by rw [hW, ← hB]; exact Bk.new _ _ _)
  have HWB := Lib.hid (show B < W.heap.size from by rw [hW, ← hB]; simp)
  have HwB := Lib.hid (show w.heap.size ≤ B from by omega)
  have HFW := Lib.hid fW
  have HSM := Lib.hid (show Calls Tryz.prog 8 #[grv g an ae cn ce, .slice al l.length cl] W (FwB W (smC g l 40)) from
    smallc_any g an ae cn ce l al cl w W (hg.on fW) (slCz_of fW hl))
  have HAL := Lib.hid (fun (w' : World) (hf : Fuw w w') => alivec_any w' (hGd.onw hf))
  have HAP := Lib.hid (fun (w' : World) (hf : Fuw w w') => applyall_any g an ae cn ce l al cl w w' hg (slCz_of hf hl) hf)
  have HCK := Lib.hid (fun (w' : World) (hf : Fuw w w') => check_any g an ae cn ce w' (hg.on hf))
  have HLZ := Lib.hid (fun (w' : World) (hf : Fuw w w') => slCz_of hf hl)
  have HG := Lib.hid hg
  have c0 := HBW.out.c 0; have c1 := HBW.out.c 1; have c2 := HBW.out.c 2; have c3 := HBW.out.c 3
  unfold grv at *
  generalize smC g l 40 = sm at *
  clear fW hg hl hGd
  go_enter Tryz.func4, Tryz.ntmps4
  go_upto_region 1 with fail
  (try rw [← hW]); (try rw [hB])
  clear hW hB
  go_wp2_with fail
  go_at_call 8; refine HSM.out.mono ?_; rintro e1 w1 ⟨rfl, f1⟩
  have HF1 := Lib.hid (HFW.out.trans f1)
  have HB1 := Lib.hid (HBW.out.on f1)
  have HS1 := Lib.hid (show B < w1.heap.size from Nat.lt_of_lt_of_le HWB.out f1.size)
  clear c0 c1 c2 c3 f1 HSM HFW HBW HWB
  cases sm with
  | false =>
    go_wp2_with fail
    go_at_call 9; refine (HAL.out _ HF1.out).mono ?_; rintro e2 w2 ⟨rfl, f2⟩
    have HF2 := Lib.hid (HF1.out.trans f2)
    clear f2
    go_wp2
    go_ret
    exact ⟨rfl, HF2.out⟩
  | true =>
    have c0 := HB1.out.c 0; have c1 := HB1.out.c 1; have c2 := HB1.out.c 2; have c3 := HB1.out.c 3
    go_wp2_with fail
    go_at_call 15; refine (HAP.out _ HF1.out).mono ?_; intro e2 w2 hr2
    obtain ⟨xn, xe, yn, ye, rfl, hst, f2⟩ := hr2.st HwB.out HS1.out
    clear c0 c1 c2 c3 hr2
    obtain ⟨T, hT⟩ : ∃ T, T = appG g l := ⟨_, rfl⟩
    obtain ⟨E, hE⟩ : ∃ E, E = appE g l := ⟨_, rfl⟩
    rw [← hT] at hst ⊢
    rw [← hE]
    obtain ⟨n, x⟩ := E
    have HT := Lib.hid hT
    have HE := Lib.hid hE
    unfold grv
    simp only
    obtain ⟨X, hX⟩ : ∃ X, X = w2.alloc (.cells #[.slice xn T.ns.length yn, .slice xe T.es.length ye, .int .i64 T.nn, .int .i64 T.ne] 25) := ⟨_, rfl⟩
    have fX : Fuw w2 X := by rw [hX]; exact fuwA _ _
    have HF2 := Lib.hid ((HF1.out.trans f2).trans fX)
    have HB2 := Lib.hid ((HB1.out.on f2).on fX)
    have HX2 := Lib.hid (show Bk X w2.heap.size #[.slice xn T.ns.length yn, .slice xe T.es.length ye, .int .i64 T.nn, .int .i64 T.ne] 25 from by rw [hX]; exact Bk.new _ _ _)
    have HBX := Lib.hid (show B < w2.heap.size from Nat.lt_of_lt_of_le HS1.out f2.size)
    have HST := Lib.hid (StG.on hst (Fux.of fX))
    clear f2 fX hst HF1 HB1 HS1 hT hE
    go_upto_region 4 with fail
    rw [← hX]
    clear hX
    generalize w2.heap.size = BX at *
    have c0 := HB2.out.c 0; have c1 := HB2.out.c 1; have c2 := HB2.out.c 2; have c3 := HB2.out.c 3
    go_wp2_with fail
    go_at_call 16; refine (HCK.out _ HF2.out).mono ?_; rintro e3 w3 ⟨rfl, f3⟩
    have HF3 := Lib.hid (HF2.out.trans f3)
    have HB3 := Lib.hid (HB2.out.on f3)
    have HX3 := Lib.hid (HX2.out.on f3)
    have HS3 := Lib.hid (StG.on HST.out (Fux.of f3))
    clear c0 c1 c2 c3 f3 HF2 HB2 HX2 HST
    obtain ⟨q, hq⟩ : ∃ q, q = chkV g := ⟨_, rfl⟩
    rw [← hq]
    have HQ := Lib.hid hq
    clear hq
    by_cases hq0 : q = 0
    · subst hq0
      have HFI := Lib.hid ((fine_iff g).1 HQ.out.symm)
      have HE1 := Lib.hid (HE.out.trans ((app_ok HQ.out.symm).trans (show allE g l 0 = allE g (l.drop 0) 0 from rfl)))
      have HE2 := Lib.hid (show allG g l = allG g (l.drop 0) from rfl)
      have HGS := Lib.hid (stg_in HG.out HF3.out HwB.out)
      have HBS := Lib.hid (show B < w3.heap.size from HB3.out.lt)
      go_wp2_with fail
      go_loopw [45] (fun iv wr => ∃ (i : Nat) (G : Gr) (un ue : Option Addr) (vn ve : Nat), iv = .int .i64 i ∧ i ≤ l.length ∧ Hid (StG B wr G un ue vn ve) ∧ Hid (Bk wr B #[.slice un G.ns.length vn, .slice ue G.es.length ve, .int .i64 G.nn, .int .i64 G.ne] 25) ∧ Hid (Fine G) ∧ Hid ((n, x) = allE G (l.drop i) i) ∧ Hid (allG g l = allG G (l.drop i)) ∧ Hid (Bk wr BX #[.slice xn T.ns.length yn, .slice xe T.es.length ye, .int .i64 T.nn, .int .i64 T.ne] 25) ∧ Hid (StG B wr T xn xe yn ye) ∧ Hid (Fuw w wr)) (fun iv _ => l.length - (RowKit.intOf iv).toNat)
      case atStart => exact ⟨0, g, an, ae, cn, ce, rfl, Nat.zero_le _, HGS, HB3, HFI, HE1, HE2, HX3, HS3, HF3⟩
      case round =>
        clear HFI HE1 HE2 HGS HB3 HX3 HS3 HF3
        obtain ⟨i, G, un, ue, vn, ve, rfl, hi, HGS, HB, HFI, HE1, HE2, HX, HS, HF⟩ := hrel
        generalize wr = wo at *
        by_cases hlt : i < l.length
        · obtain ⟨b, o, e, hcc⟩ := (HLZ.out _ HF.out).get hlt
          subst e
          obtain ⟨av, kv, hin, X⟩ := hcc
          have q0 := X.c0; have q1 := X.c1; have q2 := X.c2; have q3 := X.c3; have q4 := X.c4; have q5 := X.c5; have q6 := X.c6; have q7 := X.c7; have q8 := X.c8; have q9 := X.c9
          have HEA := Lib.hid (HE1.out.trans (allC_drop G l i hlt).1)
          have HEB := Lib.hid (HE2.out.trans (allC_drop G l i hlt).2)
          have HIN := Lib.hid hin
          have hli : (i : Int) < (l.length : Int) := by omega
          clear hin X
          generalize l[i] = c at *
          have HAO := Lib.hid (@app_one G c HFI.out)
          have HFS := Lib.hid (fun (q : stpE G c = 0) => fine_step HFI.out q)
          have HBO := Lib.hid (show B < wo.heap.size from HB.out.lt)
          have HCA := Lib.hid (fun (w' : World) (hf : Fuw wo w') => show Calls Tryz.prog 10 _ w' (fun e w2 => ∃ bn be dn de, e = .returned (.tuple #[grv (appG G [c]) bn be dn de, .int .i64 (stpE G c)]) ∧ (Fine (appG G [c]) → StH w w'.heap.size w2 (appG G [c]) bn be dn de) ∧ Fuw w' w2) from
            (apply_own G un ue vn ve c av kv w' (HGS.out.on (Fux.of hf)).now (HIN.out.on (HF.out.trans hf))).mono fun e w2 h => by
              have := h.st (HF.out.trans hf)
              rwa [HAO.out.1] at this)
          unfold grv chC at HCA
          obtain ⟨U, hU⟩ : ∃ U, U = appG G [c] := ⟨_, rfl⟩
          obtain ⟨R, hR⟩ : ∃ R, R = stpE G c := ⟨_, rfl⟩
          rw [← hU] at HCA HAO
          rw [← hR] at HCA HAO HEA HFS
          have HUU := Lib.hid hU
          clear hU hR
          have c0 := HB.out.c 0; have c1 := HB.out.c 1; have c2 := HB.out.c 2; have c3 := HB.out.c 3
          go_upto_region 10 with fail
          obtain ⟨S, hS⟩ : ∃ S : World → Prop, S = (fun w8 => w8.cell? ⟨B, 0, none⟩ = some (.slice un G.ns.length vn) ∧ w8.cell? ⟨B, 1, none⟩ = some (.slice ue G.es.length ve) ∧ w8.cell? ⟨B, 2, none⟩ = some (.int .i64 G.nn) ∧ w8.cell? ⟨B, 3, none⟩ = some (.int .i64 G.ne) ∧ w8.cell? ⟨b, o + i * 10, none⟩ = some (.int .i64 c.op) ∧ w8.cell? ⟨b, o + i * 10 + 1, none⟩ = some (.int .i64 c.id) ∧ w8.cell? ⟨b, o + i * 10 + 2, none⟩ = some (.int .i64 c.fr) ∧ w8.cell? ⟨b, o + i * 10 + 3, none⟩ = some (.int .i64 c.tt) ∧ w8.cell? ⟨b, o + i * 10 + 4, none⟩ = some (.string (bs c.nm)) ∧ w8.cell? ⟨b, o + i * 10 + 5, none⟩ = some (.int .i64 c.v.kd) ∧ w8.cell? ⟨b, o + i * 10 + 6, none⟩ = some (.int .i64 c.v.nn) ∧ w8.cell? ⟨b, o + i * 10 + 7, none⟩ = some (.int .i64 c.v.dd) ∧ w8.cell? ⟨b, o + i * 10 + 8, none⟩ = some (.string (bs c.v.ss)) ∧ w8.cell? ⟨b, o + i * 10 + 9, none⟩ = some (.slice av c.v.ll.length kv)) := ⟨_, rfl⟩
          have HSS := Lib.hid hS
          clear hS
          refine lst_start [5] S (by kernel_rfl) ?_
          have hS0 : S wo.drew := by rw [HSS.out]; exact ⟨c0, c1, c2, c3, q0, q1, q2, q3, q4, q5, q6, q7, q8, q9⟩
          refine takeL (i := 0) (d := some 49) (v := ?_) rfl rfl (by kernel_rfl) (by kernel_rfl) (by kernel_rfl) (by kernel_rfl) (by kernel_rfl) (fun _ _ _ h => h) (Or.inl ⟨by rfl, ?_⟩) (by assumption) ?_
          rotate_left
          · ((intro w8 hSw; rw [HSS.out] at hSw; obtain ⟨s0, s1, s2, s3, t0, t1, t2, t3, t4, t5, t6, t7, t8, t9⟩ := hSw; go_simp); try with_reducible rfl)
          try simp only [Act.put]
          try simp only [List.setIfInBounds_toArray]
          try simp only [List.set_cons_succ]
          try simp only [List.set_cons_zero]
          refine takeP (i := 1) (d := some 50) (v := ?_) rfl rfl (by kernel_rfl) (by kernel_rfl) (by kernel_rfl) (by kernel_rfl) (by kernel_rfl) (fun _ _ _ h => h) (Or.inl ⟨by rfl, ?_⟩) (by first | exact Or.inr (by assumption) | exact Or.inl (by kernel_rfl)) ?_
          rotate_left
          · ((intro w8 _; go_simp); try with_reducible rfl)
          try simp only [Act.put]
          try simp only [List.setIfInBounds_toArray]
          try simp only [List.set_cons_succ]
          try simp only [List.set_cons_zero]
          refine takeP (i := 2) (d := some 51) (v := ?_) rfl rfl (by kernel_rfl) (by kernel_rfl) (by kernel_rfl) (by kernel_rfl) (by kernel_rfl) (fun _ _ _ h => h) (Or.inl ⟨by rfl, ?_⟩) (by first | exact Or.inr (by assumption) | exact Or.inl (by kernel_rfl)) ?_
          rotate_left
          · ((intro w8 _; go_simp); try with_reducible rfl)
          try simp only [Act.put]
          try simp only [List.setIfInBounds_toArray]
          try simp only [List.set_cons_succ]
          try simp only [List.set_cons_zero]
          refine takeP (i := 3) (d := some 52) (v := ?_) rfl rfl (by kernel_rfl) (by kernel_rfl) (by kernel_rfl) (by kernel_rfl) (by kernel_rfl) (fun _ _ _ h => h) (Or.inl ⟨by rfl, ?_⟩) (by first | exact Or.inr (by assumption) | exact Or.inl (by kernel_rfl)) ?_
          rotate_left
          · ((intro w8 _; go_simp); try with_reducible rfl)
          try simp only [Act.put]
          try simp only [List.setIfInBounds_toArray]
          try simp only [List.set_cons_succ]
          try simp only [List.set_cons_zero]
          refine takeL (i := 4) (d := some 53) (v := ?_) rfl rfl (by kernel_rfl) (by kernel_rfl) (by kernel_rfl) (by kernel_rfl) (by kernel_rfl) (fun _ _ _ h => h) (Or.inl ⟨by rfl, ?_⟩) (by assumption) ?_
          rotate_left
          · ((intro w8 hSw; rw [HSS.out] at hSw; obtain ⟨s0, s1, s2, s3, t0, t1, t2, t3, t4, t5, t6, t7, t8, t9⟩ := hSw; go_simp); try with_reducible rfl)
          try simp only [Act.put]
          try simp only [List.setIfInBounds_toArray]
          try simp only [List.set_cons_succ]
          try simp only [List.set_cons_zero]
          refine twoL (i := 5) (j := 9) rfl rfl (by kernel_rfl) (by kernel_rfl) (fun K8 hK8 => ?_) (fun K8 hK8 => ?_)
          · go_simp
            go_at_call 10; refine (HCA.out _ (Fuw.drew (Fuw.refl wo))).mono ?_; rintro e4 w4 ⟨bn, be, dn, de, rfl, hst, f4⟩
            refine hK8 _ _ ?_
            try simp only [Act.put]
            try simp only [List.setIfInBounds_toArray]
            try simp only [List.set_cons_succ]
            try simp only [List.set_cons_zero]
            refine takeP (i := 6) (d := some 48) (v := ?_) rfl rfl (by kernel_rfl) (by kernel_rfl) (by kernel_rfl) (by kernel_rfl) (by kernel_rfl) (fun _ _ _ h => h) (Or.inl ⟨by rfl, ?_⟩) (by first | exact Or.inr (by assumption) | exact Or.inl (by kernel_rfl)) ?_
            rotate_left
            · ((intro w8 _; go_simp); try with_reducible rfl)
            try simp only [Act.put]
            try simp only [List.setIfInBounds_toArray]
            try simp only [List.set_cons_succ]
            try simp only [List.set_cons_zero]
            refine takeP (i := 7) (d := some 55) (v := ?_) rfl rfl (by kernel_rfl) (by kernel_rfl) (by kernel_rfl) (by kernel_rfl) (by kernel_rfl) (fun _ _ _ h => h) (Or.inl ⟨by rfl, ?_⟩) (by first | exact Or.inr (by assumption) | exact Or.inl (by kernel_rfl)) ?_
            rotate_left
            · ((intro w8 _; go_simp); try with_reducible rfl)
            try simp only [Act.put]
            try simp only [List.setIfInBounds_toArray]
            try simp only [List.set_cons_succ]
            try simp only [List.set_cons_zero]
            refine takeP (i := 8) (d := some 56) (v := ?_) rfl rfl (by kernel_rfl) (by kernel_rfl) (by kernel_rfl) (by kernel_rfl) (by kernel_rfl) (fun _ _ _ h => h) (Or.inl ⟨by rfl, ?_⟩) (by first | exact Or.inr (by assumption) | exact Or.inl (by kernel_rfl)) ?_
            rotate_left
            · ((intro w8 _; go_simp); try with_reducible rfl)
            try simp only [Act.put]
            try simp only [List.setIfInBounds_toArray]
            try simp only [List.set_cons_succ]
            try simp only [List.set_cons_zero]
            refine outL (i := 9) rfl (by kernel_rfl) (by kernel_rfl) (fun K8 hK8 => ?_)
            go_simp

            refine hK8 _ _ ?_
            try simp only [Act.put]
            try simp only [List.setIfInBounds_toArray]
            try simp only [List.set_cons_succ]
            try simp only [List.set_cons_zero]
            refine outL (i := 10) rfl (by kernel_rfl) (by kernel_rfl) (fun K8 hK8 => ?_)
            go_simp

            refine hK8 _ _ ?_
            try simp only [Act.put]
            try simp only [List.setIfInBounds_toArray]
            try simp only [List.set_cons_succ]
            try simp only [List.set_cons_zero]
            refine takeP (i := 11) (d := some 11) (v := ?_) rfl rfl (by kernel_rfl) (by kernel_rfl) (by kernel_rfl) (by kernel_rfl) (by kernel_rfl) (fun _ _ _ h => h) (Or.inl ⟨by rfl, ?_⟩) (by first | exact Or.inr (by assumption) | exact Or.inl (by kernel_rfl)) ?_
            rotate_left
            · ((intro w8 _; go_simp); try with_reducible rfl)
            try simp only [Act.put]
            try simp only [List.setIfInBounds_toArray]
            try simp only [List.set_cons_succ]
            try simp only [List.set_cons_zero]
            refine lst_done (by kernel_rfl) ?_ _
            obtain ⟨Y, hY⟩ : ∃ Y, Y = w4.alloc (.cells #[.slice bn U.ns.length dn, .slice be U.es.length de, .int .i64 U.nn, .int .i64 U.ne] 25) := ⟨_, rfl⟩
            have HFY := Lib.hid (show Fuw wo Y from by rw [hY]; exact ((Fuw.drew (Fuw.refl wo)).trans f4).trans (fuwA _ _))
            have HH := Lib.hid (show Bk Y w4.heap.size #[.slice bn U.ns.length dn, .slice be U.es.length de, .int .i64 U.nn, .int .i64 U.ne] 25 from by rw [hY]; exact Bk.new _ _ _)
            have HST := Lib.hid (show Fine U → StG B Y U bn be dn de from fun q => (hst q).g (HF.out.trans HFY.out) (by rw [hY]; simp) (fun k _ hk => by rw [hY]; exact (fuwA w4 _).block k hk) HBO.out HwB.out)
            have HBH := Lib.hid (show B ≠ w4.heap.size from by have h1 := HBO.out; have h2 := f4.size; have h3 : wo.drew.heap.size = wo.heap.size := rfl; omega)
            rw [← hY]
            clear hY hst f4
            generalize w4.heap.size = BH at *
            have HF2 := Lib.hid (HF.out.trans HFY.out)
            have HB2 := Lib.hid (HB.out.on HFY.out)
            have HX2 := Lib.hid (HX.out.on HFY.out)
            have HS2 := Lib.hid (StG.on HS.out (Fux.of HFY.out))
            clear c0 c1 c2 c3 q0 q1 q2 q3 q4 q5 q6 q7 q8 q9 hS0
            by_cases hR0 : R = 0
            · have HUS := Lib.hid (HAO.out.2 hR0)
              have HFU := Lib.hid (show Fine U from by rw [HUS.out]; exact HFS.out hR0)
              have HSU := Lib.hid (HST.out HFU.out)
              have HE3 := Lib.hid (show (n, x) = allE U (l.drop (i + 1)) (i + 1) from by rw [HUS.out, HEA.out, if_pos hR0])
              have HE4 := Lib.hid (show allG g l = allG U (l.drop (i + 1)) from by rw [HUS.out]; exact HEB.out)
              have HNE := Lib.hid (show BX ≠ B from by have := HBX.out; omega)
              subst hR0
              have h0 := HH.out.c 0; have h1 := HH.out.c 1; have h2 := HH.out.c 2; have h3 := HH.out.c 3
              have c0 := HB2.out.c 0; have c1 := HB2.out.c 1; have c2 := HB2.out.c 2; have c3 := HB2.out.c 3
              have z0 := HB2.out.f 0; have z1 := HB2.out.f 1; have z2 := HB2.out.f 2; have z3 := HB2.out.f 3
              go_wp2
              go_roundw
              case rel => exact ⟨i + 1, U, bn, be, dn, de, by go_num, by omega, Lib.hid (StG.on HSU.out (((((Fux.of (Fuw.refl _)).set 0 _).set 1 _).set 2 _).set 3 _)), Lib.hid ((((HB2.out.set_ 0 _).set_ 1 _).set_ 2 _).set_ 3 _), HFU, HE3, HE4, Lib.hid ((((HX2.out.far HNE.out _).far HNE.out _).far HNE.out _).far HNE.out _), Lib.hid (StG.on HS2.out (((((Fux.of (Fuw.refl _)).set 0 _).set 1 _).set 2 _).set 3 _)), Lib.hid (fuwS (fuwS (fuwS (fuwS HF2.out HwB.out) HwB.out) HwB.out) HwB.out)⟩
              case measure => simp [RowKit.intOf]; omega
            · have HE5 := Lib.hid (HEA.out.trans (if_neg hR0))
              obtain ⟨rfl, rfl⟩ := Prod.mk.inj HE5.out
              have HTZ := Lib.hid (HT.out.trans (app_bad HE.out.symm hR0))
              have HSZ := Lib.hid (show Calls Tryz.prog 14 #[.agg #[.slice xn T.ns.length yn, .slice xe T.es.length ye, .int .i64 T.nn, .int .i64 T.ne], .agg #[.slice none 0 0, .slice none 0 0, .int .i64 0, .int .i64 0]] Y (FwB Y true) from by
                have k := rsame_any T zerG xn xe none none yn ye 0 0 Y HS2.out.now (zer_in Y)
                rw [HTZ.out, samG_self] at k
                rw [HTZ.out]
                exact k)
              have hq0 : (x != 0) = true := by rw [bne_iff_ne]; exact hR0
              have c0 := HX2.out.c 0; have c1 := HX2.out.c 1; have c2 := HX2.out.c 2; have c3 := HX2.out.c 3
              go_wp2_with fail
              go_at_call 14; refine HSZ.out.mono ?_; rintro e5 w5 ⟨rfl, f5⟩
              have HF5 := Lib.hid (HF2.out.trans f5)
              clear f5 c0 c1 c2 c3
              go_wp2_with fail
              go_at_call 9; refine (HAL.out _ HF5.out).mono ?_; rintro e7 w7 ⟨rfl, f7⟩
              have HF7 := Lib.hid (HF5.out.trans f7)
              clear f7
              go_wp2
              go_ret
              exact ⟨rfl, HF7.out⟩
          · go_simp
            have hS9 : S (wo.drew.alloc (.cells #[.slice none 0 0, .slice none 0 0, .int .i64 0, .int .i64 0] 25)) := by
              have ff := fuwA wo.drew (.cells #[.slice none 0 0, .slice none 0 0, .int .i64 0, .int .i64 0] 25)
              rw [HSS.out]
              exact ⟨cellOnw ff c0, cellOnw ff c1, cellOnw ff c2, cellOnw ff c3, cellOnw ff q0, cellOnw ff q1, cellOnw ff q2, cellOnw ff q3, cellOnw ff q4, cellOnw ff q5, cellOnw ff q6, cellOnw ff q7, cellOnw ff q8, cellOnw ff q9⟩
            refine hK8 _ _ hS9 ?_
            try simp only [Act.put]
            try simp only [List.setIfInBounds_toArray]
            try simp only [List.set_cons_succ]
            try simp only [List.set_cons_zero]
            refine outL (i := 5) rfl (by kernel_rfl) (by kernel_rfl) (fun K9 hK9 => ?_)
            go_simp
            go_at_call 10; refine (HCA.out _ ((Fuw.drew (Fuw.refl wo)).trans (fuwA _ _))).mono ?_; rintro e4 w4 ⟨bn, be, dn, de, rfl, hst, f4⟩
            refine hK9 _ _ ?_
            try simp only [Act.put]
            try simp only [List.setIfInBounds_toArray]
            try simp only [List.set_cons_succ]
            try simp only [List.set_cons_zero]
            refine takeP (i := 6) (d := some 48) (v := ?_) rfl rfl (by kernel_rfl) (by kernel_rfl) (by kernel_rfl) (by kernel_rfl) (by kernel_rfl) (fun _ _ _ h => h) (Or.inl ⟨by rfl, ?_⟩) (by first | exact Or.inr (by assumption) | exact Or.inl (by kernel_rfl)) ?_
            rotate_left
            · ((intro w8 _; go_simp); try with_reducible rfl)
            try simp only [Act.put]
            try simp only [List.setIfInBounds_toArray]
            try simp only [List.set_cons_succ]
            try simp only [List.set_cons_zero]
            refine takeP (i := 7) (d := some 55) (v := ?_) rfl rfl (by kernel_rfl) (by kernel_rfl) (by kernel_rfl) (by kernel_rfl) (by kernel_rfl) (fun _ _ _ h => h) (Or.inl ⟨by rfl, ?_⟩) (by first | exact Or.inr (by assumption) | exact Or.inl (by kernel_rfl)) ?_
            rotate_left
            · ((intro w8 _; go_simp); try with_reducible rfl)
            try simp only [Act.put]
            try simp only [List.setIfInBounds_toArray]
            try simp only [List.set_cons_succ]
            try simp only [List.set_cons_zero]
            refine takeP (i := 8) (d := some 56) (v := ?_) rfl rfl (by kernel_rfl) (by kernel_rfl) (by kernel_rfl) (by kernel_rfl) (by kernel_rfl) (fun _ _ _ h => h) (Or.inl ⟨by rfl, ?_⟩) (by first | exact Or.inr (by assumption) | exact Or.inl (by kernel_rfl)) ?_
            rotate_left
            · ((intro w8 _; go_simp); try with_reducible rfl)
            try simp only [Act.put]
            try simp only [List.setIfInBounds_toArray]
            try simp only [List.set_cons_succ]
            try simp only [List.set_cons_zero]
            have fz := (Fuw.drew (Fuw.refl wo)).trans (fuwA wo.drew (.cells #[.slice none 0 0, .slice none 0 0, .int .i64 0, .int .i64 0] 25))
            have HZ := Lib.hid (show Bk w4 wo.heap.size #[.slice none 0 0, .slice none 0 0, .int .i64 0, .int .i64 0] 25 from (Bk.new wo.drew #[.slice none 0 0, .slice none 0 0, .int .i64 0, .int .i64 0] 25).on f4)
            have z0 := HZ.out.c 0; have z1 := HZ.out.c 1; have z2 := HZ.out.c 2; have z3 := HZ.out.c 3
            have y0 := HZ.out.f 0; have y1 := HZ.out.f 1; have y2 := HZ.out.f 2; have y3 := HZ.out.f 3
            refine outL (i := 10) rfl (by kernel_rfl) (by kernel_rfl) (fun K8 hK8 => ?_)
            go_simp

            refine hK8 _ _ ?_
            try simp only [Act.put]
            try simp only [List.setIfInBounds_toArray]
            try simp only [List.set_cons_succ]
            try simp only [List.set_cons_zero]
            refine takeP (i := 11) (d := some 11) (v := ?_) rfl rfl (by kernel_rfl) (by kernel_rfl) (by kernel_rfl) (by kernel_rfl) (by kernel_rfl) (fun _ _ _ h => h) (Or.inl ⟨by rfl, ?_⟩) (by first | exact Or.inr (by assumption) | exact Or.inl (by kernel_rfl)) ?_
            rotate_left
            · ((intro w8 _; go_simp); try with_reducible rfl)
            try simp only [Act.put]
            try simp only [List.setIfInBounds_toArray]
            try simp only [List.set_cons_succ]
            try simp only [List.set_cons_zero]
            refine lst_done (by kernel_rfl) ?_ _
            obtain ⟨Y, hY⟩ : ∃ Y, Y = (((w4.setCell ⟨wo.heap.size, 0, none⟩ (.slice bn U.ns.length dn)).setCell ⟨wo.heap.size, 1, none⟩ (.slice be U.es.length de)).setCell ⟨wo.heap.size, 2, none⟩ (.int .i64 U.nn)).setCell ⟨wo.heap.size, 3, none⟩ (.int .i64 U.ne) := ⟨_, rfl⟩
            have HFY := Lib.hid (show Fuw wo Y from by rw [hY]; exact fuwS (fuwS (fuwS (fuwS (fz.trans f4) (Nat.le_refl _)) (Nat.le_refl _)) (Nat.le_refl _)) (Nat.le_refl _))
            have HH := Lib.hid (show Bk Y wo.heap.size #[.slice bn U.ns.length dn, .slice be U.es.length de, .int .i64 U.nn, .int .i64 U.ne] 25 from by rw [hY]; exact (((HZ.out.set_ 0 _).set_ 1 _).set_ 2 _).set_ 3 _)
            have HST := Lib.hid (show Fine U → StG B Y U bn be dn de from fun q => (hst q).g (HF.out.trans HFY.out) (by rw [hY]; simp) (fun k h1 _ => by
              have hk : k ≠ wo.heap.size := by
                have h3 : (wo.drew.alloc (.cells #[.slice none 0 0, .slice none 0 0, .int .i64 0, .int .i64 0] 25)).heap.size = wo.heap.size + 1 := by simp
                omega
              rw [hY]
              exact (Below.heap_setCell _ ⟨wo.heap.size, 3, none⟩ _ k hk).trans ((Below.heap_setCell _ ⟨wo.heap.size, 2, none⟩ _ k hk).trans ((Below.heap_setCell _ ⟨wo.heap.size, 1, none⟩ _ k hk).trans (Below.heap_setCell _ ⟨wo.heap.size, 0, none⟩ _ k hk)))) (by have := HBO.out; simp; omega) HwB.out)
            have HBH := Lib.hid (show B ≠ wo.heap.size from by have := HBO.out; omega)
            rw [← hY]
            clear hY hst f4 fz z0 z1 z2 z3 y0 y1 y2 y3 HZ
            generalize wo.heap.size = BH at *
            clear hS9
            have HF2 := Lib.hid (HF.out.trans HFY.out)
            have HB2 := Lib.hid (HB.out.on HFY.out)
            have HX2 := Lib.hid (HX.out.on HFY.out)
            have HS2 := Lib.hid (StG.on HS.out (Fux.of HFY.out))
            clear c0 c1 c2 c3 q0 q1 q2 q3 q4 q5 q6 q7 q8 q9 hS0
            by_cases hR0 : R = 0
            · have HUS := Lib.hid (HAO.out.2 hR0)
              have HFU := Lib.hid (show Fine U from by rw [HUS.out]; exact HFS.out hR0)
              have HSU := Lib.hid (HST.out HFU.out)
              have HE3 := Lib.hid (show (n, x) = allE U (l.drop (i + 1)) (i + 1) from by rw [HUS.out, HEA.out, if_pos hR0])
              have HE4 := Lib.hid (show allG g l = allG U (l.drop (i + 1)) from by rw [HUS.out]; exact HEB.out)
              have HNE := Lib.hid (show BX ≠ B from by have := HBX.out; omega)
              subst hR0
              have h0 := HH.out.c 0; have h1 := HH.out.c 1; have h2 := HH.out.c 2; have h3 := HH.out.c 3
              have c0 := HB2.out.c 0; have c1 := HB2.out.c 1; have c2 := HB2.out.c 2; have c3 := HB2.out.c 3
              have z0 := HB2.out.f 0; have z1 := HB2.out.f 1; have z2 := HB2.out.f 2; have z3 := HB2.out.f 3
              go_wp2
              go_roundw
              case rel => exact ⟨i + 1, U, bn, be, dn, de, by go_num, by omega, Lib.hid (StG.on HSU.out (((((Fux.of (Fuw.refl _)).set 0 _).set 1 _).set 2 _).set 3 _)), Lib.hid ((((HB2.out.set_ 0 _).set_ 1 _).set_ 2 _).set_ 3 _), HFU, HE3, HE4, Lib.hid ((((HX2.out.far HNE.out _).far HNE.out _).far HNE.out _).far HNE.out _), Lib.hid (StG.on HS2.out (((((Fux.of (Fuw.refl _)).set 0 _).set 1 _).set 2 _).set 3 _)), Lib.hid (fuwS (fuwS (fuwS (fuwS HF2.out HwB.out) HwB.out) HwB.out) HwB.out)⟩
              case measure => simp [RowKit.intOf]; omega
            · have HE5 := Lib.hid (HEA.out.trans (if_neg hR0))
              obtain ⟨rfl, rfl⟩ := Prod.mk.inj HE5.out
              have HTZ := Lib.hid (HT.out.trans (app_bad HE.out.symm hR0))
              have HSZ := Lib.hid (show Calls Tryz.prog 14 #[.agg #[.slice xn T.ns.length yn, .slice xe T.es.length ye, .int .i64 T.nn, .int .i64 T.ne], .agg #[.slice none 0 0, .slice none 0 0, .int .i64 0, .int .i64 0]] Y (FwB Y true) from by
                have k := rsame_any T zerG xn xe none none yn ye 0 0 Y HS2.out.now (zer_in Y)
                rw [HTZ.out, samG_self] at k
                rw [HTZ.out]
                exact k)
              have hq0 : (x != 0) = true := by rw [bne_iff_ne]; exact hR0
              have c0 := HX2.out.c 0; have c1 := HX2.out.c 1; have c2 := HX2.out.c 2; have c3 := HX2.out.c 3
              go_wp2_with fail
              go_at_call 14; refine HSZ.out.mono ?_; rintro e5 w5 ⟨rfl, f5⟩
              have HF5 := Lib.hid (HF2.out.trans f5)
              clear f5 c0 c1 c2 c3
              go_wp2_with fail
              go_at_call 9; refine (HAL.out _ HF5.out).mono ?_; rintro e7 w7 ⟨rfl, f7⟩
              have HF7 := Lib.hid (HF5.out.trans f7)
              clear f7
              go_wp2
              go_ret
              exact ⟨rfl, HF7.out⟩
        · have hie : i = l.length := by omega
          subst hie
          have HN1 := Lib.hid (show (n, x) = (l.length, 0) from HE1.out.trans (by rw [List.drop_of_length_le (Nat.le_refl _)]; rfl))
          obtain ⟨rfl, rfl⟩ := Prod.mk.inj HN1.out
          have HTG := Lib.hid (show T = G from HT.out.trans ((app_good HE.out.symm).trans (HE2.out.trans (by rw [List.drop_of_length_le (Nat.le_refl _)]; rfl))))
          have HSG := Lib.hid (show Calls Tryz.prog 14 #[.agg #[.slice xn T.ns.length yn, .slice xe T.es.length ye, .int .i64 T.nn, .int .i64 T.ne], .agg #[.slice un G.ns.length vn, .slice ue G.es.length ve, .int .i64 G.nn, .int .i64 G.ne]] wo (FwB wo true) from by
            have k := rsame_any T G xn xe un ue yn ye vn ve wo HS.out.now HGS.out.now
            rw [HTG.out, samG_self] at k
            rw [HTG.out]
            exact k)
          have c0 := HB.out.c 0; have c1 := HB.out.c 1; have c2 := HB.out.c 2; have c3 := HB.out.c 3
          have x0 := HX.out.c 0; have x1 := HX.out.c 1; have x2 := HX.out.c 2; have x3 := HX.out.c 3
          go_wp2_with fail
          go_at_call 14; refine HSG.out.mono ?_; rintro e5 w5 ⟨rfl, f5⟩
          have HF5 := Lib.hid (HF.out.trans f5)
          clear f5 c0 c1 c2 c3 x0 x1 x2 x3
          go_wp2_with fail
          go_at_call 9; refine (HAL.out _ HF5.out).mono ?_; rintro e7 w7 ⟨rfl, f7⟩
          have HF7 := Lib.hid (HF5.out.trans f7)
          clear f7
          go_wp2
          go_ret
          exact ⟨rfl, HF7.out⟩
    · have HA := Lib.hid (@app_chk g l (by rw [← HQ.out]; exact hq0))
      have hx := HE.out.trans HA.out.1
      rw [← HQ.out] at hx
      obtain ⟨rfl, rfl⟩ := Prod.mk.inj hx
      clear hx
      have HTZ := Lib.hid (HT.out.trans HA.out.2)
      have HSZ := Lib.hid (fun (w' : World) (hf : Fuw w3 w') => show Calls Tryz.prog 14 #[.agg #[.slice xn T.ns.length yn, .slice xe T.es.length ye, .int .i64 T.nn, .int .i64 T.ne], .agg #[.slice none 0 0, .slice none 0 0, .int .i64 0, .int .i64 0]] w' (FwB w' true) from by
        have k := rsame_any T zerG xn xe none none yn ye 0 0 w' (HS3.out.on (Fux.of hf)).now (zer_in w')
        rw [HTZ.out, samG_self] at k
        rw [HTZ.out]
        exact k)
      have c0 := HX3.out.c 0; have c1 := HX3.out.c 1; have c2 := HX3.out.c 2; have c3 := HX3.out.c 3
      go_wp2_with fail
      go_at_call 14; refine (HSZ.out _ (Fuw.refl _)).mono ?_; rintro e5 w5 ⟨rfl, f5⟩
      have HF5 := Lib.hid (HF3.out.trans f5)
      clear f5 c0 c1 c2 c3
      go_wp2_with fail
      go_at_call 9; refine (HAL.out _ HF5.out).mono ?_; rintro e7 w7 ⟨rfl, f7⟩
      have HF7 := Lib.hid (HF5.out.trans f7)
      clear f7
      go_wp2
      go_ret
      exact ⟨rfl, HF7.out⟩
end Go.Proofs.YtfbijdoomkgodaaGreatDoor
