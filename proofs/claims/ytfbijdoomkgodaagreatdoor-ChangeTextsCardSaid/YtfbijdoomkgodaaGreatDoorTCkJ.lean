/-
  Package change: the changes that undo one change (inverse).
-/
import Derived.Test.YtfbijdoomkgodaaGreatDoorTCkI
import Derived.Test.YtfbijdoomkgodaaGreatDoorTK27
namespace Go.Proofs.YtfbijdoomkgodaaGreatDoor
open Go.RowKit

def invC (g : Gr) (c : Ch) : List Ch :=
  if c.op = 1 then [⟨2, c.id, 0, 0, [], nulV⟩] else if c.op = 2 then rebN g c.id else if c.op = 3 then [⟨4, c.id, 0, 0, c.nm, nulV⟩] else if c.op = 4 then [⟨3, c.id, 0, 0, c.nm, nulV⟩]
  else if c.op = 5 then [⟨5, c.id, 0, 0, c.nm, prpV ((nodV g.ns c.id).getD nilN).ps c.nm⟩] else if c.op = 6 then [⟨7, c.id, 0, 0, [], nulV⟩] else if c.op = 7 then rebE g c.id
  else [⟨8, c.id, 0, 0, c.nm, prpV ((edgV g.es c.id).getD nilE).ps c.nm⟩]
theorem RetRw.one {w0 w W : World} (c : Ch) (a : Option Addr) (k : Nat) (hf : Fuw w W) (h1 : LC.I c) (h2 : LC.J c (a, k) w0) : RetRw w0 w [c] (.returned (.slice (some ⟨W.heap.size, 0, none⟩) 1 1)) (W.alloc (.cells (chC c a k) 30)) :=
  ⟨_, [(c, (a, k))], rfl, rfl, (fun p hp => by rw [List.mem_singleton] at hp; subst hp; exact ⟨h1, h2⟩), lit_C W c a k hf.size, hf.trans (fuwA _ _)⟩
theorem RetRw.on {w0 w w1 w' : World} {L : List Ch} {e : Ending} (hf : Fuw w w1) (h : RetRw w0 w1 L e w') : RetRw w0 w L e w' := by
  obtain ⟨v, ps, e1, e2, e3, e4, e5⟩ := h
  exact ⟨v, ps, e1, e2, e3, own_low e4 hf.size, hf.trans e5⟩
theorem prp_ll {l : List Pp} (h : ∀ p ∈ l, p.v.ll = []) (k : List UInt8) : (prpV l k).ll = [] := by
  unfold prpV
  cases hf : l.find? fun p => p.k == k with
  | none => rfl
  | some p => exact h p (List.mem_of_find?_eq_some hf)
set_option maxHeartbeats 12800000 in
set_option maxRecDepth 100000 in
theorem inverse_any (g : Gr) (an ae : Option Addr) (cn ce : Nat) (c : Ch) (a : Option Addr) (k : Nat) (w0 w : World) (hg : GIn w g an ae cn ce) (hi : ChIn w c a k) (hv : Fine g) :
    Calls Tryz.prog 47 #[grv g an ae cn ce, .agg (chC c a k)] w (RetRw w0 w (invC g c)) := by
  obtain ⟨W, hW⟩ : ∃ W, W = (w.alloc (.cells #[.slice an g.ns.length cn, .slice ae g.es.length ce, .int .i64 g.nn, .int .i64 g.ne] 25)).alloc (.cells (chC c a k) 30) := ⟨_, rfl⟩
  have fW : Fuw w W := by rw [hW]; exact (fuwA _ _).trans (fuwA _ _)
  have HBW := Lib.hid (show Bk W w.heap.size #[.slice an g.ns.length cn, .slice ae g.es.length ce, .int .i64 g.nn, .int .i64 g.ne] 25 from by rw [hW]; exact (Bk.new w _ _).on (fuwA _ _))
  have HCW := Lib.hid (show Bk W (w.heap.size + 1) (chC c a k) 30 from by
    rw [hW]
    have := Bk.new (w.alloc (.cells #[.slice an g.ns.length cn, .slice ae g.es.length ce, .int .i64 g.nn, .int .i64 g.ne] 25)) (chC c a k) 30
    simpa using this)
  have HFW := Lib.hid fW
  have HII := Lib.hid hi
  have HRN := Lib.hid (rebn_any g an ae cn ce c.id hi.i w0 W (hg.on fW) hv)
  have HRE := Lib.hid (rebe_any g an ae cn ce c.id hi.i w0 W (hg.on fW) hv)
  have HND := Lib.hid (lnode_any g an ae cn ce c.id W (hg.on fW))
  have HED := Lib.hid (ledge_any g an ae cn ce c.id W (hg.on fW))
  have HNL := Lib.hid (fine_nod hv c.id).2.2
  have HEL := Lib.hid (fine_edg hv c.id).2
  obtain ⟨R, hR⟩ : ∃ R, R = invC g c := ⟨_, rfl⟩
  rw [← hR]
  have HR := Lib.hid hR
  have d0 := HCW.out.c 0; have d1 := HCW.out.c 1; have d4 := HCW.out.c 4
  have c0 := HBW.out.c 0; have c1 := HBW.out.c 1; have c2 := HBW.out.c 2; have c3 := HBW.out.c 3
  unfold RetN at HND
  unfold RetE at HED
  generalize (nodV g.ns c.id).isSome = sn at *
  generalize (edgV g.es c.id).isSome = se at *
  unfold chC at hW d0 d1 d4 ⊢
  unfold grv at *
  clear hR hg hi hv fW
  by_cases o1 : c.op = 1
  · have HE := Lib.hid (show R = [⟨2, c.id, 0, 0, [], nulV⟩] from by rw [HR.out]; unfold invC; rw [if_pos o1])
    rw [o1] at d0
    clear c0 c1 c2 c3 o1
    go_enter Tryz.func47, Tryz.ntmps47
    go_upto_region 1 with fail
    rw [← hW]
    clear hW
    go_wp2
    go_ret
    rw [HE.out]
    exact RetRw.one ⟨2, c.id, 0, 0, [], nulV⟩ none 0 HFW.out ⟨i64s (n := 2) (by decide) (by decide), HII.out.i, i64z, i64z, Nat.zero_le _, nulV_in⟩ (nulV_sl _)
  · skip
    by_cases o2 : c.op = 2
    · have HE := Lib.hid (show R = rebN g c.id from by rw [HR.out]; unfold invC; rw [if_neg o1]; rw [if_pos o2])
      rw [o2] at d0
      clear o1 o2
      go_enter Tryz.func47, Tryz.ntmps47
      go_upto_region 1 with fail
      rw [← hW]
      clear hW
      go_wp2_with fail
      go_at_call 87; refine HRN.out.mono ?_; intro e1 w1 hr
      have HZ := Lib.hid (hr.on HFW.out)
      obtain ⟨v, ps, rfl, hr2⟩ := hr
      clear hr2
      go_wp2
      go_ret
      rw [HE.out]
      exact HZ.out
    · skip
      by_cases o3 : c.op = 3
      · have HE := Lib.hid (show R = [⟨4, c.id, 0, 0, c.nm, nulV⟩] from by rw [HR.out]; unfold invC; rw [if_neg o1]; rw [if_neg o2]; rw [if_pos o3])
        rw [o3] at d0
        clear c0 c1 c2 c3 o1 o2 o3
        go_enter Tryz.func47, Tryz.ntmps47
        go_upto_region 1 with fail
        rw [← hW]
        clear hW
        go_wp2
        go_ret
        rw [HE.out]
        exact RetRw.one ⟨4, c.id, 0, 0, c.nm, nulV⟩ none 0 HFW.out ⟨i64s (n := 4) (by decide) (by decide), HII.out.i, i64z, i64z, HII.out.n, nulV_in⟩ (nulV_sl _)
      · skip
        by_cases o4 : c.op = 4
        · have HE := Lib.hid (show R = [⟨3, c.id, 0, 0, c.nm, nulV⟩] from by rw [HR.out]; unfold invC; rw [if_neg o1]; rw [if_neg o2]; rw [if_neg o3]; rw [if_pos o4])
          rw [o4] at d0
          clear c0 c1 c2 c3 o1 o2 o3 o4
          go_enter Tryz.func47, Tryz.ntmps47
          go_upto_region 1 with fail
          rw [← hW]
          clear hW
          go_wp2
          go_ret
          rw [HE.out]
          exact RetRw.one ⟨3, c.id, 0, 0, c.nm, nulV⟩ none 0 HFW.out ⟨i64s (n := 3) (by decide) (by decide), HII.out.i, i64z, i64z, HII.out.n, nulV_in⟩ (nulV_sl _)
        · skip
          by_cases o5 : c.op = 5
          · have HE := Lib.hid (show R = [⟨5, c.id, 0, 0, c.nm, prpV ((nodV g.ns c.id).getD nilN).ps c.nm⟩] from by rw [HR.out]; unfold invC; rw [if_neg o1]; rw [if_neg o2]; rw [if_neg o3]; rw [if_neg o4]; rw [if_pos o5])
            rw [o5] at d0
            clear o1 o2 o3 o4 o5
            generalize (nodV g.ns c.id).getD nilN = e at *
            unfold ndv edv at *
            go_enter Tryz.func47, Tryz.ntmps47
            go_upto_region 1 with fail
            rw [← hW]
            clear hW
            go_wp2_with fail
            go_at_call 88; refine HND.out.mono ?_; rintro e1 w1 ⟨al, ap, cl, cp, rfl, hin, f1⟩
            have HIN := Lib.hid (show SlP w1 ap e.ps cp from hin.2.2)
            have HF1 := Lib.hid (HFW.out.trans f1)
            have HC1 := Lib.hid (HCW.out.on f1)
            clear hin f1 c0 c1 c2 c3 d0 d1 d4 HND HED HRN HRE
            obtain ⟨V, hV⟩ : ∃ V, V = w1.alloc (.cells #[.int .i64 e.id, .slice al e.ls.length cl, .slice ap e.ps.length cp] 56) := ⟨_, rfl⟩
            have fV : Fuw w1 V := by rw [hV]; exact fuwA _ _
            have HBV := Lib.hid (show Bk V w1.heap.size #[.int .i64 e.id, .slice al e.ls.length cl, .slice ap e.ps.length cp] 56 from by rw [hV]; exact Bk.new _ _ _)
            have HCV := Lib.hid (HC1.out.on fV)
            have HFV := Lib.hid (HF1.out.trans fV)
            have HPR := Lib.hid (fun (w' : World) (hf : Fuw V w') => lprop_any e.ps ap cp c.nm w' (slP_on (fV.trans hf) HIN.out))
            unfold RetP at HPR
            have HLL := Lib.hid (prp_ll HNL.out c.nm)
            generalize prpV e.ps c.nm = y at *
            have x1 := HCV.out.c 1
            have x4 := HCV.out.c 4
            have xp := HBV.out.c 2
            unfold chC at x1 x4
            clear fV
            go_upto_region 12 with fail
            rw [← hV]
            clear hV
            obtain ⟨S, hS⟩ : ∃ S : World → Prop, S = (fun w8 => w8.cell? ⟨w.heap.size + 1, 1, none⟩ = some (.int .i64 c.id) ∧ w8.cell? ⟨w.heap.size + 1, 4, none⟩ = some (.string (bs c.nm)) ∧ w8.cell? ⟨w1.heap.size, 2, none⟩ = some (.slice ap e.ps.length cp)) := ⟨_, rfl⟩
            have HS := Lib.hid hS
            clear hS
            refine lst_start [10] S (by kernel_rfl) ?_
            have hS0 : S V.drew := by rw [HS.out]; exact ⟨x1, x4, xp⟩
            refine takeP (i := 0) (d := some 48) (v := ?_) rfl rfl (by kernel_rfl) (by kernel_rfl) (by kernel_rfl) (by kernel_rfl) (by kernel_rfl) (fun _ _ _ h => h) (Or.inl ⟨by rfl, ?_⟩) (by first | exact Or.inr (by assumption) | exact Or.inl (by kernel_rfl)) ?_
            rotate_left
            · ((intro w8 _; go_simp); try with_reducible rfl)
            try simp only [Act.put]
            try simp only [List.setIfInBounds_toArray]
            try simp only [List.set_cons_succ]
            try simp only [List.set_cons_zero]
            refine takeL (i := 1) (d := some 49) (v := ?_) rfl rfl (by kernel_rfl) (by kernel_rfl) (by kernel_rfl) (by kernel_rfl) (by kernel_rfl) (fun _ _ _ h => h) (Or.inl ⟨by rfl, ?_⟩) (by assumption) ?_
            rotate_left
            · ((intro w8 hSw; rw [HS.out] at hSw; obtain ⟨s0, s1, s2⟩ := hSw; go_simp); try with_reducible rfl)
            try simp only [Act.put]
            try simp only [List.setIfInBounds_toArray]
            try simp only [List.set_cons_succ]
            try simp only [List.set_cons_zero]
            refine takeP (i := 2) (d := some 50) (v := ?_) rfl rfl (by kernel_rfl) (by kernel_rfl) (by kernel_rfl) (by kernel_rfl) (by kernel_rfl) (fun _ _ _ h => h) (Or.inl ⟨by rfl, ?_⟩) (by first | exact Or.inr (by assumption) | exact Or.inl (by kernel_rfl)) ?_
            rotate_left
            · ((intro w8 _; go_simp); try with_reducible rfl)
            try simp only [Act.put]
            try simp only [List.setIfInBounds_toArray]
            try simp only [List.set_cons_succ]
            try simp only [List.set_cons_zero]
            refine takeL (i := 3) (d := some 51) (v := ?_) rfl rfl (by kernel_rfl) (by kernel_rfl) (by kernel_rfl) (by kernel_rfl) (by kernel_rfl) (fun _ _ _ h => h) (Or.inl ⟨by rfl, ?_⟩) (by assumption) ?_
            rotate_left
            · ((intro w8 hSw; rw [HS.out] at hSw; obtain ⟨s0, s1, s2⟩ := hSw; go_simp); try with_reducible rfl)
            try simp only [Act.put]
            try simp only [List.setIfInBounds_toArray]
            try simp only [List.set_cons_succ]
            try simp only [List.set_cons_zero]
            refine takeP (i := 4) (d := some 52) (v := ?_) rfl rfl (by kernel_rfl) (by kernel_rfl) (by kernel_rfl) (by kernel_rfl) (by kernel_rfl) (fun _ _ _ h => h) (Or.inl ⟨by rfl, ?_⟩) (by first | exact Or.inr (by assumption) | exact Or.inl (by kernel_rfl)) ?_
            rotate_left
            · ((intro w8 _; go_simp); try with_reducible rfl)
            try simp only [Act.put]
            try simp only [List.setIfInBounds_toArray]
            try simp only [List.set_cons_succ]
            try simp only [List.set_cons_zero]
            refine takeL (i := 5) (d := some 53) (v := ?_) rfl rfl (by kernel_rfl) (by kernel_rfl) (by kernel_rfl) (by kernel_rfl) (by kernel_rfl) (fun _ _ _ h => h) (Or.inl ⟨by rfl, ?_⟩) (by assumption) ?_
            rotate_left
            · ((intro w8 hSw; rw [HS.out] at hSw; obtain ⟨s0, s1, s2⟩ := hSw; go_simp); try with_reducible rfl)
            try simp only [Act.put]
            try simp only [List.setIfInBounds_toArray]
            try simp only [List.set_cons_succ]
            try simp only [List.set_cons_zero]
            refine takeP (i := 6) (d := some 54) (v := ?_) rfl rfl (by kernel_rfl) (by kernel_rfl) (by kernel_rfl) (by kernel_rfl) (by kernel_rfl) (fun _ _ _ h => h) (Or.inl ⟨by rfl, ?_⟩) (by first | exact Or.inr (by assumption) | exact Or.inl (by kernel_rfl)) ?_
            rotate_left
            · ((intro w8 _; go_simp); try with_reducible rfl)
            try simp only [Act.put]
            try simp only [List.setIfInBounds_toArray]
            try simp only [List.set_cons_succ]
            try simp only [List.set_cons_zero]
            refine takeL (i := 7) (d := some 55) (v := ?_) rfl rfl (by kernel_rfl) (by kernel_rfl) (by kernel_rfl) (by kernel_rfl) (by kernel_rfl) (fun _ _ _ h => h) (Or.inl ⟨by rfl, ?_⟩) (by assumption) ?_
            rotate_left
            · ((intro w8 hSw; rw [HS.out] at hSw; obtain ⟨s0, s1, s2⟩ := hSw; go_simp); try with_reducible rfl)
            try simp only [Act.put]
            try simp only [List.setIfInBounds_toArray]
            try simp only [List.set_cons_succ]
            try simp only [List.set_cons_zero]
            refine oneL (i := 8) rfl (by kernel_rfl) (fun K8 hK8 => ?_)
            go_simp
            go_at_call 89; refine (HPR.out _ (Fuw.drew (Fuw.refl V))).mono ?_; rintro e2 w2 ⟨av, kv, rfl, hvi, hvs, f2⟩
            have fV2 : Fuw V w2 := (Fuw.drew (Fuw.refl V)).trans f2
            have HVI := Lib.hid hvi
            have HVS := Lib.hid hvs
            have HF2 := Lib.hid (HFV.out.trans fV2)
            have hS1 : S w2 := by rw [HS.out]; exact ⟨cellOnw fV2 x1, cellOnw fV2 x4, cellOnw fV2 xp⟩
            unfold vlv
            clear hvi hvs f2
            refine hK8 _ _ hS1 ?_
            try simp only [Act.put]
            try simp only [List.setIfInBounds_toArray]
            try simp only [List.set_cons_succ]
            try simp only [List.set_cons_zero]
            refine takeP (i := 9) (d := some 57) (v := ?_) rfl rfl (by kernel_rfl) (by kernel_rfl) (by kernel_rfl) (by kernel_rfl) (by kernel_rfl) (fun _ _ _ h => h) (Or.inl ⟨by rfl, ?_⟩) (by first | exact Or.inr (by assumption) | exact Or.inl (by kernel_rfl)) ?_
            rotate_left
            · ((intro w8 _; go_simp); try with_reducible rfl)
            try simp only [Act.put]
            try simp only [List.setIfInBounds_toArray]
            try simp only [List.set_cons_succ]
            try simp only [List.set_cons_zero]
            refine outL (i := 10) rfl (by kernel_rfl) (by kernel_rfl) (fun K8 hK8 => ?_)
            go_simp

            refine hK8 _ _ ?_
            try simp only [Act.put]
            try simp only [List.setIfInBounds_toArray]
            try simp only [List.set_cons_succ]
            try simp only [List.set_cons_zero]
            refine takeP (i := 11) (d := some 4) (v := ?_) rfl rfl (by kernel_rfl) (by kernel_rfl) (by kernel_rfl) (by kernel_rfl) (by kernel_rfl) (fun _ _ _ h => h) (Or.inl ⟨by rfl, ?_⟩) (by first | exact Or.inr (by assumption) | exact Or.inl (by kernel_rfl)) ?_
            rotate_left
            · ((intro w8 _; go_simp); try with_reducible rfl)
            try simp only [Act.put]
            try simp only [List.setIfInBounds_toArray]
            try simp only [List.set_cons_succ]
            try simp only [List.set_cons_zero]
            refine lst_done (by kernel_rfl) ?_ _
            clear hS0 hS1 fV2 x1 x4 xp
            go_wp2
            go_ret
            rw [HE.out]
            exact RetRw.one ⟨5, c.id, 0, 0, c.nm, y⟩ av kv HF2.out ⟨i64s (n := 5) (by decide) (by decide), HII.out.i, i64z, i64z, HII.out.n, HVI.out⟩ (by
              have q := HVS.out
              rw [HLL.out] at q
              show SlV w0 av y.ll kv
              rw [HLL.out]
              exact slv_nil q)
          · skip
            by_cases o6 : c.op = 6
            · have HE := Lib.hid (show R = [⟨7, c.id, 0, 0, [], nulV⟩] from by rw [HR.out]; unfold invC; rw [if_neg o1]; rw [if_neg o2]; rw [if_neg o3]; rw [if_neg o4]; rw [if_neg o5]; rw [if_pos o6])
              rw [o6] at d0
              clear c0 c1 c2 c3 o1 o2 o3 o4 o5 o6
              go_enter Tryz.func47, Tryz.ntmps47
              go_upto_region 1 with fail
              rw [← hW]
              clear hW
              go_wp2
              go_ret
              rw [HE.out]
              exact RetRw.one ⟨7, c.id, 0, 0, [], nulV⟩ none 0 HFW.out ⟨i64s (n := 7) (by decide) (by decide), HII.out.i, i64z, i64z, Nat.zero_le _, nulV_in⟩ (nulV_sl _)
            · skip
              by_cases o7 : c.op = 7
              · have HE := Lib.hid (show R = rebE g c.id from by rw [HR.out]; unfold invC; rw [if_neg o1]; rw [if_neg o2]; rw [if_neg o3]; rw [if_neg o4]; rw [if_neg o5]; rw [if_neg o6]; rw [if_pos o7])
                rw [o7] at d0
                clear o1 o2 o3 o4 o5 o6 o7
                go_enter Tryz.func47, Tryz.ntmps47
                go_upto_region 1 with fail
                rw [← hW]
                clear hW
                go_wp2_with fail
                go_at_call 90; refine HRE.out.mono ?_; intro e1 w1 hr
                have HZ := Lib.hid (hr.on HFW.out)
                obtain ⟨v, ps, rfl, hr2⟩ := hr
                clear hr2
                go_wp2
                go_ret
                rw [HE.out]
                exact HZ.out
              · skip
                have HE := Lib.hid (show R = [⟨8, c.id, 0, 0, c.nm, prpV ((edgV g.es c.id).getD nilE).ps c.nm⟩] from by rw [HR.out]; unfold invC; rw [if_neg o1]; rw [if_neg o2]; rw [if_neg o3]; rw [if_neg o4]; rw [if_neg o5]; rw [if_neg o6]; rw [if_neg o7];)
                have p1 : (c.op == 1) = false := by rw [beq_eq_false_iff_ne]; exact o1
                have p2 : (c.op == 2) = false := by rw [beq_eq_false_iff_ne]; exact o2
                have p3 : (c.op == 3) = false := by rw [beq_eq_false_iff_ne]; exact o3
                have p4 : (c.op == 4) = false := by rw [beq_eq_false_iff_ne]; exact o4
                have p5 : (c.op == 5) = false := by rw [beq_eq_false_iff_ne]; exact o5
                have p6 : (c.op == 6) = false := by rw [beq_eq_false_iff_ne]; exact o6
                have p7 : (c.op == 7) = false := by rw [beq_eq_false_iff_ne]; exact o7
                generalize (edgV g.es c.id).getD nilE = e at *
                unfold ndv edv at *
                go_enter Tryz.func47, Tryz.ntmps47
                go_upto_region 1 with fail
                rw [← hW]
                clear hW
                go_wp2_with fail
                go_at_call 91; refine HED.out.mono ?_; rintro e1 w1 ⟨ap, cp, rfl, hin, f1⟩
                have HIN := Lib.hid (show SlP w1 ap e.ps cp from hin.2.2.2.2)
                have HF1 := Lib.hid (HFW.out.trans f1)
                have HC1 := Lib.hid (HCW.out.on f1)
                clear hin f1 c0 c1 c2 c3 d0 d1 d4 HND HED HRN HRE
                obtain ⟨V, hV⟩ : ∃ V, V = w1.alloc (.cells #[.int .i64 e.id, .int .i64 e.fr, .int .i64 e.to, .string (bs e.ty), .slice ap e.ps.length cp] 58) := ⟨_, rfl⟩
                have fV : Fuw w1 V := by rw [hV]; exact fuwA _ _
                have HBV := Lib.hid (show Bk V w1.heap.size #[.int .i64 e.id, .int .i64 e.fr, .int .i64 e.to, .string (bs e.ty), .slice ap e.ps.length cp] 58 from by rw [hV]; exact Bk.new _ _ _)
                have HCV := Lib.hid (HC1.out.on fV)
                have HFV := Lib.hid (HF1.out.trans fV)
                have HPR := Lib.hid (fun (w' : World) (hf : Fuw V w') => lprop_any e.ps ap cp c.nm w' (slP_on (fV.trans hf) HIN.out))
                unfold RetP at HPR
                have HLL := Lib.hid (prp_ll HEL.out c.nm)
                generalize prpV e.ps c.nm = y at *
                have x1 := HCV.out.c 1
                have x4 := HCV.out.c 4
                have xp := HBV.out.c 4
                unfold chC at x1 x4
                clear fV
                go_upto_region 18 with fail
                rw [← hV]
                clear hV p1 p2 p3 p4 p5 p6 p7
                obtain ⟨S, hS⟩ : ∃ S : World → Prop, S = (fun w8 => w8.cell? ⟨w.heap.size + 1, 1, none⟩ = some (.int .i64 c.id) ∧ w8.cell? ⟨w.heap.size + 1, 4, none⟩ = some (.string (bs c.nm)) ∧ w8.cell? ⟨w1.heap.size, 4, none⟩ = some (.slice ap e.ps.length cp)) := ⟨_, rfl⟩
                have HS := Lib.hid hS
                clear hS
                refine lst_start [10] S (by kernel_rfl) ?_
                have hS0 : S V.drew := by rw [HS.out]; exact ⟨x1, x4, xp⟩
                refine takeP (i := 0) (d := some 78) (v := ?_) rfl rfl (by kernel_rfl) (by kernel_rfl) (by kernel_rfl) (by kernel_rfl) (by kernel_rfl) (fun _ _ _ h => h) (Or.inl ⟨by rfl, ?_⟩) (by first | exact Or.inr (by assumption) | exact Or.inl (by kernel_rfl)) ?_
                rotate_left
                · ((intro w8 _; go_simp); try with_reducible rfl)
                try simp only [Act.put]
                try simp only [List.setIfInBounds_toArray]
                try simp only [List.set_cons_succ]
                try simp only [List.set_cons_zero]
                refine takeL (i := 1) (d := some 79) (v := ?_) rfl rfl (by kernel_rfl) (by kernel_rfl) (by kernel_rfl) (by kernel_rfl) (by kernel_rfl) (fun _ _ _ h => h) (Or.inl ⟨by rfl, ?_⟩) (by assumption) ?_
                rotate_left
                · ((intro w8 hSw; rw [HS.out] at hSw; obtain ⟨s0, s1, s2⟩ := hSw; go_simp); try with_reducible rfl)
                try simp only [Act.put]
                try simp only [List.setIfInBounds_toArray]
                try simp only [List.set_cons_succ]
                try simp only [List.set_cons_zero]
                refine takeP (i := 2) (d := some 80) (v := ?_) rfl rfl (by kernel_rfl) (by kernel_rfl) (by kernel_rfl) (by kernel_rfl) (by kernel_rfl) (fun _ _ _ h => h) (Or.inl ⟨by rfl, ?_⟩) (by first | exact Or.inr (by assumption) | exact Or.inl (by kernel_rfl)) ?_
                rotate_left
                · ((intro w8 _; go_simp); try with_reducible rfl)
                try simp only [Act.put]
                try simp only [List.setIfInBounds_toArray]
                try simp only [List.set_cons_succ]
                try simp only [List.set_cons_zero]
                refine takeL (i := 3) (d := some 81) (v := ?_) rfl rfl (by kernel_rfl) (by kernel_rfl) (by kernel_rfl) (by kernel_rfl) (by kernel_rfl) (fun _ _ _ h => h) (Or.inl ⟨by rfl, ?_⟩) (by assumption) ?_
                rotate_left
                · ((intro w8 hSw; rw [HS.out] at hSw; obtain ⟨s0, s1, s2⟩ := hSw; go_simp); try with_reducible rfl)
                try simp only [Act.put]
                try simp only [List.setIfInBounds_toArray]
                try simp only [List.set_cons_succ]
                try simp only [List.set_cons_zero]
                refine takeP (i := 4) (d := some 82) (v := ?_) rfl rfl (by kernel_rfl) (by kernel_rfl) (by kernel_rfl) (by kernel_rfl) (by kernel_rfl) (fun _ _ _ h => h) (Or.inl ⟨by rfl, ?_⟩) (by first | exact Or.inr (by assumption) | exact Or.inl (by kernel_rfl)) ?_
                rotate_left
                · ((intro w8 _; go_simp); try with_reducible rfl)
                try simp only [Act.put]
                try simp only [List.setIfInBounds_toArray]
                try simp only [List.set_cons_succ]
                try simp only [List.set_cons_zero]
                refine takeL (i := 5) (d := some 83) (v := ?_) rfl rfl (by kernel_rfl) (by kernel_rfl) (by kernel_rfl) (by kernel_rfl) (by kernel_rfl) (fun _ _ _ h => h) (Or.inl ⟨by rfl, ?_⟩) (by assumption) ?_
                rotate_left
                · ((intro w8 hSw; rw [HS.out] at hSw; obtain ⟨s0, s1, s2⟩ := hSw; go_simp); try with_reducible rfl)
                try simp only [Act.put]
                try simp only [List.setIfInBounds_toArray]
                try simp only [List.set_cons_succ]
                try simp only [List.set_cons_zero]
                refine takeP (i := 6) (d := some 84) (v := ?_) rfl rfl (by kernel_rfl) (by kernel_rfl) (by kernel_rfl) (by kernel_rfl) (by kernel_rfl) (fun _ _ _ h => h) (Or.inl ⟨by rfl, ?_⟩) (by first | exact Or.inr (by assumption) | exact Or.inl (by kernel_rfl)) ?_
                rotate_left
                · ((intro w8 _; go_simp); try with_reducible rfl)
                try simp only [Act.put]
                try simp only [List.setIfInBounds_toArray]
                try simp only [List.set_cons_succ]
                try simp only [List.set_cons_zero]
                refine takeL (i := 7) (d := some 85) (v := ?_) rfl rfl (by kernel_rfl) (by kernel_rfl) (by kernel_rfl) (by kernel_rfl) (by kernel_rfl) (fun _ _ _ h => h) (Or.inl ⟨by rfl, ?_⟩) (by assumption) ?_
                rotate_left
                · ((intro w8 hSw; rw [HS.out] at hSw; obtain ⟨s0, s1, s2⟩ := hSw; go_simp); try with_reducible rfl)
                try simp only [Act.put]
                try simp only [List.setIfInBounds_toArray]
                try simp only [List.set_cons_succ]
                try simp only [List.set_cons_zero]
                refine oneL (i := 8) rfl (by kernel_rfl) (fun K8 hK8 => ?_)
                go_simp
                go_at_call 89; refine (HPR.out _ (Fuw.drew (Fuw.refl V))).mono ?_; rintro e2 w2 ⟨av, kv, rfl, hvi, hvs, f2⟩
                have fV2 : Fuw V w2 := (Fuw.drew (Fuw.refl V)).trans f2
                have HVI := Lib.hid hvi
                have HVS := Lib.hid hvs
                have HF2 := Lib.hid (HFV.out.trans fV2)
                have hS1 : S w2 := by rw [HS.out]; exact ⟨cellOnw fV2 x1, cellOnw fV2 x4, cellOnw fV2 xp⟩
                unfold vlv
                clear hvi hvs f2
                refine hK8 _ _ hS1 ?_
                try simp only [Act.put]
                try simp only [List.setIfInBounds_toArray]
                try simp only [List.set_cons_succ]
                try simp only [List.set_cons_zero]
                refine takeP (i := 9) (d := some 87) (v := ?_) rfl rfl (by kernel_rfl) (by kernel_rfl) (by kernel_rfl) (by kernel_rfl) (by kernel_rfl) (fun _ _ _ h => h) (Or.inl ⟨by rfl, ?_⟩) (by first | exact Or.inr (by assumption) | exact Or.inl (by kernel_rfl)) ?_
                rotate_left
                · ((intro w8 _; go_simp); try with_reducible rfl)
                try simp only [Act.put]
                try simp only [List.setIfInBounds_toArray]
                try simp only [List.set_cons_succ]
                try simp only [List.set_cons_zero]
                refine outL (i := 10) rfl (by kernel_rfl) (by kernel_rfl) (fun K8 hK8 => ?_)
                go_simp

                refine hK8 _ _ ?_
                try simp only [Act.put]
                try simp only [List.setIfInBounds_toArray]
                try simp only [List.set_cons_succ]
                try simp only [List.set_cons_zero]
                refine takeP (i := 11) (d := some 4) (v := ?_) rfl rfl (by kernel_rfl) (by kernel_rfl) (by kernel_rfl) (by kernel_rfl) (by kernel_rfl) (fun _ _ _ h => h) (Or.inl ⟨by rfl, ?_⟩) (by first | exact Or.inr (by assumption) | exact Or.inl (by kernel_rfl)) ?_
                rotate_left
                · ((intro w8 _; go_simp); try with_reducible rfl)
                try simp only [Act.put]
                try simp only [List.setIfInBounds_toArray]
                try simp only [List.set_cons_succ]
                try simp only [List.set_cons_zero]
                refine lst_done (by kernel_rfl) ?_ _
                clear hS0 hS1 fV2 x1 x4 xp
                go_wp2
                go_ret
                rw [HE.out]
                exact RetRw.one ⟨8, c.id, 0, 0, c.nm, y⟩ av kv HF2.out ⟨i64s (n := 8) (by decide) (by decide), HII.out.i, i64z, i64z, HII.out.n, HVI.out⟩ (by
                  have q := HVS.out
                  rw [HLL.out] at q
                  show SlV w0 av y.ll kv
                  rw [HLL.out]
                  exact slv_nil q)
end Go.Proofs.YtfbijdoomkgodaaGreatDoor
