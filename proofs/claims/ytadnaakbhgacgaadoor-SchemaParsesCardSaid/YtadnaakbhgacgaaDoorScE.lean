/-
  Package schema: whether a list of rules is a schema (Valid). Nothing that was there turns.
-/
import Derived.Test.YtadnaakbhgacgaaDoorScD
import Derived.Test.YtadnaakbhgacgaaDoorTk
namespace Go.Proofs.YtadnaakbhgacgaaDoor
open Go.RowKit

theorem SlR.ins {w : World} {ao : Option Addr} {s : List Rl} {cap : Nat} (h : SlR w ao s cap) : ∀ r ∈ s, RIn r := fun r hr => by
  obtain ⟨i, hi, rfl⟩ := List.getElem_of_mem hr
  obtain ⟨b, o, -, k⟩ := h.get hi
  exact k.i
theorem val_no {s : List Rl} {i : Nat} (h : i < s.length) (hv : vlR none s = vlR (prevR s i) (s.drop i)) (hf : (chkR s[i] == 0 && befR (prevR s i) s[i]) = false) : valS s = false := by
  unfold valS
  rw [hv, vlR_step s i h, hf]
  simp
theorem val_go {s : List Rl} {i : Nat} (h : i < s.length) (hv : vlR none s = vlR (prevR s i) (s.drop i)) (hf : (chkR s[i] == 0 && befR (prevR s i) s[i]) = true) : vlR none s = vlR (prevR s (i + 1)) (s.drop (i + 1)) := by
  rw [hv, vlR_step s i h, hf, Bool.true_and]
set_option maxHeartbeats 6400000 in
set_option maxRecDepth 100000 in
theorem val_any (s : List Rl) (ao : Option Addr) (cap : Nat) (w : World) (h : SlR w ao s cap) : Calls Tryd.prog 20 #[.slice ao s.length cap] w (FwB w (valS s)) := by
  have hln := h.len
  have H := Lib.hid h
  clear h
  by_cases hl : 40 < s.length
  · have hlI : 40 < (s.length : Int) := by omega
    have HE := Lib.hid (show valS s = false by unfold valS; rw [decide_eq_false (by omega)]; rfl)
    clear hl
    go_enter Tryd.func20, Tryd.ntmps20
    go_wp2
    go_ret
    exact ⟨ret_bool HE.out.symm, Fuw.refl _⟩
  · have hlI : ¬ 40 < (s.length : Int) := by omega
    go_enter Tryd.func20, Tryd.ntmps20
    go_wp2
    go_loopw [10] (fun iv wr => ∃ i : Nat, iv = .int .i64 i ∧ i ≤ s.length ∧ Hid (Fuw w wr) ∧ Hid (vlR none s = vlR (prevR s i) (s.drop i))) (fun iv _ => s.length - (RowKit.intOf iv).toNat)
    case atStart => exact ⟨0, rfl, Nat.zero_le _, Fuw.refl _, Lib.hid rfl⟩
    case round =>
      obtain ⟨i, rfl, hi, hf, HV⟩ := hrel
      by_cases hlt : i < s.length
      · have hR := (slR_on hf.out H.out).get hlt
        obtain ⟨b, o, rfl, hc⟩ := hR
        have c0 := hc.c0; have c1 := hc.c1; have c2 := hc.c2; have c3 := hc.c3; have c4 := hc.c4; have c5 := hc.c5
        have HIN := Lib.hid hc.i
        clear hc
        have hltI : (i : Int) < (s.length : Int) := by omega
        go_upto_region 6 with fail
        have HNO := Lib.hid (val_no hlt HV.out)
        have HGO := Lib.hid (val_go hlt HV.out)
        generalize s[i] = r at *
        obtain ⟨V, hV⟩ : ∃ V, wr.alloc (.cells #[.int .i64 r.kd, .int .i64 r.nn, .string (bs r.nm), .string (bs r.ky), .string (bs r.fr), .string (bs r.tt)] 23) = V := ⟨_, rfl⟩
        have P := Lib.hid (show BkR V wr.heap.size r from by rw [← hV]; exact BkR.new wr r)
        have fV : Fuw wr V := by rw [← hV]; exact fuwA _ _
        rw [hV]
        have F := Lib.hid (hf.out.trans fV)
        clear hV c0 c1 c2 c3 c4 c5 fV
        have HK := Lib.hid (fun w' => chk_any r HIN.out w')
        unfold rlv at HK
        have d0 := P.out.c0; have d1 := P.out.c1; have d2 := P.out.c2; have d3 := P.out.c3; have d4 := P.out.c4; have d5 := P.out.c5
        by_cases hc : chkR r = 0
        · rw [hc] at HNO HGO HK
          clear hc
          rcases Nat.eq_zero_or_pos i with h0 | h0
          · subst h0
            have HR := Lib.hid (HGO.out rfl)
            clear HNO HGO HV hf H
            refine wp_region_held (S := (fun w8 => w8.cell? ⟨wr.heap.size, 0, none⟩ = some (.int .i64 r.kd) ∧ w8.cell? ⟨wr.heap.size, 1, none⟩ = some (.int .i64 r.nn) ∧ w8.cell? ⟨wr.heap.size, 2, none⟩ = some (.string (bs r.nm)) ∧ w8.cell? ⟨wr.heap.size, 3, none⟩ = some (.string (bs r.ky)) ∧ w8.cell? ⟨wr.heap.size, 4, none⟩ = some (.string (bs r.fr)) ∧ w8.cell? ⟨wr.heap.size, 5, none⟩ = some (.string (bs r.tt)))) (by kernel_rfl) ?_
            have hSS : (fun w8 => w8.cell? ⟨wr.heap.size, 0, none⟩ = some (.int .i64 r.kd) ∧ w8.cell? ⟨wr.heap.size, 1, none⟩ = some (.int .i64 r.nn) ∧ w8.cell? ⟨wr.heap.size, 2, none⟩ = some (.string (bs r.nm)) ∧ w8.cell? ⟨wr.heap.size, 3, none⟩ = some (.string (bs r.ky)) ∧ w8.cell? ⟨wr.heap.size, 4, none⟩ = some (.string (bs r.fr)) ∧ w8.cell? ⟨wr.heap.size, 5, none⟩ = some (.string (bs r.tt))) V.drew := ⟨d0, d1, d2, d3, d4, d5⟩
            refine takeH (i := 0) (d := some 15) (v := ?_) rfl rfl (by kernel_rfl) (by kernel_rfl) (by kernel_rfl) (fun _ _ _ h => h) (Or.inl ⟨by rfl, ?_⟩) (by assumption) ?_
            rotate_left
            · ((intro w8 hSw; (try dsimp only at hSw); go_simp); try with_reducible rfl)
            try simp only [Act.put]
            try simp only [List.setIfInBounds_toArray]
            try simp only [List.set_cons_succ]
            try simp only [List.set_cons_zero]
            refine oneH (i := 1) rfl (by kernel_rfl) (fun K8 hK8 => ?_)
            go_simp
            go_at_call 8; refine (HK.out _).mono ?_; rintro e2 w2 ⟨rfl, f2⟩
            have fB : Fuw V w2 := (Fuw.drew (Fuw.refl V)).trans f2
            have hS2 : (fun w8 => w8.cell? ⟨wr.heap.size, 0, none⟩ = some (.int .i64 r.kd) ∧ w8.cell? ⟨wr.heap.size, 1, none⟩ = some (.int .i64 r.nn) ∧ w8.cell? ⟨wr.heap.size, 2, none⟩ = some (.string (bs r.nm)) ∧ w8.cell? ⟨wr.heap.size, 3, none⟩ = some (.string (bs r.ky)) ∧ w8.cell? ⟨wr.heap.size, 4, none⟩ = some (.string (bs r.fr)) ∧ w8.cell? ⟨wr.heap.size, 5, none⟩ = some (.string (bs r.tt))) w2 := ⟨(P.out.on fB).c0, (P.out.on fB).c1, (P.out.on fB).c2, (P.out.on fB).c3, (P.out.on fB).c4, (P.out.on fB).c5⟩
            refine hK8 _ _ hS2 ?_
            try simp only [Act.put]
            try simp only [List.setIfInBounds_toArray]
            try simp only [List.set_cons_succ]
            try simp only [List.set_cons_zero]
            refine takeH (i := 2) (d := some 17) (v := ?_) rfl rfl (by kernel_rfl) (by kernel_rfl) (by kernel_rfl) (fun _ _ _ h => h) (Or.inl ⟨by rfl, ?_⟩) (by assumption) ?_
            rotate_left
            · ((intro w8 hSw; (try dsimp only at hSw); go_simp); try with_reducible rfl)
            try simp only [Act.put]
            try simp only [List.setIfInBounds_toArray]
            try simp only [List.set_cons_succ]
            try simp only [List.set_cons_zero]
            refine takeH (i := 3) (d := some 18) (v := ?_) rfl rfl (by kernel_rfl) (by kernel_rfl) (by kernel_rfl) (fun _ _ _ h => h) (Or.inl ⟨by rfl, ?_⟩) (by assumption) ?_
            rotate_left
            · ((intro w8 hSw; (try dsimp only at hSw); go_simp); try with_reducible rfl)
            try simp only [Act.put]
            try simp only [List.setIfInBounds_toArray]
            try simp only [List.set_cons_succ]
            try simp only [List.set_cons_zero]
            refine takeH (i := 4) (d := some 19) (v := ?_) rfl rfl (by kernel_rfl) (by kernel_rfl) (by kernel_rfl) (fun _ _ _ h => h) (Or.inl ⟨by rfl, ?_⟩) (by assumption) ?_
            rotate_left
            · ((intro w8 hSw; (try dsimp only at hSw); go_simp); try with_reducible rfl)
            try simp only [Act.put]
            try simp only [List.setIfInBounds_toArray]
            try simp only [List.set_cons_succ]
            try simp only [List.set_cons_zero]
            refine takeH (i := 5) (d := some 20) (v := ?_) rfl rfl (by kernel_rfl) (by kernel_rfl) (by kernel_rfl) (fun _ _ _ h => h) (Or.inl ⟨by rfl, ?_⟩) (by assumption) ?_
            rotate_left
            · ((intro w8 hSw; (try dsimp only at hSw); go_simp); try with_reducible rfl)
            try simp only [Act.put]
            try simp only [List.setIfInBounds_toArray]
            try simp only [List.set_cons_succ]
            try simp only [List.set_cons_zero]
            refine takeH (i := 6) (d := some 21) (v := ?_) rfl rfl (by kernel_rfl) (by kernel_rfl) (by kernel_rfl) (fun _ _ _ h => h) (Or.inl ⟨by rfl, ?_⟩) (by assumption) ?_
            rotate_left
            · ((intro w8 hSw; (try dsimp only at hSw); go_simp); try with_reducible rfl)
            try simp only [Act.put]
            try simp only [List.setIfInBounds_toArray]
            try simp only [List.set_cons_succ]
            try simp only [List.set_cons_zero]
            refine takeH (i := 7) (d := some 22) (v := undef) rfl rfl (by kernel_rfl) (by kernel_rfl) (by kernel_rfl) (fun _ _ _ h => h) (Or.inr ⟨by rfl, rfl⟩) (by assumption) ?_
            try simp only [Act.put]
            try simp only [List.setIfInBounds_toArray]
            try simp only [List.set_cons_succ]
            try simp only [List.set_cons_zero]
            refine takeH (i := 8) (d := some 23) (v := undef) rfl rfl (by kernel_rfl) (by kernel_rfl) (by kernel_rfl) (fun _ _ _ h => h) (Or.inr ⟨by rfl, rfl⟩) (by assumption) ?_
            try simp only [Act.put]
            try simp only [List.setIfInBounds_toArray]
            try simp only [List.set_cons_succ]
            try simp only [List.set_cons_zero]
            refine takeH (i := 9) (d := some 24) (v := undef) rfl rfl (by kernel_rfl) (by kernel_rfl) (by kernel_rfl) (fun _ _ _ h => h) (Or.inr ⟨by rfl, rfl⟩) (by assumption) ?_
            try simp only [Act.put]
            try simp only [List.setIfInBounds_toArray]
            try simp only [List.set_cons_succ]
            try simp only [List.set_cons_zero]
            refine takeH (i := 10) (d := some 25) (v := undef) rfl rfl (by kernel_rfl) (by kernel_rfl) (by kernel_rfl) (fun _ _ _ h => h) (Or.inr ⟨by rfl, rfl⟩) (by assumption) ?_
            try simp only [Act.put]
            try simp only [List.setIfInBounds_toArray]
            try simp only [List.set_cons_succ]
            try simp only [List.set_cons_zero]
            refine takeH (i := 11) (d := some 26) (v := undef) rfl rfl (by kernel_rfl) (by kernel_rfl) (by kernel_rfl) (fun _ _ _ h => h) (Or.inr ⟨by rfl, rfl⟩) (by assumption) ?_
            try simp only [Act.put]
            try simp only [List.setIfInBounds_toArray]
            try simp only [List.set_cons_succ]
            try simp only [List.set_cons_zero]
            refine takeH (i := 12) (d := some 27) (v := undef) rfl rfl (by kernel_rfl) (by kernel_rfl) (by kernel_rfl) (fun _ _ _ h => h) (Or.inr ⟨by rfl, rfl⟩) (by assumption) ?_
            try simp only [Act.put]
            try simp only [List.setIfInBounds_toArray]
            try simp only [List.set_cons_succ]
            try simp only [List.set_cons_zero]
            refine takeH (i := 13) (d := some 28) (v := undef) rfl rfl (by kernel_rfl) (by kernel_rfl) (by kernel_rfl) (fun _ _ _ h => h) (Or.inr ⟨by rfl, rfl⟩) (by assumption) ?_
            try simp only [Act.put]
            try simp only [List.setIfInBounds_toArray]
            try simp only [List.set_cons_succ]
            try simp only [List.set_cons_zero]
            refine takeH (i := 14) (d := some 29) (v := undef) rfl rfl (by kernel_rfl) (by kernel_rfl) (by kernel_rfl) (fun _ _ _ h => h) (Or.inr ⟨by rfl, rfl⟩) (by assumption) ?_
            try simp only [Act.put]
            try simp only [List.setIfInBounds_toArray]
            try simp only [List.set_cons_succ]
            try simp only [List.set_cons_zero]
            refine takeH (i := 15) (d := some 30) (v := ?_) rfl rfl (by kernel_rfl) (by kernel_rfl) (by kernel_rfl) (fun _ _ _ h => h) (Or.inl ⟨by rfl, ?_⟩) (by assumption) ?_
            rotate_left
            · ((intro w8 hSw; (try dsimp only at hSw); go_simp); try with_reducible rfl)
            try simp only [Act.put]
            try simp only [List.setIfInBounds_toArray]
            try simp only [List.set_cons_succ]
            try simp only [List.set_cons_zero]
            refine takeH (i := 16) (d := some 31) (v := ?_) rfl rfl (by kernel_rfl) (by kernel_rfl) (by kernel_rfl) (fun _ _ _ h => h) (Or.inl ⟨by rfl, ?_⟩) (by assumption) ?_
            rotate_left
            · ((intro w8 hSw; (try dsimp only at hSw); go_simp); try with_reducible rfl)
            try simp only [Act.put]
            try simp only [List.setIfInBounds_toArray]
            try simp only [List.set_cons_succ]
            try simp only [List.set_cons_zero]
            refine wpAnyH_done (by kernel_rfl) ?_ _
            clear hS2 hSS d0 d1 d2 d3 d4 d5
            have G := Lib.hid (F.out.trans fB)
            go_wp2
            go_roundw
            case rel => exact ⟨1, by go_num, by omega, G.out, HR⟩
            case measure => simp [RowKit.intOf]; omega
          · obtain ⟨p, hp⟩ : ∃ p, i = p + 1 := ⟨i - 1, by omega⟩
            have hpl : p < s.length := by omega
            have hE0 : prevR s i = some s[p] := by rw [hp]; exact prevR_s s p hpl
            rw [hE0] at HNO HGO
            have hpi : ((i : Int) - 1) = (p : Int) := by omega
            have hi0 : decide (0 < (i : Int)) = true := decide_eq_true (by omega)
            have hi1 : decide (0 < i) = true := decide_eq_true (by omega)
            have hpw : IntKind.i64.wrap (p : Int) = (p : Int) := IntWalk.i64_in _ (by omega)
            have hp0 : 0 ≤ (p : Int) := by omega
            have hpI : (p : Int) < (s.length : Int) := by omega
            have hpn : p < s.length := hpl
            have HP := Lib.hid hp
            clear hp hE0 HV h0
            obtain ⟨b', o', e', hq⟩ := (slR_on F.out H.out).get hpl
            cases e'
            have HQ := Lib.hid (fun w' (ff : Fuw V w') => hq.on ff)
            have HO := Lib.hid (fun w' => ord_any s[p] r w')
            unfold rlv at HO
            generalize s[p] = q at *
            have HNO' := Lib.hid (show ¬ ordR q r < 0 → valS s = false from fun g => HNO.out (by show (_ && decide (ordR q r < 0)) = false; rw [decide_eq_false g, Bool.and_false]))
            have HGO' := Lib.hid (show ordR q r < 0 → _ from fun g => HGO.out (by show (_ && decide (ordR q r < 0)) = true; rw [decide_eq_true g]; rfl))
            clear HNO HGO hq hf H d0 d1 d2 d3 d4 d5
            generalize ordR q r = z at *
            have HSS := Lib.hid (fun w' (ff : Fuw V w') => (show (w'.cell? ⟨wr.heap.size, 0, none⟩ = some (.int .i64 r.kd) ∧ w'.cell? ⟨wr.heap.size, 1, none⟩ = some (.int .i64 r.nn) ∧ w'.cell? ⟨wr.heap.size, 2, none⟩ = some (.string (bs r.nm)) ∧ w'.cell? ⟨wr.heap.size, 3, none⟩ = some (.string (bs r.ky)) ∧ w'.cell? ⟨wr.heap.size, 4, none⟩ = some (.string (bs r.fr)) ∧ w'.cell? ⟨wr.heap.size, 5, none⟩ = some (.string (bs r.tt))) ∧ (w'.cell? ⟨b, o + p * 6, none⟩ = some (.int .i64 q.kd) ∧ w'.cell? ⟨b, o + p * 6 + 1, none⟩ = some (.int .i64 q.nn) ∧ w'.cell? ⟨b, o + p * 6 + 2, none⟩ = some (.string (bs q.nm)) ∧ w'.cell? ⟨b, o + p * 6 + 3, none⟩ = some (.string (bs q.ky)) ∧ w'.cell? ⟨b, o + p * 6 + 4, none⟩ = some (.string (bs q.fr)) ∧ w'.cell? ⟨b, o + p * 6 + 5, none⟩ = some (.string (bs q.tt))) from
              ⟨⟨(P.out.on ff).c0, (P.out.on ff).c1, (P.out.on ff).c2, (P.out.on ff).c3, (P.out.on ff).c4, (P.out.on ff).c5⟩, (HQ.out _ ff).c0, (HQ.out _ ff).c1, (HQ.out _ ff).c2, (HQ.out _ ff).c3, (HQ.out _ ff).c4, (HQ.out _ ff).c5⟩))
            have ff : Fuw V V.drew := Fuw.drew (Fuw.refl V)
            clear HQ P HIN
            go_region_held3 (fun w' => (w'.cell? ⟨wr.heap.size, 0, none⟩ = some (.int .i64 r.kd) ∧ w'.cell? ⟨wr.heap.size, 1, none⟩ = some (.int .i64 r.nn) ∧ w'.cell? ⟨wr.heap.size, 2, none⟩ = some (.string (bs r.nm)) ∧ w'.cell? ⟨wr.heap.size, 3, none⟩ = some (.string (bs r.ky)) ∧ w'.cell? ⟨wr.heap.size, 4, none⟩ = some (.string (bs r.fr)) ∧ w'.cell? ⟨wr.heap.size, 5, none⟩ = some (.string (bs r.tt))) ∧ (w'.cell? ⟨b, o + p * 6, none⟩ = some (.int .i64 q.kd) ∧ w'.cell? ⟨b, o + p * 6 + 1, none⟩ = some (.int .i64 q.nn) ∧ w'.cell? ⟨b, o + p * 6 + 2, none⟩ = some (.string (bs q.nm)) ∧ w'.cell? ⟨b, o + p * 6 + 3, none⟩ = some (.string (bs q.ky)) ∧ w'.cell? ⟨b, o + p * 6 + 4, none⟩ = some (.string (bs q.fr)) ∧ w'.cell? ⟨b, o + p * 6 + 5, none⟩ = some (.string (bs q.tt))))
              (first | (with_reducible exact HSS.out _ ff))
              (first
                | (go_at_call 8; refine (HK.out _).mono ?_; rintro g1 v1 ⟨rfl, j1⟩; replace ff := ff.trans j1)
                | (go_at_call 39; refine (HO.out _).mono ?_; rintro g2 v2 ⟨rfl, j2⟩; replace ff := ff.trans j2))
            all_goals
              rename_i hH
              clear hH HSS HK HO
              have G := Lib.hid (F.out.trans ff)
              clear ff F
              by_cases hz : z < 0
              · have hz' : ¬ 0 ≤ z := by omega
                have HR := Lib.hid (HGO'.out hz)
                clear HNO' HGO'
                go_wp2
                go_roundw
                case rel => exact ⟨i + 1, by go_num, by omega, G.out, HR⟩
                case measure => simp [RowKit.intOf]; omega
              · have hz' : 0 ≤ z := by omega
                have HR := Lib.hid (HNO'.out hz')
                clear HNO' HGO'
                go_wp2
                go_ret
                exact ⟨ret_bool HR.out.symm, G.out⟩
        · have HR := Lib.hid (HNO.out (by rw [beq_eq_false_iff_ne.2 hc]; rfl))
          generalize chkR r = e at *
          have hc' : (e != 0) = true := by simpa using hc
          clear HNO HGO HV hf H
          clear hc
          refine wp_region_held (S := (fun w8 => w8.cell? ⟨wr.heap.size, 0, none⟩ = some (.int .i64 r.kd) ∧ w8.cell? ⟨wr.heap.size, 1, none⟩ = some (.int .i64 r.nn) ∧ w8.cell? ⟨wr.heap.size, 2, none⟩ = some (.string (bs r.nm)) ∧ w8.cell? ⟨wr.heap.size, 3, none⟩ = some (.string (bs r.ky)) ∧ w8.cell? ⟨wr.heap.size, 4, none⟩ = some (.string (bs r.fr)) ∧ w8.cell? ⟨wr.heap.size, 5, none⟩ = some (.string (bs r.tt)))) (by kernel_rfl) ?_
          have hSS : (fun w8 => w8.cell? ⟨wr.heap.size, 0, none⟩ = some (.int .i64 r.kd) ∧ w8.cell? ⟨wr.heap.size, 1, none⟩ = some (.int .i64 r.nn) ∧ w8.cell? ⟨wr.heap.size, 2, none⟩ = some (.string (bs r.nm)) ∧ w8.cell? ⟨wr.heap.size, 3, none⟩ = some (.string (bs r.ky)) ∧ w8.cell? ⟨wr.heap.size, 4, none⟩ = some (.string (bs r.fr)) ∧ w8.cell? ⟨wr.heap.size, 5, none⟩ = some (.string (bs r.tt))) V.drew := ⟨d0, d1, d2, d3, d4, d5⟩
          refine takeH (i := 0) (d := some 15) (v := ?_) rfl rfl (by kernel_rfl) (by kernel_rfl) (by kernel_rfl) (fun _ _ _ h => h) (Or.inl ⟨by rfl, ?_⟩) (by assumption) ?_
          rotate_left
          · ((intro w8 hSw; (try dsimp only at hSw); go_simp); try with_reducible rfl)
          try simp only [Act.put]
          try simp only [List.setIfInBounds_toArray]
          try simp only [List.set_cons_succ]
          try simp only [List.set_cons_zero]
          refine oneH (i := 1) rfl (by kernel_rfl) (fun K8 hK8 => ?_)
          go_simp
          go_at_call 8; refine (HK.out _).mono ?_; rintro e2 w2 ⟨rfl, f2⟩
          have fB : Fuw V w2 := (Fuw.drew (Fuw.refl V)).trans f2
          have hS2 : (fun w8 => w8.cell? ⟨wr.heap.size, 0, none⟩ = some (.int .i64 r.kd) ∧ w8.cell? ⟨wr.heap.size, 1, none⟩ = some (.int .i64 r.nn) ∧ w8.cell? ⟨wr.heap.size, 2, none⟩ = some (.string (bs r.nm)) ∧ w8.cell? ⟨wr.heap.size, 3, none⟩ = some (.string (bs r.ky)) ∧ w8.cell? ⟨wr.heap.size, 4, none⟩ = some (.string (bs r.fr)) ∧ w8.cell? ⟨wr.heap.size, 5, none⟩ = some (.string (bs r.tt))) w2 := ⟨(P.out.on fB).c0, (P.out.on fB).c1, (P.out.on fB).c2, (P.out.on fB).c3, (P.out.on fB).c4, (P.out.on fB).c5⟩
          refine hK8 _ _ hS2 ?_
          try simp only [Act.put]
          try simp only [List.setIfInBounds_toArray]
          try simp only [List.set_cons_succ]
          try simp only [List.set_cons_zero]
          refine takeH (i := 2) (d := some 17) (v := ?_) rfl rfl (by kernel_rfl) (by kernel_rfl) (by kernel_rfl) (fun _ _ _ h => h) (Or.inl ⟨by rfl, ?_⟩) (by assumption) ?_
          rotate_left
          · ((intro w8 hSw; (try dsimp only at hSw); go_simp); try with_reducible rfl)
          try simp only [Act.put]
          try simp only [List.setIfInBounds_toArray]
          try simp only [List.set_cons_succ]
          try simp only [List.set_cons_zero]
          refine takeH (i := 3) (d := some 18) (v := ?_) rfl rfl (by kernel_rfl) (by kernel_rfl) (by kernel_rfl) (fun _ _ _ h => h) (Or.inl ⟨by rfl, ?_⟩) (by assumption) ?_
          rotate_left
          · ((intro w8 hSw; (try dsimp only at hSw); go_simp); try with_reducible rfl)
          try simp only [Act.put]
          try simp only [List.setIfInBounds_toArray]
          try simp only [List.set_cons_succ]
          try simp only [List.set_cons_zero]
          refine takeH (i := 4) (d := some 19) (v := undef) rfl rfl (by kernel_rfl) (by kernel_rfl) (by kernel_rfl) (fun _ _ _ h => h) (Or.inr ⟨by rfl, rfl⟩) (by assumption) ?_
          try simp only [Act.put]
          try simp only [List.setIfInBounds_toArray]
          try simp only [List.set_cons_succ]
          try simp only [List.set_cons_zero]
          refine takeH (i := 5) (d := some 20) (v := undef) rfl rfl (by kernel_rfl) (by kernel_rfl) (by kernel_rfl) (fun _ _ _ h => h) (Or.inr ⟨by rfl, rfl⟩) (by assumption) ?_
          try simp only [Act.put]
          try simp only [List.setIfInBounds_toArray]
          try simp only [List.set_cons_succ]
          try simp only [List.set_cons_zero]
          refine takeH (i := 6) (d := some 21) (v := undef) rfl rfl (by kernel_rfl) (by kernel_rfl) (by kernel_rfl) (fun _ _ _ h => h) (Or.inr ⟨by rfl, rfl⟩) (by assumption) ?_
          try simp only [Act.put]
          try simp only [List.setIfInBounds_toArray]
          try simp only [List.set_cons_succ]
          try simp only [List.set_cons_zero]
          refine takeH (i := 7) (d := some 22) (v := undef) rfl rfl (by kernel_rfl) (by kernel_rfl) (by kernel_rfl) (fun _ _ _ h => h) (Or.inr ⟨by rfl, rfl⟩) (by assumption) ?_
          try simp only [Act.put]
          try simp only [List.setIfInBounds_toArray]
          try simp only [List.set_cons_succ]
          try simp only [List.set_cons_zero]
          refine takeH (i := 8) (d := some 23) (v := undef) rfl rfl (by kernel_rfl) (by kernel_rfl) (by kernel_rfl) (fun _ _ _ h => h) (Or.inr ⟨by rfl, rfl⟩) (by assumption) ?_
          try simp only [Act.put]
          try simp only [List.setIfInBounds_toArray]
          try simp only [List.set_cons_succ]
          try simp only [List.set_cons_zero]
          refine takeH (i := 9) (d := some 24) (v := undef) rfl rfl (by kernel_rfl) (by kernel_rfl) (by kernel_rfl) (fun _ _ _ h => h) (Or.inr ⟨by rfl, rfl⟩) (by assumption) ?_
          try simp only [Act.put]
          try simp only [List.setIfInBounds_toArray]
          try simp only [List.set_cons_succ]
          try simp only [List.set_cons_zero]
          refine takeH (i := 10) (d := some 25) (v := undef) rfl rfl (by kernel_rfl) (by kernel_rfl) (by kernel_rfl) (fun _ _ _ h => h) (Or.inr ⟨by rfl, rfl⟩) (by assumption) ?_
          try simp only [Act.put]
          try simp only [List.setIfInBounds_toArray]
          try simp only [List.set_cons_succ]
          try simp only [List.set_cons_zero]
          refine takeH (i := 11) (d := some 26) (v := undef) rfl rfl (by kernel_rfl) (by kernel_rfl) (by kernel_rfl) (fun _ _ _ h => h) (Or.inr ⟨by rfl, rfl⟩) (by assumption) ?_
          try simp only [Act.put]
          try simp only [List.setIfInBounds_toArray]
          try simp only [List.set_cons_succ]
          try simp only [List.set_cons_zero]
          refine takeH (i := 12) (d := some 27) (v := undef) rfl rfl (by kernel_rfl) (by kernel_rfl) (by kernel_rfl) (fun _ _ _ h => h) (Or.inr ⟨by rfl, rfl⟩) (by assumption) ?_
          try simp only [Act.put]
          try simp only [List.setIfInBounds_toArray]
          try simp only [List.set_cons_succ]
          try simp only [List.set_cons_zero]
          refine takeH (i := 13) (d := some 28) (v := undef) rfl rfl (by kernel_rfl) (by kernel_rfl) (by kernel_rfl) (fun _ _ _ h => h) (Or.inr ⟨by rfl, rfl⟩) (by assumption) ?_
          try simp only [Act.put]
          try simp only [List.setIfInBounds_toArray]
          try simp only [List.set_cons_succ]
          try simp only [List.set_cons_zero]
          refine takeH (i := 14) (d := some 29) (v := undef) rfl rfl (by kernel_rfl) (by kernel_rfl) (by kernel_rfl) (fun _ _ _ h => h) (Or.inr ⟨by rfl, rfl⟩) (by assumption) ?_
          try simp only [Act.put]
          try simp only [List.setIfInBounds_toArray]
          try simp only [List.set_cons_succ]
          try simp only [List.set_cons_zero]
          refine takeH (i := 15) (d := some 30) (v := undef) rfl rfl (by kernel_rfl) (by kernel_rfl) (by kernel_rfl) (fun _ _ _ h => h) (Or.inr ⟨by rfl, rfl⟩) (by assumption) ?_
          try simp only [Act.put]
          try simp only [List.setIfInBounds_toArray]
          try simp only [List.set_cons_succ]
          try simp only [List.set_cons_zero]
          refine takeH (i := 16) (d := some 31) (v := ?_) rfl rfl (by kernel_rfl) (by kernel_rfl) (by kernel_rfl) (fun _ _ _ h => h) (Or.inl ⟨by rfl, ?_⟩) (by assumption) ?_
          rotate_left
          · ((intro w8 hSw; (try dsimp only at hSw); go_simp); try with_reducible rfl)
          try simp only [Act.put]
          try simp only [List.setIfInBounds_toArray]
          try simp only [List.set_cons_succ]
          try simp only [List.set_cons_zero]
          refine wpAnyH_done (by kernel_rfl) ?_ _
          clear hS2 hSS d0 d1 d2 d3 d4 d5
          go_wp2
          go_ret
          exact ⟨ret_bool HR.out.symm, F.out.trans fB⟩
      · have HE := Lib.hid (show valS s = true by unfold valS; rw [HV.out, vlR_end s _ i (by omega), decide_eq_true (by omega)]; rfl)
        go_wp2
        go_ret
        exact ⟨ret_bool HE.out.symm, hf.out⟩
end Go.Proofs.YtadnaakbhgacgaaDoor
