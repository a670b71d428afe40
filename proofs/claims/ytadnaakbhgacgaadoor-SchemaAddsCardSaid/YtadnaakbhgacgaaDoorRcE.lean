/-
  The reference of package schema: whether a list is a schema (Valid). Nothing that was there turns.
-/
import Derived.Test.YtadnaakbhgacgaaDoorRcB
import Derived.Test.YtadnaakbhgacgaaDoorRcC
import Derived.Test.YtadnaakbhgacgaaDoorScE
namespace Go.Proofs.YtadnaakbhgacgaaDoor
open Go.RowKit

set_option maxHeartbeats 6400000 in
set_option maxRecDepth 100000 in
theorem rval (s : List Rl) (ao : Option Addr) (cap : Nat) (w : World) (h : SlR w ao s cap) : Calls Tryd.prog 21 #[.slice ao s.length cap] w (FwB w (valS s)) := by
  have hln := h.len
  have H := Lib.hid h
  clear h
  by_cases hl : 40 < s.length
  · have hlI : 40 < (s.length : Int) := by omega
    have HE := Lib.hid (show valS s = false by unfold valS; rw [decide_eq_false (by omega)]; rfl)
    clear hl
    go_enter Tryd.func21, Tryd.ntmps21
    go_wp2
    go_ret
    exact ⟨ret_bool HE.out.symm, Fuw.refl _⟩
  · have hlI : ¬ 40 < (s.length : Int) := by omega
    go_enter Tryd.func21, Tryd.ntmps21
    go_wp2
    go_loopw [3] (fun iv wr => ∃ i : Nat, iv = .int .i64 i ∧ i ≤ s.length ∧ Hid (Fuw w wr) ∧ Hid (vlR none s = vlR (prevR s i) (s.drop i))) (fun iv _ => s.length - (RowKit.intOf iv).toNat)
    case atStart => exact ⟨0, rfl, Nat.zero_le _, Lib.hid (Fuw.refl _), Lib.hid rfl⟩
    case round =>
      obtain ⟨i, rfl, hi, hf, HV⟩ := hrel
      by_cases hlt : i < s.length
      · obtain ⟨b, o, rfl, hq⟩ := (slR_on hf.out H.out).get hlt
        have HIN := Lib.hid hq.i
        have HQ := Lib.hid (fun w' (ff : Fuw wr w') => hq.on ff)
        clear hq
        have hltI : (i : Int) < (s.length : Int) := by omega
        go_upto_region 6 with fail
        have HNO := Lib.hid (val_no hlt HV.out)
        have HGO := Lib.hid (val_go hlt HV.out)
        have HK := Lib.hid (fun w' => rchk s[i] HIN.out w')
        generalize s[i] = q at *
        have HQC := Lib.hid (fun w' (ff : Fuw wr w') => (show (w'.cell? ⟨b, o + i * 6, none⟩ = some (.int .i64 q.kd) ∧ w'.cell? ⟨b, o + i * 6 + 1, none⟩ = some (.int .i64 q.nn) ∧ w'.cell? ⟨b, o + i * 6 + 2, none⟩ = some (.string (bs q.nm)) ∧ w'.cell? ⟨b, o + i * 6 + 3, none⟩ = some (.string (bs q.ky)) ∧ w'.cell? ⟨b, o + i * 6 + 4, none⟩ = some (.string (bs q.fr)) ∧ w'.cell? ⟨b, o + i * 6 + 5, none⟩ = some (.string (bs q.tt))) from ⟨(HQ.out w' ff).c0, (HQ.out w' ff).c1, (HQ.out w' ff).c2, (HQ.out w' ff).c3, (HQ.out w' ff).c4, (HQ.out w' ff).c5⟩))
        by_cases hc : chkR q = 0
        · rw [hc] at HNO HGO HK
          clear hc
          rcases Nat.eq_zero_or_pos i with h0 | h0
          · subst h0
            have HR := Lib.hid (HGO.out rfl)
            clear HNO HGO HV H HQ
            have HQC := Lib.hid (show ∀ w', Fuw wr w' → (w'.cell? ⟨b, o, none⟩ = some (.int .i64 q.kd) ∧ w'.cell? ⟨b, o + 1, none⟩ = some (.int .i64 q.nn) ∧ w'.cell? ⟨b, o + 2, none⟩ = some (.string (bs q.nm)) ∧ w'.cell? ⟨b, o + 3, none⟩ = some (.string (bs q.ky)) ∧ w'.cell? ⟨b, o + 4, none⟩ = some (.string (bs q.fr)) ∧ w'.cell? ⟨b, o + 5, none⟩ = some (.string (bs q.tt))) from fun w' ff => by simpa using HQC.out w' ff)
            refine wp_region_held (S := (fun w8 => (w8.cell? ⟨b, o, none⟩ = some (.int .i64 q.kd) ∧ w8.cell? ⟨b, o + 1, none⟩ = some (.int .i64 q.nn) ∧ w8.cell? ⟨b, o + 2, none⟩ = some (.string (bs q.nm)) ∧ w8.cell? ⟨b, o + 3, none⟩ = some (.string (bs q.ky)) ∧ w8.cell? ⟨b, o + 4, none⟩ = some (.string (bs q.fr)) ∧ w8.cell? ⟨b, o + 5, none⟩ = some (.string (bs q.tt))))) (by kernel_rfl) ?_
            have hSS : (fun w8 => (w8.cell? ⟨b, o, none⟩ = some (.int .i64 q.kd) ∧ w8.cell? ⟨b, o + 1, none⟩ = some (.int .i64 q.nn) ∧ w8.cell? ⟨b, o + 2, none⟩ = some (.string (bs q.nm)) ∧ w8.cell? ⟨b, o + 3, none⟩ = some (.string (bs q.ky)) ∧ w8.cell? ⟨b, o + 4, none⟩ = some (.string (bs q.fr)) ∧ w8.cell? ⟨b, o + 5, none⟩ = some (.string (bs q.tt)))) wr.drew := HQC.out _ (Fuw.drew (Fuw.refl wr))
            refine takeH (i := 0) (d := some 13) (v := ?_) rfl rfl (by kernel_rfl) (by kernel_rfl) (by kernel_rfl) (fun _ _ _ h => h) (Or.inl ⟨by rfl, ?_⟩) (by assumption) ?_
            rotate_left
            · ((intro w8 hSw; (try dsimp only at hSw); go_simp); try with_reducible rfl)
            try simp only [Act.put]
            try simp only [List.setIfInBounds_toArray]
            try simp only [List.set_cons_succ]
            try simp only [List.set_cons_zero]
            refine takeH (i := 1) (d := some 14) (v := ?_) rfl rfl (by kernel_rfl) (by kernel_rfl) (by kernel_rfl) (fun _ _ _ h => h) (Or.inl ⟨by rfl, ?_⟩) (by assumption) ?_
            rotate_left
            · ((intro w8 hSw; (try dsimp only at hSw); go_simp); try with_reducible rfl)
            try simp only [Act.put]
            try simp only [List.setIfInBounds_toArray]
            try simp only [List.set_cons_succ]
            try simp only [List.set_cons_zero]
            refine takeH (i := 2) (d := some 15) (v := ?_) rfl rfl (by kernel_rfl) (by kernel_rfl) (by kernel_rfl) (fun _ _ _ h => h) (Or.inl ⟨by rfl, ?_⟩) (by assumption) ?_
            rotate_left
            · ((intro w8 hSw; (try dsimp only at hSw); go_simp); try with_reducible rfl)
            try simp only [Act.put]
            try simp only [List.setIfInBounds_toArray]
            try simp only [List.set_cons_succ]
            try simp only [List.set_cons_zero]
            refine takeH (i := 3) (d := some 16) (v := ?_) rfl rfl (by kernel_rfl) (by kernel_rfl) (by kernel_rfl) (fun _ _ _ h => h) (Or.inl ⟨by rfl, ?_⟩) (by assumption) ?_
            rotate_left
            · ((intro w8 hSw; (try dsimp only at hSw); go_simp); try with_reducible rfl)
            try simp only [Act.put]
            try simp only [List.setIfInBounds_toArray]
            try simp only [List.set_cons_succ]
            try simp only [List.set_cons_zero]
            refine oneH (i := 4) rfl (by kernel_rfl) (fun K8 hK8 => ?_)
            go_simp
            go_at_call 9; refine (HK.out _).mono ?_; rintro g1 v1 ⟨rfl, j1⟩
            have fB : Fuw wr v1 := (Fuw.drew (Fuw.refl wr)).trans j1
            have hS2 : (fun w8 => (w8.cell? ⟨b, o, none⟩ = some (.int .i64 q.kd) ∧ w8.cell? ⟨b, o + 1, none⟩ = some (.int .i64 q.nn) ∧ w8.cell? ⟨b, o + 2, none⟩ = some (.string (bs q.nm)) ∧ w8.cell? ⟨b, o + 3, none⟩ = some (.string (bs q.ky)) ∧ w8.cell? ⟨b, o + 4, none⟩ = some (.string (bs q.fr)) ∧ w8.cell? ⟨b, o + 5, none⟩ = some (.string (bs q.tt)))) v1 := HQC.out _ fB
            refine hK8 _ _ hS2 ?_
            try simp only [Act.put]
            try simp only [List.setIfInBounds_toArray]
            try simp only [List.set_cons_succ]
            try simp only [List.set_cons_zero]
            refine takeH (i := 5) (d := some 18) (v := ?_) rfl rfl (by kernel_rfl) (by kernel_rfl) (by kernel_rfl) (fun _ _ _ h => h) (Or.inl ⟨by rfl, ?_⟩) (by assumption) ?_
            rotate_left
            · ((intro w8 hSw; (try dsimp only at hSw); go_simp); try with_reducible rfl)
            try simp only [Act.put]
            try simp only [List.setIfInBounds_toArray]
            try simp only [List.set_cons_succ]
            try simp only [List.set_cons_zero]
            refine takeH (i := 6) (d := some 19) (v := ?_) rfl rfl (by kernel_rfl) (by kernel_rfl) (by kernel_rfl) (fun _ _ _ h => h) (Or.inl ⟨by rfl, ?_⟩) (by assumption) ?_
            rotate_left
            · ((intro w8 hSw; (try dsimp only at hSw); go_simp); try with_reducible rfl)
            try simp only [Act.put]
            try simp only [List.setIfInBounds_toArray]
            try simp only [List.set_cons_succ]
            try simp only [List.set_cons_zero]
            refine takeH (i := 7) (d := some 20) (v := ?_) rfl rfl (by kernel_rfl) (by kernel_rfl) (by kernel_rfl) (fun _ _ _ h => h) (Or.inl ⟨by rfl, ?_⟩) (by assumption) ?_
            rotate_left
            · ((intro w8 hSw; (try dsimp only at hSw); go_simp); try with_reducible rfl)
            try simp only [Act.put]
            try simp only [List.setIfInBounds_toArray]
            try simp only [List.set_cons_succ]
            try simp only [List.set_cons_zero]
            refine takeH (i := 8) (d := some 21) (v := ?_) rfl rfl (by kernel_rfl) (by kernel_rfl) (by kernel_rfl) (fun _ _ _ h => h) (Or.inl ⟨by rfl, ?_⟩) (by assumption) ?_
            rotate_left
            · ((intro w8 hSw; (try dsimp only at hSw); go_simp); try with_reducible rfl)
            try simp only [Act.put]
            try simp only [List.setIfInBounds_toArray]
            try simp only [List.set_cons_succ]
            try simp only [List.set_cons_zero]
            refine takeH (i := 9) (d := some 22) (v := ?_) rfl rfl (by kernel_rfl) (by kernel_rfl) (by kernel_rfl) (fun _ _ _ h => h) (Or.inl ⟨by rfl, ?_⟩) (by assumption) ?_
            rotate_left
            · ((intro w8 hSw; (try dsimp only at hSw); go_simp); try with_reducible rfl)
            try simp only [Act.put]
            try simp only [List.setIfInBounds_toArray]
            try simp only [List.set_cons_succ]
            try simp only [List.set_cons_zero]
            refine takeH (i := 10) (d := some 23) (v := undef) rfl rfl (by kernel_rfl) (by kernel_rfl) (by kernel_rfl) (fun _ _ _ h => h) (Or.inr ⟨by rfl, rfl⟩) (by assumption) ?_
            try simp only [Act.put]
            try simp only [List.setIfInBounds_toArray]
            try simp only [List.set_cons_succ]
            try simp only [List.set_cons_zero]
            refine takeH (i := 11) (d := some 24) (v := undef) rfl rfl (by kernel_rfl) (by kernel_rfl) (by kernel_rfl) (fun _ _ _ h => h) (Or.inr ⟨by rfl, rfl⟩) (by assumption) ?_
            try simp only [Act.put]
            try simp only [List.setIfInBounds_toArray]
            try simp only [List.set_cons_succ]
            try simp only [List.set_cons_zero]
            refine takeH (i := 12) (d := some 25) (v := undef) rfl rfl (by kernel_rfl) (by kernel_rfl) (by kernel_rfl) (fun _ _ _ h => h) (Or.inr ⟨by rfl, rfl⟩) (by assumption) ?_
            try simp only [Act.put]
            try simp only [List.setIfInBounds_toArray]
            try simp only [List.set_cons_succ]
            try simp only [List.set_cons_zero]
            refine takeH (i := 13) (d := some 26) (v := undef) rfl rfl (by kernel_rfl) (by kernel_rfl) (by kernel_rfl) (fun _ _ _ h => h) (Or.inr ⟨by rfl, rfl⟩) (by assumption) ?_
            try simp only [Act.put]
            try simp only [List.setIfInBounds_toArray]
            try simp only [List.set_cons_succ]
            try simp only [List.set_cons_zero]
            refine takeH (i := 14) (d := some 27) (v := undef) rfl rfl (by kernel_rfl) (by kernel_rfl) (by kernel_rfl) (fun _ _ _ h => h) (Or.inr ⟨by rfl, rfl⟩) (by assumption) ?_
            try simp only [Act.put]
            try simp only [List.setIfInBounds_toArray]
            try simp only [List.set_cons_succ]
            try simp only [List.set_cons_zero]
            refine takeH (i := 15) (d := some 28) (v := undef) rfl rfl (by kernel_rfl) (by kernel_rfl) (by kernel_rfl) (fun _ _ _ h => h) (Or.inr ⟨by rfl, rfl⟩) (by assumption) ?_
            try simp only [Act.put]
            try simp only [List.setIfInBounds_toArray]
            try simp only [List.set_cons_succ]
            try simp only [List.set_cons_zero]
            refine takeH (i := 16) (d := some 29) (v := undef) rfl rfl (by kernel_rfl) (by kernel_rfl) (by kernel_rfl) (fun _ _ _ h => h) (Or.inr ⟨by rfl, rfl⟩) (by assumption) ?_
            try simp only [Act.put]
            try simp only [List.setIfInBounds_toArray]
            try simp only [List.set_cons_succ]
            try simp only [List.set_cons_zero]
            refine takeH (i := 17) (d := some 30) (v := undef) rfl rfl (by kernel_rfl) (by kernel_rfl) (by kernel_rfl) (fun _ _ _ h => h) (Or.inr ⟨by rfl, rfl⟩) (by assumption) ?_
            try simp only [Act.put]
            try simp only [List.setIfInBounds_toArray]
            try simp only [List.set_cons_succ]
            try simp only [List.set_cons_zero]
            refine takeH (i := 18) (d := some 31) (v := undef) rfl rfl (by kernel_rfl) (by kernel_rfl) (by kernel_rfl) (fun _ _ _ h => h) (Or.inr ⟨by rfl, rfl⟩) (by assumption) ?_
            try simp only [Act.put]
            try simp only [List.setIfInBounds_toArray]
            try simp only [List.set_cons_succ]
            try simp only [List.set_cons_zero]
            refine takeH (i := 19) (d := some 32) (v := undef) rfl rfl (by kernel_rfl) (by kernel_rfl) (by kernel_rfl) (fun _ _ _ h => h) (Or.inr ⟨by rfl, rfl⟩) (by assumption) ?_
            try simp only [Act.put]
            try simp only [List.setIfInBounds_toArray]
            try simp only [List.set_cons_succ]
            try simp only [List.set_cons_zero]
            refine takeH (i := 20) (d := some 33) (v := undef) rfl rfl (by kernel_rfl) (by kernel_rfl) (by kernel_rfl) (fun _ _ _ h => h) (Or.inr ⟨by rfl, rfl⟩) (by assumption) ?_
            try simp only [Act.put]
            try simp only [List.setIfInBounds_toArray]
            try simp only [List.set_cons_succ]
            try simp only [List.set_cons_zero]
            refine takeH (i := 21) (d := some 34) (v := ?_) rfl rfl (by kernel_rfl) (by kernel_rfl) (by kernel_rfl) (fun _ _ _ h => h) (Or.inl ⟨by rfl, ?_⟩) (by assumption) ?_
            rotate_left
            · ((intro w8 hSw; (try dsimp only at hSw); go_simp); try with_reducible rfl)
            try simp only [Act.put]
            try simp only [List.setIfInBounds_toArray]
            try simp only [List.set_cons_succ]
            try simp only [List.set_cons_zero]
            refine takeH (i := 22) (d := some 35) (v := ?_) rfl rfl (by kernel_rfl) (by kernel_rfl) (by kernel_rfl) (fun _ _ _ h => h) (Or.inl ⟨by rfl, ?_⟩) (by assumption) ?_
            rotate_left
            · ((intro w8 hSw; (try dsimp only at hSw); go_simp); try with_reducible rfl)
            try simp only [Act.put]
            try simp only [List.setIfInBounds_toArray]
            try simp only [List.set_cons_succ]
            try simp only [List.set_cons_zero]
            refine wpAnyH_done (by kernel_rfl) ?_ _
            clear hS2 hSS HQC
            have G := Lib.hid (hf.out.trans fB)
            clear fB
            go_wp2
            go_roundw
            case rel => exact ⟨0 + 1, by go_num, by omega, G, HR⟩
            case measure => simp [RowKit.intOf]; omega
          · obtain ⟨p, hp⟩ : ∃ p, i = p + 1 := ⟨i - 1, by omega⟩
            have hpl : p < s.length := by omega
            have hE0 : prevR s i = some s[p] := by rw [hp]; exact prevR_s s p hpl
            rw [hE0] at HNO HGO
            have hpi : ((i : Int) - 1) = (p : Int) := by omega
            have hi0 : decide (0 < (i : Int)) = true := decide_eq_true (by omega)
            have hi1 : decide (0 < i) = true := decide_eq_true (by omega)
            have hpw : IntKind.i64.wrap (p : Int) = (p : Int) := IntWalk.i64_in _ (by omega)
            have hp0 : 0 ≤ (p : Int) := by omega
            have hpI : (p : Int) < (s.length : Int) := by omega
            have hpn : p < s.length := hpl
            clear hp hE0 HV h0
            obtain ⟨b', o', e', hu⟩ := (slR_on hf.out H.out).get hpl
            cases e'
            have HU := Lib.hid (fun w' (ff : Fuw wr w') => hu.on ff)
            have HO := Lib.hid (fun w' => rord s[p] q w')
            generalize s[p] = u at *
            have HNO' := Lib.hid (show ¬ ordR u q < 0 → valS s = false from fun g => HNO.out (by show (_ && decide (ordR u q < 0)) = false; rw [decide_eq_false g, Bool.and_false]))
            have HGO' := Lib.hid (show ordR u q < 0 → _ from fun g => HGO.out (by show (_ && decide (ordR u q < 0)) = true; rw [decide_eq_true g]; rfl))
            clear HNO HGO hu H
            generalize ordR u q = z at *
            have HSS := Lib.hid (fun w' (ff : Fuw wr w') => (show (w'.cell? ⟨b, o + i * 6, none⟩ = some (.int .i64 q.kd) ∧ w'.cell? ⟨b, o + i * 6 + 1, none⟩ = some (.int .i64 q.nn) ∧ w'.cell? ⟨b, o + i * 6 + 2, none⟩ = some (.string (bs q.nm)) ∧ w'.cell? ⟨b, o + i * 6 + 3, none⟩ = some (.string (bs q.ky)) ∧ w'.cell? ⟨b, o + i * 6 + 4, none⟩ = some (.string (bs q.fr)) ∧ w'.cell? ⟨b, o + i * 6 + 5, none⟩ = some (.string (bs q.tt))) ∧ (w'.cell? ⟨b, o + p * 6, none⟩ = some (.int .i64 u.kd) ∧ w'.cell? ⟨b, o + p * 6 + 1, none⟩ = some (.int .i64 u.nn) ∧ w'.cell? ⟨b, o + p * 6 + 2, none⟩ = some (.string (bs u.nm)) ∧ w'.cell? ⟨b, o + p * 6 + 3, none⟩ = some (.string (bs u.ky)) ∧ w'.cell? ⟨b, o + p * 6 + 4, none⟩ = some (.string (bs u.fr)) ∧ w'.cell? ⟨b, o + p * 6 + 5, none⟩ = some (.string (bs u.tt))) from ⟨⟨(HQ.out w' ff).c0, (HQ.out w' ff).c1, (HQ.out w' ff).c2, (HQ.out w' ff).c3, (HQ.out w' ff).c4, (HQ.out w' ff).c5⟩, ⟨(HU.out w' ff).c0, (HU.out w' ff).c1, (HU.out w' ff).c2, (HU.out w' ff).c3, (HU.out w' ff).c4, (HU.out w' ff).c5⟩⟩))
            have ff : Fuw wr wr.drew := Fuw.drew (Fuw.refl wr)
            clear HQ HU HQC HIN
            go_region_held3 (fun w' => (w'.cell? ⟨b, o + i * 6, none⟩ = some (.int .i64 q.kd) ∧ w'.cell? ⟨b, o + i * 6 + 1, none⟩ = some (.int .i64 q.nn) ∧ w'.cell? ⟨b, o + i * 6 + 2, none⟩ = some (.string (bs q.nm)) ∧ w'.cell? ⟨b, o + i * 6 + 3, none⟩ = some (.string (bs q.ky)) ∧ w'.cell? ⟨b, o + i * 6 + 4, none⟩ = some (.string (bs q.fr)) ∧ w'.cell? ⟨b, o + i * 6 + 5, none⟩ = some (.string (bs q.tt))) ∧ (w'.cell? ⟨b, o + p * 6, none⟩ = some (.int .i64 u.kd) ∧ w'.cell? ⟨b, o + p * 6 + 1, none⟩ = some (.int .i64 u.nn) ∧ w'.cell? ⟨b, o + p * 6 + 2, none⟩ = some (.string (bs u.nm)) ∧ w'.cell? ⟨b, o + p * 6 + 3, none⟩ = some (.string (bs u.ky)) ∧ w'.cell? ⟨b, o + p * 6 + 4, none⟩ = some (.string (bs u.fr)) ∧ w'.cell? ⟨b, o + p * 6 + 5, none⟩ = some (.string (bs u.tt))))
              (first | (with_reducible exact HSS.out _ ff))
              (first
                | (go_at_call 9; refine (HK.out _).mono ?_; rintro g1 v1 ⟨rfl, j1⟩; replace ff := ff.trans j1)
                | (go_at_call 43; refine (HO.out _).mono ?_; rintro g2 v2 ⟨rfl, j2⟩; replace ff := ff.trans j2))
            all_goals
              rename_i hH
              clear hH HSS HK HO
              have G := Lib.hid (hf.out.trans ff)
              clear ff
              by_cases hz : z < 0
              · have hz' : ¬ 0 ≤ z := by omega
                have HR := Lib.hid (HGO'.out hz)
                clear HNO' HGO'
                go_wp2
                go_roundw
                case rel => exact ⟨i + 1, by go_num, by omega, G, HR⟩
                case measure => simp [RowKit.intOf]; omega
              · have hz' : 0 ≤ z := by omega
                have HR := Lib.hid (HNO'.out hz')
                clear HNO' HGO'
                go_wp2
                go_ret
                exact ⟨ret_bool HR.out.symm, G.out⟩
        · have HR := Lib.hid (HNO.out (by rw [beq_eq_false_iff_ne.2 hc]; rfl))
          generalize chkR q = e at *
          have hc' : (e != 0) = true := by simpa using hc
          clear HNO HGO HV H HQ
          clear hc
          refine wp_region_held (S := (fun w8 => (w8.cell? ⟨b, o + i * 6, none⟩ = some (.int .i64 q.kd) ∧ w8.cell? ⟨b, o + i * 6 + 1, none⟩ = some (.int .i64 q.nn) ∧ w8.cell? ⟨b, o + i * 6 + 2, none⟩ = some (.string (bs q.nm)) ∧ w8.cell? ⟨b, o + i * 6 + 3, none⟩ = some (.string (bs q.ky)) ∧ w8.cell? ⟨b, o + i * 6 + 4, none⟩ = some (.string (bs q.fr)) ∧ w8.cell? ⟨b, o + i * 6 + 5, none⟩ = some (.string (bs q.tt))))) (by kernel_rfl) ?_
          have hSS : (fun w8 => (w8.cell? ⟨b, o + i * 6, none⟩ = some (.int .i64 q.kd) ∧ w8.cell? ⟨b, o + i * 6 + 1, none⟩ = some (.int .i64 q.nn) ∧ w8.cell? ⟨b, o + i * 6 + 2, none⟩ = some (.string (bs q.nm)) ∧ w8.cell? ⟨b, o + i * 6 + 3, none⟩ = some (.string (bs q.ky)) ∧ w8.cell? ⟨b, o + i * 6 + 4, none⟩ = some (.string (bs q.fr)) ∧ w8.cell? ⟨b, o + i * 6 + 5, none⟩ = some (.string (bs q.tt)))) wr.drew := HQC.out _ (Fuw.drew (Fuw.refl wr))
          refine takeH (i := 0) (d := some 13) (v := ?_) rfl rfl (by kernel_rfl) (by kernel_rfl) (by kernel_rfl) (fun _ _ _ h => h) (Or.inl ⟨by rfl, ?_⟩) (by assumption) ?_
          rotate_left
          · ((intro w8 hSw; (try dsimp only at hSw); go_simp); try with_reducible rfl)
          try simp only [Act.put]
          try simp only [List.setIfInBounds_toArray]
          try simp only [List.set_cons_succ]
          try simp only [List.set_cons_zero]
          refine takeH (i := 1) (d := some 14) (v := ?_) rfl rfl (by kernel_rfl) (by kernel_rfl) (by kernel_rfl) (fun _ _ _ h => h) (Or.inl ⟨by rfl, ?_⟩) (by assumption) ?_
          rotate_left
          · ((intro w8 hSw; (try dsimp only at hSw); go_simp); try with_reducible rfl)
          try simp only [Act.put]
          try simp only [List.setIfInBounds_toArray]
          try simp only [List.set_cons_succ]
          try simp only [List.set_cons_zero]
          refine takeH (i := 2) (d := some 15) (v := ?_) rfl rfl (by kernel_rfl) (by kernel_rfl) (by kernel_rfl) (fun _ _ _ h => h) (Or.inl ⟨by rfl, ?_⟩) (by assumption) ?_
          rotate_left
          · ((intro w8 hSw; (try dsimp only at hSw); go_simp); try with_reducible rfl)
          try simp only [Act.put]
          try simp only [List.setIfInBounds_toArray]
          try simp only [List.set_cons_succ]
          try simp only [List.set_cons_zero]
          refine takeH (i := 3) (d := some 16) (v := ?_) rfl rfl (by kernel_rfl) (by kernel_rfl) (by kernel_rfl) (fun _ _ _ h => h) (Or.inl ⟨by rfl, ?_⟩) (by assumption) ?_
          rotate_left
          · ((intro w8 hSw; (try dsimp only at hSw); go_simp); try with_reducible rfl)
          try simp only [Act.put]
          try simp only [List.setIfInBounds_toArray]
          try simp only [List.set_cons_succ]
          try simp only [List.set_cons_zero]
          refine oneH (i := 4) rfl (by kernel_rfl) (fun K8 hK8 => ?_)
          go_simp
          go_at_call 9; refine (HK.out _).mono ?_; rintro g1 v1 ⟨rfl, j1⟩
          have fB : Fuw wr v1 := (Fuw.drew (Fuw.refl wr)).trans j1
          have hS2 : (fun w8 => (w8.cell? ⟨b, o + i * 6, none⟩ = some (.int .i64 q.kd) ∧ w8.cell? ⟨b, o + i * 6 + 1, none⟩ = some (.int .i64 q.nn) ∧ w8.cell? ⟨b, o + i * 6 + 2, none⟩ = some (.string (bs q.nm)) ∧ w8.cell? ⟨b, o + i * 6 + 3, none⟩ = some (.string (bs q.ky)) ∧ w8.cell? ⟨b, o + i * 6 + 4, none⟩ = some (.string (bs q.fr)) ∧ w8.cell? ⟨b, o + i * 6 + 5, none⟩ = some (.string (bs q.tt)))) v1 := HQC.out _ fB
          refine hK8 _ _ hS2 ?_
          try simp only [Act.put]
          try simp only [List.setIfInBounds_toArray]
          try simp only [List.set_cons_succ]
          try simp only [List.set_cons_zero]
          refine takeH (i := 5) (d := some 18) (v := ?_) rfl rfl (by kernel_rfl) (by kernel_rfl) (by kernel_rfl) (fun _ _ _ h => h) (Or.inl ⟨by rfl, ?_⟩) (by assumption) ?_
          rotate_left
          · ((intro w8 hSw; (try dsimp only at hSw); go_simp); try with_reducible rfl)
          try simp only [Act.put]
          try simp only [List.setIfInBounds_toArray]
          try simp only [List.set_cons_succ]
          try simp only [List.set_cons_zero]
          refine takeH (i := 6) (d := some 19) (v := ?_) rfl rfl (by kernel_rfl) (by kernel_rfl) (by kernel_rfl) (fun _ _ _ h => h) (Or.inl ⟨by rfl, ?_⟩) (by assumption) ?_
          rotate_left
          · ((intro w8 hSw; (try dsimp only at hSw); go_simp); try with_reducible rfl)
          try simp only [Act.put]
          try simp only [List.setIfInBounds_toArray]
          try simp only [List.set_cons_succ]
          try simp only [List.set_cons_zero]
          refine takeH (i := 7) (d := some 20) (v := undef) rfl rfl (by kernel_rfl) (by kernel_rfl) (by kernel_rfl) (fun _ _ _ h => h) (Or.inr ⟨by rfl, rfl⟩) (by assumption) ?_
          try simp only [Act.put]
          try simp only [List.setIfInBounds_toArray]
          try simp only [List.set_cons_succ]
          try simp only [List.set_cons_zero]
          refine takeH (i := 8) (d := some 21) (v := undef) rfl rfl (by kernel_rfl) (by kernel_rfl) (by kernel_rfl) (fun _ _ _ h => h) (Or.inr ⟨by rfl, rfl⟩) (by assumption) ?_
          try simp only [Act.put]
          try simp only [List.setIfInBounds_toArray]
          try simp only [List.set_cons_succ]
          try simp only [List.set_cons_zero]
          refine takeH (i := 9) (d := some 22) (v := undef) rfl rfl (by kernel_rfl) (by kernel_rfl) (by kernel_rfl) (fun _ _ _ h => h) (Or.inr ⟨by rfl, rfl⟩) (by assumption) ?_
          try simp only [Act.put]
          try simp only [List.setIfInBounds_toArray]
          try simp only [List.set_cons_succ]
          try simp only [List.set_cons_zero]
          refine takeH (i := 10) (d := some 23) (v := undef) rfl rfl (by kernel_rfl) (by kernel_rfl) (by kernel_rfl) (fun _ _ _ h => h) (Or.inr ⟨by rfl, rfl⟩) (by assumption) ?_
          try simp only [Act.put]
          try simp only [List.setIfInBounds_toArray]
          try simp only [List.set_cons_succ]
          try simp only [List.set_cons_zero]
          refine takeH (i := 11) (d := some 24) (v := undef) rfl rfl (by kernel_rfl) (by kernel_rfl) (by kernel_rfl) (fun _ _ _ h => h) (Or.inr ⟨by rfl, rfl⟩) (by assumption) ?_
          try simp only [Act.put]
          try simp only [List.setIfInBounds_toArray]
          try simp only [List.set_cons_succ]
          try simp only [List.set_cons_zero]
          refine takeH (i := 12) (d := some 25) (v := undef) rfl rfl (by kernel_rfl) (by kernel_rfl) (by kernel_rfl) (fun _ _ _ h => h) (Or.inr ⟨by rfl, rfl⟩) (by assumption) ?_
          try simp only [Act.put]
          try simp only [List.setIfInBounds_toArray]
          try simp only [List.set_cons_succ]
          try simp only [List.set_cons_zero]
          refine takeH (i := 13) (d := some 26) (v := undef) rfl rfl (by kernel_rfl) (by kernel_rfl) (by kernel_rfl) (fun _ _ _ h => h) (Or.inr ⟨by rfl, rfl⟩) (by assumption) ?_
          try simp only [Act.put]
          try simp only [List.setIfInBounds_toArray]
          try simp only [List.set_cons_succ]
          try simp only [List.set_cons_zero]
          refine takeH (i := 14) (d := some 27) (v := undef) rfl rfl (by kernel_rfl) (by kernel_rfl) (by kernel_rfl) (fun _ _ _ h => h) (Or.inr ⟨by rfl, rfl⟩) (by assumption) ?_
          try simp only [Act.put]
          try simp only [List.setIfInBounds_toArray]
          try simp only [List.set_cons_succ]
          try simp only [List.set_cons_zero]
          refine takeH (i := 15) (d := some 28) (v := undef) rfl rfl (by kernel_rfl) (by kernel_rfl) (by kernel_rfl) (fun _ _ _ h => h) (Or.inr ⟨by rfl, rfl⟩) (by assumption) ?_
          try simp only [Act.put]
          try simp only [List.setIfInBounds_toArray]
          try simp only [List.set_cons_succ]
          try simp only [List.set_cons_zero]
          refine takeH (i := 16) (d := some 29) (v := undef) rfl rfl (by kernel_rfl) (by kernel_rfl) (by kernel_rfl) (fun _ _ _ h => h) (Or.inr ⟨by rfl, rfl⟩) (by assumption) ?_
          try simp only [Act.put]
          try simp only [List.setIfInBounds_toArray]
          try simp only [List.set_cons_succ]
          try simp only [List.set_cons_zero]
          refine takeH (i := 17) (d := some 30) (v := undef) rfl rfl (by kernel_rfl) (by kernel_rfl) (by kernel_rfl) (fun _ _ _ h => h) (Or.inr ⟨by rfl, rfl⟩) (by assumption) ?_
          try simp only [Act.put]
          try simp only [List.setIfInBounds_toArray]
          try simp only [List.set_cons_succ]
          try simp only [List.set_cons_zero]
          refine takeH (i := 18) (d := some 31) (v := undef) rfl rfl (by kernel_rfl) (by kernel_rfl) (by kernel_rfl) (fun _ _ _ h => h) (Or.inr ⟨by rfl, rfl⟩) (by assumption) ?_
          try simp only [Act.put]
          try simp only [List.setIfInBounds_toArray]
          try simp only [List.set_cons_succ]
          try simp only [List.set_cons_zero]
          refine takeH (i := 19) (d := some 32) (v := undef) rfl rfl (by kernel_rfl) (by kernel_rfl) (by kernel_rfl) (fun _ _ _ h => h) (Or.inr ⟨by rfl, rfl⟩) (by assumption) ?_
          try simp only [Act.put]
          try simp only [List.setIfInBounds_toArray]
          try simp only [List.set_cons_succ]
          try simp only [List.set_cons_zero]
          refine takeH (i := 20) (d := some 33) (v := undef) rfl rfl (by kernel_rfl) (by kernel_rfl) (by kernel_rfl) (fun _ _ _ h => h) (Or.inr ⟨by rfl, rfl⟩) (by assumption) ?_
          try simp only [Act.put]
          try simp only [List.setIfInBounds_toArray]
          try simp only [List.set_cons_succ]
          try simp only [List.set_cons_zero]
          refine takeH (i := 21) (d := some 34) (v := undef) rfl rfl (by kernel_rfl) (by kernel_rfl) (by kernel_rfl) (fun _ _ _ h => h) (Or.inr ⟨by rfl, rfl⟩) (by assumption) ?_
          try simp only [Act.put]
          try simp only [List.setIfInBounds_toArray]
          try simp only [List.set_cons_succ]
          try simp only [List.set_cons_zero]
          refine takeH (i := 22) (d := some 35) (v := ?_) rfl rfl (by kernel_rfl) (by kernel_rfl) (by kernel_rfl) (fun _ _ _ h => h) (Or.inl ⟨by rfl, ?_⟩) (by assumption) ?_
          rotate_left
          · ((intro w8 hSw; (try dsimp only at hSw); go_simp); try with_reducible rfl)
          try simp only [Act.put]
          try simp only [List.setIfInBounds_toArray]
          try simp only [List.set_cons_succ]
          try simp only [List.set_cons_zero]
          refine wpAnyH_done (by kernel_rfl) ?_ _
          clear hS2 hSS HQC
          have G := Lib.hid (hf.out.trans fB)
          clear fB
          go_wp2
          go_ret
          exact ⟨ret_bool HR.out.symm, G.out⟩
      · have HE := Lib.hid (show valS s = true by
          unfold valS; rw [decide_eq_true (by omega), Bool.true_and, HV.out]; exact vlR_end s _ i (by omega))
        go_wp2
        go_ret
        exact ⟨ret_bool HE.out.symm, hf.out⟩
end Go.Proofs.YtadnaakbhgacgaaDoor
