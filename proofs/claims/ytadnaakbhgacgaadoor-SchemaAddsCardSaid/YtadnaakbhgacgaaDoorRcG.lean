/-
  The reference of package schema: dropping a rule from a schema (Drop). Nothing that was there turns.
-/
import Derived.Test.YtadnaakbhgacgaaDoorRcF
import Derived.Test.YtadnaakbhgacgaaDoorScU
namespace Go.Proofs.YtadnaakbhgacgaaDoor
open Go.RowKit

def keepL (s : List Rl) (r : Rl) : List Rl := s.filter fun x => ordR x r != 0
theorem drop_keep {s : List Rl} {r : Rl} (h : drpE s r = 0) : dropL s r = keepL s r := by
  obtain ⟨hv, hc, hm⟩ := drpE_iff.1 h
  obtain ⟨hl, hk, hi⟩ := valS_iff.1 hv
  obtain ⟨A, B, rfl, hA, hB, -⟩ := split_at s r hi
  obtain ⟨iA, iB, iAB⟩ := inc_app.1 hi
  have hr : r ∈ B := by
    rcases List.mem_append.1 hm with hm | hm
    · have := hA r hm; rw [ord_self] at this; exact absurd this (by decide)
    · exact hm
  obtain ⟨C, rfl⟩ : ∃ C, B = r :: C := by
    cases B with
    | nil => cases hr
    | cons b t =>
      rcases List.mem_cons.1 hr with rfl | hr
      · exact ⟨t, rfl⟩
      · have h1 := (inc_cons.1 iB).1 r hr
        have h2 := hB b (List.mem_cons_self ..)
        omega
  obtain ⟨iC, iC'⟩ := inc_cons.1 iB
  have hC : ∀ x ∈ C, 0 ≤ ordR x r := fun x hx => hB x (List.mem_cons_of_mem _ hx)
  rw [drop_app hA hC]
  unfold keepL
  rw [List.filter_append, List.filter_cons, ord_self, if_neg (by decide)]
  rw [List.filter_eq_self.2 (fun x hx => by have := hA x hx; rw [bne_iff_ne]; omega), List.filter_eq_self.2 (fun x hx => by
    have h1 := iC x hx
    have h2 := ordR_cmp.swap r x
    rw [bne_iff_ne]; omega)]
theorem keep_step {s : List Rl} {r : Rl} {i : Nat} (h : i < s.length) : keepL (s.take (i + 1)) r = keepL (s.take i) r ++ (if ordR s[i] r = 0 then [] else [s[i]]) := by
  unfold keepL
  rw [List.take_succ_eq_append_getElem h, List.filter_append]
  congr 1
  by_cases hz : ordR s[i] r = 0
  · rw [List.filter_cons, hz]; rfl
  · rw [if_neg hz, List.filter_cons, if_pos (by rw [bne_iff_ne]; exact hz)]; rfl
theorem keep_le (s : List Rl) (r : Rl) : (keepL s r).length ≤ s.length := List.length_filter_le _ _
set_option maxHeartbeats 6400000 in
set_option maxRecDepth 100000 in
theorem rdrop (s : List Rl) (r : Rl) (hr : RIn r) (ao : Option Addr) (cap : Nat) (w : World) (h : SlR w ao s cap) : Calls Tryd.prog 19 #[.slice ao s.length cap, .agg #[.int .i64 r.kd, .int .i64 r.nn, .string (bs r.nm), .string (bs r.ky), .string (bs r.fr), .string (bs r.tt)]] w (RetA w (drpR s r) (drpE s r)) := by
  have hln := h.len
  have C := Lib.hid (fun w' => rchk r hr w')
  have HRI := Lib.hid hr
  have HIN := Lib.hid h.ins
  obtain ⟨W, hW⟩ : ∃ W, w.alloc (.cells #[.int .i64 r.kd, .int .i64 r.nn, .string (bs r.nm), .string (bs r.ky), .string (bs r.fr), .string (bs r.tt)] 23) = W := ⟨_, rfl⟩
  have PB := Lib.hid (show Bk W w.heap.size #[.int .i64 r.kd, .int .i64 r.nn, .string (bs r.nm), .string (bs r.ky), .string (bs r.fr), .string (bs r.tt)] 23 from by rw [← hW]; exact Bk.new w _ _)
  have F00 := Lib.hid (show Fuw w W from by rw [← hW]; exact fuwA _ _)
  have HS0 := Lib.hid (show SlR W ao s cap from by rw [← hW]; exact slR_on (fuwA _ _) h)
  have V := Lib.hid (fun w' (hf : Fuw W w') => rval s ao cap w' (slR_on hf HS0.out))
  have A := Lib.hid (fun w' (hf : Fuw W w') => rhas s r ao cap w' (slR_on hf HS0.out))
  have HSL := Lib.hid (fun w' (hf : Fuw W w') => slR_on hf HS0.out)
  have F := Lib.hid (Fuw.refl W)
  have HWS := Lib.hid (show w.heap.size ≤ W.heap.size from F00.out.size)
  clear h hr HS0
  cases hv : valS s with
  | false =>
    have HE := Lib.hid (show drpE s r = 19 ∧ drpR s r = [] by have h : drpE s r = 19 := by { unfold drpE; rw [hv]; rfl }; exact ⟨h, by unfold drpR; rw [h]; rfl⟩)
    rw [HE.out.1, HE.out.2]
    rw [hv] at V
    clear hv
    go_enter Tryd.func19, Tryd.ntmps19
    go_upto_region 1 with fail
    clear hW
    go_wp2_with fail
    go_at_call 21; refine (V.out _ F.out).mono ?_; rintro e1 w1 ⟨rfl, f1⟩
    have F := Lib.hid (F.out.trans f1)
    clear f1
    go_wp2
    go_ret2
    exact ⟨_, rfl, World.ownsRow_nil _ _ _ _, F00.out.trans F.out⟩
  | true =>
    rw [hv] at V
    by_cases hc : chkR r = 0
    · rw [hc] at C
      cases hh : hasR s r with
      | false =>
        rw [hh] at A
        have HE := Lib.hid (show drpE s r = 23 ∧ drpR s r = [] by have h : drpE s r = 23 := by { unfold drpE; rw [hv, if_pos rfl, if_pos hc, hh]; rfl }; exact ⟨h, by unfold drpR; rw [h]; rfl⟩)
        rw [HE.out.1, HE.out.2]
        clear hv hc hh
        go_enter Tryd.func19, Tryd.ntmps19
        go_upto_region 1 with fail
        clear hW
        go_wp2_with fail
        go_at_call 21; refine (V.out _ F.out).mono ?_; rintro e1 w1 ⟨rfl, f1⟩
        have F := Lib.hid (F.out.trans f1)
        clear f1
        have c0 := (PB.out.on F.out).c 0; have c1 := (PB.out.on F.out).c 1; have c2 := (PB.out.on F.out).c 2; have c3 := (PB.out.on F.out).c 3; have c4 := (PB.out.on F.out).c 4; have c5 := (PB.out.on F.out).c 5
        go_wp2_with fail
        go_at_call 9; refine (C.out _).mono ?_; rintro e1 w1 ⟨rfl, f1⟩
        have F := Lib.hid (F.out.trans f1)
        clear f1
        clear c0 c1 c2 c3 c4 c5
        have c0 := (PB.out.on F.out).c 0; have c1 := (PB.out.on F.out).c 1; have c2 := (PB.out.on F.out).c 2; have c3 := (PB.out.on F.out).c 3; have c4 := (PB.out.on F.out).c 4; have c5 := (PB.out.on F.out).c 5
        go_wp2_with fail
        go_at_call 42; refine (A.out _ F.out).mono ?_; rintro e1 w1 ⟨rfl, f1⟩
        have F := Lib.hid (F.out.trans f1)
        clear f1
        clear c0 c1 c2 c3 c4 c5
        go_wp2
        go_ret2
        exact ⟨_, rfl, World.ownsRow_nil _ _ _ _, F00.out.trans F.out⟩
      | true =>
        rw [hh] at A
        have HLE := Lib.hid (valS_iff.1 hv).1
        have hE : drpE s r = 0 := by { unfold drpE; rw [hv, if_pos rfl, if_pos hc, hh, if_pos rfl] }
        have HDK := Lib.hid (drop_keep hE).symm
        have HE := Lib.hid (show drpE s r = 0 ∧ drpR s r = dropL s r by exact ⟨hE, by unfold drpR; rw [hE]; rfl⟩)
        rw [HE.out.1, HE.out.2]
        clear hv hc hh HE hE
        go_enter Tryd.func19, Tryd.ntmps19
        go_upto_region 1 with fail
        clear hW
        go_wp2_with fail
        go_at_call 21; refine (V.out _ F.out).mono ?_; rintro e1 w1 ⟨rfl, f1⟩
        have F := Lib.hid (F.out.trans f1)
        clear f1
        have c0 := (PB.out.on F.out).c 0; have c1 := (PB.out.on F.out).c 1; have c2 := (PB.out.on F.out).c 2; have c3 := (PB.out.on F.out).c 3; have c4 := (PB.out.on F.out).c 4; have c5 := (PB.out.on F.out).c 5
        go_wp2_with fail
        go_at_call 9; refine (C.out _).mono ?_; rintro e1 w1 ⟨rfl, f1⟩
        have F := Lib.hid (F.out.trans f1)
        clear f1
        clear c0 c1 c2 c3 c4 c5
        have c0 := (PB.out.on F.out).c 0; have c1 := (PB.out.on F.out).c 1; have c2 := (PB.out.on F.out).c 2; have c3 := (PB.out.on F.out).c 3; have c4 := (PB.out.on F.out).c 4; have c5 := (PB.out.on F.out).c 5
        go_wp2_with fail
        go_at_call 42; refine (A.out _ F.out).mono ?_; rintro e1 w1 ⟨rfl, f1⟩
        have F := Lib.hid (F.out.trans f1)
        clear f1
        clear c0 c1 c2 c3 c4 c5
        have hle : s.length ≤ 40 := HLE.out
        clear HLE
        go_wp2
        go_loopw [7, 8] (fun ov iv wr => ∃ i : Nat, iv = .int .i64 i ∧ i ≤ s.length ∧ Hid (Fuw W wr) ∧ ∃ n : Nat, n ≤ 40 ∧ Hid ((keepL (s.take i) r).length = n) ∧ Hid (wr.ownsRow W.heap.size 23 6 ov n (csR (keepL (s.take i) r)))) (fun _ iv _ => s.length - (RowKit.intOf iv).toNat)
        case atStart => exact ⟨0, rfl, Nat.zero_le _, F, 0, Nat.zero_le _, Lib.hid rfl, Lib.hid (World.ownsRow_nil _ _ _ _)⟩
        case round =>
          obtain ⟨i, rfl, hi, hf, n, hn40, HN, hown⟩ := hrel
          by_cases hlt : i < s.length
          · obtain ⟨b, o, e0, hq⟩ := (HSL.out _ hf.out).get hlt
            have hqi := Lib.hid (HIN.out _ (List.getElem_mem hlt))
            have hltI : (i : Int) < (s.length : Int) := by omega
            have HQ := Lib.hid (fun w' (ff : Fuw wr w') => hq.on ff)
            have HPB := Lib.hid (fun w' (ff : Fuw wr w') => PB.out.on (hf.out.trans ff))
            have HO := Lib.hid (fun w' => rord s[i] r w')
            have HST := Lib.hid (keep_step (r := r) hlt)
            have HKL := Lib.hid (show (keepL (s.take (i + 1)) r).length ≤ 40 from by have := keep_le (s.take (i + 1)) r; rw [List.length_take] at this; omega)
            cases e0
            clear hq
            go_upto_region 12 with fail
            generalize s[i] = q at *
            generalize ordR q r = z at *
            have HSS := Lib.hid (fun w' (ff : Fuw wr w') => (show (w'.cell? ⟨b, o + i * 6, none⟩ = some (.int .i64 q.kd) ∧ w'.cell? ⟨b, o + i * 6 + 1, none⟩ = some (.int .i64 q.nn) ∧ w'.cell? ⟨b, o + i * 6 + 2, none⟩ = some (.string (bs q.nm)) ∧ w'.cell? ⟨b, o + i * 6 + 3, none⟩ = some (.string (bs q.ky)) ∧ w'.cell? ⟨b, o + i * 6 + 4, none⟩ = some (.string (bs q.fr)) ∧ w'.cell? ⟨b, o + i * 6 + 5, none⟩ = some (.string (bs q.tt))) ∧ (w'.cell? ⟨w.heap.size, 0, none⟩ = some (.int .i64 r.kd) ∧ w'.cell? ⟨w.heap.size, 1, none⟩ = some (.int .i64 r.nn) ∧ w'.cell? ⟨w.heap.size, 2, none⟩ = some (.string (bs r.nm)) ∧ w'.cell? ⟨w.heap.size, 3, none⟩ = some (.string (bs r.ky)) ∧ w'.cell? ⟨w.heap.size, 4, none⟩ = some (.string (bs r.fr)) ∧ w'.cell? ⟨w.heap.size, 5, none⟩ = some (.string (bs r.tt))) from ⟨⟨(HQ.out w' ff).c0, (HQ.out w' ff).c1, (HQ.out w' ff).c2, (HQ.out w' ff).c3, (HQ.out w' ff).c4, (HQ.out w' ff).c5⟩, ⟨(HPB.out w' ff).c 0, (HPB.out w' ff).c 1, (HPB.out w' ff).c 2, (HPB.out w' ff).c 3, (HPB.out w' ff).c 4, (HPB.out w' ff).c 5⟩⟩))
            have ff : Fuw wr wr.drew := Fuw.drew (Fuw.refl wr)
            clear HQ
            go_region_held3 (fun w' => (w'.cell? ⟨b, o + i * 6, none⟩ = some (.int .i64 q.kd) ∧ w'.cell? ⟨b, o + i * 6 + 1, none⟩ = some (.int .i64 q.nn) ∧ w'.cell? ⟨b, o + i * 6 + 2, none⟩ = some (.string (bs q.nm)) ∧ w'.cell? ⟨b, o + i * 6 + 3, none⟩ = some (.string (bs q.ky)) ∧ w'.cell? ⟨b, o + i * 6 + 4, none⟩ = some (.string (bs q.fr)) ∧ w'.cell? ⟨b, o + i * 6 + 5, none⟩ = some (.string (bs q.tt))) ∧ (w'.cell? ⟨w.heap.size, 0, none⟩ = some (.int .i64 r.kd) ∧ w'.cell? ⟨w.heap.size, 1, none⟩ = some (.int .i64 r.nn) ∧ w'.cell? ⟨w.heap.size, 2, none⟩ = some (.string (bs r.nm)) ∧ w'.cell? ⟨w.heap.size, 3, none⟩ = some (.string (bs r.ky)) ∧ w'.cell? ⟨w.heap.size, 4, none⟩ = some (.string (bs r.fr)) ∧ w'.cell? ⟨w.heap.size, 5, none⟩ = some (.string (bs r.tt))))
              (first | (with_reducible exact HSS.out _ ff))
              (first | (go_at_call 43; refine (HO.out _).mono ?_; rintro g2 v2 ⟨rfl, j2⟩; replace ff := ff.trans j2))
            all_goals
              rename_i hH
              clear hH HO
              obtain ⟨⟨d0, d1, d2, d3, d4, d5⟩, -⟩ := HSS.out _ ff
              have FX := Lib.hid (hf.out.trans ff)
              have hown := Lib.hid (own_fuw hown.out ff)
              clear ff HSS HPB
              by_cases hz : z = 0
              · have HE := Lib.hid (show keepL (s.take (i + 1)) r = keepL (s.take i) r by rw [HST.out, if_pos hz, List.append_nil])
                have HO7 := Lib.hid (HE.out.symm ▸ hown.out)
                have HN7 := Lib.hid (HE.out.symm ▸ HN.out)
                subst hz
                clear HST d0 d1 d2 d3 d4 d5 HE hown HN
                go_wp2
                go_roundw
                case rel => exact ⟨i + 1, by go_num, by omega, FX, n, hn40, HN7, HO7⟩
                case measure => simp [RowKit.intOf]; omega
              · have HE := Lib.hid (show keepL (s.take (i + 1)) r = keepL (s.take i) r ++ [q] by rw [HST.out, if_neg hz])
                obtain ⟨v7, w7, hr7, ho7, hf7⟩ := app_one W _ _ (keepL (s.take i) r) n HN.out q hqi.out FX.out hown.out (by omega)
                have HR := Lib.hid hr7
                have HO7 := Lib.hid (HE.out.symm ▸ ho7)
                have HN7 := Lib.hid (show (keepL (s.take (i + 1)) r).length = n + 1 by rw [HE.out, List.length_append, HN.out]; rfl)
                have hn7 : n + 1 ≤ 40 := by have := HKL.out; have := HN7.out; omega
                have HF7 := Lib.hid hf7
                have hz' : (z != 0) = true := by rw [bne_iff_ne]; exact hz
                clear hr7 ho7 hf7 HST HE hown HN
                go_wp2_with (at_builtin; refine Lib.wpList_append_run _ rfl _ _ _ _ rfl _ _ rfl rfl _ _ HR.out ?_)
                go_roundw
                case rel => exact ⟨i + 1, by go_num, by omega, HF7, n + 1, hn7, HN7, HO7⟩
                case measure => simp [RowKit.intOf]; omega
          · have HLL := Lib.hid (show keepL (s.take i) r = dropL s r by rw [← HDK.out, List.take_of_length_le (by omega)])
            have HLN := Lib.hid (show (dropL s r).length = n by rw [← HLL.out, HN.out])
            go_wp2
            go_ret2
            exact ⟨_, rfl, own_low (by rw [HLN.out, ← HLL.out]; exact hown.out) HWS.out, F00.out.trans hf.out⟩
    · have HE := Lib.hid (show drpE s r = chkR r ∧ drpR s r = [] by have h : drpE s r = chkR r := by { unfold drpE; rw [hv, if_pos rfl, if_neg hc] }; exact ⟨h, by unfold drpR; rw [h, if_neg hc]⟩)
      rw [HE.out.1, HE.out.2]
      generalize chkR r = c at *
      have hc' : (c != 0) = true := by rw [bne_iff_ne]; exact hc
      clear hc hv
      go_enter Tryd.func19, Tryd.ntmps19
      go_upto_region 1 with fail
      clear hW
      go_wp2_with fail
      go_at_call 21; refine (V.out _ F.out).mono ?_; rintro e1 w1 ⟨rfl, f1⟩
      have F := Lib.hid (F.out.trans f1)
      clear f1
      have c0 := (PB.out.on F.out).c 0; have c1 := (PB.out.on F.out).c 1; have c2 := (PB.out.on F.out).c 2; have c3 := (PB.out.on F.out).c 3; have c4 := (PB.out.on F.out).c 4; have c5 := (PB.out.on F.out).c 5
      go_wp2_with fail
      go_at_call 9; refine (C.out _).mono ?_; rintro e1 w1 ⟨rfl, f1⟩
      have F := Lib.hid (F.out.trans f1)
      clear f1
      clear c0 c1 c2 c3 c4 c5
      go_wp2
      go_ret2
      exact ⟨_, rfl, World.ownsRow_nil _ _ _ _, F00.out.trans F.out⟩
end Go.Proofs.YtadnaakbhgacgaaDoor
