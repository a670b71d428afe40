/-
  The reference of package schema: adding a rule to a schema (Add). Nothing that was there turns.
-/
import Derived.Test.YtadnaakbhgacgaaDoorRcD
import Derived.Test.YtadnaakbhgacgaaDoorRcE
import Derived.Test.YtadnaakbhgacgaaDoorScH
namespace Go.Proofs.YtadnaakbhgacgaaDoor
open Go.RowKit

theorem at_take {s : List Rl} {r : Rl} {i : Nat} (hi : i ≤ s.length) (hA : ∀ (j : Nat) (h : j < s.length), j < i → ordR s[j] r < 0) (hB : ∀ h : i < s.length, ¬ ordR s[i] r < 0) : atR s r = i := by
  unfold atR
  have e : s = s.take i ++ s.drop i := (List.take_append_drop i s).symm
  rw [e, List.takeWhile_append_of_pos (fun x hx => by
    obtain ⟨j, hj, rfl⟩ := List.getElem_of_mem hx
    rw [List.length_take] at hj
    rw [List.getElem_take]
    exact decide_eq_true (hA j (by omega) (by omega)))]
  have hd : (s.drop i).takeWhile (fun x => decide (ordR x r < 0)) = [] := by
    rcases Nat.lt_or_ge i s.length with g | g
    · rw [List.drop_eq_getElem_cons g, List.takeWhile_cons, if_neg]
      rw [decide_eq_true_eq]; exact hB g
    · rw [List.drop_of_length_le g]; rfl
  rw [hd, List.append_nil, List.length_take]
  omega
theorem own_fuw {w w' : World} {base e size : Nat} {v : Value} {n : Nat} {xs : List Value} (h : w.ownsRow base e size v n xs) (hf : Fuw w w') : w'.ownsRow base e size v n xs := by
  refine ⟨h.1, ?_⟩
  rcases h.2 with h0 | ⟨g, cap, cur, hv, hg, hh, rest⟩
  · exact .inl h0
  · refine .inr ⟨g, cap, cur, hv, hg, ?_, rest⟩
    have hlt : g < w.heap.size := by
      rcases Nat.lt_or_ge g w.heap.size with k | k
      · exact k
      · rw [Array.getElem?_eq_none k] at hh; cases hh
    rw [Below.block hf g hlt]; exact hh
theorem own_sl {w : World} {base e size : Nat} {v : Value} {n : Nat} {xs : List Value} (h : w.ownsRow base e size v n xs) : ∃ a k, v = .slice a n k := by
  rcases h.2 with ⟨rfl, rfl⟩ | ⟨g, cap, cur, rfl, _⟩
  · exact ⟨none, 0, rfl⟩
  · exact ⟨_, cap, rfl⟩
/-- A built slice of one rule, appended to a row of the call's own. -/
theorem app_one (w0 w : World) (v : Value) (l : List Rl) (n : Nat) (hn : l.length = n) (q : Rl) (hq : RIn q) (hf : Fuw w0 w) (hown : w.ownsRow w0.heap.size 23 6 v n (csR l)) (hl : n ≤ 1000) :
    ∃ v' w', (Builtin.append_ #[30, 30] 30 #[v, .slice (some ⟨w.heap.size, 0, none⟩) 1 1]).run Tryd.prog (w.alloc (.cells #[.int .i64 q.kd, .int .i64 q.nn, .string (bs q.nm), .string (bs q.ky), .string (bs q.fr), .string (bs q.tt)] 23)) = .ok v' w' ∧ w'.ownsRow w0.heap.size 23 6 v' (n + 1) (csR (l ++ [q])) ∧ Fuw w0 w' := by
  subst hn
  have ho := own_fuw hown (fuwA w (.cells #[.int .i64 q.kd, .int .i64 q.nn, .string (bs q.nm), .string (bs q.ky), .string (bs q.fr), .string (bs q.tt)] 23))
  obtain ⟨v', w', hr, h1, h2⟩ := app_rl (w.alloc (.cells #[.int .i64 q.kd, .int .i64 q.nn, .string (bs q.nm), .string (bs q.ky), .string (bs q.fr), .string (bs q.tt)] 23)) w0.heap.size v l _ [q] 1 ho (slR_one (BkR.new w q) hq) (by simp; omega) (by rw [asz]; have := hf.size; omega)
  refine ⟨v', w', hr, by simpa using h1, ?_⟩
  exact Below.grown (hf.alloc _) h2 (by rw [asz]; have := hf.size; omega) (fun k hk => (ho.lt k hk).1)
set_option maxHeartbeats 6400000 in
set_option maxRecDepth 100000 in
theorem radd (s : List Rl) (r : Rl) (hr : RIn r) (ao : Option Addr) (cap : Nat) (w : World) (h : SlR w ao s cap) : Calls Tryd.prog 16 #[.slice ao s.length cap, .agg #[.int .i64 r.kd, .int .i64 r.nn, .string (bs r.nm), .string (bs r.ky), .string (bs r.fr), .string (bs r.tt)]] w (RetA w (addR s r) (addE s r)) := by
  have hln := h.len
  have C := Lib.hid (fun w' => rchk r hr w')
  have HRI := Lib.hid hr
  have HIN := Lib.hid h.ins
  obtain ⟨W, hW⟩ : ∃ W, w.alloc (.cells #[.int .i64 r.kd, .int .i64 r.nn, .string (bs r.nm), .string (bs r.ky), .string (bs r.fr), .string (bs r.tt)] 23) = W := ⟨_, rfl⟩
  have PB := Lib.hid (show Bk W w.heap.size #[.int .i64 r.kd, .int .i64 r.nn, .string (bs r.nm), .string (bs r.ky), .string (bs r.fr), .string (bs r.tt)] 23 from by rw [← hW]; exact Bk.new w _ _)
  have F00 := Lib.hid (show Fuw w W from by rw [← hW]; exact fuwA _ _)
  have HS0 := Lib.hid (show SlR W ao s cap from by rw [← hW]; exact slR_on (fuwA _ _) h)
  have V := Lib.hid (fun w' (hf : Fuw W w') => rval s ao cap w' (slR_on hf HS0.out))
  have A := Lib.hid (fun w' (hf : Fuw W w') => rhas s r ao cap w' (slR_on hf HS0.out))
  have HSL := Lib.hid (fun w' (hf : Fuw W w') => slR_on hf HS0.out)
  have F := Lib.hid (Fuw.refl W)
  have HWS := Lib.hid (show w.heap.size ≤ W.heap.size from F00.out.size)
  clear h hr HS0
  cases hv : valS s with
  | false =>
    have HE := Lib.hid (show addE s r = 19 ∧ addR s r = [] by have h : addE s r = 19 := by { unfold addE; rw [hv]; rfl }; exact ⟨h, by unfold addR; rw [h]; rfl⟩)
    rw [HE.out.1, HE.out.2]
    rw [hv] at V
    clear hv
    go_enter Tryd.func16, Tryd.ntmps16
    go_upto_region 1 with fail
    clear hW
    go_wp2_with fail
    go_at_call 21; refine (V.out _ F.out).mono ?_; rintro e1 w1 ⟨rfl, f1⟩
    have F := Lib.hid (F.out.trans f1)
    clear f1
    go_wp2
    go_ret2
    exact ⟨_, rfl, World.ownsRow_nil _ _ _ _, F00.out.trans F.out⟩
  | true =>
    rw [hv] at V
    by_cases hc : chkR r = 0
    · rw [hc] at C
      cases hh : hasR s r with
      | true =>
        rw [hh] at A
        have HE := Lib.hid (show addE s r = 7 ∧ addR s r = [] by have h : addE s r = 7 := by { unfold addE; rw [hv, if_pos rfl, if_pos hc, hh]; rfl }; exact ⟨h, by unfold addR; rw [h]; rfl⟩)
        rw [HE.out.1, HE.out.2]
        clear hv hc hh
        go_enter Tryd.func16, Tryd.ntmps16
        go_upto_region 1 with fail
        clear hW
        go_wp2_with fail
        go_at_call 21; refine (V.out _ F.out).mono ?_; rintro e1 w1 ⟨rfl, f1⟩
        have F := Lib.hid (F.out.trans f1)
        clear f1
        have c0 := (PB.out.on F.out).c 0; have c1 := (PB.out.on F.out).c 1; have c2 := (PB.out.on F.out).c 2; have c3 := (PB.out.on F.out).c 3; have c4 := (PB.out.on F.out).c 4; have c5 := (PB.out.on F.out).c 5
        go_wp2_with fail
        go_at_call 9; refine (C.out _).mono ?_; rintro e1 w1 ⟨rfl, f1⟩
        have F := Lib.hid (F.out.trans f1)
        clear f1
        clear c0 c1 c2 c3 c4 c5
        have c0 := (PB.out.on F.out).c 0; have c1 := (PB.out.on F.out).c 1; have c2 := (PB.out.on F.out).c 2; have c3 := (PB.out.on F.out).c 3; have c4 := (PB.out.on F.out).c 4; have c5 := (PB.out.on F.out).c 5
        go_wp2_with fail
        go_at_call 42; refine (A.out _ F.out).mono ?_; rintro e1 w1 ⟨rfl, f1⟩
        have F := Lib.hid (F.out.trans f1)
        clear f1
        clear c0 c1 c2 c3 c4 c5
        go_wp2
        go_ret2
        exact ⟨_, rfl, World.ownsRow_nil _ _ _ _, F00.out.trans F.out⟩
      | false =>
        rw [hh] at A
        by_cases h40 : s.length = 40
        · have HE := Lib.hid (show addE s r = 20 ∧ addR s r = [] by have h : addE s r = 20 := by { unfold addE; rw [hv, if_pos rfl, if_pos hc, hh]; rw [if_pos h40]; rfl }; exact ⟨h, by unfold addR; rw [h]; rfl⟩)
          rw [HE.out.1, HE.out.2]
          have hlI : ((s.length : Int) == 40) = true := by rw [h40]; rfl
          clear hv hc hh h40
          go_enter Tryd.func16, Tryd.ntmps16
          go_upto_region 1 with fail
          clear hW
          go_wp2_with fail
          go_at_call 21; refine (V.out _ F.out).mono ?_; rintro e1 w1 ⟨rfl, f1⟩
          have F := Lib.hid (F.out.trans f1)
          clear f1
          have c0 := (PB.out.on F.out).c 0; have c1 := (PB.out.on F.out).c 1; have c2 := (PB.out.on F.out).c 2; have c3 := (PB.out.on F.out).c 3; have c4 := (PB.out.on F.out).c 4; have c5 := (PB.out.on F.out).c 5
          go_wp2_with fail
          go_at_call 9; refine (C.out _).mono ?_; rintro e1 w1 ⟨rfl, f1⟩
          have F := Lib.hid (F.out.trans f1)
          clear f1
          clear c0 c1 c2 c3 c4 c5
          have c0 := (PB.out.on F.out).c 0; have c1 := (PB.out.on F.out).c 1; have c2 := (PB.out.on F.out).c 2; have c3 := (PB.out.on F.out).c 3; have c4 := (PB.out.on F.out).c 4; have c5 := (PB.out.on F.out).c 5
          go_wp2_with fail
          go_at_call 42; refine (A.out _ F.out).mono ?_; rintro e1 w1 ⟨rfl, f1⟩
          have F := Lib.hid (F.out.trans f1)
          clear f1
          clear c0 c1 c2 c3 c4 c5
          go_wp2
          go_ret2
          exact ⟨_, rfl, World.ownsRow_nil _ _ _ _, F00.out.trans F.out⟩
        · have HLE := Lib.hid (valS_iff.1 hv).1
          have HE := Lib.hid (show addE s r = 0 ∧ addR s r = addL s r by have h : addE s r = 0 := by { unfold addE; rw [hv, if_pos rfl, if_pos hc, hh, if_neg (by decide), if_neg h40] }; exact ⟨h, by unfold addR; rw [h]; rfl⟩)
          rw [HE.out.1, HE.out.2]
          clear hv hc hh HE
          go_enter Tryd.func16, Tryd.ntmps16
          go_upto_region 1 with fail
          clear hW
          go_wp2_with fail
          go_at_call 21; refine (V.out _ F.out).mono ?_; rintro e1 w1 ⟨rfl, f1⟩
          have F := Lib.hid (F.out.trans f1)
          clear f1
          have c0 := (PB.out.on F.out).c 0; have c1 := (PB.out.on F.out).c 1; have c2 := (PB.out.on F.out).c 2; have c3 := (PB.out.on F.out).c 3; have c4 := (PB.out.on F.out).c 4; have c5 := (PB.out.on F.out).c 5
          go_wp2_with fail
          go_at_call 9; refine (C.out _).mono ?_; rintro e1 w1 ⟨rfl, f1⟩
          have F := Lib.hid (F.out.trans f1)
          clear f1
          clear c0 c1 c2 c3 c4 c5
          have c0 := (PB.out.on F.out).c 0; have c1 := (PB.out.on F.out).c 1; have c2 := (PB.out.on F.out).c 2; have c3 := (PB.out.on F.out).c 3; have c4 := (PB.out.on F.out).c 4; have c5 := (PB.out.on F.out).c 5
          go_wp2_with fail
          go_at_call 42; refine (A.out _ F.out).mono ?_; rintro e1 w1 ⟨rfl, f1⟩
          have F := Lib.hid (F.out.trans f1)
          clear f1
          clear c0 c1 c2 c3 c4 c5
          have hl40 : ((s.length : Int) == 40) = false := by rw [beq_eq_false_iff_ne]; omega
          have hle : s.length ≤ 40 := HLE.out
          clear HLE
          go_wp2
          go_loopw [7, 8] (fun ov iv wr => ∃ i : Nat, iv = .int .i64 i ∧ i ≤ s.length ∧ Hid (Fuw W wr) ∧ Hid (wr.ownsRow W.heap.size 23 6 ov i (csR (s.take i))) ∧ Hid (∀ (j : Nat) (h : j < s.length), j < i → ordR s[j] r < 0)) (fun _ iv _ => s.length - (RowKit.intOf iv).toNat)
          case atStart => exact ⟨0, rfl, Nat.zero_le _, F, Lib.hid (World.ownsRow_nil _ _ _ _), Lib.hid fun j _ hj => absurd hj (by omega)⟩
          case round =>
            obtain ⟨i, rfl, hi, hf, hown, HLT⟩ := hrel
            by_cases hlt : i < s.length
            · obtain ⟨b, o, e0, hq⟩ := (HSL.out _ hf.out).get hlt
              have hqi := Lib.hid (HIN.out _ (List.getElem_mem hlt))
              have hltI : (i : Int) < (s.length : Int) := by omega
              have HQ := Lib.hid (fun w' (ff : Fuw wr w') => hq.on ff)
              have HPB := Lib.hid (fun w' (ff : Fuw wr w') => PB.out.on (hf.out.trans ff))
              have HO := Lib.hid (fun w' => rord s[i] r w')
              have HNX := Lib.hid (show ordR s[i] r < 0 → ∀ (j : Nat) (h : j < s.length), j < i + 1 → ordR s[j] r < 0 from fun hz j h hj => by
                rcases Nat.lt_or_eq_of_le (Nat.le_of_lt_succ hj) with g | g
                · exact HLT.out j h g
                · subst g; exact hz)
              have HNA := Lib.hid (show ¬ ordR s[i] r < 0 → atR s r = i from fun hz => at_take hi HLT.out fun _ => hz)
              have HTK := Lib.hid (show s.take (i + 1) = s.take i ++ [s[i]] from List.take_succ_eq_append_getElem hlt)
              subst e0
              clear hq
              go_upto_region 12 with fail
              generalize s[i] = q at *
              generalize ordR q r = z at *
              have HSS := Lib.hid (fun w' (ff : Fuw wr w') => (show (w'.cell? ⟨b, o + i * 6, none⟩ = some (.int .i64 q.kd) ∧ w'.cell? ⟨b, o + i * 6 + 1, none⟩ = some (.int .i64 q.nn) ∧ w'.cell? ⟨b, o + i * 6 + 2, none⟩ = some (.string (bs q.nm)) ∧ w'.cell? ⟨b, o + i * 6 + 3, none⟩ = some (.string (bs q.ky)) ∧ w'.cell? ⟨b, o + i * 6 + 4, none⟩ = some (.string (bs q.fr)) ∧ w'.cell? ⟨b, o + i * 6 + 5, none⟩ = some (.string (bs q.tt))) ∧ (w'.cell? ⟨w.heap.size, 0, none⟩ = some (.int .i64 r.kd) ∧ w'.cell? ⟨w.heap.size, 1, none⟩ = some (.int .i64 r.nn) ∧ w'.cell? ⟨w.heap.size, 2, none⟩ = some (.string (bs r.nm)) ∧ w'.cell? ⟨w.heap.size, 3, none⟩ = some (.string (bs r.ky)) ∧ w'.cell? ⟨w.heap.size, 4, none⟩ = some (.string (bs r.fr)) ∧ w'.cell? ⟨w.heap.size, 5, none⟩ = some (.string (bs r.tt))) from ⟨⟨(HQ.out w' ff).c0, (HQ.out w' ff).c1, (HQ.out w' ff).c2, (HQ.out w' ff).c3, (HQ.out w' ff).c4, (HQ.out w' ff).c5⟩, ⟨(HPB.out w' ff).c 0, (HPB.out w' ff).c 1, (HPB.out w' ff).c 2, (HPB.out w' ff).c 3, (HPB.out w' ff).c 4, (HPB.out w' ff).c 5⟩⟩))
              have ff : Fuw wr wr.drew := Fuw.drew (Fuw.refl wr)
              clear HQ
              go_region_held3 (fun w' => (w'.cell? ⟨b, o + i * 6, none⟩ = some (.int .i64 q.kd) ∧ w'.cell? ⟨b, o + i * 6 + 1, none⟩ = some (.int .i64 q.nn) ∧ w'.cell? ⟨b, o + i * 6 + 2, none⟩ = some (.string (bs q.nm)) ∧ w'.cell? ⟨b, o + i * 6 + 3, none⟩ = some (.string (bs q.ky)) ∧ w'.cell? ⟨b, o + i * 6 + 4, none⟩ = some (.string (bs q.fr)) ∧ w'.cell? ⟨b, o + i * 6 + 5, none⟩ = some (.string (bs q.tt))) ∧ (w'.cell? ⟨w.heap.size, 0, none⟩ = some (.int .i64 r.kd) ∧ w'.cell? ⟨w.heap.size, 1, none⟩ = some (.int .i64 r.nn) ∧ w'.cell? ⟨w.heap.size, 2, none⟩ = some (.string (bs r.nm)) ∧ w'.cell? ⟨w.heap.size, 3, none⟩ = some (.string (bs r.ky)) ∧ w'.cell? ⟨w.heap.size, 4, none⟩ = some (.string (bs r.fr)) ∧ w'.cell? ⟨w.heap.size, 5, none⟩ = some (.string (bs r.tt))))
                (first | (with_reducible exact HSS.out _ ff))
                (first | (go_at_call 43; refine (HO.out _).mono ?_; rintro g2 v2 ⟨rfl, j2⟩; replace ff := ff.trans j2))
              all_goals
                rename_i hH
                clear hH HO
                obtain ⟨⟨d0, d1, d2, d3, d4, d5⟩, -⟩ := HSS.out _ ff
                have FX := Lib.hid (hf.out.trans ff)
                have hown := Lib.hid (own_fuw hown.out ff)
                clear ff HSS HPB
                by_cases hz : z < 0
                · have HN := Lib.hid (HNX.out (by omega))
                  obtain ⟨v7, w7, hr7, ho7, hf7⟩ := app_one W _ _ (s.take i) i (by rw [List.length_take]; omega) q hqi.out FX.out hown.out (by omega)
                  have HR := Lib.hid hr7
                  have HO7 := Lib.hid (HTK.out.symm ▸ ho7)
                  have HF7 := Lib.hid hf7
                  clear hr7 ho7 hf7 HNX HNA HTK
                  go_wp2_with (at_builtin; refine Lib.wpList_append_run _ rfl _ _ _ _ rfl _ _ rfl rfl _ _ HR.out ?_)
                  go_roundw
                  case rel => exact ⟨i + 1, by go_num, by omega, HF7, HO7, HN⟩
                  case measure => simp [RowKit.intOf]; omega
                · have HAT := HNA.out (by omega)
                  clear HNX HNA HTK HLT d0 d1 d2 d3 d4 d5
                  have HA := Lib.hid (show atR s r = i from HAT)
                  obtain ⟨a7, k7, hv7⟩ := own_sl hown.out
                  subst hv7
                  obtain ⟨v8, w8, hr8, ho8, hf8⟩ := app_one W _ _ (s.take i) i (by rw [List.length_take]; omega) r HRI.out FX.out hown.out (by omega)
                  have HR := Lib.hid hr8
                  have HO8 := Lib.hid ho8
                  have HF8 := Lib.hid hf8
                  clear hr8 ho8 hf8 HAT
                  have c0 := (PB.out.on FX.out).c 0; have c1 := (PB.out.on FX.out).c 1; have c2 := (PB.out.on FX.out).c 2; have c3 := (PB.out.on FX.out).c 3; have c4 := (PB.out.on FX.out).c 4; have c5 := (PB.out.on FX.out).c 5
                  go_wp2_with (at_builtin; refine Lib.wpList_append_run _ rfl _ _ _ _ rfl _ _ rfl rfl _ _ HR.out ?_)
                  clear c0 c1 c2 c3 c4 c5
                  clear HR
                  go_loopw [7, 10] (fun ov jv wr2 => ∃ j : Nat, jv = .int .i64 j ∧ i ≤ j ∧ j ≤ s.length ∧ Hid (Fuw W wr2) ∧ Hid (wr2.ownsRow W.heap.size 23 6 ov (j + 1) (csR (s.take i ++ r :: (s.drop i).take (j - i))))) (fun _ jv _ => s.length - (RowKit.intOf jv).toNat)
                  case atStart => exact ⟨i, rfl, Nat.le_refl _, by omega, HF8, by rw [Nat.sub_self, List.take_zero]; exact HO8⟩
                  case round =>
                    obtain ⟨j, rfl, hij, hj, hf2, hown2⟩ := hrel
                    by_cases hjl : j < s.length
                    · obtain ⟨b2, o2, e2, hq2⟩ := (HSL.out _ hf2.out).get hjl
                      have hq2i := HIN.out _ (List.getElem_mem hjl)
                      obtain ⟨v9, w9, hr9, ho9, hf9⟩ := app_one W _ _ _ (j + 1) (by simp; omega) s[j] hq2i hf2.out hown2.out (by omega)
                      have HO9 := Lib.hid (show w9.ownsRow W.heap.size 23 6 v9 (j + 1 + 1) (csR (s.take i ++ r :: (s.drop i).take (j + 1 - i))) from by
                        have e : s.take i ++ r :: (s.drop i).take (j + 1 - i) = (s.take i ++ r :: (s.drop i).take (j - i)) ++ [s[j]] := by
                          rw [show j + 1 - i = (j - i) + 1 by omega, List.take_succ_eq_append_getElem (by rw [List.length_drop]; omega), List.getElem_drop]
                          simp [show i + (j - i) = j by omega]
                        rw [e]; exact ho9)
                      have HR := Lib.hid hr9
                      have HF9 := Lib.hid hf9
                      have hjI : (j : Int) < (s.length : Int) := by omega
                      have d0 := hq2.c0; have d1 := hq2.c1; have d2 := hq2.c2; have d3 := hq2.c3; have d4 := hq2.c4; have d5 := hq2.c5
                      cases e2
                      clear hr9 ho9 hf9 hq2 hq2i HO8 HF8
                      generalize s[j] = q at *
                      go_wp2_with (at_builtin; refine Lib.wpList_append_run _ rfl _ _ _ _ rfl _ _ rfl rfl _ _ HR.out ?_)
                      go_roundw
                      case rel => exact ⟨j + 1, by go_num, by omega, by omega, HF9, HO9⟩
                      case measure => simp [RowKit.intOf]; omega
                    · have HLL := Lib.hid (show s.take i ++ r :: (s.drop i).take (j - i) = addL s r by
                        unfold addL; rw [HA.out, show (s.drop i).take (j - i) = s.drop i from List.take_of_length_le (by rw [List.length_drop]; omega)])
                      have HLN := Lib.hid (show (addL s r).length = j + 1 by unfold addL; rw [HA.out]; simp; omega)
                      go_wp2
                      go_ret2
                      exact ⟨_, rfl, own_low (by rw [HLN.out, ← HLL.out]; exact hown2.out) HWS.out, F00.out.trans hf2.out⟩
            · have HAT : atR s r = i := at_take hi HLT.out fun h => absurd h hlt
              go_upto_region 12 with fail
              go_quiet (fail)
              clear HLT
              generalize hV1 : wr.drewN _ = V1
              have FX := Lib.hid (show Fuw W V1 from hV1 ▸ hf.out.trans (fuw_dr wr _))
              have hown := Lib.hid (own_fuw hown.out (show Fuw wr V1 from hV1 ▸ fuw_dr wr _))
              clear hV1
              have HA := Lib.hid (show atR s r = i from HAT)
              obtain ⟨a7, k7, hv7⟩ := own_sl hown.out
              subst hv7
              obtain ⟨v8, w8, hr8, ho8, hf8⟩ := app_one W _ _ (s.take i) i (by rw [List.length_take]; omega) r HRI.out FX.out hown.out (by omega)
              have HR := Lib.hid hr8
              have HO8 := Lib.hid ho8
              have HF8 := Lib.hid hf8
              clear hr8 ho8 hf8 HAT
              have c0 := (PB.out.on FX.out).c 0; have c1 := (PB.out.on FX.out).c 1; have c2 := (PB.out.on FX.out).c 2; have c3 := (PB.out.on FX.out).c 3; have c4 := (PB.out.on FX.out).c 4; have c5 := (PB.out.on FX.out).c 5
              go_wp2_with (at_builtin; refine Lib.wpList_append_run _ rfl _ _ _ _ rfl _ _ rfl rfl _ _ HR.out ?_)
              clear c0 c1 c2 c3 c4 c5
              clear HR
              go_loopw [7, 10] (fun ov jv wr2 => ∃ j : Nat, jv = .int .i64 j ∧ i ≤ j ∧ j ≤ s.length ∧ Hid (Fuw W wr2) ∧ Hid (wr2.ownsRow W.heap.size 23 6 ov (j + 1) (csR (s.take i ++ r :: (s.drop i).take (j - i))))) (fun _ jv _ => s.length - (RowKit.intOf jv).toNat)
              case atStart => exact ⟨i, rfl, Nat.le_refl _, by omega, HF8, by rw [Nat.sub_self, List.take_zero]; exact HO8⟩
              case round =>
                obtain ⟨j, rfl, hij, hj, hf2, hown2⟩ := hrel
                by_cases hjl : j < s.length
                · exfalso; omega
                · have HLL := Lib.hid (show s.take i ++ r :: (s.drop i).take (j - i) = addL s r by
                    unfold addL; rw [HA.out, show (s.drop i).take (j - i) = s.drop i from List.take_of_length_le (by rw [List.length_drop]; omega)])
                  have HLN := Lib.hid (show (addL s r).length = j + 1 by unfold addL; rw [HA.out]; simp; omega)
                  go_wp2
                  go_ret2
                  exact ⟨_, rfl, own_low (by rw [HLN.out, ← HLL.out]; exact hown2.out) HWS.out, F00.out.trans hf2.out⟩
    · have HE := Lib.hid (show addE s r = chkR r ∧ addR s r = [] by have h : addE s r = chkR r := by { unfold addE; rw [hv, if_pos rfl, if_neg hc] }; exact ⟨h, by unfold addR; rw [h, if_neg hc]⟩)
      rw [HE.out.1, HE.out.2]
      generalize chkR r = c at *
      have hc' : (c != 0) = true := by rw [bne_iff_ne]; exact hc
      clear hc hv
      go_enter Tryd.func16, Tryd.ntmps16
      go_upto_region 1 with fail
      clear hW
      go_wp2_with fail
      go_at_call 21; refine (V.out _ F.out).mono ?_; rintro e1 w1 ⟨rfl, f1⟩
      have F := Lib.hid (F.out.trans f1)
      clear f1
      have c0 := (PB.out.on F.out).c 0; have c1 := (PB.out.on F.out).c 1; have c2 := (PB.out.on F.out).c 2; have c3 := (PB.out.on F.out).c 3; have c4 := (PB.out.on F.out).c 4; have c5 := (PB.out.on F.out).c 5
      go_wp2_with fail
      go_at_call 9; refine (C.out _).mono ?_; rintro e1 w1 ⟨rfl, f1⟩
      have F := Lib.hid (F.out.trans f1)
      clear f1
      clear c0 c1 c2 c3 c4 c5
      go_wp2
      go_ret2
      exact ⟨_, rfl, World.ownsRow_nil _ _ _ _, F00.out.trans F.out⟩
end Go.Proofs.YtadnaakbhgacgaaDoor
