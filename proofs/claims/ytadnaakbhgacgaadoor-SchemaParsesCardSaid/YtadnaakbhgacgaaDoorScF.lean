/-
  Go's binary search over a schema; package schema: the place of a rule (find). Nothing that was there turns.
-/
import Derived.Test.YtadnaakbhgacgaaDoorScE
namespace Go.Proofs.YtadnaakbhgacgaaDoor
open Go.RowKit

set_option maxHeartbeats 6400000 in
set_option maxRecDepth 100000 in
theorem bsf_any (s : List Rl) (r : Rl) (ao : Option Addr) (cap : Nat) (w : World) (hs : SlR w ao s cap) (hp : IncR s) (hn : s.length ≤ 40) :
    Calls Tryd.prog 56 #[.slice ao s.length cap, rlv r, .func (.func 39) #[] #[]] w (fun e w' => e = .returned (.tuple #[.int .i64 (atR s r : Int), .bool (hasR s r)]) ∧ Fuw w w') := by
  have HS := Lib.hid hs
  have HP := Lib.hid hp
  have HB := Lib.hid (show BsR s r 0 s.length from ⟨Nat.zero_le _, Nat.le_refl _, fun k _ h => absurd h (by omega), fun k h h' => absurd h (by omega)⟩)
  clear hs hp
  obtain ⟨R, hR⟩ : ∃ R, R = hasR s r := ⟨_, rfl⟩
  obtain ⟨Z, hZ⟩ : ∃ Z, Z = atR s r := ⟨_, rfl⟩
  rw [← hR, ← hZ]
  have HR := Lib.hid hR
  have HZ := Lib.hid hZ
  clear hR hZ
  unfold rlv
  obtain ⟨W, hW⟩ : ∃ W, w.alloc (.cells #[.int .i64 r.kd, .int .i64 r.nn, .string (bs r.nm), .string (bs r.ky), .string (bs r.fr), .string (bs r.tt)] 23) = W := ⟨_, rfl⟩
  have P0 := Lib.hid (show BkR W w.heap.size r from by rw [← hW]; exact BkR.new w r)
  have F0 := Lib.hid (show Fuw w W from by rw [← hW]; exact fuwA _ _)
  go_enter Tryd.func56, Tryd.ntmps56
  go_upto_region 1 with fail
  clear hW
  go_wp2
  go_loopw [9, 10] (fun iv jv wr => ∃ i j : Nat, iv = .int .i64 i ∧ jv = .int .i64 j ∧ i ≤ j ∧ j ≤ s.length ∧ Hid (BsR s r i j) ∧ Hid (Fuw W wr)) (fun iv jv _ => (RowKit.intOf jv).toNat - (RowKit.intOf iv).toNat)
  case atStart => exact ⟨0, s.length, rfl, rfl, Nat.zero_le _, Nat.le_refl _, HB, Fuw.refl _⟩
  case round =>
    obtain ⟨i, j, rfl, rfl, hij, hj, HI, hf⟩ := hrel
    by_cases hlt : i < j
    · have hm : (i + j) / 2 < s.length := by omega
      obtain ⟨b, o, rfl, hc⟩ := (slR_on (F0.out.trans hf.out) HS.out).get hm
      have HM := Lib.hid (bsR_mid HP.out HI.out hlt hm)
      have hh : ((i : Int) + (j : Int)) / 2 = ((i + j) / 2 : Nat) := by omega
      have HC := Lib.hid (fun w' => ord_any s[(i + j) / 2] r w')
      unfold rlv at HC
      have h1 : i ≤ (i + j) / 2 := by omega
      have h2 : (i + j) / 2 < j := by omega
      have HK := Lib.hid (fun w' (ff : Fuw wr w') => hc.on ff)
      clear hc
      generalize s[(i + j) / 2] = q at *
      generalize (i + j) / 2 = m at *
      go_upto_region 5 with fail
      clear hh
      have hmI : (m : Int) < (s.length : Int) := by omega
      have HSS := Lib.hid (fun w' (ff : Fuw wr w') => (show (w'.cell? ⟨w.heap.size, 0, none⟩ = some (.int .i64 r.kd) ∧ w'.cell? ⟨w.heap.size, 1, none⟩ = some (.int .i64 r.nn) ∧ w'.cell? ⟨w.heap.size, 2, none⟩ = some (.string (bs r.nm)) ∧ w'.cell? ⟨w.heap.size, 3, none⟩ = some (.string (bs r.ky)) ∧ w'.cell? ⟨w.heap.size, 4, none⟩ = some (.string (bs r.fr)) ∧ w'.cell? ⟨w.heap.size, 5, none⟩ = some (.string (bs r.tt))) ∧ (w'.cell? ⟨b, o + m * 6, none⟩ = some (.int .i64 q.kd) ∧ w'.cell? ⟨b, o + m * 6 + 1, none⟩ = some (.int .i64 q.nn) ∧ w'.cell? ⟨b, o + m * 6 + 2, none⟩ = some (.string (bs q.nm)) ∧ w'.cell? ⟨b, o + m * 6 + 3, none⟩ = some (.string (bs q.ky)) ∧ w'.cell? ⟨b, o + m * 6 + 4, none⟩ = some (.string (bs q.fr)) ∧ w'.cell? ⟨b, o + m * 6 + 5, none⟩ = some (.string (bs q.tt))) from
        ⟨⟨(P0.out.on (hf.out.trans ff)).c0, (P0.out.on (hf.out.trans ff)).c1, (P0.out.on (hf.out.trans ff)).c2, (P0.out.on (hf.out.trans ff)).c3, (P0.out.on (hf.out.trans ff)).c4, (P0.out.on (hf.out.trans ff)).c5⟩, (HK.out _ ff).c0, (HK.out _ ff).c1, (HK.out _ ff).c2, (HK.out _ ff).c3, (HK.out _ ff).c4, (HK.out _ ff).c5⟩))
      have ff : Fuw wr wr.drew := Fuw.drew (Fuw.refl wr)
      generalize ordR q r = z at *
      go_region_held3 (fun w' => (w'.cell? ⟨w.heap.size, 0, none⟩ = some (.int .i64 r.kd) ∧ w'.cell? ⟨w.heap.size, 1, none⟩ = some (.int .i64 r.nn) ∧ w'.cell? ⟨w.heap.size, 2, none⟩ = some (.string (bs r.nm)) ∧ w'.cell? ⟨w.heap.size, 3, none⟩ = some (.string (bs r.ky)) ∧ w'.cell? ⟨w.heap.size, 4, none⟩ = some (.string (bs r.fr)) ∧ w'.cell? ⟨w.heap.size, 5, none⟩ = some (.string (bs r.tt))) ∧ (w'.cell? ⟨b, o + m * 6, none⟩ = some (.int .i64 q.kd) ∧ w'.cell? ⟨b, o + m * 6 + 1, none⟩ = some (.int .i64 q.nn) ∧ w'.cell? ⟨b, o + m * 6 + 2, none⟩ = some (.string (bs q.nm)) ∧ w'.cell? ⟨b, o + m * 6 + 3, none⟩ = some (.string (bs q.ky)) ∧ w'.cell? ⟨b, o + m * 6 + 4, none⟩ = some (.string (bs q.fr)) ∧ w'.cell? ⟨b, o + m * 6 + 5, none⟩ = some (.string (bs q.tt))))
        (first | (with_reducible exact HSS.out _ ff))
        (first
          | (go_at_call 39; refine (HC.out _).mono ?_; rintro g2 v2 ⟨rfl, j2⟩; replace ff := ff.trans j2))
      all_goals
        rename_i hH
        clear hH HSS HC
        have HF := Lib.hid (hf.out.trans ff)
        clear ff
        by_cases hx : z < 0
        · have HZ2 := Lib.hid (HM.out.1 hx)
          go_wp2
          go_roundw
          case rel => exact ⟨m + 1, j, by go_num, rfl, by omega, hj, HZ2, HF⟩
          case measure => simp [RowKit.intOf]; omega
        · have hx' : 0 ≤ z := by omega
          have HZ2 := Lib.hid (HM.out.2 hx')
          go_wp2
          go_roundw
          case rel => exact ⟨i, m, rfl, rfl, h1, by omega, HZ2, HF⟩
          case measure => simp [RowKit.intOf]; omega
    · obtain rfl : i = j := by omega
      obtain ⟨e1, e2⟩ := bsR_end HP.out HI.out
      have HA := Lib.hid (HZ.out.trans e1.symm)
      have HE := Lib.hid (HR.out.trans e2)
      clear e1 e2
      by_cases hi : i < s.length
      · have HE2 := Lib.hid (show R = (ordR s[i] r == 0) by rw [HE.out, dif_pos hi])
        obtain ⟨b, o, rfl, hc⟩ := (slR_on (F0.out.trans hf.out) HS.out).get hi
        have HC := Lib.hid (fun w' => ord_any s[i] r w')
        unfold rlv at HC
        have HK := Lib.hid (fun w' (ff : Fuw wr w') => hc.on ff)
        clear HE hc
        generalize s[i] = q at *
        have hiI : (i : Int) < (s.length : Int) := by omega
        go_upto_region 8 with fail
        have HSS := Lib.hid (fun w' (ff : Fuw wr w') => (show (w'.cell? ⟨w.heap.size, 0, none⟩ = some (.int .i64 r.kd) ∧ w'.cell? ⟨w.heap.size, 1, none⟩ = some (.int .i64 r.nn) ∧ w'.cell? ⟨w.heap.size, 2, none⟩ = some (.string (bs r.nm)) ∧ w'.cell? ⟨w.heap.size, 3, none⟩ = some (.string (bs r.ky)) ∧ w'.cell? ⟨w.heap.size, 4, none⟩ = some (.string (bs r.fr)) ∧ w'.cell? ⟨w.heap.size, 5, none⟩ = some (.string (bs r.tt))) ∧ (w'.cell? ⟨b, o + i * 6, none⟩ = some (.int .i64 q.kd) ∧ w'.cell? ⟨b, o + i * 6 + 1, none⟩ = some (.int .i64 q.nn) ∧ w'.cell? ⟨b, o + i * 6 + 2, none⟩ = some (.string (bs q.nm)) ∧ w'.cell? ⟨b, o + i * 6 + 3, none⟩ = some (.string (bs q.ky)) ∧ w'.cell? ⟨b, o + i * 6 + 4, none⟩ = some (.string (bs q.fr)) ∧ w'.cell? ⟨b, o + i * 6 + 5, none⟩ = some (.string (bs q.tt))) from
          ⟨⟨(P0.out.on (hf.out.trans ff)).c0, (P0.out.on (hf.out.trans ff)).c1, (P0.out.on (hf.out.trans ff)).c2, (P0.out.on (hf.out.trans ff)).c3, (P0.out.on (hf.out.trans ff)).c4, (P0.out.on (hf.out.trans ff)).c5⟩, (HK.out _ ff).c0, (HK.out _ ff).c1, (HK.out _ ff).c2, (HK.out _ ff).c3, (HK.out _ ff).c4, (HK.out _ ff).c5⟩))
        have ff : Fuw wr wr.drew := Fuw.drew (Fuw.refl wr)
        generalize ordR q r = z at *
        have hd1 : decide (i < s.length) = true := decide_eq_true hi
        have hd2 : decide ((i : Int) < (s.length : Int)) = true := decide_eq_true hiI
        go_region_held3 (fun w' => (w'.cell? ⟨w.heap.size, 0, none⟩ = some (.int .i64 r.kd) ∧ w'.cell? ⟨w.heap.size, 1, none⟩ = some (.int .i64 r.nn) ∧ w'.cell? ⟨w.heap.size, 2, none⟩ = some (.string (bs r.nm)) ∧ w'.cell? ⟨w.heap.size, 3, none⟩ = some (.string (bs r.ky)) ∧ w'.cell? ⟨w.heap.size, 4, none⟩ = some (.string (bs r.fr)) ∧ w'.cell? ⟨w.heap.size, 5, none⟩ = some (.string (bs r.tt))) ∧ (w'.cell? ⟨b, o + i * 6, none⟩ = some (.int .i64 q.kd) ∧ w'.cell? ⟨b, o + i * 6 + 1, none⟩ = some (.int .i64 q.nn) ∧ w'.cell? ⟨b, o + i * 6 + 2, none⟩ = some (.string (bs q.nm)) ∧ w'.cell? ⟨b, o + i * 6 + 3, none⟩ = some (.string (bs q.ky)) ∧ w'.cell? ⟨b, o + i * 6 + 4, none⟩ = some (.string (bs q.fr)) ∧ w'.cell? ⟨b, o + i * 6 + 5, none⟩ = some (.string (bs q.tt))))
          (first | (with_reducible exact HSS.out _ ff))
          (first
            | (go_at_call 39; refine (HC.out _).mono ?_; rintro g2 v2 ⟨rfl, j2⟩; replace ff := ff.trans j2))
        all_goals
          rename_i hH
          clear hH HSS HC
          have HF := Lib.hid (F0.out.trans (hf.out.trans ff))
          clear ff
          go_wp2
          go_ret2
          exact ⟨(by rw [HA.out, HE2.out]; rfl), HF.out⟩
      · have HT := Lib.hid (show R = false by rw [HE.out, dif_neg hi])
        clear HE
        have hd1 : decide (i < s.length) = false := decide_eq_false hi
        have hd2 : decide ((i : Int) < (s.length : Int)) = false := decide_eq_false (by omega)
        go_upto_region 8 with fail
        go_quiet (fail)
        go_wp2
        go_ret2
        exact ⟨(by rw [HA.out, HT.out]; rfl), F0.out.trans (hf.out.trans (fuw_dr _ _))⟩
/-- find. -/
def fndE (s : List Rl) (r : Rl) : Int := if valS s = true then chkR r else 19
def RetF (w : World) (s : List Rl) (r : Rl) (e : Ending) (w' : World) : Prop := (e = .returned (.tuple (if fndE s r = 0 then #[.int .i64 (atR s r : Int), .bool (hasR s r), .int .i64 0] else #[.int .i64 0, .bool false, .int .i64 (fndE s r)]))) ∧ Fuw w w'
set_option maxHeartbeats 6400000 in
set_option maxRecDepth 100000 in
theorem fnd_any (s : List Rl) (r : Rl) (ao : Option Addr) (cap : Nat) (w : World) (hs : SlR w ao s cap) (hr : RIn r) : Calls Tryd.prog 40 #[.slice ao s.length cap, rlv r] w (RetF w s r) := by
  have HV := Lib.hid (fun w' (hf : Fuw w w') => val_any s ao cap w' (slR_on hf hs))
  have HC := Lib.hid (fun w' => chk_any r hr w')
  have HB := Lib.hid (fun w' (hf : Fuw w w') (h : valS s = true) => bsf_any s r ao cap w' (slR_on hf hs) (valS_iff.1 h).2.2 (valS_iff.1 h).1)
  clear hs hr
  obtain ⟨W, hW⟩ : ∃ W, w.alloc (.cells #[.int .i64 r.kd, .int .i64 r.nn, .string (bs r.nm), .string (bs r.ky), .string (bs r.fr), .string (bs r.tt)] 23) = W := ⟨_, rfl⟩
  have P0 := Lib.hid (show BkR W w.heap.size r from by rw [← hW]; exact BkR.new w r)
  have F0 := Lib.hid (show Fuw w W from by rw [← hW]; exact fuwA _ _)
  unfold RetF
  cases hv : valS s with
  | false =>
    have HE := Lib.hid (show fndE s r = 19 by unfold fndE; rw [hv]; rfl)
    rw [hv] at HV
    clear hv HB HC
    rw [HE.out]
    unfold rlv
    go_enter Tryd.func40, Tryd.ntmps40
    go_upto_region 1 with fail
    clear hW
    go_wp2_with (go_at_call 20; refine (HV.out _ F0.out).mono ?_; rintro e1 w1 ⟨rfl, f1⟩)
    go_ret3
    exact ⟨rfl, F0.out.trans f1⟩
  | true =>
    have HE := Lib.hid (show fndE s r = chkR r by unfold fndE; rw [hv]; rfl)
    rw [hv] at HV
    have HB := Lib.hid (fun w' (hf : Fuw w w') => HB.out w' hf hv)
    clear hv
    rw [HE.out]
    unfold rlv at HC HB ⊢
    generalize chkR r = c at *
    generalize atR s r = Z at *
    generalize hasR s r = R at *
    by_cases hc : c = 0
    · subst hc
      rw [if_pos rfl]
      go_enter Tryd.func40, Tryd.ntmps40
      go_upto_region 1 with fail
      clear hW
      go_wp2_with fail
      go_at_call 20; refine (HV.out _ F0.out).mono ?_; rintro e1 w1 ⟨rfl, f1⟩
      have F1 := Lib.hid (F0.out.trans f1)
      have P1 := Lib.hid (P0.out.on f1)
      clear f1 P0 F0
      have c0 := P1.out.c0; have c1 := P1.out.c1; have c2 := P1.out.c2; have c3 := P1.out.c3; have c4 := P1.out.c4; have c5 := P1.out.c5
      go_wp2_with fail
      go_at_call 8; refine (HC.out _).mono ?_; rintro e2 w2 ⟨rfl, f2⟩
      have F2 := Lib.hid (F1.out.trans f2)
      have P2 := Lib.hid (P1.out.on f2)
      clear f2 P1 F1 c0 c1 c2 c3 c4 c5
      have c0 := P2.out.c0; have c1 := P2.out.c1; have c2 := P2.out.c2; have c3 := P2.out.c3; have c4 := P2.out.c4; have c5 := P2.out.c5
      go_wp2_with fail
      go_at_call 56; refine (HB.out _ F2.out).mono ?_; rintro e3 w3 ⟨rfl, f3⟩
      have F3 := Lib.hid (F2.out.trans f3)
      clear f3 P2 F2 c0 c1 c2 c3 c4 c5
      go_wp2
      go_ret3
      exact ⟨rfl, F3.out⟩
    · rw [if_neg hc]
      have hc' : (c != 0) = true := by simpa using hc
      clear hc
      go_enter Tryd.func40, Tryd.ntmps40
      go_upto_region 1 with fail
      clear hW
      go_wp2_with fail
      go_at_call 20; refine (HV.out _ F0.out).mono ?_; rintro e1 w1 ⟨rfl, f1⟩
      have F1 := Lib.hid (F0.out.trans f1)
      have P1 := Lib.hid (P0.out.on f1)
      clear f1 P0 F0
      have c0 := P1.out.c0; have c1 := P1.out.c1; have c2 := P1.out.c2; have c3 := P1.out.c3; have c4 := P1.out.c4; have c5 := P1.out.c5
      go_wp2_with fail
      go_at_call 8; refine (HC.out _).mono ?_; rintro e2 w2 ⟨rfl, f2⟩
      have F2 := Lib.hid (F1.out.trans f2)
      clear f2 P1 F1 c0 c1 c2 c3 c4 c5
      go_wp2
      go_ret3
      exact ⟨rfl, F2.out⟩
end Go.Proofs.YtadnaakbhgacgaaDoor
