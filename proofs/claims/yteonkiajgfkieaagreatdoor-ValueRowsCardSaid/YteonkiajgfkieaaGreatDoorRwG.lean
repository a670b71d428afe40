/-
  The statement ValueRows walked: for every two rows and every two lists of rows in memory it returns true. Nothing that was there turns.
-/
import Derived.Test.YteonkiajgfkieaaGreatDoorRwF
import Derived.Test.YteonkiajgfkieaaGreatDoorLvP
import Derived.Test.YteonkiajgfkieaaGreatDoorVSize
namespace Go.Proofs.YteonkiajgfkieaaGreatDoor
open Go.RowKit

mutual
theorem siz_sh : ∀ x : Vl, siz x ≤ 1000 → shV x = true
  | .mk k n d s l, h => by
    unfold siz at h
    unfold shV
    have h1 := sizL_len l
    rw [siz_shL l (by omega), Bool.and_true, decide_eq_true_eq]
    show l.length ≤ 1000000
    omega
theorem siz_shL : ∀ l : List Vl, sizL l ≤ 1000 → shL l = true
  | [], _ => rfl
  | v :: r, h => by
    unfold sizL at h
    unfold shL
    rw [siz_sh v (by omega), siz_shL r (by omega)]; rfl
theorem sizL_len : ∀ l : List Vl, l.length ≤ sizL l
  | [] => Nat.zero_le _
  | v :: r => by
    have h1 := sizL_len r
    have h2 : 1 ≤ siz v := by cases v with | mk k n d s l => unfold siz; omega
    unfold sizL
    rw [List.length_cons]; omega
end
theorem lig_siz : ∀ (rows : List (List Vl)) (a : Int), 0 ≤ ligV rows a → (rows.length : Int) ≤ a ∧ ∀ x ∈ rows, (sizL x : Int) ≤ a
  | [], a, h => ⟨by simpa [ligV] using h, fun x hx => by cases hx⟩
  | y :: r, a, h => by
    have ha : 0 ≤ a := by
      rcases Int.lt_or_le a 0 with k | k
      · rw [ligV_neg _ k] at h; exact h
      · exact k
    have e : ligV (y :: r) a = ligV r (weiL 12 y (a - 1)) := by
      show ligV r (if a < 0 then a else weiL 12 y (a - 1)) = _
      rw [if_neg (by omega)]
    rw [e] at h
    obtain ⟨h1, h2⟩ := lig_siz r _ h
    have h3 : 0 ≤ weiL 12 y (a - 1) := by omega
    have h4 := weiL_siz y 12 (a - 1) h3
    refine ⟨by rw [List.length_cons]; omega, fun x hx => ?_⟩
    rcases List.mem_cons.1 hx with rfl | hx
    · omega
    · have := h2 x hx; omega
/-- Rows within the statement's budget. -/
theorem lig_ok {L : List (List Vl)} (h : decide (0 ≤ ligV L 300) = true) : L.length ≤ 1000000 ∧ ∀ x ∈ L, x.length ≤ 1000000 ∧ shL x = true := by
  obtain ⟨h1, h2⟩ := lig_siz L 300 (by simpa using h)
  refine ⟨by omega, fun x hx => ?_⟩
  have h3 := h2 x hx
  have h4 := sizL_len x
  exact ⟨by omega, siz_shL x (by omega)⟩
theorem SlR.rs {w : World} {ao : Option Addr} {L : List (List Vl)} {cap : Nat} (h : SlR w ao L cap) : RsV w ao L cap :=
  ⟨h.le, h.max, h.nil, fun hp => by
    obtain ⟨b, o, e, -, hc⟩ := h.at_ hp
    exact ⟨b, o, e, fun j hj => hc j hj⟩⟩
/-- A slice of two rows. -/
theorem rs2 {w : World} {B : Nat} {a b : List Vl} {aa ab : Option Addr} {ca cb : Nat} (h : Bk w B #[.slice aa a.length ca, .slice ab b.length cb] 23) (ha : SlV w aa a ca) (hb : SlV w ab b cb) : RsV w (some ⟨B, 0, none⟩) [a, b] 2 := by
  refine ⟨Nat.le_refl _, by unfold maxLen; decide, (fun h => by cases h), fun _ => ⟨B, 0, rfl, fun j hj => ?_⟩⟩
  have hj' : j = 0 ∨ j = 1 := by simp at hj; omega
  rcases hj' with rfl | rfl
  · exact ⟨aa, ca, h.c 0, ha⟩
  · exact ⟨ab, cb, h.c 1, hb⟩
set_option maxHeartbeats 6400000 in
set_option maxRecDepth 100000 in
theorem rows_walk (a b : List Vl) (L M : List (List Vl)) (aa ab al am : Option Addr) (ca cb cl cm : Nat) (w : World) (ha : SlV w aa a ca) (hb : SlV w ab b cb) (hL : SlR w al L cl) (hM : SlR w am M cm) (G : Good w) :
    Calls Tryz.prog 3 #[.agg #[.slice aa a.length ca, .slice ab b.length cb], .slice al L.length cl, .slice am M.length cm] w (RwB w true) := by
  have HA := Lib.hid ha
  have HB := Lib.hid hb
  have HGD := Lib.hid G
  have CL1 := Lib.hid (fun w' B (h : Fuw w w') (k : Bk w' B #[.slice aa a.length ca, .slice ab b.length cb] 23) => (show Calls Tryz.prog 4 #[.slice (some ⟨B, 0, none⟩) 2 2, .int .i64 300] w' (RetB w' (decide (0 ≤ ligV [a, b] 300))) from rlight_any [a, b] 300 (by decide) (by decide) _ _ _ (rs2 k (ha.onw h) (hb.onw h))))
  have CL2 := Lib.hid (fun w' (h : Fuw w w') => rlight_any L 300 (by decide) (by decide) al cl w' (hL.onw h).rs)
  have CL3 := Lib.hid (fun w' (h : Fuw w w') => rlight_any M 300 (by decide) (by decide) am cm w' (hM.onw h).rs)
  have CA := Lib.hid (fun w' (h : Fuw w w') => alive_any w' (G.onw h))
  have HLI := Lib.hid (show decide (0 ≤ ligV L 300) = true → L.length ≤ 1000000 ∧ ∀ x ∈ L, x.length ≤ 1000000 ∧ shL x = true from lig_ok)
  have HMI := Lib.hid (show decide (0 ≤ ligV M 300) = true → M.length ≤ 1000000 ∧ ∀ x ∈ M, x.length ≤ 1000000 ∧ shL x = true from lig_ok)
  have HLR := Lib.hid hL
  have HMR := Lib.hid hM
  clear ha hb hL hM G
  generalize decide (0 ≤ ligV [a, b] 300) = q1 at *
  generalize decide (0 ≤ ligV L 300) = q2 at *
  generalize decide (0 ≤ ligV M 300) = q3 at *
  go_enter Tryz.func3, Tryz.ntmps3
  go_upto_region 1 with fail
  obtain ⟨W, hW⟩ : ∃ W, W = w.alloc (.cells #[.slice aa a.length ca, .slice ab b.length cb] 24) := ⟨_, rfl⟩
  have fW := Lib.hid (show Fuw w W by rw [hW]; exact fuwA _ _)
  have bW : Bk W w.heap.size #[.slice aa a.length ca, .slice ab b.length cb] 24 := by rw [hW]; exact Bk.new _ _ _
  rw [← hW]
  clear hW
  have c0 := bW.c 0
  have c1 := bW.c 1
  clear bW
  go_quiet (fail)
  clear c0 c1
  have fV := Lib.hid (show Fuw w (W.drewN nq) from fW.out.trans (fuw_dr _ _))
  generalize W.drewN nq = V at *
  have B1 := Lib.hid (CL1.out _ _ (fV.out.alloc _) (Bk.new V _ _))
  have FB := Lib.hid (fV.out.alloc (.cells #[.slice aa a.length ca, .slice ab b.length cb] 23))
  clear CL1 fV fW
  go_wp2_with fail
  go_at_call 4; refine (B1.out).mono ?_; rintro e1 w1 ⟨rfl, f1⟩
  have F1 := Lib.hid (FB.out.trans f1.w)
  clear f1 B1 FB
  cases q1 with
  | false =>
    go_wp2_with fail
    go_at_call 5; refine (CA.out _ F1.out).mono ?_; rintro e9 w9 ⟨rfl, f9⟩
    go_wp2
    go_ret
    exact ⟨rfl, F1.out.trans f9⟩
  | true =>
    go_wp2_with fail
    go_at_call 4; refine (CL2.out _ F1.out).mono ?_; rintro e2 w2 ⟨rfl, f2⟩
    have F2 := Lib.hid (F1.out.trans f2.w)
    clear f2
    cases q2 with
    | false =>
      go_wp2_with fail
      go_at_call 5; refine (CA.out _ F2.out).mono ?_; rintro e9 w9 ⟨rfl, f9⟩
      go_wp2
      go_ret
      exact ⟨rfl, F2.out.trans f9⟩
    | true =>
      go_wp2_with fail
      go_at_call 4; refine (CL3.out _ F2.out).mono ?_; rintro e3 w3 ⟨rfl, f3⟩
      have F3 := Lib.hid (F2.out.trans f3.w)
      clear f3
      cases q3 with
      | false =>
        go_wp2_with fail
        go_at_call 5; refine (CA.out _ F3.out).mono ?_; rintro e9 w9 ⟨rfl, f9⟩
        go_wp2
        go_ret
        exact ⟨rfl, F3.out.trans f9⟩
      | true =>
        have HL1 := Lib.hid (HLI.out (by first | rfl | trivial))
        have HM1 := Lib.hid (HMI.out (by first | rfl | trivial))
        have CS := Lib.hid (lsort_any L al cl w3 (HLR.out.onw F3.out) HL1.out.1)
        have CR := Lib.hid (fun w' (h : Fuw w w') => rsort_any L al cl w' (HLR.out.onw h) HL1.out.1 HL1.out.2)
        have CB1 := Lib.hid (fun w' (h : Fuw w w') => lbag_any L M al am cl cm w' (HLR.out.onw h) (HMR.out.onw h) HL1.out.1 HM1.out.1)
        have CB2 := Lib.hid (fun w' (h : Fuw w w') => rbag_any L M al am cl cm w' (HLR.out.onw h) (HMR.out.onw h) HL1.out.1 HM1.out.1 HL1.out.2 HM1.out.2)
        have CB3 := Lib.hid (fun w' ao cap (h : Fuw w w') (k : SlR w' ao (sortR L) cap) => (show Calls Tryz.prog 11 #[.slice ao (sortR L).length cap, .slice al L.length cl] w' (RwB w' true) from by
          have := lbag_any (sortR L) L ao al cap cl w' k (HLR.out.onw h) (by rw [sortR_length]; exact HL1.out.1) HL1.out.1
          rwa [bagR_sort] at this))
        have CSR := Lib.hid (fun w' ao bo ca cb (h : SlR w' ao (sortR L) ca) (k : SlR w' bo (sortR L) cb) => (show Calls Tryz.prog 9 #[.slice ao (sortR L).length ca, .slice bo (sortR L).length cb] w' (RwB w' true) from by
          have := rsamer_any (sortR L) (sortR L) ao bo ca cb w' h k
          rwa [decide_eq_true (ordRR_z.2 rfl)] at this))
        have CO1 := Lib.hid (fun w' (h : Fuw w w') => lrows_any a b aa ab ca cb w' (HA.out.onw h) (HB.out.onw h))
        have CO2 := Lib.hid (fun w' (h : Fuw w w') => rrows_any a b aa ab ca cb w' (HA.out.onw h) (HB.out.onw h))
        have HSR := Lib.hid (sortR_srt L)
        have hSl : (sortR L).length ≤ 1000000 := by rw [sortR_length]; exact HL1.out.1
        clear HLI HMI CL2 CL3 HA HB HLR HMR HL1 HM1
        generalize sortR L = S at *
        generalize ordL a b = ro at *
        generalize bagR L M = rb at *
        go_wp2_with fail
        go_at_call 6; refine CS.out.mono ?_; rintro e4 w4 ⟨aS, cS, rfl, hS, f4⟩
        have F4 := Lib.hid (F3.out.trans f4)
        have HS := Lib.hid hS
        clear hS f4 CS
        go_wp2_with fail
        go_loopw [10] (fun iv wr => ∃ i : Nat, iv = .int .i64 (i : Int) ∧ 1 ≤ i ∧ i ≤ S.length + 1 ∧ Hid (Fuw w4 wr)) (fun iv _ => S.length + 1 - (RowKit.intOf iv).toNat)
        case atStart => exact ⟨1, rfl, Nat.le_refl _, by omega, Fuw.refl _⟩
        case round =>
          obtain ⟨i, rfl, h1i, hj, hf⟩ := hrel
          by_cases hlt : i < S.length
          · obtain ⟨b0, o0, a1, k1, rfl, c0, s0⟩ := (HS.out.onw hf.out).get (i := i - 1) (by omega)
            obtain ⟨b1, o1, a2, k2, he, d0, s1⟩ := (HS.out.onw hf.out).get (i := i) hlt
            cases he
            have HC := Lib.hid (fun w' (hf' : Fuw wr w') => lrows_any S[i - 1] S[i] a1 a2 k1 k2 w' (s0.onw hf') (s1.onw hf'))
            have hr0 : ordL S[i - 1] S[i] ≤ 0 := List.pairwise_iff_getElem.1 HSR.out (i - 1) i (by omega) hlt (by omega)
            clear s0 s1
            generalize S[i - 1] = x at *
            generalize S[i] = y at *
            generalize ordL x y = r at *
            have hr : decide (0 < r) = false := decide_eq_false (by omega)
            clear hr0
            have g1 : (0 : Int) ≤ (i : Int) - 1 := by omega
            have g2 : (1 : Int) ≤ i := by omega
            have g3 : (i : Int) - 1 < S.length := by omega
            have g4 : (i : Int) < S.length := by omega
            have g5 : (0 : Int) ≤ i := by omega
            have hw1 : IntKind.i64.wrap ((i : Int) - 1) = (i : Int) - 1 := by rw [IntKind.wrap_i64]; omega
            have hw2 : ((i : Int) - 1).toNat = i - 1 := by omega
            go_wp2_with fail
            go_region_held3 (fun w' => Fuw wr w' ∧ w'.cell? ⟨b0, o0 + (i - 1), none⟩ = some (.slice a1 x.length k1) ∧ w'.cell? ⟨b0, o0 + i, none⟩ = some (.slice a2 y.length k2))
              (first
                | (refine ⟨Fuw.drew (Fuw.refl _), ?_, ?_⟩ <;> simp [*]; done)
                | (refine ⟨(Fuw.drew (Fuw.refl wr)).trans (by assumption), cellOnw ((Fuw.drew (Fuw.refl wr)).trans (by assumption)) (by assumption), cellOnw ((Fuw.drew (Fuw.refl wr)).trans (by assumption)) (by assumption)⟩)
                | go_keep
                | (refine ⟨Fuw.trans ?_ (by assumption), cellOnw (by assumption) ?_, cellOnw (by assumption) ?_⟩ <;> assumption))
              (first
                | (go_at_call 7; refine (HC.out _ (Fuw.drew (Fuw.refl _))).mono ?_; rintro e5 w5 ⟨rfl, f5⟩; have f5 := f5.w))
            have ff := Lib.hid (show Fuw w4 w5 from hf.out.trans ((Fuw.drew (Fuw.refl wr)).trans f5))
            clear hw1 hw2 g1 g3
            go_wp2
            go_roundw
            case rel => exact ⟨i + 1, by go_num, by omega, by omega, ff.out⟩
            case measure => simp [RowKit.intOf]; omega
          · have F5 := Lib.hid (F4.out.trans hf.out)
            have HS5 := Lib.hid (HS.out.onw hf.out)
            clear hf HS
            go_wp2_with fail
            go_at_call 7; refine (CO1.out _ F5.out).mono ?_; rintro e5 w5 ⟨rfl, f5⟩
            have F6 := Lib.hid (F5.out.trans f5.w)
            have HS6 := Lib.hid (HS5.out.onw f5.w)
            clear f5 HS5
            go_wp2_with fail
            go_at_call 8; refine (CO2.out _ F6.out).mono ?_; rintro e6 w6 ⟨rfl, f6⟩
            have F7 := Lib.hid (F6.out.trans f6)
            have HS7 := Lib.hid (HS6.out.onw f6)
            clear f6 HS6
            go_wp2_with fail
            go_at_call 10; refine (CR.out _ F7.out).mono ?_; rintro e7 w7 ⟨aR, cR, rfl, hR, f7⟩
            have F8 := Lib.hid (F7.out.trans f7)
            have HS8 := Lib.hid (HS7.out.onw f7)
            have HR8 := Lib.hid hR
            clear f7 hR HS7
            go_wp2_with fail
            go_at_call 9; refine (CSR.out _ _ _ _ _ HS8.out HR8.out).mono ?_; rintro e8 w8 ⟨rfl, f8⟩
            have F9 := Lib.hid (F8.out.trans f8)
            have HS9 := Lib.hid (HS8.out.onw f8)
            clear f8 HS8
            go_wp2_with fail
            go_at_call 11; refine (CB1.out _ F9.out).mono ?_; rintro e10 w10 ⟨rfl, f10⟩
            have F10 := Lib.hid (F9.out.trans f10)
            have HS10 := Lib.hid (HS9.out.onw f10)
            clear f10 HS9
            go_wp2_with fail
            go_at_call 12; refine (CB2.out _ F10.out).mono ?_; rintro e11 w11 ⟨rfl, f11⟩
            have F11 := Lib.hid (F10.out.trans f11)
            have HS11 := Lib.hid (HS10.out.onw f11)
            clear f11 HS10
            go_wp2_with fail
            go_at_call 11; refine (CB3.out _ _ _ F11.out HS11.out).mono ?_; rintro e12 w12 ⟨rfl, f12⟩
            have F12 := Lib.hid (F11.out.trans f12)
            clear f12
            go_wp2_with fail
            go_at_call 5; refine (CA.out _ F12.out).mono ?_; rintro e9 w9 ⟨rfl, f9⟩
            go_wp2
            go_ret
            exact ⟨rfl, F12.out.trans f9⟩
end Go.Proofs.YteonkiajgfkieaaGreatDoor
