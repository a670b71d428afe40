/-
  Package graph: which values can be stored; what is wrong with labels and properties. Nothing that was there turns.
-/
import Derived.Test.YtcadeijloobbmaaGrD
import Derived.Test.YtcadeijloobbmaaLvE
namespace Go.Proofs.Ytcadeijloobbmaa
open Go.RowKit

set_option maxHeartbeats 1600000 in
theorem lplain_any (x : Vl) (ao : Option Addr) (cap : Nat) (w : World) (hi : Vin x) (hs : SlV w ao x.ll cap) :
    Calls Try.prog 101 #[vlv x ao cap] w (FwB w (plnV x)) := by
  obtain ⟨p0, f0⟩ := bx1 w x ao cap
  have HV := Lib.hid (fun w' (hf : Fur w w') => lvalid_any x ao cap w' hi (hs.on (w' := w') hf))
  have c0 := p0.c0
  have HP := Lib.hid (show plnV x = (okX x && (x.kd == 1 || x.kd == 2 || x.kd == 4)) from rfl)
  clear hs hi p0
  unfold vlv at *
  generalize okX x = r at *
  generalize plnV x = R at *
  generalize x.kd = k at *
  have HK : k = 1 ∨ k = 2 ∨ k = 4 ∨ ((k == 1) = false ∧ (k == 2) = false ∧ (k == 4) = false) := by
    by_cases h1 : k = 1
    · exact .inl h1
    · by_cases h2 : k = 2
      · exact .inr (.inl h2)
      · by_cases h4 : k = 4
        · exact .inr (.inr (.inl h4))
        · exact .inr (.inr (.inr ⟨by simpa using h1, by simpa using h2, by simpa using h4⟩))
  rcases HK with rfl | rfl | rfl | ⟨k1, k2, k4⟩
  · have HE := Lib.hid (show R = r by rw [HP.out]; simp)
    go_enter Try.func101, Try.ntmps101
    go_wp2_with (go_at_call 112; refine (HV.out _ f0).mono ?_; rintro e1 w1 ⟨rfl, f1⟩)
    go_ret
    exact ⟨ret_bool HE.out.symm, (f0.trans f1).w⟩
  · have HE := Lib.hid (show R = r by rw [HP.out]; simp)
    go_enter Try.func101, Try.ntmps101
    go_wp2_with (go_at_call 112; refine (HV.out _ f0).mono ?_; rintro e1 w1 ⟨rfl, f1⟩)
    go_ret
    exact ⟨ret_bool HE.out.symm, (f0.trans f1).w⟩
  · have HE := Lib.hid (show R = r by rw [HP.out]; simp)
    go_enter Try.func101, Try.ntmps101
    go_wp2_with (go_at_call 112; refine (HV.out _ f0).mono ?_; rintro e1 w1 ⟨rfl, f1⟩)
    go_ret
    exact ⟨ret_bool HE.out.symm, (f0.trans f1).w⟩
  · have HE := Lib.hid (show R = false by rw [HP.out, k1, k2, k4]; simp)
    go_enter Try.func101, Try.ntmps101
    go_wp2
    go_ret
    exact ⟨ret_bool HE.out.symm, f0.w⟩

theorem par_4 {ls : List (List UInt8)} {ps : List Pp} (h : 8 < ls.length ∨ 16 < ps.length) : parV ls ps = 4 := by unfold parV; rw [if_pos h]
theorem par_c {ls : List (List UInt8)} {ps : List Pp} (h : ¬ (8 < ls.length ∨ 16 < ps.length)) : parV ls ps = if (ls.all nameV && (keysV ps).all nameV) = false then 6 else if (risV ls && risV (keysV ps)) = false then 26 else if (ps.drop 0).all (fun p => plnV p.v) = false then 8 else 0 := by
  unfold parV; rw [if_neg h, List.drop_zero]
set_option maxHeartbeats 3200000 in
set_option maxRecDepth 100000 in
theorem cont_any (ls : List (List UInt8)) (ps : List Pp) (al ap : Option Addr) (cl cp : Nat) (w : World) (hl : SlS w al ls cl) (hp : SlP w ap ps cp) :
    Calls Try.prog 74 #[.slice al ls.length cl, .slice ap ps.length cp] w (FwI w (parV ls ps)) := by
  have nl := hl.len
  have np := hp.len
  have HL := Lib.hid hl
  have HP := Lib.hid hp
  clear hl hp
  by_cases h8 : (8 : Int) < (ls.length : Int)
  · have HE := Lib.hid (par_4 (ls := ls) (ps := ps) (.inl (by omega)))
    generalize parV ls ps = R at *
    go_enter Try.func74, Try.ntmps74
    go_wp2
    go_ret
    exact ⟨ret_int HE.out.symm, Fuw.refl _⟩
  · by_cases h16 : (16 : Int) < (ps.length : Int)
    · have HE := Lib.hid (par_4 (ls := ls) (ps := ps) (.inr (by omega)))
      generalize parV ls ps = R at *
      go_enter Try.func74, Try.ntmps74
      go_wp2
      go_ret
      exact ⟨ret_int HE.out.symm, Fuw.refl _⟩
    · have HE := Lib.hid (par_c (ls := ls) (ps := ps) (by omega))
      have HC := Lib.hid (keys_any ps ap cp w HP.out (by omega))
      have HN := Lib.hid (fun w' (hf : Fuw w w') => names_any ls al cl w' (slS_on hf HL.out))
      have HR := Lib.hid (fun w' (hf : Fuw w w') => incr_any ls al cl w' (slS_on hf HL.out))
      have HN2 := Lib.hid (fun w' a c (hs : SlS w' a (keysV ps) c) => names_any (keysV ps) a c w' hs)
      have HR2 := Lib.hid (fun w' a c (hs : SlS w' a (keysV ps) c) => incr_any (keysV ps) a c w' hs)
      generalize keysV ps = ks at *
      generalize parV ls ps = R at *
      generalize ls.all nameV = n1 at *
      generalize ks.all nameV = n2 at *
      generalize risV ls = r1 at *
      generalize risV ks = r2 at *
      go_enter Try.func74, Try.ntmps74
      go_wp2_with fail
      go_at_call 98; refine HC.out.mono ?_; rintro e1 w1 ⟨a1, c1, rfl, hs1, f1⟩
      have HS1 := Lib.hid hs1
      clear hs1
      go_wp2_with fail
      go_at_call 99; refine (HN.out _ f1).mono ?_; rintro e2 w2 ⟨rfl, rfl⟩
      cases n1
      · have HZ := Lib.hid (show R = 6 by rw [HE.out]; rfl)
        go_wp2
        go_ret
        exact ⟨ret_int HZ.out.symm, f1⟩
      · go_wp2_with fail
        go_at_call 99; refine (HN2.out _ _ _ HS1.out).mono ?_; rintro e2 w2 ⟨rfl, rfl⟩
        cases n2
        · have HZ := Lib.hid (show R = 6 by rw [HE.out]; rfl)
          go_wp2
          go_ret
          exact ⟨ret_int HZ.out.symm, f1⟩
        · go_wp2_with fail
          go_at_call 100; refine (HR.out _ f1).mono ?_; rintro e2 w2 ⟨rfl, f2⟩
          cases r1
          · have HZ := Lib.hid (show R = 26 by rw [HE.out]; rfl)
            go_wp2
            go_ret
            exact ⟨ret_int HZ.out.symm, f1.trans f2⟩
          · go_wp2_with fail
            go_at_call 100; refine (HR2.out _ _ _ (slS_on f2 HS1.out)).mono ?_; rintro e3 w3 ⟨rfl, f3⟩
            cases r2
            · have HZ := Lib.hid (show R = 26 by rw [HE.out]; rfl)
              go_wp2
              go_ret
              exact ⟨ret_int HZ.out.symm, (f1.trans f2).trans f3⟩
            · have F := Lib.hid ((f1.trans f2).trans f3)
              have HZ := Lib.hid (show R = if (ps.drop 0).all (fun p => plnV p.v) = false then 8 else 0 from HE.out)
              clear f1 f2 f3 HE
              go_wp2
              go_loopw [36] (fun iv wr => ∃ i : Nat, iv = .int .i64 i ∧ i ≤ ps.length ∧ Hid (R = if (ps.drop i).all (fun p => plnV p.v) = false then 8 else 0) ∧ Hid (Fuw w wr)) (fun iv _ => ps.length - (RowKit.intOf iv).toNat)
              case atStart => exact ⟨0, rfl, Nat.zero_le _, HZ, F⟩
              case round =>
                obtain ⟨i, rfl, hi, HQ, hf⟩ := hrel
                by_cases hlt : i < ps.length
                · obtain ⟨b, o, rfl, -, c0, hv⟩ := (slP_on hf.out HP.out).get hlt
                  obtain ⟨hy, d1, d2, d3, d4, a5, k5, d5, hs5⟩ := VC_of hv
                  have HA := Lib.hid (all_drop (fun p : Pp => plnV p.v) ps i hlt)
                  have HM := Lib.hid (fun w' (hf' : Fuw wr w') => lplain_any ps[i].v a5 k5 w' hy (hs5.onw hf'))
                  unfold vlv at HM
                  clear hy hs5 hv
                  generalize ps[i].v = x at *
                  generalize ps[i].k = key at *
                  generalize plnV x = p at *
                  go_wp2_with fail
                  go_at_call 101; refine (HM.out _ (fuwA _ _)).mono ?_; rintro e4 w4 ⟨rfl, f4⟩
                  have HF := Lib.hid (hf.out.trans ((fuwA _ _).trans f4))
                  clear f4
                  cases p
                  · have HT := Lib.hid (show R = 8 by rw [HQ.out, HA.out]; rfl)
                    go_wp2
                    go_ret
                    exact ⟨ret_int HT.out.symm, HF.out⟩
                  · have HT := Lib.hid (show R = if (ps.drop (i + 1)).all (fun p => plnV p.v) = false then 8 else 0 by rw [HQ.out, HA.out]; rfl)
                    go_wp2
                    go_roundw
                    case rel => exact ⟨i + 1, by go_num, by omega, HT, HF⟩
                    case measure => simp [RowKit.intOf]; omega
                · have HT := Lib.hid (show R = 0 by rw [HQ.out, all_end _ _ _ (by omega)]; rfl)
                  go_wp2
                  go_ret
                  exact ⟨ret_int HT.out.symm, hf.out⟩
end Go.Proofs.Ytcadeijloobbmaa
