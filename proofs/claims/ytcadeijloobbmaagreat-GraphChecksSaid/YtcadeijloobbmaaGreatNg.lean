/-
  GsA; GsB: texts of one kind in one file; each part says what it holds.
-/
import Derived.Test.YtcadeijloobbmaaGreatNc
import Derived.Test.YtcadeijloobbmaaGreatRvG
import Derived.Test.YtcadeijloobbmaaGreatNd
import Derived.Laws.AppendOwnNone
import Derived.Test.YtcadeijloobbmaaGreatNe

/-! The reference of package graph: which values can be stored; which strings are names, which increase; the keys of properties. Nothing that was there turns. -/
namespace Go.Proofs.YtcadeijloobbmaaGreat
open Go.RowKit

set_option maxHeartbeats 1600000 in
theorem rplain_any (x : Vl) (ao : Option Addr) (cap : Nat) (w : World) (hi : Vin x) (hs : SlV w ao x.ll cap) :
    Calls Tryz.prog 68 #[vlv x ao cap] w (FwB w (plnV x)) := by
  obtain ⟨p0, f0⟩ := bx1 w x ao cap
  have HV := Lib.hid (fun w' hf => rokV_any x ao cap w' hi (hs.on (w' := w') hf))
  clear hs hi
  unfold plnV
  cases va : okX x
  · rw [va] at HV
    clear va
    unfold vlv at *
    go_enter Tryz.func68, Tryz.ntmps68
    go_wp2_with fail
    go_at_call 88; refine (HV.out _ f0).mono ?_; rintro e1 w1 ⟨rfl, f1⟩
    go_wp2
    go_ret
    exact ⟨rfl, (f0.trans f1).w⟩
  · rw [va] at HV
    clear va
    unfold vlv at *
    go_enter Tryz.func68, Tryz.ntmps68
    go_wp2_with fail
    go_at_call 88; refine (HV.out _ f0).mono ?_; rintro e1 w1 ⟨rfl, f1⟩
    have c0 := (p0.on f1).c0
    generalize x.kd = k at *
    go_wp2
    all_goals
      go_ret
      exact ⟨ret_bool (by simp_all), (f0.trans f1).w⟩
set_option maxHeartbeats 1600000 in
set_option maxRecDepth 100000 in
theorem rnames_any (l : List (List UInt8)) (ao : Option Addr) (cap : Nat) (w : World) (hs : SlS w ao l cap) : Calls Tryz.prog 66 #[.slice ao l.length cap] w (PureB w (l.all nameV)) := by
  have hl := hs.len
  have HS := Lib.hid hs
  clear hs
  go_enter Tryz.func66, Tryz.ntmps66
  go_wp2
  go_loop [3] (fun iv => ∃ i : Nat, iv = .int .i64 i ∧ i ≤ l.length ∧ Hid (l.all nameV = (l.drop i).all nameV)) (fun iv => l.length - (RowKit.intOf iv).toNat)
  case atStart => exact ⟨0, rfl, Nat.zero_le _, rfl⟩
  case round =>
    obtain ⟨i, rfl, hi, HN⟩ := hrel
    by_cases hlt : i < l.length
    · obtain ⟨b, o, rfl, hz, hc⟩ := HS.out.get hlt
      have hA := all_drop nameV l i hlt
      have HC := Lib.hid (HN.out.trans hA)
      rw [Nat.mul_one] at hc
      have HM := Lib.hid (rname_any (bs l[i]) w (by rw [bs_size]; exact hz))
      rw [bs_data] at HM
      clear hA HN hz
      generalize l[i] = s at *
      generalize nameV s = r at *
      go_wp2_with (go_at_call 47; refine HM.out.mono ?_; rintro e w' ⟨rfl, rfl⟩)
      · have HD := Lib.hid (show l.all nameV = false by rw [HC.out]; simp_all)
        go_ret
        exact ⟨ret_bool HD.out.symm, rfl⟩
      · have HD := Lib.hid (show l.all nameV = (l.drop (i + 1)).all nameV by rw [HC.out]; simp_all)
        go_round
        case rel => exact ⟨i + 1, by go_num, by omega, HD.out⟩
        case measure => simp [RowKit.intOf]; omega
    · have HD := Lib.hid (show l.all nameV = true by rw [HN.out, all_end _ _ _ (by omega)])
      clear HN
      go_wp2
      go_ret
      exact ⟨ret_bool HD.out.symm, rfl⟩
set_option maxHeartbeats 1600000 in
set_option maxRecDepth 100000 in
theorem rises_any (l : List (List UInt8)) (ao : Option Addr) (cap : Nat) (w : World) (hs : SlS w ao l cap) : Calls Tryz.prog 67 #[.slice ao l.length cap] w (FwB w (risV l)) := by
  have hl := hs.len
  have HS := Lib.hid hs
  clear hs
  go_enter Tryz.func67, Tryz.ntmps67
  go_wp2
  go_loopw [3] (fun iv wr => ∃ i : Nat, iv = .int .i64 ((i : Int) + 1) ∧ i ≤ l.length ∧ Hid (risV l = risV (l.drop i)) ∧ Fuw w wr) (fun iv _ => l.length - (RowKit.intOf iv).toNat)
  case atStart => exact ⟨0, rfl, Nat.zero_le _, rfl, Fuw.refl _⟩
  case round =>
    obtain ⟨i, rfl, hi, HN, hf⟩ := hrel
    by_cases hlt : i + 1 < l.length
    · obtain ⟨b, o, rfl, ⟨-, c0⟩, -, c1⟩ := (slS_on hf HS.out).get2 (show i < l.length by omega) hlt
      have hA := ris_step l i hlt
      have HC := Lib.hid (HN.out.trans hA)
      rw [Nat.mul_one] at c0 c1
      have k1 : IntKind.i64.wrap ((i : Int) + 1 - 1) = (i : Int) := by rw [Int.add_sub_cancel]; exact IntWalk.i64_in _ (by omega)
      have k2 : ((i : Int) + 1).toNat = i + 1 := by omega
      have k3 : (0 : Int) ≤ (i : Int) + 1 := by omega
      have k4 : (i : Int) + 1 < (l.length : Int) := by omega
      clear hA HN
      generalize l[i] = s at *
      generalize l[i + 1] = t at *
      rcases str_less' t s with ⟨-, g1, g2, g3⟩ | ⟨-, g1, g2, g3⟩ | ⟨-, g1, g2, g3⟩
      · have f1 : Op.bytesLess (bs t).toList (bs s).toList = true := by rw [toL, toL, bs_data, bs_data]; exact g1
        have f2 : ((bs t).toList == (bs s).toList) = false := by rw [toL, toL, bs_data, bs_data]; exact g3
        have HD := Lib.hid (show risV l = false by rw [HC.out, g2]; rfl)
        clear g1 g2 g3
        go_wp2
        go_quiet (fail)
        clear k1 k2 f1 f2
        go_wp2
        go_ret
        exact ⟨ret_bool HD.out.symm, hf.trans (fuw_dr _ _)⟩
      · have f1 : Op.bytesLess (bs t).toList (bs s).toList = false := by rw [toL, toL, bs_data, bs_data]; exact g1
        have f2 : ((bs t).toList == (bs s).toList) = true := by rw [toL, toL, bs_data, bs_data]; exact g3
        have HD := Lib.hid (show risV l = false by rw [HC.out, g2]; rfl)
        clear g1 g2 g3
        go_wp2
        go_quiet (fail)
        clear k1 k2 f1 f2
        go_wp2
        go_ret
        exact ⟨ret_bool HD.out.symm, hf.trans (fuw_dr _ _)⟩
      · have f1 : Op.bytesLess (bs t).toList (bs s).toList = false := by rw [toL, toL, bs_data, bs_data]; exact g1
        have f2 : ((bs t).toList == (bs s).toList) = false := by rw [toL, toL, bs_data, bs_data]; exact g3
        have HD := Lib.hid (show risV l = risV (l.drop (i + 1)) by rw [HC.out, g2]; rfl)
        clear g1 g2 g3
        go_wp2
        go_quiet (fail)
        clear k1 k2 f1 f2
        go_wp2
        go_roundw
        case rel => exact ⟨i + 1, by go_num, by omega, HD.out, hf.trans (fuw_dr _ _)⟩
        case measure => simp [RowKit.intOf]; omega
    · have HD := Lib.hid (show risV l = true by rw [HN.out, ris_end _ _ (by omega)])
      clear HN
      go_wp2
      go_ret
      exact ⟨ret_bool HD.out.symm, hf⟩
theorem keysV_drop (l : List Pp) (i : Nat) (h : i < l.length) : keysV (l.drop i) = [l[i].k] ++ keysV (l.drop (i + 1)) := by
  unfold keysV
  rw [List.drop_eq_getElem_cons h]; rfl
set_option maxHeartbeats 3200000 in
set_option maxRecDepth 100000 in
theorem rkeys_any (l : List Pp) (ao : Option Addr) (cap : Nat) (w : World) (hs : SlP w ao l cap) (h16 : l.length ≤ 16) :
    Calls Tryz.prog 65 #[.slice ao l.length cap] w fun e w' => ∃ a c, e = .returned (.slice a (keysV l).length c) ∧ SlS w' a (keysV l) c ∧ Fuw w w' := by
  have hl := hs.len
  have HS := Lib.hid hs
  obtain ⟨U, hU⟩ : ∃ U, U = keysV l := ⟨_, rfl⟩
  have HU := Lib.hid (show U = [] ++ keysV (l.drop 0) from hU)
  have HM := Lib.hid (show ∀ s ∈ U, s.length ≤ maxLen from fun s h => by
    rw [hU] at h
    unfold keysV at h
    obtain ⟨p, hp, rfl⟩ := List.mem_map.1 h
    obtain ⟨j, hj, rfl⟩ := List.getElem_of_mem hp
    obtain ⟨-, -, -, hz, -⟩ := HS.out.get hj
    exact hz)
  rw [← hU]
  clear hU hs
  obtain ⟨i0, hi, hz0, hz1, hz2⟩ := info_parts infoS
  go_enter Tryz.func65, Tryz.ntmps65
  go_wp2
  go_loopw [3, 4] (fun lv iv wr => ∃ (i : Nat) (L : List (List UInt8)), iv = .int .i64 i ∧ i ≤ l.length ∧ L.length ≤ i ∧ wr.ownsRow w.heap.size 9 1 lv L.length (sC L) ∧ Hid (U = L ++ keysV (l.drop i)) ∧ Hid (Fuw w wr)) (fun _ iv _ => l.length - (RowKit.intOf iv).toNat)
  case atStart => exact ⟨0, [], rfl, Nat.zero_le _, Nat.le_refl _, World.ownsRow_nil _ _ _ _, HU, Fuw.refl _⟩
  case round =>
    obtain ⟨i, L, rfl, hii, hL, hown, HQ, HF⟩ := hrel
    by_cases hlt : i < l.length
    · obtain ⟨b, o, rfl, -, c0, -⟩ := (slP_on HF.out HS.out).get hlt
      have HZ := Lib.hid (show U = (L ++ [l[i].k]) ++ keysV (l.drop (i + 1)) by rw [HQ.out, keysV_drop l i hlt, List.append_assoc])
      generalize l[i].k = key at *
      go_wp2_with (at_builtin; refine wpList_append_own_at _ rfl (.tmp 11) (.tmp 17) 31 rfl w.heap.size 9 i0 (.string ⟨#[]⟩) 1 16 Tryz.underlying31 hi hz0 hz1 hz2 rfl (by decide) _ L.length (sC L) rfl (hown.alloc _) ⟨wr.heap.size, 0, none⟩ 1 1 (sC [key]) rfl rfl (World.news_of_block (heap_alloc_new wr _)) (by intro u hu; simp [sC] at hu; subst hu; rfl) (by unfold maxLen; omega) (by omega) (by have := HF.out.size; simp; omega) ?_; intro v' w5 hown5 hgrow _ _)
      have F5 := Lib.hid (show Fuw w w5 from Below.grown (HF.out.alloc _) hgrow (HF.out.alloc _).size (fun k hk => (hown.lt k hk).1))
      have hown6 : w5.ownsRow w.heap.size 9 1 v' (L ++ [key]).length (sC (L ++ [key])) := by
        rw [sC_app, List.length_append]; exact hown5
      have hlen : (L ++ [key]).length ≤ i + 1 := by rw [List.length_append]; simp; omega
      clear hown5 hown hgrow c0
      generalize L ++ [key] = L2 at *
      go_wp2
      go_roundw
      case rel => exact ⟨i + 1, L2, by go_num, by omega, hlen, hown6, HZ, F5⟩
      case measure => simp [RowKit.intOf]; omega
    · have HZ := Lib.hid (show U = L by rw [HQ.out, List.drop_of_length_le (by omega)]; unfold keysV; simp)
      obtain ⟨a, c, e1, -, hS⟩ := slS_of_own hown (fun s h => HM.out s (by rw [HZ.out]; exact h))
      have HE := Lib.hid e1
      have HSS := Lib.hid hS
      clear e1 hS hown
      go_wp2
      go_ret
      exact ⟨a, c, by rw [HZ.out, ← HE.out]; rfl, by rw [HZ.out]; exact HSS.out, HF.out⟩
end Go.Proofs.YtcadeijloobbmaaGreat

/-! The reference of package graph: what is wrong with labels and properties. Nothing that was there turns. -/
namespace Go.Proofs.YtcadeijloobbmaaGreat
open Go.RowKit

set_option maxHeartbeats 3200000 in
set_option maxRecDepth 100000 in
theorem rpar_any (ls : List (List UInt8)) (ps : List Pp) (al ap : Option Addr) (cl cp : Nat) (w : World) (hl : SlS w al ls cl) (hp : SlP w ap ps cp) :
    Calls Tryz.prog 45 #[.slice al ls.length cl, .slice ap ps.length cp] w (FwI w (parV ls ps)) := by
  have nl := hl.len
  have np := hp.len
  have HL := Lib.hid hl
  have HP := Lib.hid hp
  clear hl hp
  by_cases h8 : (8 : Int) < (ls.length : Int)
  · have HE := Lib.hid (par_4 (ls := ls) (ps := ps) (.inl (by omega)))
    generalize parV ls ps = R at *
    go_enter Tryz.func45, Tryz.ntmps45
    go_wp2
    go_ret
    exact ⟨ret_int HE.out.symm, Fuw.refl _⟩
  · by_cases h16 : (16 : Int) < (ps.length : Int)
    · have HE := Lib.hid (par_4 (ls := ls) (ps := ps) (.inr (by omega)))
      generalize parV ls ps = R at *
      go_enter Tryz.func45, Tryz.ntmps45
      go_wp2
      go_ret
      exact ⟨ret_int HE.out.symm, Fuw.refl _⟩
    · have HE := Lib.hid (par_c (ls := ls) (ps := ps) (by omega))
      have HC := Lib.hid (rkeys_any ps ap cp w HP.out (by omega))
      have HN := Lib.hid (fun w' (hf : Fuw w w') => rnames_any ls al cl w' (slS_on hf HL.out))
      have HR := Lib.hid (fun w' (hf : Fuw w w') => rises_any ls al cl w' (slS_on hf HL.out))
      have HN2 := Lib.hid (fun w' a c (hs : SlS w' a (keysV ps) c) => rnames_any (keysV ps) a c w' hs)
      have HR2 := Lib.hid (fun w' a c (hs : SlS w' a (keysV ps) c) => rises_any (keysV ps) a c w' hs)
      generalize keysV ps = ks at *
      generalize parV ls ps = R at *
      generalize ls.all nameV = n1 at *
      generalize ks.all nameV = n2 at *
      generalize risV ls = r1 at *
      generalize risV ks = r2 at *
      go_enter Tryz.func45, Tryz.ntmps45
      go_wp2_with fail
      go_at_call 65; refine HC.out.mono ?_; rintro e1 w1 ⟨a1, c1, rfl, hs1, f1⟩
      have HS1 := Lib.hid hs1
      clear hs1
      go_wp2_with fail
      go_at_call 66; refine (HN.out _ f1).mono ?_; rintro e2 w2 ⟨rfl, rfl⟩
      cases n1
      · have HZ := Lib.hid (show R = 6 by rw [HE.out]; rfl)
        go_wp2
        go_ret
        exact ⟨ret_int HZ.out.symm, f1⟩
      · go_wp2_with fail
        go_at_call 66; refine (HN2.out _ _ _ HS1.out).mono ?_; rintro e2 w2 ⟨rfl, rfl⟩
        cases n2
        · have HZ := Lib.hid (show R = 6 by rw [HE.out]; rfl)
          go_wp2
          go_ret
          exact ⟨ret_int HZ.out.symm, f1⟩
        · go_wp2_with fail
          go_at_call 67; refine (HR.out _ f1).mono ?_; rintro e2 w2 ⟨rfl, f2⟩
          cases r1
          · have HZ := Lib.hid (show R = 26 by rw [HE.out]; rfl)
            go_wp2
            go_ret
            exact ⟨ret_int HZ.out.symm, f1.trans f2⟩
          · go_wp2_with fail
            go_at_call 67; refine (HR2.out _ _ _ (slS_on f2 HS1.out)).mono ?_; rintro e3 w3 ⟨rfl, f3⟩
            cases r2
            · have HZ := Lib.hid (show R = 26 by rw [HE.out]; rfl)
              go_wp2
              go_ret
              exact ⟨ret_int HZ.out.symm, (f1.trans f2).trans f3⟩
            · have F := Lib.hid ((f1.trans f2).trans f3)
              have HZ := Lib.hid (show R = if (ps.drop 0).all (fun p => plnV p.v) = false then 8 else 0 from HE.out)
              clear f1 f2 f3 HE
              go_wp2
              go_loopw [6] (fun iv wr => ∃ i : Nat, iv = .int .i64 i ∧ i ≤ ps.length ∧ Hid (R = if (ps.drop i).all (fun p => plnV p.v) = false then 8 else 0) ∧ Hid (Fuw w wr)) (fun iv _ => ps.length - (RowKit.intOf iv).toNat)
              case atStart => exact ⟨0, rfl, Nat.zero_le _, HZ, F⟩
              case round =>
                obtain ⟨i, rfl, hi, HQ, hf⟩ := hrel
                by_cases hlt : i < ps.length
                · obtain ⟨b, o, rfl, -, c0, hv⟩ := (slP_on hf.out HP.out).get hlt
                  obtain ⟨hy, d1, d2, d3, d4, a5, k5, d5, hs5⟩ := VC_of hv
                  have HA := Lib.hid (all_drop (fun p : Pp => plnV p.v) ps i hlt)
                  have HM := Lib.hid (fun w' (hf' : Fuw wr w') => rplain_any ps[i].v a5 k5 w' hy (hs5.onw hf'))
                  unfold vlv at HM
                  clear hy hs5 hv
                  generalize ps[i].v = x at *
                  generalize ps[i].k = key at *
                  generalize plnV x = p at *
                  go_wp2_with fail
                  go_at_call 68; refine (HM.out _ (Fuw.refl _)).mono ?_; rintro e4 w4 ⟨rfl, f4⟩
                  have HF := Lib.hid (hf.out.trans f4)
                  clear f4
                  cases p
                  · have HT := Lib.hid (show R = 8 by rw [HQ.out, HA.out]; rfl)
                    go_wp2
                    go_ret
                    exact ⟨ret_int HT.out.symm, HF.out⟩
                  · have HT := Lib.hid (show R = if (ps.drop (i + 1)).all (fun p => plnV p.v) = false then 8 else 0 by rw [HQ.out, HA.out]; rfl)
                    go_wp2
                    go_roundw
                    case rel => exact ⟨i + 1, by go_num, by omega, HT, HF⟩
                    case measure => simp [RowKit.intOf]; omega
                · have HT := Lib.hid (show R = 0 by rw [HQ.out, all_end _ _ _ (by omega)]; rfl)
                  go_wp2
                  go_ret
                  exact ⟨ret_int HT.out.symm, hf.out⟩
end Go.Proofs.YtcadeijloobbmaaGreat
