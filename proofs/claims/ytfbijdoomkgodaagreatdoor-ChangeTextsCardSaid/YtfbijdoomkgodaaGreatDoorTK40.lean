/-
  RaA; GrBr; GsA: texts of one kind in one file; each part says what it holds.
-/
import Derived.Test.YtfbijdoomkgodaaGreatDoorTK39
import Derived.Test.YtfbijdoomkgodaaGreatDoorTK24
import Derived.Test.YtfbijdoomkgodaaGreatDoorTM05
import Derived.Laws.Cover1
import Derived.Laws.MakeOwn
import Derived.Deep.RegionHeld3
import Derived.Test.YtfbijdoomkgodaaGreatDoorTM18
import Derived.Test.YtfbijdoomkgodaaGreatDoorTK02
import Derived.Laws.AppendOwnNone

/-! The reference of package change: id, Named, Valued, null. -/
namespace Go.Proofs.YtfbijdoomkgodaaGreatDoor
open Go.RowKit

theorem rid_any (x : Int) (w : World) : Calls Tryz.prog 36 #[.int .i64 x] w (PureB w (idV x)) := by
  unfold idV
  by_cases h1 : 1 ≤ x
  · by_cases h2 : x ≤ 1000000
    · rw [decide_eq_true h1, decide_eq_true h2]
      go_enter Tryz.func36, Tryz.ntmps36
      go_wp2
      go_ret
      exact ⟨rfl, rfl⟩
    · rw [decide_eq_true h1, decide_eq_false h2]
      have h2' : 1000000 < x := by omega
      go_enter Tryz.func36, Tryz.ntmps36
      go_wp2
      go_ret
      exact ⟨rfl, rfl⟩
  · rw [decide_eq_false h1]
    have h1' : x < 1 := by omega
    go_enter Tryz.func36, Tryz.ntmps36
    go_wp2
    go_ret
    exact ⟨rfl, rfl⟩
theorem rnamed_any (op : Int) (w : World) : Calls Tryz.prog 37 #[.int .i64 op] w (PureB w (nmd op)) := by
  unfold nmd
  by_cases h3 : op = 3
  · subst h3
    go_enter Tryz.func37, Tryz.ntmps37
    go_wp2
    go_ret
    exact ⟨ret_bool (by simp), rfl⟩
  by_cases h4 : op = 4
  · subst h4
    go_enter Tryz.func37, Tryz.ntmps37
    go_wp2
    go_ret
    exact ⟨ret_bool (by simp), rfl⟩
  by_cases h5 : op = 5
  · subst h5
    go_enter Tryz.func37, Tryz.ntmps37
    go_wp2
    go_ret
    exact ⟨ret_bool (by simp), rfl⟩
  by_cases h6 : op = 6
  · subst h6
    go_enter Tryz.func37, Tryz.ntmps37
    go_wp2
    go_ret
    exact ⟨ret_bool (by simp), rfl⟩
  by_cases h8 : op = 8
  · subst h8
    go_enter Tryz.func37, Tryz.ntmps37
    go_wp2
    go_ret
    exact ⟨ret_bool (by simp), rfl⟩
  go_enter Tryz.func37, Tryz.ntmps37
  go_wp2
  go_ret
  exact ⟨ret_bool (by simp [h3, h4, h5, h6, h8]), rfl⟩
theorem rvalued_any (op : Int) (w : World) : Calls Tryz.prog 38 #[.int .i64 op] w (PureB w (vld op)) := by
  unfold vld
  by_cases h5 : op = 5
  · subst h5
    go_enter Tryz.func38, Tryz.ntmps38
    go_wp2
    go_ret
    exact ⟨ret_bool (by simp), rfl⟩
  by_cases h8 : op = 8
  · subst h8
    go_enter Tryz.func38, Tryz.ntmps38
    go_wp2
    go_ret
    exact ⟨ret_bool (by simp), rfl⟩
  go_enter Tryz.func38, Tryz.ntmps38
  go_wp2
  go_ret
  exact ⟨ret_bool (by simp [h5, h8]), rfl⟩
set_option maxHeartbeats 1600000 in
set_option maxRecDepth 100000 in
theorem rnull_any (x : Vl) (ao : Option Addr) (ca : Nat) (w : World) (hi : Vin x) (hs : SlV w ao x.ll ca) :
    Calls Tryz.prog 39 #[vlv x ao ca] w (FwB w (isN x)) := by
  obtain ⟨W, hW⟩ : ∃ W, W = w.alloc (.cells #[.int .i64 x.kd, .int .i64 x.nn, .int .i64 x.dd, .string (bs x.ss), .slice ao x.ll.length ca] 28) := ⟨_, rfl⟩
  have fW : Fuw w W := by rw [hW]; exact fuwA _ _
  have bW : Bk W w.heap.size #[.int .i64 x.kd, .int .i64 x.nn, .int .i64 x.dd, .string (bs x.ss), .slice ao x.ll.length ca] 28 := by rw [hW]; exact Bk.new _ _ _
  have HO := Lib.hid (show Calls Tryz.prog 60 #[.agg #[.int .i64 x.kd, .int .i64 x.nn, .int .i64 x.dd, .string (bs x.ss), .slice ao x.ll.length ca], .agg #[.int .i64 0, .int .i64 0, .int .i64 0, .string ⟨#[]⟩, .slice none 0 0]] W (RwI W (ordV x nulV)) from
    rorder_all x nulV ao none ca 0 W hi nulV_in (hs.onw fW) (nulV_sl _))
  have HFW := Lib.hid fW
  have c0 := bW.c 0; have c1 := bW.c 1; have c2 := bW.c 2; have c3 := bW.c 3; have c4 := bW.c 4
  unfold isN
  generalize ordV x nulV = R at *
  unfold vlv
  clear bW fW hi hs
  go_enter Tryz.func39, Tryz.ntmps39
  go_upto_region 1 with fail
  rw [← hW]
  clear hW
  go_wp2_with fail
  go_at_call 60; refine HO.out.mono ?_; rintro e1 w1 ⟨rfl, f1⟩
  have HF1 := Lib.hid (HFW.out.trans f1)
  clear f1
  go_wp2
  go_ret
  exact ⟨ret_bool (by by_cases q : R = 0 <;> simp [q]), HF1.out⟩
end Go.Proofs.YtfbijdoomkgodaaGreatDoor

/-! Package graph and its reference: the reference's Name; slices of strings that are all names, that increase; the keys of properties. Nothing that was there turns. -/
namespace Go.Proofs.YtfbijdoomkgodaaGreatDoor
open Go.RowKit

theorem rlet_any (c : UInt8) (w : World) : Calls Tryz.prog 75 #[.int .u8 (c.toNat : Int)] w (PureB w (letV c)) := by
  have hc := c.toNat_lt
  have HL := Lib.hid (show letV c = ((decide (97 ≤ c.toNat) && decide (c.toNat ≤ 122)) || (decide (65 ≤ c.toNat) && decide (c.toNat ≤ 90))) from rfl)
  generalize letV c = L at *
  go_enter Tryz.func75, Tryz.ntmps75
  go_wp2
  all_goals
    go_ret
    exact ⟨ret_bool (by rw [HL.out, Bool.eq_iff_iff]; simp; omega), rfl⟩
set_option maxHeartbeats 3200000 in
set_option maxRecDepth 100000 in
theorem rname_any (s : ByteArray) (w : World) (hs : s.size ≤ maxLen) : Calls Tryz.prog 40 #[.string s] w (PureB w (nameV s.data.toList)) := by
  unfold maxLen at hs
  rcases Nat.eq_zero_or_pos s.size with h0 | h0
  · obtain rfl := empty_of h0
    clear h0
    go_enter Tryz.func40, Tryz.ntmps40
    go_wp2
    go_ret
    exact ⟨rfl, rfl⟩
  · have h1 : ¬ (s.size : Int) < 1 := by omega
    by_cases hl : 20 < s.size
    · have HE := Lib.hid (name_long hl)
      have hl' : 20 < (s.size : Int) := by omega
      clear hl
      go_enter Tryz.func40, Tryz.ntmps40
      go_wp2
      go_ret
      exact ⟨ret_bool HE.out.symm, rfl⟩
    · have hl' : ¬ 20 < (s.size : Int) := by omega
      have h0' : 0 < (s.size : Int) := by omega
      cases hf : letV s[0] with
      | false =>
        have HE := Lib.hid (name_first h0 hf)
        go_enter Tryz.func40, Tryz.ntmps40
        go_wp2_with (go_at_call 75; refine (rlet_any _ _).mono ?_; rintro e w' ⟨rfl, rfl⟩)
        go_ret
        exact ⟨ret_bool HE.out.symm, rfl⟩
      | true =>
        have HE := Lib.hid (name_rest1 h0 (by omega) hf)
        go_enter Tryz.func40, Tryz.ntmps40
        go_wp2_with (go_at_call 75; refine (rlet_any _ _).mono ?_; rintro e w' ⟨rfl, rfl⟩)
        clear hf
        go_loop [3] (fun iv => ∃ i : Nat, iv = .int .i64 i ∧ i ≤ s.size ∧ Hid (nameV s.data.toList = (s.data.toList.drop i).all chrV)) (fun iv => s.size - (RowKit.intOf iv).toNat)
        case atStart => exact ⟨1, rfl, by omega, HE.out⟩
        case round =>
          obtain ⟨i, rfl, hi, HN⟩ := hrel
          by_cases hlt : i < s.size
          · have hA := chr_step s i hlt
            have HU := Lib.hid (chr_u s[i])
            have HC := Lib.hid (HN.out.trans hA)
            have HDG := Lib.hid (show digV s[i] = (decide (48 ≤ s[i].toNat) && decide (s[i].toNat ≤ 57)) from rfl)
            clear hA HN HE
            cases hL : letV s[i] with
            | true =>
              have HD := Lib.hid (show nameV s.data.toList = (s.data.toList.drop (i + 1)).all chrV by rw [HC.out, HU.out, hL]; rfl)
              go_wp2_with (go_at_call 75; refine (rlet_any _ _).mono ?_; rintro e w' ⟨rfl, rfl⟩)
              go_round
              case rel => exact ⟨i + 1, by go_num, by omega, HD.out⟩
              case measure => simp [RowKit.intOf]; omega
            | false =>
              by_cases h95 : s[i].toNat = 95
              · have HD := Lib.hid (show nameV s.data.toList = (s.data.toList.drop (i + 1)).all chrV by
                  rw [HC.out, HU.out, hL, decide_eq_true h95, Bool.or_true]; rfl)
                have hB : ((s[i].toNat : Int) != 95) = false := by rw [h95]; rfl
                clear h95
                go_wp2_with (go_at_call 75; refine (rlet_any _ _).mono ?_; rintro e w' ⟨rfl, rfl⟩)
                go_round
                case rel => exact ⟨i + 1, by go_num, by omega, HD.out⟩
                case measure => simp [RowKit.intOf]; omega
              · have hB : ((s[i].toNat : Int) != 95) = true := by
                  have : (s[i].toNat : Int) ≠ 95 := by omega
                  simpa using this
                have HX := Lib.hid (show chrV s[i] = digV s[i] by rw [HU.out, hL, decide_eq_false h95]; simp)
                clear h95
                by_cases g1 : (s[i].toNat : Int) < 48
                · have HD := Lib.hid (show nameV s.data.toList = false by
                    rw [HC.out, HX.out, HDG.out, decide_eq_false (show ¬ 48 ≤ s[i].toNat by omega)]; rfl)
                  go_wp2_with (go_at_call 75; refine (rlet_any _ _).mono ?_; rintro e w' ⟨rfl, rfl⟩)
                  go_ret
                  exact ⟨ret_bool HD.out.symm, rfl⟩
                · by_cases g2 : 57 < (s[i].toNat : Int)
                  · have HD := Lib.hid (show nameV s.data.toList = false by
                      rw [HC.out, HX.out, HDG.out, decide_eq_false (show ¬ s[i].toNat ≤ 57 by omega), Bool.and_false]; rfl)
                    go_wp2_with (go_at_call 75; refine (rlet_any _ _).mono ?_; rintro e w' ⟨rfl, rfl⟩)
                    go_ret
                    exact ⟨ret_bool HD.out.symm, rfl⟩
                  · have HD := Lib.hid (show nameV s.data.toList = (s.data.toList.drop (i + 1)).all chrV by
                      rw [HC.out, HX.out, HDG.out, decide_eq_true (show 48 ≤ s[i].toNat by omega), decide_eq_true (show s[i].toNat ≤ 57 by omega)]; rfl)
                    go_wp2_with (go_at_call 75; refine (rlet_any _ _).mono ?_; rintro e w' ⟨rfl, rfl⟩)
                    go_round
                    case rel => exact ⟨i + 1, by go_num, by omega, HD.out⟩
                    case measure => simp [RowKit.intOf]; omega
          · have HD := Lib.hid (show nameV s.data.toList = true by rw [HN.out, chr_end s i (by omega)])
            clear HN HE
            go_wp2
            go_ret
            exact ⟨ret_bool HD.out.symm, rfl⟩

end Go.Proofs.YtfbijdoomkgodaaGreatDoor

/-! The reference of package graph: which values can be stored; which strings are names, which increase; the keys of properties. Nothing that was there turns. -/
namespace Go.Proofs.YtfbijdoomkgodaaGreatDoor
open Go.RowKit

set_option maxHeartbeats 1600000 in
theorem rplain_any (x : Vl) (ao : Option Addr) (cap : Nat) (w : World) (hi : Vin x) (hs : SlV w ao x.ll cap) :
    Calls Tryz.prog 41 #[vlv x ao cap] w (FwB w (plnV x)) := by
  obtain ⟨p0, f0⟩ := bx1 w x ao cap
  have HV := Lib.hid (fun w' hf => rokV_any x ao cap w' hi (hs.on (w' := w') hf))
  clear hs hi
  unfold plnV
  cases va : okX x
  · rw [va] at HV
    clear va
    unfold vlv at *
    go_enter Tryz.func41, Tryz.ntmps41
    go_wp2_with fail
    go_at_call 76; refine (HV.out _ f0).mono ?_; rintro e1 w1 ⟨rfl, f1⟩
    go_wp2
    go_ret
    exact ⟨rfl, (f0.trans f1).w⟩
  · rw [va] at HV
    clear va
    unfold vlv at *
    go_enter Tryz.func41, Tryz.ntmps41
    go_wp2_with fail
    go_at_call 76; refine (HV.out _ f0).mono ?_; rintro e1 w1 ⟨rfl, f1⟩
    have c0 := (p0.on f1).c0
    generalize x.kd = k at *
    go_wp2
    all_goals
      go_ret
      exact ⟨ret_bool (by simp_all), (f0.trans f1).w⟩
end Go.Proofs.YtfbijdoomkgodaaGreatDoor
