/-
  The reference of package graph: SameStrs, SameProps and SameParts answer yes of equal things, wherever these lie. What was there does not turn.
-/
import Derived.Test.YtcadeijloobbmaaMi
import Derived.Test.YtcadeijloobbmaaMp
namespace Go.Proofs.Ytcadeijloobbmaa
open Go.RowKit

set_option maxHeartbeats 1600000 in
set_option maxRecDepth 100000 in
theorem sstr_eq (l : List (List UInt8)) (ao bo : Option Addr) (ca cb : Nat) (w : World) (ha : SlS w ao l ca) (hb : SlS w bo l cb) :
    Calls Try.prog 33 #[.slice ao l.length ca, .slice bo l.length cb] w (FwB w true) := by
  have la := ha.len
  have HA := Lib.hid ha
  have HB := Lib.hid hb
  clear ha hb
  go_enter Try.func33, Try.ntmps33
  go_wp2
  go_loopw [5] (fun iv wr => ∃ i : Nat, iv = .int .i64 i ∧ i ≤ l.length ∧ Hid (Fuw w wr)) (fun iv _ => l.length - (RowKit.intOf iv).toNat)
  case atStart => exact ⟨0, rfl, Nat.zero_le _, Fuw.refl _⟩
  case round =>
    obtain ⟨i, rfl, hi, hf⟩ := hrel
    by_cases hlt : i < l.length
    · obtain ⟨g, o, rfl, -, c0⟩ := (slS_on hf.out HA.out).get hlt
      obtain ⟨g', o', rfl, -, d0⟩ := (slS_on hf.out HB.out).get hlt
      rw [Nat.mul_one] at c0 d0
      generalize l[i] = s at *
      go_wp2
      go_quiet (fail)
      go_wp2
      go_roundw
      case rel => exact ⟨i + 1, by go_num, by omega, hf.out.trans (fuw_dr _ _)⟩
      case measure => simp [RowKit.intOf]; omega
    · go_wp2
      go_ret
      exact ⟨rfl, hf.out⟩
set_option maxHeartbeats 3200000 in
set_option maxRecDepth 100000 in
theorem sprop_eq (l : List Pp) (ao bo : Option Addr) (ca cb : Nat) (w : World) (ha : SlP w ao l ca) (hb : SlP w bo l cb) :
    Calls Try.prog 34 #[.slice ao l.length ca, .slice bo l.length cb] w (FwB w true) := by
  have la := ha.len
  have HA := Lib.hid ha
  have HB := Lib.hid hb
  clear ha hb
  go_enter Try.func34, Try.ntmps34
  go_wp2
  go_loopw [5] (fun iv wr => ∃ i : Nat, iv = .int .i64 i ∧ i ≤ l.length ∧ Hid (Fuw w wr)) (fun iv _ => l.length - (RowKit.intOf iv).toNat)
  case atStart => exact ⟨0, rfl, Nat.zero_le _, Fuw.refl _⟩
  case round =>
    obtain ⟨i, rfl, hi, hf⟩ := hrel
    by_cases hlt : i < l.length
    · obtain ⟨b, o, rfl, -, k0, hv⟩ := (slP_on hf.out HA.out).get hlt
      obtain ⟨b', o', rfl, -, k0', hv'⟩ := (slP_on hf.out HB.out).get hlt
      obtain ⟨hy, c0, c1, c2, c3, a1, k1, c4, hs1⟩ := VC_of hv
      obtain ⟨-, d0, d1, d2, d3, a2, k2, d4, hs2⟩ := VC_of hv'
      have HC := Lib.hid (fun w' (hf' : Fuw wr w') => (show Calls Try.prog 17 #[vlv l[i].v a1 k1, vlv l[i].v a2 k2] w' (RwI w' 0) from by
        have k := rorder_all l[i].v l[i].v a1 a2 k1 k2 w' hy hy (hs1.onw hf') (hs2.onw hf')
        rwa [ord_self] at k))
      unfold vlv at HC
      clear hv hv' hs1 hs2 hy
      generalize l[i].v = x at *
      generalize l[i].k = key at *
      go_upto_region 6 with fail
      have hq : ((bs key).toList != (bs key).toList) = false := by simp
      have ff : Fuw wr wr.drew := Fuw.drew (Fuw.refl wr)
      go_region_held3 (fun w' => w'.cell? ⟨b, o + i * 6, none⟩ = some (.string (bs key)) ∧ w'.cell? ⟨b, o + i * 6 + 1, none⟩ = some (.int .i64 x.kd) ∧ w'.cell? ⟨b, o + i * 6 + 1 + 1, none⟩ = some (.int .i64 x.nn) ∧ w'.cell? ⟨b, o + i * 6 + 1 + 2, none⟩ = some (.int .i64 x.dd) ∧ w'.cell? ⟨b, o + i * 6 + 1 + 3, none⟩ = some (.string (bs x.ss)) ∧ w'.cell? ⟨b, o + i * 6 + 1 + 4, none⟩ = some (.slice a1 x.ll.length k1) ∧ w'.cell? ⟨b', o' + i * 6, none⟩ = some (.string (bs key)) ∧ w'.cell? ⟨b', o' + i * 6 + 1, none⟩ = some (.int .i64 x.kd) ∧ w'.cell? ⟨b', o' + i * 6 + 1 + 1, none⟩ = some (.int .i64 x.nn) ∧ w'.cell? ⟨b', o' + i * 6 + 1 + 2, none⟩ = some (.int .i64 x.dd) ∧ w'.cell? ⟨b', o' + i * 6 + 1 + 3, none⟩ = some (.string (bs x.ss)) ∧ w'.cell? ⟨b', o' + i * 6 + 1 + 4, none⟩ = some (.slice a2 x.ll.length k2))
        (first | exact ⟨cellOnw ff k0, cellOnw ff c0, cellOnw ff c1, cellOnw ff c2, cellOnw ff c3, cellOnw ff c4, cellOnw ff k0', cellOnw ff d0, cellOnw ff d1, cellOnw ff d2, cellOnw ff d3, cellOnw ff d4⟩)
        (first | (go_at_call 17; refine (HC.out _ ff).mono ?_; rintro e w4 ⟨rfl, f4⟩; replace ff := ff.trans f4))
      all_goals
        clear hq
        have HF := Lib.hid (hf.out.trans ff)
        clear ff
        go_wp2
        go_roundw
        case rel => exact ⟨i + 1, by go_num, by omega, HF⟩
        case measure => simp [RowKit.intOf]; omega
    · go_wp2
      go_ret
      exact ⟨rfl, hf.out⟩
end Go.Proofs.Ytcadeijloobbmaa
