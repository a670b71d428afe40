/-
  The reference's Same of lists of rules. Nothing that was there turns.
-/
import Derived.Test.YtadnaakbhgacgaaDoorScI
namespace Go.Proofs.YtadnaakbhgacgaaDoor
open Go.RowKit

set_option maxHeartbeats 1600000 in
set_option maxRecDepth 100000 in
theorem same_any (a b : List Rl) (ao bo : Option Addr) (ca cb : Nat) (w : World) (ha : SlR w ao a ca) (hb : SlR w bo b cb) :
    Calls Tryd.prog 17 #[.slice ao a.length ca, .slice bo b.length cb] w (FwB w (samL a b)) := by
  have la := ha.len
  have lb := hb.len
  have HA := Lib.hid ha
  have HB := Lib.hid hb
  clear ha hb
  obtain ⟨R, hR⟩ : ∃ R, R = samL a b := ⟨_, rfl⟩
  rw [← hR]
  have HR := Lib.hid hR
  clear hR
  by_cases hl : a.length = b.length
  · have HL := Lib.hid hl
    have hq : ((a.length : Int) != (b.length : Int)) = false := by rw [hl]; simp
    have hS := Lib.hid (show R = samL (a.drop 0) (b.drop 0) from HR.out)
    clear hl
    go_enter Tryd.func17, Tryd.ntmps17
    go_wp2
    clear hq
    go_loopw [5] (fun iv wr => ∃ i : Nat, iv = .int .i64 i ∧ i ≤ a.length ∧ Hid (R = samL (a.drop i) (b.drop i)) ∧ Hid (Fuw w wr)) (fun iv _ => a.length - (RowKit.intOf iv).toNat)
    case atStart => exact ⟨0, rfl, Nat.zero_le _, hS, Fuw.refl _⟩
    case round =>
      obtain ⟨i, rfl, hi, HQ, hf⟩ := hrel
      by_cases hlt : i < a.length
      · have hlb : i < b.length := by have := HL.out; omega
        obtain ⟨g, o, rfl, hx⟩ := (slR_on hf.out HA.out).get hlt
        obtain ⟨g', o', rfl, hy⟩ := (slR_on hf.out HB.out).get hlb
        have c0 := hx.c0; have c1 := hx.c1; have c2 := hx.c2; have c3 := hx.c3; have c4 := hx.c4; have c5 := hx.c5
        have d0 := hy.c0; have d1 := hy.c1; have d2 := hy.c2; have d3 := hy.c3; have d4 := hy.c4; have d5 := hy.c5
        have HD := Lib.hid (HQ.out.trans (samL_drop a b i hlt hlb))
        have hne := neq_rl a[i] b[i]
        have hgd := fun (op : BinOp) (p q : Operand) (xs ys : Array Value) (w' : World) => run_eqGuard_agg w' op 23 p q xs ys guard_rl
        clear hx hy
        unfold rlv at hne
        generalize eqR a[i] b[i] = r at *
        generalize a[i].kd = x0 at *
        generalize a[i].nn = x1 at *
        generalize a[i].nm = x2 at *
        generalize a[i].ky = x3 at *
        generalize a[i].fr = x4 at *
        generalize a[i].tt = x5 at *
        generalize b[i].kd = y0 at *
        generalize b[i].nn = y1 at *
        generalize b[i].nm = y2 at *
        generalize b[i].ky = y3 at *
        generalize b[i].fr = y4 at *
        generalize b[i].tt = y5 at *
        cases r
        · have HZ := Lib.hid (show R = false from HD.out)
          go_wp2
          go_quiet (fail)
          clear hne hgd
          go_wp2
          go_ret
          exact ⟨ret_bool HZ.out.symm, hf.out.trans (fuw_dr _ _)⟩
        · have HZ := Lib.hid (show R = samL (a.drop (i + 1)) (b.drop (i + 1)) from HD.out)
          go_wp2
          go_quiet (fail)
          clear hne hgd
          go_wp2
          go_roundw
          case rel => exact ⟨i + 1, by go_num, by omega, HZ, hf.out.trans (fuw_dr _ _)⟩
          case measure => simp [RowKit.intOf]; omega
      · have HZ := Lib.hid (show R = true by rw [HQ.out, samL_end _ _ _ (by omega) (by have := HL.out; omega)])
        go_wp2
        go_ret
        exact ⟨ret_bool HZ.out.symm, hf.out⟩
  · have HZ := Lib.hid (show R = false by rw [HR.out]; exact samL_ne hl)
    have hq : ((a.length : Int) != (b.length : Int)) = true := by rw [bne_iff_ne]; omega
    clear hl
    go_enter Tryd.func17, Tryd.ntmps17
    go_wp2
    go_ret
    exact ⟨ret_bool HZ.out.symm, Fuw.refl _⟩
end Go.Proofs.YtadnaakbhgacgaaDoor
