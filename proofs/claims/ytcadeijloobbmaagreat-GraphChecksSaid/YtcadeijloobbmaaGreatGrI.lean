/-
  Package graph and its reference: where an edge leads; which strings stand in a list; types. What was there does not turn.
-/
import Derived.Test.YtcadeijloobbmaaGreatGrF
namespace Go.Proofs.YtcadeijloobbmaaGreat
open Go.RowKit

theorem hasS_drop (l : List (List UInt8)) (s : List UInt8) (i : Nat) (h : i < l.length) : hasS (l.drop i) s = ((l[i] == s) || hasS (l.drop (i + 1)) s) := by
  unfold hasS
  rw [List.drop_eq_getElem_cons h]; rfl
theorem hasS_end (l : List (List UInt8)) (s : List UInt8) (i : Nat) (h : l.length ≤ i) : hasS (l.drop i) s = false := by
  unfold hasS
  rw [List.drop_of_length_le h]; rfl
theorem bs_eq (s t : List UInt8) : ((bs s).toList == (bs t).toList) = (s == t) := by rw [toL, toL, bs_data, bs_data]
set_option maxHeartbeats 1600000 in
set_option maxRecDepth 100000 in
theorem index_any (l : List (List UInt8)) (ao : Option Addr) (cap : Nat) (s : List UInt8) (w : World) (hs : SlS w ao l cap) :
    Calls Tryz.prog 75 #[.slice ao l.length cap, .string (bs s)] w (fun e w' => ∃ k : Int, e = .returned (.int .i64 k) ∧ decide (0 ≤ k) = hasS l s ∧ w = w') := by
  have hl := hs.len
  have HS := Lib.hid hs
  clear hs
  obtain ⟨R, hR⟩ : ∃ R, R = hasS l s := ⟨_, rfl⟩
  rw [← hR]
  have HR := Lib.hid (show R = hasS (l.drop 0) s from hR)
  clear hR
  go_enter Tryz.func75, Tryz.ntmps75
  go_wp2
  go_loop [8] (fun iv => ∃ i : Nat, iv = .int .i64 i ∧ i ≤ l.length ∧ Hid (R = hasS (l.drop i) s)) (fun iv => l.length - (RowKit.intOf iv).toNat)
  case atStart => exact ⟨0, rfl, Nat.zero_le _, HR⟩
  case round =>
    obtain ⟨i, rfl, hi, HN⟩ := hrel
    by_cases hlt : i < l.length
    · obtain ⟨b, o, rfl, -, hc⟩ := HS.out.get hlt
      have HA := Lib.hid (hasS_drop l s i hlt)
      rw [Nat.mul_one] at hc
      generalize l[i] = t at *
      cases hb : ((bs s).toList == (bs t).toList) with
      | true =>
        have HZ := Lib.hid (show R = true by
          rw [bs_eq] at hb
          have e : s = t := by simpa using hb
          rw [HN.out, HA.out, e]; simp)
        go_wp2
        go_ret
        exact ⟨_, rfl, by rw [HZ.out]; exact decide_eq_true (by omega), rfl⟩
      | false =>
        have HZ := Lib.hid (show R = hasS (l.drop (i + 1)) s by
          rw [bs_eq] at hb
          have e : (t == s) = false := by
            have : s ≠ t := by simpa using hb
            exact beq_eq_false_iff_ne.2 (Ne.symm this)
          rw [HN.out, HA.out, e]; rfl)
        go_wp2
        go_round
        case rel => exact ⟨i + 1, by go_num, by omega, HZ⟩
        case measure => simp [RowKit.intOf]; omega
    · have HZ := Lib.hid (show R = false by rw [HN.out, hasS_end _ _ _ (by omega)])
      go_wp2
      go_ret
      exact ⟨-1, rfl, by rw [HZ.out]; rfl, rfl⟩
theorem conts_any (l : List (List UInt8)) (ao : Option Addr) (cap : Nat) (s : List UInt8) (w : World) (hs : SlS w ao l cap) :
    Calls Tryz.prog 54 #[.slice ao l.length cap, .string (bs s)] w (PureB w (hasS l s)) := by
  have HC := Lib.hid (index_any l ao cap s w hs)
  clear hs
  generalize hasS l s = R at *
  go_enter Tryz.func54, Tryz.ntmps54
  go_wp2_with fail
  go_at_call 75; refine HC.out.mono ?_; rintro e1 w1 ⟨k, rfl, hk, rfl⟩
  have HK := Lib.hid hk
  clear hk
  go_wp2
  go_ret
  exact ⟨ret_bool HK.out, rfl⟩
theorem hasT_nil {l : List (List UInt8)} (ty : List UInt8) (h : l.length = 0) : hasT ty l = true := by
  rw [List.eq_nil_of_length_eq_zero h]; rfl
theorem hasT_pos {l : List (List UInt8)} (ty : List UInt8) (h : 0 < l.length) : hasT ty l = hasS l ty := by
  cases l with
  | nil => exact absurd h (by decide)
  | cons a r => rfl
theorem hast_any (e : Ed) (ap : Option Addr) (cp : Nat) (l : List (List UInt8)) (ao : Option Addr) (cap : Nat) (w : World) (hs : SlS w ao l cap) :
    Calls Tryz.prog 38 #[edv e ap cp, .slice ao l.length cap] w (FwB w (hasT e.ty l)) := by
  have hl := hs.len
  have HC := Lib.hid (fun w' (hf : Fuw w w') => conts_any l ao cap e.ty w' (slS_on hf hs))
  clear hs
  unfold edv
  rcases Nat.eq_zero_or_pos l.length with h | h
  · have HZ := Lib.hid (hasT_nil e.ty h)
    have h1 : ((l.length : Int) == 0) = true := by rw [h]; rfl
    clear h
    generalize hasT e.ty l = R at *
    go_enter Tryz.func38, Tryz.ntmps38
    go_wp2
    go_ret
    exact ⟨ret_bool HZ.out.symm, fuwA _ _⟩
  · have HZ := Lib.hid (hasT_pos e.ty h)
    have h1 : ((l.length : Int) == 0) = false := by rw [beq_eq_false_iff_ne]; omega
    clear h
    generalize hasT e.ty l = R at *
    generalize hasS l e.ty = r at *
    go_enter Tryz.func38, Tryz.ntmps38
    go_wp2_with (go_at_call 54; refine (HC.out _ (fuwA _ _)).mono ?_; rintro e1 w1 ⟨rfl, rfl⟩)
    go_ret
    exact ⟨ret_bool HZ.out.symm, fuwA _ _⟩
/-! Where an edge leads. -/
/-- Where it leads, as an int and a bool. -/
def acrN (e : Ed) (id dir : Int) : Int := (acrV e id dir).getD 0
set_option maxHeartbeats 1600000 in
set_option maxRecDepth 100000 in
theorem across_any (e : Ed) (ap : Option Addr) (cp : Nat) (id dir : Int) (w : World) :
    Calls Tryz.prog 37 #[edv e ap cp, .int .i64 id, .int .i64 dir] w (fun x w' => x = .returned (.tuple #[.int .i64 (acrN e id dir), .bool (acrV e id dir).isSome]) ∧ Fuw w w') := by
  have HV := Lib.hid (show acrV e id dir = if (dir = 1 ∨ dir = 3) ∧ e.fr = id then some e.to else if (dir = 2 ∨ dir = 3) ∧ e.to = id then some e.fr else none from rfl)
  unfold acrN edv
  generalize acrV e id dir = V at *
  generalize e.fr = f at *
  generalize e.to = t at *
  have hd : dir = 1 ∨ dir = 2 ∨ dir = 3 ∨ (¬ dir = 1 ∧ ¬ dir = 2 ∧ ¬ dir = 3) := by omega
  rcases hd with rfl | rfl | rfl | ⟨d1, d2, d3⟩
  all_goals
    by_cases hf : f = id
    all_goals
      by_cases ht : t = id
      all_goals
        have HW := HV.out
        simp [*] at HW
        subst HW
        clear HV
        (try have hf' : (f == id) = false := beq_eq_false_iff_ne.2 hf)
        (try have ht' : (t == id) = false := beq_eq_false_iff_ne.2 ht)
        (try have hf'' : (f == id) = true := by rw [hf]; simp)
        (try have ht'' : (t == id) = true := by rw [ht]; simp)
        (try have e1 : (dir == 1) = false := beq_eq_false_iff_ne.2 d1)
        (try have e2 : (dir == 2) = false := beq_eq_false_iff_ne.2 d2)
        (try have e3 : (dir == 3) = false := beq_eq_false_iff_ne.2 d3)
        have HF := Lib.hid hf
        have HT := Lib.hid ht
        clear hf ht
        go_enter Tryz.func37, Tryz.ntmps37
        go_wp2
        go_ret2
        exact ⟨ret_ib (by first | rfl | exact HT.out | exact HF.out) rfl, fuwA _ _⟩
end Go.Proofs.YtcadeijloobbmaaGreat
