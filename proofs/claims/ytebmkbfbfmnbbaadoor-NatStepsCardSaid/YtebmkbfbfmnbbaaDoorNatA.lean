/-
  Package nat: Valid tells the valid lists; orZero gives the list of a valid number and an empty list for any other one; limbAt gives a limb, or 0 beyond the end; trim cuts the zero limbs at the end; inLimbs gives back a result of at most 64 limbs. For every slice of int; nothing that was there turns.
-/
import Derived.Test.YtebmkbfbfmnbbaaDoorNatSum
namespace Go.Proofs.YtebmkbfbfmnbbaaDoor
open Go.RowKit

/-- A result is a bool; nothing that was there has turned. -/
def RetB (w : World) (c : Bool) (e : Ending) (w' : World) : Prop := e = .returned (.bool c) ∧ Fur w w'

set_option maxHeartbeats 800000 in
theorem valid_is (ao : Option Addr) (zs : List Int) (cap : Nat) (w : World) (hs : IsS w ao zs cap) :
    Calls Tryd.prog 23 #[.slice ao zs.length cap] w fun e w' => e = .returned (.bool (okL zs)) ∧ w = w' := by
  have hmax : zs.length ≤ 9223372036854775807 := by have := hs.le; have := hs.max; unfold maxLen at this; omega
  by_cases h64 : 64 < zs.length
  · rw [okL_long h64]
    go_enter Tryd.func23, Tryd.ntmps23
    go_wp2
    go_ret
    exact ⟨rfl, rfl⟩
  have h64' : zs.length ≤ 64 := by omega
  clear h64
  go_enter Tryd.func23, Tryd.ntmps23
  go_wp2
  go_loop [4, 10] (fun _ i => ∃ k : Nat, k ≤ zs.length ∧ i = .int .i64 k ∧ Hid (Digs (zs.take k))) (fun _ i => zs.length - (RowKit.intOf i).toNat)
  case atStart => exact ⟨0, Nat.zero_le _, rfl, digs_nil⟩
  case round =>
    obtain ⟨k, hk, rfl, HD⟩ := hrel
    by_cases hlt : k < zs.length
    · obtain ⟨b, off, rfl, hb, hc⟩ := hs.at_ (by omega)
      have hck := hc k hlt
      clear hc
      have hbad := okL_bad k hlt
      have hdn := digs_snoc k hlt HD.out
      obtain ⟨z, hz⟩ : ∃ z, zs.getD k 0 = z := ⟨_, rfl⟩
      rw [hz] at hck hbad hdn
      clear hz
      by_cases h0 : z < 0
      · have HB := Lib.hid (hbad (.inl h0))
        clear hbad hdn
        go_wp2
        go_ret
        exact ⟨ret_bool HB.out.symm, rfl⟩
      · by_cases h1 : 1000000000 ≤ z
        · have HB := Lib.hid (hbad (.inr h1))
          clear hbad hdn
          go_wp2
          go_ret
          exact ⟨ret_bool HB.out.symm, rfl⟩
        · have HN := Lib.hid (hdn (by omega) (by omega))
          clear hbad hdn
          go_wp2
          go_round
          case rel => exact ⟨k + 1, by omega, by go_num, HN.out⟩
          case measure => simp [RowKit.intOf]; omega
    · have e : k = zs.length := by omega
      subst e
      by_cases hp : 0 < zs.length
      · obtain ⟨b, off, rfl, hb, hc⟩ := hs.at_ hp
        have hck := hc (zs.length - 1) (by omega)
        clear hc
        have he := okL_end h64' HD.out hp
        obtain ⟨y, hy⟩ : ∃ y, zs.getD (zs.length - 1) 0 = y := ⟨_, rfl⟩
        rw [hy] at he hck
        have HE := Lib.hid he
        have hne : ((zs.length : Int) == 0) = false := by rw [beq_eq_false_iff_ne]; omega
        clear he hy
        go_wp2
        go_ret
        exact ⟨ret_bool HE.out.symm, rfl⟩
      · have e0 : zs = [] := List.length_eq_zero_iff.1 (by omega)
        subst e0
        go_wp2
        go_ret
        exact ⟨rfl, rfl⟩

theorem nat_valid (ao : Option Addr) (a : List Int) (ca : Nat) (w : World) (ha : IsS w ao a ca) :
    Calls Tryd.prog 23 #[.slice ao a.length ca] w (RetB w (okL a)) :=
  (valid_is ao a ca w ha).mono fun _ _ ⟨he, hw⟩ => ⟨he, hw ▸ Fur.refl _⟩

theorem zero_any (ao : Option Addr) (zs : List Int) (cap : Nat) (w : World) (hs : IsS w ao zs cap) :
    Calls Tryd.prog 33 #[.slice ao zs.length cap] w (RetS w (numL zs)) := by
  cases hv : okL zs
  · have e : numL zs = [] := by unfold numL; rw [hv]; rfl
    have HV := Lib.hid (valid_is ao zs cap w hs)
    rw [hv] at HV
    rw [e]; clear e hv
    go_enter Tryd.func33, Tryd.ntmps33
    go_wp2_with fail
    go_at_call 23; refine HV.out.mono ?_; rintro e w' ⟨rfl, rfl⟩
    go_wp2
    go_ret
    exact ⟨none, 0, rfl, IsS.empty _, Fur.refl _⟩
  · have e : numL zs = zs := by unfold numL; rw [hv]; rfl
    have HV := Lib.hid (valid_is ao zs cap w hs)
    rw [hv] at HV
    rw [e]; clear e hv
    go_enter Tryd.func33, Tryd.ntmps33
    go_wp2_with fail
    go_at_call 23; refine HV.out.mono ?_; rintro e w' ⟨rfl, rfl⟩
    go_wp2
    go_ret
    exact ⟨_, _, rfl, hs, Fur.refl _⟩
theorem zero_get {a x : List Int} (h : Num a x) (ao : Option Addr) (cap : Nat) (w : World) (hs : IsS w ao a cap) : Calls Tryd.prog 33 #[.slice ao a.length cap] w (RetS w x) := by
  have k := zero_any ao a cap w hs
  rw [h.eq] at k
  exact k

theorem at_any (ao : Option Addr) (zs : List Int) (cap : Nat) (i : Nat) (w : World) (hs : IsS w ao zs cap) :
    Calls Tryd.prog 34 #[.slice ao zs.length cap, .int .i64 i] w fun e w' => e = .returned (.int .i64 (zs.getD i 0)) ∧ w = w' := by
  have hmax : zs.length ≤ 9223372036854775807 := by have := hs.le; have := hs.max; unfold maxLen at this; omega
  by_cases h : i < zs.length
  · obtain ⟨b, off, rfl, _, hc⟩ := hs.at_ (by omega)
    have hck := hc i h
    clear hc
    obtain ⟨z, hz⟩ : ∃ z, zs.getD i 0 = z := ⟨_, rfl⟩
    rw [hz] at hck
    rw [hz]
    clear hz
    go_enter Tryd.func34, Tryd.ntmps34
    go_wp2
    go_ret
    exact ⟨rfl, rfl⟩
  · have e : zs.getD i 0 = 0 := by rw [List.getD_eq_getElem?_getD, List.getElem?_eq_none (by omega)]; rfl
    rw [e]
    have h' : zs.length ≤ i := by omega
    clear e h
    go_enter Tryd.func34, Tryd.ntmps34
    go_wp2
    go_ret
    exact ⟨rfl, rfl⟩

theorem IsS.take {w : World} {ao : Option Addr} {zs : List Int} {cap : Nat} (h : IsS w ao zs cap) (k : Nat) (hk : k ≤ zs.length) : IsS w ao (zs.take k) cap := by
  have hl : (zs.take k).length = k := by rw [List.length_take]; omega
  refine ⟨by rw [hl]; exact Nat.le_trans hk h.le, h.max, h.nil, fun hp => ?_⟩
  rw [hl] at hp
  obtain ⟨b, off, e, hb, hc⟩ := h.at_ (by omega)
  refine ⟨b, off, e, hb, fun j hj => ?_⟩
  rw [hl] at hj
  rw [hc j (by omega), List.getD_eq_getElem?_getD, List.getD_eq_getElem?_getD, List.getElem?_take_of_lt hj]

set_option maxHeartbeats 1600000 in
theorem cut_any (ao : Option Addr) (zs : List Int) (cap : Nat) (w : World) (hs : IsS w ao zs cap) (hd : Digs zs) :
    Calls Tryd.prog 40 #[.slice ao zs.length cap] w (RetS w (lim (vl zs))) := by
  have hle := hs.le
  have hmx := hs.max
  unfold maxLen at hmx
  go_enter Tryd.func40, Tryd.ntmps40
  go_wp2
  go_loop [0] (fun n => ∃ k : Nat, k ≤ zs.length ∧ n = .slice ao k cap ∧ Hid (vl (zs.take k) = vl zs)) (fun n => match n with | .slice _ k _ => k | _ => 0)
  case atStart => exact ⟨zs.length, Nat.le_refl _, rfl, congrArg vl List.take_length⟩
  case round =>
    obtain ⟨k, hk, rfl, HV⟩ := hrel
    rcases k with _ | m
    · have HZ := Lib.hid (show vl zs = 0 by rw [← HV.out]; rfl)
      have HS := Lib.hid (hs.take 0 (Nat.zero_le _))
      clear HV
      go_wp2
      go_ret
      exact ret_of (by rw [HZ.out, lim_0, List.take_zero]) ⟨_, _, rfl, HS.out, Fur.refl _⟩
    · have hm : m < zs.length := by omega
      have HS := Lib.hid (hs.take (m + 1) hk)
      obtain ⟨b, off, rfl, hb, hc⟩ := hs.at_ (by omega)
      have hck := hc m hm
      have hst := trim_step m hm
      have hen := trim_end m hm hd
      obtain ⟨z, hz⟩ : ∃ z, zs.getD m 0 = z := ⟨_, rfl⟩
      rw [hz] at hck hst hen
      clear hc hz
      by_cases h0 : z = 0
      · subst h0
        have HT := Lib.hid (hst rfl)
        clear hst hen
        go_wp2
        go_round
        case rel => exact ⟨m, by omega, rfl, HT.out.trans HV.out⟩
        case measure => simp
      · have hne : (z == 0) = false := by simpa using h0
        have HE := Lib.hid (hen h0 HV.out)
        have hl : (zs.take (m + 1)).length = m + 1 := by rw [List.length_take]; omega
        have HL := Lib.hid hl
        clear hst hen hl
        go_wp2
        go_ret
        exact ret_of HE.out.symm ⟨_, _, ret_slice HL.out.symm, HS.out, Fur.refl _⟩

theorem limbs_any (ao : Option Addr) (zs : List Int) (cap : Nat) (w : World) (hs : IsS w ao zs cap) (hd : Digs zs) :
    Calls Tryd.prog 35 #[.slice ao zs.length cap] w (RetSB w (bdL (lim (vl zs))) (bdB (lim (vl zs)))) := by
  have HC := Lib.hid (cut_any ao zs cap w hs hd)
  generalize lim (vl zs) = l at HC
  by_cases h : l.length ≤ 64
  · have e1 : bdL l = l := by unfold bdL; rw [if_pos h]
    have e2 : bdB l = true := by unfold bdB; exact decide_eq_true h
    rw [e1, e2]; clear e1 e2
    go_enter Tryd.func35, Tryd.ntmps35
    go_wp2_with fail
    go_at_call 40; refine HC.out.mono ?_; rintro e w1 ⟨ao1, c1, rfl, h1, f1⟩
    go_wp2
    go_ret2
    exact ⟨_, _, rfl, h1, f1⟩
  · have e1 : bdL l = [] := by unfold bdL; rw [if_neg h]
    have e2 : bdB l = false := by unfold bdB; exact decide_eq_false h
    rw [e1, e2]; clear e1 e2
    have h' : 64 < l.length := by omega
    clear h
    go_enter Tryd.func35, Tryd.ntmps35
    go_wp2_with fail
    go_at_call 40; refine HC.out.mono ?_; rintro e w1 ⟨ao1, c1, rfl, h1, f1⟩
    have hb : l.length ≤ 9223372036854775807 := by have := h1.le; have := h1.max; unfold maxLen at this; omega
    go_wp2
    go_ret2
    exact ⟨none, 0, rfl, IsS.empty _, f1⟩
end Go.Proofs.YtebmkbfbfmnbbaaDoor
