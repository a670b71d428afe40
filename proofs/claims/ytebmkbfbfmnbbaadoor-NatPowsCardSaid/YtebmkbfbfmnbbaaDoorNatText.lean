/-
  The reference's Text gives the decimal digits of the number of a slice of int. For every slice of int; nothing that was there turns.
-/
import Derived.Test.YtebmkbfbfmnbbaaDoorNatTextM
import Derived.Laws.IdiomStrings
import Derived.Lib.Strings
namespace Go.Proofs.YtebmkbfbfmnbbaaDoor
open Go.RowKit

/-- The string of a number. -/
def natTxt (n : Nat) : ByteArray := ⟨(Lib.decDigits n).toArray⟩
/-- A result is a string; nothing that was there has turned. -/
def RetT (w : World) (s : ByteArray) (e : Ending) (w' : World) : Prop := e = .returned (.string s) ∧ Fur w w'
theorem ret_str {a b : ByteArray} (h : a = b) : Ending.returned (.string a) = .returned (.string b) := by rw [h]

theorem piece : ∀ d : Fin 10, (⟨#[48, 49, 50, 51, 52, 53, 54, 55, 56, 57]⟩ : ByteArray).extract d.val (d.val + 1) = ⟨#[UInt8.ofNat (48 + d.val)]⟩ := by decide +kernel
theorem piece_run (m : Nat) (w : World) : (Instr.slice 9 (.string ⟨#[48, 49, 50, 51, 52, 53, 54, 55, 56, 57]⟩) (some (.int .i64 ((m : Int) % 10))) (some (.int .i64 ((m : Int) % 10 + 1))) none).run Tryd.prog w = .ok (.string ⟨#[UInt8.ofNat (48 + m % 10)]⟩) w := by
  rw [run_slice_string w 9 _ .i64 .i64 _ _ Tryd.underlying9 (by omega) (by omega) (by show (m : Int) % 10 + 1 ≤ 10; omega), show ((m : Int) % 10).toNat = m % 10 by omega, show ((m : Int) % 10 + 1).toNat = m % 10 + 1 by omega]
  rw [piece ⟨m % 10, by omega⟩]
/-- How long a string in a slot is. -/
def strLen : Value → Nat | .string s => s.size | _ => 0

set_option maxHeartbeats 1600000 in
theorem text_any (ao : Option Addr) (a : List Int) (ca : Nat) (w : World) (ha : IsS w ao a ca) :
    Calls Tryd.prog 30 #[.slice ao a.length ca] w (RetT w (natTxt (nv a))) := by
  obtain ⟨x, hx⟩ := num_of a
  have lx := hx.len
  by_cases hz : x.length = 0
  · have e0 : x = [] := List.length_eq_zero_iff.1 hz
    subst e0
    have hn : nv a = 0 := by rw [← hx.val]; rfl
    have e : natTxt (nv a) = ⟨#[48]⟩ := by rw [hn]; unfold natTxt; rw [Lib.decDigits_one (by decide)]; rfl
    rw [e]; clear e hn hz
    go_enter Tryd.func30, Tryd.ntmps30
    go_wp2_with fail
    go_at_call 36; refine (num_get hx _ _ _ ha).mono ?_; rintro e w1 ⟨ao1, c1, rfl, h1, f1⟩
    go_wp2
    go_ret
    exact ⟨rfl, f1⟩
  have hl0 : 0 < x.length := by omega
  have hne : ((x.length : Int) == 0) = false := by rw [beq_eq_false_iff_ne]; omega
  clear hz
  go_enter Tryd.func30, Tryd.ntmps30
  go_wp2_with fail
  go_at_call 36; refine (num_get hx _ _ _ ha).mono ?_; rintro e w1 ⟨ao1, c1, rfl, h1, f1⟩
  go_wp2
  go_loopw [4, 5] (fun v ii wr => ∃ (i : Nat) (s : ByteArray), ii = .int .i64 i ∧ i ≤ x.length ∧ v = .string s ∧ Hid (s.data.toList = lowD (9 * i) (vl x)) ∧ Fur w1 wr) (fun _ ii _ => x.length - (RowKit.intOf ii).toNat)
  case atStart => exact ⟨0, _, rfl, Nat.zero_le _, rfl, rfl, Fur.refl _⟩
  case round =>
    obtain ⟨i, s, rfl, hi, rfl, HS, hf⟩ := hrel
    by_cases hlt : i < x.length
    · obtain ⟨b, off, rfl, _, cc⟩ := (h1.on hf).at_ (by omega)
      have hc := cc i hlt
      have hzd := digs_at hx.digs i hlt
      obtain ⟨z, hz⟩ : ∃ z : Nat, x.getD i 0 = (z : Int) := ⟨(x.getD i 0).toNat, by omega⟩
      have HL := Lib.hid (fun j (hj : j < 9) => by have k := limb_dgt (j := j) hlt hx.digs hj; rwa [hz] at k)
      rw [hz] at hc hzd
      have hz1 : z < 1000000000 := by omega
      have hilt : (i : Int) < x.length := by omega
      clear cc hz hzd
      go_wp2
      go_loopw [4, 6, 7] (fun v mm jj wr2 => ∃ (j : Nat) (s2 : ByteArray) (m : Nat), jj = .int .i64 j ∧ j ≤ 9 ∧ v = .string s2 ∧ mm = .int .i64 m ∧ m < 1000000000 ∧ Hid (m = z / 10 ^ j) ∧ Hid (s2.data.toList = lowD (9 * i + j) (vl x)) ∧ Fur w1 wr2) (fun _ _ jj _ => 9 - (RowKit.intOf jj).toNat)
      case atStart => exact ⟨0, s, z, rfl, by decide, rfl, rfl, hz1, (Nat.div_one z).symm, HS.out, hf⟩
      case round =>
        obtain ⟨j, s2, m, rfl, hj, rfl, rfl, hm, HM, HS2, hf2⟩ := hrel
        by_cases hj9 : j < 9
        · have hsz : s2.size ≤ 1000 := by
            have k := congrArg List.length HS2.out
            rw [lowD_len] at k
            have e : s2.data.toList.length = s2.size := Array.length_toList
            omega
          have hd := HL.out j hj9
          have hpr := piece_run m
          have hc3 : UInt8.ofNat (48 + m % 10) = dgt (vl x) (9 * i + j) := by rw [hd, HM.out]; rfl
          obtain ⟨c, hcc⟩ : ∃ c, UInt8.ofNat (48 + m % 10) = c := ⟨_, rfl⟩
          rw [hcc] at hpr hc3
          have HS3 := Lib.hid (show (({ data := #[c] } ++ s2 : ByteArray)).data.toList = lowD (9 * i + (j + 1)) (vl x) by
            rw [ByteArray.data_append, show 9 * i + (j + 1) = 9 * i + j + 1 by omega, lowD, ← hc3, ← HS2.out]
            simp)
          have HM2 := Lib.hid (show m / 10 = z / 10 ^ (j + 1) by rw [HM.out, Nat.div_div_eq_div_mul, Nat.pow_succ])
          have hj' : j + 1 ≤ 9 := by omega
          have hm' : m / 10 < 1000000000 := by omega
          clear hd hc3 hcc
          go_wp2
          go_roundw
          case rel => exact ⟨j + 1, _, m / 10, by go_num, hj', rfl, by go_num, hm', HM2.out, HS3.out, hf2⟩
          case measure => simp [RowKit.intOf]; omega
        · have e : j = 9 := by omega
          subst e
          have hi2 : i + 1 ≤ x.length := by omega
          clear hj9 hj
          go_wp2
          go_roundw
          case rel => exact ⟨i + 1, s2, by go_num, hi2, rfl, (by show _ = lowD (9 * (i + 1)) (vl x); rw [show 9 * (i + 1) = 9 * i + 9 by omega]; exact HS2.out), hf2⟩
          case measure => simp [RowKit.intOf]; omega
    · have e : i = x.length := by omega
      subst e
      have HV := Lib.hid (vl_lt10 hx.digs)
      clear hlt hi
      go_wp2
      go_loopw [4] (fun v wr2 => ∃ (m : Nat) (s2 : ByteArray), v = .string s2 ∧ m ≤ 600 ∧ Hid (s2.data.toList = lowD (m + 1) (vl x)) ∧ Hid (vl x < 10 ^ (m + 1)) ∧ Fur w1 wr2) (fun v _ => strLen v)
      case atStart => exact ⟨9 * x.length - 1, s, rfl, by omega, (by show _ = lowD _ _; rw [show 9 * x.length - 1 + 1 = 9 * x.length by omega]; exact HS.out), (by show _ < _; rw [show 9 * x.length - 1 + 1 = 9 * x.length by omega]; exact HV.out), hf⟩
      case round =>
        obtain ⟨m, s2, rfl, hm, HS2, HV2, hf2⟩ := hrel
        have hsz : s2.size = m + 1 := by
          have k := congrArg List.length HS2.out
          rw [lowD_len] at k
          have e : s2.data.toList.length = s2.size := Array.length_toList
          omega
        rcases m with _ | k
        · have HE := Lib.hid (show s2 = natTxt (nv a) by
            apply ByteArray.ext
            apply Array.toList_inj.1
            rw [HS2.out, lowD_dec 0 _ HV2.out (.inl rfl), hx.val]
            rfl)
          go_wp2
          go_ret
          exact ⟨ret_str HE.out, f1.trans hf2⟩
        · have hp : 0 < s2.size := by omega
          have hh : s2[0]'hp = dgt (vl x) (k + 1) := by
            have e : s2.data.toList.head? = some (s2[0]'hp) := by
              rw [List.head?_eq_getElem?, List.getElem?_eq_getElem (by simpa using hp)]
              rfl
            rw [HS2.out, lowD] at e
            exact (Option.some.inj e).symm
          by_cases h48 : dgt (vl x) (k + 1) = 48
          · have hc : ((s2[0]'hp).toNat : Int) = 48 := by rw [hh, h48]; rfl
            have HV3 := Lib.hid (low_strike HV2.out h48)
            have hx1 : (s2.extract 1 (k + 1 + 1)).data.toList = lowD (k + 1) (vl x) := by
              rw [Lib.extract_data, HS2.out, lowD, List.drop_succ_cons, List.drop_zero]
              exact List.take_of_length_le (by rw [lowD_len]; omega)
            have hx2 : (s2.extract 1 (k + 1 + 1)).size < s2.size := by
              have g := congrArg List.length hx1
              rw [lowD_len] at g
              have e : (s2.extract 1 (k + 1 + 1)).data.toList.length = (s2.extract 1 (k + 1 + 1)).size := Array.length_toList
              omega
            have HX1 := Lib.hid hx1
            have HX2 := Lib.hid hx2
            clear hh h48 hx1 hx2
            go_wp2
            go_roundw
            case rel => exact ⟨k, _, rfl, by omega, HX1.out, HV3.out, hf2⟩
            case measure => exact HX2.out
          · have hc : (((s2[0]'hp).toNat : Int) == 48) = false := by
              rw [beq_eq_false_iff_ne, hh]
              intro e
              exact h48 (UInt8.toNat_inj.1 (by show _ = 48; omega))
            have HE := Lib.hid (show s2 = natTxt (nv a) by
              apply ByteArray.ext
              apply Array.toList_inj.1
              rw [HS2.out, lowD_dec (k + 1) _ HV2.out (.inr (low_stay h48)), hx.val]
              rfl)
            clear hh h48
            go_wp2
            go_ret
            exact ⟨ret_str HE.out, f1.trans hf2⟩
end Go.Proofs.YtebmkbfbfmnbbaaDoor
