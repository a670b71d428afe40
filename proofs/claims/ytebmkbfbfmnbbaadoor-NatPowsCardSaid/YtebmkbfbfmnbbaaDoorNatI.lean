/-
  Package nat: Parse gives the list of the number that a string of digits without a leading zero spells, and true; for any other string, and for one of more than 576 bytes, an empty list and false. For every string; nothing that was there turns.
-/
import Derived.Test.YtebmkbfbfmnbbaaDoorNatC
import Derived.Test.YtebmkbfbfmnbbaaDoorNatParse
import Derived.Lib.ConvBytes
import Derived.Lib.Strings
namespace Go.Proofs.YtebmkbfbfmnbbaaDoor
open Go.RowKit

theorem fur_bytes (w : World) (e : TypeId) (s : ByteArray) : Fur w (Lib.bytesWorld w e s) :=
  ⟨rfl, rfl, rfl, by rw [Lib.bytesWorld_size]; omega, fun j hj => Lib.bytesWorld_at_old w e s j hj⟩
open Classical in
/-- What parseLimb gives. -/
noncomputable def plV (l : List UInt8) : Int := if AllD l then (dv l : Nat) else 0
open Classical in
noncomputable def plB (l : List UInt8) : Bool := decide (AllD l)
theorem pl_t {l : List UInt8} (h : AllD l) : plV l = (dv l : Nat) ∧ plB l = true := by
  classical
  exact ⟨by unfold plV; rw [if_pos h], by unfold plB; exact decide_eq_true h⟩
theorem pl_f {l : List UInt8} (h : ¬ AllD l) : plV l = 0 ∧ plB l = false := by
  classical
  exact ⟨by unfold plV; rw [if_neg h], by unfold plB; exact decide_eq_false h⟩
theorem getD_byte {l : List UInt8} {i : Nat} (h : i < l.length) : l.getD i 0 = l[i] := by rw [List.getD_eq_getElem?_getD, List.getElem?_eq_getElem h]; rfl
theorem dig_snoc {l : List UInt8} {i c : Nat} (h : i < l.length) (hc : (l.getD i 0).toNat = c) (hd : AllD (l.take i)) (h0 : 48 ≤ c) (h1 : c ≤ 57) : AllD (l.take (i + 1)) ∧ dv (l.take (i + 1)) = 10 * dv (l.take i) + (c - 48) := by
  rw [getD_byte h] at hc
  rw [List.take_succ_eq_append_getElem h]
  refine ⟨fun d hd2 => ?_, by rw [dv_snoc, hc]; omega⟩
  rcases List.mem_append.1 hd2 with g | g
  · exact hd d g
  · have e : d = l[i] := by simpa using g
    rw [e, hc]; exact ⟨h0, h1⟩
theorem dig_not {l : List UInt8} {i c : Nat} (h : i < l.length) (hc : (l.getD i 0).toNat = c) (hb : c < 48 ∨ 57 < c) : ¬ AllD l := by
  rw [getD_byte h] at hc
  intro g
  have := g _ (List.getElem_mem h)
  omega
theorem dv_nine {l : List UInt8} (h : AllD l) (hl : l.length ≤ 9) : dv l < 1000000000 :=
  Nat.lt_of_lt_of_le (dv_lt h) (Nat.le_trans (Nat.pow_le_pow_right (by decide) hl) (by decide))

set_option maxHeartbeats 1600000 in
theorem limb_parse (s : ByteArray) (hs : s.size ≤ 9) (w : World) :
    Calls Tryd.prog 42 #[.string s] w (RetIB w (plV s.data.toList) (plB s.data.toList)) := by
  have hcv := Lib.run_convert_string_bytes (P := Tryd.prog) w 9 45 5 s (u := .string) Tryd.underlying9 Tryd.underlying45 Tryd.underlying5
  have HCL := Lib.hid (fun j hj => Lib.bytesWorld_cell w 5 s j hj)
  have HF := Lib.hid (show Fur w (Lib.bytesWorld w 5 s) from fur_bytes w 5 s)
  have HLN := Lib.hid (show s.data.toList.length = s.size from Array.length_toList)
  generalize Lib.bytesWorld w 5 s = wb at hcv HCL HF
  generalize grownCap w s.size 0 5 = cap at hcv
  go_enter Tryd.func42, Tryd.ntmps42
  go_wp2
  clear hcv
  go_loop [4, 10] (fun v ii => ∃ i n : Nat, ii = .int .i64 i ∧ i ≤ s.size ∧ v = .int .i64 n ∧ n < 1000000000 ∧ Hid (AllD (s.data.toList.take i) ∧ n = dv (s.data.toList.take i))) (fun _ ii => s.size - (RowKit.intOf ii).toNat)
  case atStart => exact ⟨0, 0, rfl, Nat.zero_le _, rfl, by decide, (by intro c hc; simp at hc), rfl⟩
  case round =>
    obtain ⟨i, n, rfl, hi, rfl, hn, HD⟩ := hrel
    by_cases hlt : i < s.size
    · have hc := HCL.out i hlt
      have hb : (s.data.toList.getD i 0).toNat < 256 := (s.data.toList.getD i 0).toNat_lt
      have hst := fun c (h : (s.data.toList.getD i 0).toNat = c) => dig_snoc (c := c) (by rw [HLN.out]; exact hlt) h HD.out.1
      have hno := fun c (h : (s.data.toList.getD i 0).toNat = c) => dig_not (c := c) (by rw [HLN.out]; exact hlt) h
      obtain ⟨c, hcc⟩ : ∃ c, (s.data.toList.getD i 0).toNat = c := ⟨_, rfl⟩
      have hst' := hst c hcc
      have hno' := hno c hcc
      rw [hcc] at hc hb
      clear hcc hst hno
      have ilt : (i : Int) < s.size := by omega
      rcases (show c < 48 ∨ 57 < c ∨ (48 ≤ c ∧ c ≤ 57) by omega) with g | g | ⟨g1, g2⟩
      · have HE := Lib.hid (pl_f (hno' (.inl g)))
        clear hst' hno'
        go_wp2
        go_ret2
        exact ⟨ret_ib HE.out.1.symm HE.out.2.symm, HF.out⟩
      · have HE := Lib.hid (pl_f (hno' (.inr g)))
        have g' : 48 ≤ c := by omega
        clear hst' hno'
        go_wp2
        go_ret2
        exact ⟨ret_ib HE.out.1.symm HE.out.2.symm, HF.out⟩
      · have hs2 := hst' g1 g2
        have HS := Lib.hid (show AllD (s.data.toList.take (i + 1)) ∧ 10 * n + (c - 48) = dv (s.data.toList.take (i + 1)) from ⟨hs2.1, by rw [hs2.2, HD.out.2]⟩)
        have HN := Lib.hid (show 10 * n + (c - 48) < 1000000000 by
          rw [HS.out.2]
          exact dv_nine HS.out.1 (by rw [List.length_take]; omega))
        clear hst' hno' hs2
        go_wp2
        go_round
        case rel => exact ⟨i + 1, 10 * n + (c - 48), by go_num, by omega, (congrArg (Value.int .i64) (by omega)), HN.out, HS.out⟩
        case measure => simp [RowKit.intOf]; omega
    · have e : i = s.size := by omega
      subst e
      have HA := Lib.hid (show AllD s.data.toList ∧ n = dv s.data.toList by
        have g := HD.out
        rwa [List.take_of_length_le (by rw [HLN.out]; exact Nat.le_refl _)] at g)
      have HE := Lib.hid (pl_t HA.out.1)
      go_wp2
      go_ret2
      exact ⟨ret_ib (by rw [HE.out.1, ← HA.out.2]) HE.out.2.symm, HF.out⟩
end Go.Proofs.YtebmkbfbfmnbbaaDoor
