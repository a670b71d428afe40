/-
  The landed comparison of two lists of rows (slices.CompareFunc at OrderRows). Nothing that was there turns.
-/
import Derived.Test.YteonkiajgfkieaaGreatDoorM39
namespace Go.Proofs.YteonkiajgfkieaaGreatDoor
open Go.RowKit

theorem ordRR_more (l m : List (List Vl)) (i : Nat) (h : i < l.length) (h' : m.length ≤ i) : ordRR (l.drop i) (m.drop i) = 1 := by
  rw [List.drop_eq_getElem_cons h, List.drop_of_length_le h']
  rfl
theorem ordRR_less (l m : List (List Vl)) (i : Nat) (h : l.length ≤ i) (h' : i < m.length) : ordRR (l.drop i) (m.drop i) = -1 := by
  rw [List.drop_eq_getElem_cons h', List.drop_of_length_le h]
  rfl
set_option maxHeartbeats 3200000 in
set_option maxRecDepth 100000 in
theorem lcf_rows (L L' : List (List Vl)) (ao bo : Option Addr) (ca cb : Nat) (w : World) (hs : SlR w ao L ca) (hs' : SlR w bo L' cb) :
    Calls Tryz.prog 31 #[.slice ao L.length ca, .slice bo L'.length cb, .func (.func 7) #[] #[]] w (RetI w (ordRR L L')) := by
  have HS := Lib.hid hs
  have HS' := Lib.hid hs'
  have h1 := hs.le
  have h2 := hs.max
  have h3 := hs'.le
  have h4 := hs'.max
  unfold maxLen at h2 h4
  clear hs hs'
  go_enter Tryz.func31, Tryz.ntmps31
  go_wp2
  go_loopw [13] (fun iv wr => ∃ i : Nat, iv = .int .i64 i ∧ i ≤ L.length ∧ i ≤ L'.length ∧ Hid (ordRR L L' = ordRR (L.drop i) (L'.drop i)) ∧ Fur w wr) (fun iv _ => L.length - (RowKit.intOf iv).toNat)
  case atStart => exact ⟨0, rfl, Nat.zero_le _, Nat.zero_le _, rfl, Fur.refl _⟩
  case round =>
    obtain ⟨i, rfl, hi, hi', HN, hf⟩ := hrel
    by_cases hlt : i < L.length
    · obtain ⟨b, o, a1, k1, rfl, c0, s0⟩ := (HS.out.on hf).get hlt
      by_cases hlt' : i < L'.length
      · obtain ⟨b', o', a2, k2, rfl, d0, s1⟩ := (HS'.out.on hf).get hlt'
        have HE := Lib.hid (HN.out.trans (ordRR_drop L L' i hlt hlt'))
        have HC := Lib.hid (lrows_any L[i] L'[i] a1 a2 k1 k2 wr s0 s1)
        clear HN s0 s1
        generalize L[i] = x at *
        generalize L'[i] = y at *
        generalize ordL x y = r at *
        go_wp2_with fail
        go_at_call 7; refine HC.out.mono ?_; rintro e1 w1 ⟨rfl, f1⟩
        by_cases hr : r = 0
        · subst hr
          go_wp2
          go_roundw
          case rel => exact ⟨i + 1, by go_num, by omega, by omega, HE.out, hf.trans f1⟩
          case measure => simp [RowKit.intOf]; omega
        · have hr' : (r != 0) = true := by rw [bne_iff_ne]; exact hr
          have HF := Lib.hid (HE.out.trans (thn_n hr _))
          clear hr
          go_wp2
          go_ret
          exact ⟨ret_int HF.out.symm, hf.trans f1⟩
      · have HE := Lib.hid (HN.out.trans (ordRR_more L L' i hlt (by omega)))
        have g : (L'.length : Int) ≤ i := by omega
        clear s0
        go_wp2
        go_ret
        exact ⟨ret_int HE.out.symm, hf⟩
    · by_cases hlt' : i < L'.length
      · have HE := Lib.hid (HN.out.trans (ordRR_less L L' i (by omega) hlt'))
        have g : (L.length : Int) < L'.length := by omega
        go_wp2
        go_ret
        exact ⟨ret_int HE.out.symm, hf⟩
      · have HE := Lib.hid (HN.out.trans (ordRR_fin L L' i (by omega) (by omega)))
        have g : ¬ (L.length : Int) < L'.length := by omega
        go_wp2
        go_ret
        exact ⟨ret_int HE.out.symm, hf⟩
end Go.Proofs.YteonkiajgfkieaaGreatDoor
