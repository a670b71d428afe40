/-
  The reference of package value: path: which values are nodes and edges in turn. Nothing that was there turns.
-/
import Derived.Test.YtcadeijloobbmaaGreatRvE
namespace Go.Proofs.YtcadeijloobbmaaGreat
open Go.RowKit

/-- valid of a node or an edge. -/
theorem rvalid_id (x : Vl) (ao : Option Addr) (cap : Nat) (w : World) (h : x.kd = 5 ∨ x.kd = 6) : Calls Tryz.prog 112 #[vlv x ao cap, .int .i64 0] w (RetB w (okV 0 x)) := by
  obtain ⟨k, n, d, s, l⟩ := x
  simp only [Vl.kd] at h
  rcases h with rfl | rfl
  · have e : okV 0 (.mk 5 n d s l) = okFlat 5 n d s l := by simp [okV]
    rw [e]; exact rvk5 n d s l ao cap 0 w
  · have e : okV 0 (.mk 6 n d s l) = okFlat 6 n d s l := by simp [okV]
    rw [e]; exact rvk6 n d s l ao cap 0 w
set_option maxHeartbeats 3200000 in
set_option maxRecDepth 100000 in
theorem rpath_any (l : List Vl) (ao : Option Addr) (cap : Nat) (w : World) (hs : SlV w ao l cap) :
    Calls Tryz.prog 138 #[.slice ao l.length cap] w (RetB w (okP l)) := by
  have HS := Lib.hid hs
  have hl := hs.le
  have hx := hs.max
  unfold maxLen at hx
  clear hs
  by_cases h2 : l.length % 2 = 1
  rotate_left
  · have g : (l.length : Int) % 2 = 0 := by omega
    rw [show okP l = false by unfold okP; rw [decide_eq_false h2]; rfl]
    clear h2
    go_enter Tryz.func138, Tryz.ntmps138
    go_wp2
    go_ret
    exact ⟨rfl, Fur.refl _⟩
  have g2 : (l.length : Int) % 2 = 1 := by omega
  by_cases h25 : l.length ≤ 25
  rotate_left
  · have g : 25 < l.length := by omega
    rw [show okP l = false by unfold okP; rw [decide_eq_false h25, Bool.and_false]; rfl]
    clear h25 h2
    go_enter Tryz.func138, Tryz.ntmps138
    go_wp2
    go_ret
    exact ⟨rfl, Fur.refl _⟩
  rw [show okP l = okVp true l by unfold okP; rw [decide_eq_true h2, decide_eq_true h25]; rfl]
  clear h2
  go_enter Tryz.func138, Tryz.ntmps138
  go_wp2
  go_loopw [3] (fun iv wr => ∃ i : Nat, iv = .int .i64 i ∧ i ≤ l.length ∧ Hid (okVp true l = okVp (i % 2 == 0) (l.drop i)) ∧ Fur w wr) (fun iv _ => l.length - (RowKit.intOf iv).toNat)
  case atStart => exact ⟨0, rfl, Nat.zero_le _, rfl, Fur.refl _⟩
  case round =>
    clear g2
    obtain ⟨i, rfl, hi, HN, hf⟩ := hrel
    by_cases hlt : i < l.length
    · obtain ⟨b, o, rfl, hc⟩ := (HS.out.on hf).get hlt
      have hA := okVp_drop (i % 2 == 0) l i hlt
      obtain ⟨hy, c0, c1, c2, c3, ao', cap', c4, hs2⟩ := VC_of hc
      have hV := rvalid_id l[i] ao' cap' wr
      unfold vlv at hV
      clear hc hs2 hy
      generalize l[i] = y at *
      generalize okV 0 y = q at *
      rcases (show (i : Int) % 2 = 0 ∨ (i : Int) % 2 = 1 by omega) with hp | hp
      · have e : (i % 2 == 0) = true := beq_iff_eq.2 (by omega)
        have e' : ((i + 1) % 2 == 0) = false := beq_eq_false_iff_ne.2 (by omega)
        rw [e] at hA HN
        by_cases hk : y.kd = 5
        · rw [hk] at c0 hV
          have HC := Lib.hid (hV (.inl rfl))
          have HE := Lib.hid (show okVp true l = (q && okVp false (l.drop (i + 1))) by rw [HN.out, hA, hk]; rfl)
          clear hA HN hV e hk
          go_wp2_with fail
          go_at_call 112
          refine (HC.out).mono ?_; rintro e1 w1 ⟨rfl, f1⟩
          cases q
          · go_wp2
            go_ret
            exact ⟨ret_bool HE.out.symm, hf.trans f1⟩
          · go_wp2
            go_roundw
            case rel => exact ⟨i + 1, by go_num, by omega, by rw [e', HE.out, Bool.true_and]; exact rfl, hf.trans f1⟩
            case measure => simp [RowKit.intOf]; omega
        · have hk' : (y.kd != 5) = true := by rw [bne_iff_ne]; exact hk
          have HE := Lib.hid (show okVp true l = false by rw [HN.out, hA]; simp [hk])
          clear hA HN hV e hk
          go_wp2
          go_ret
          exact ⟨ret_bool HE.out.symm, hf⟩
      · have e : (i % 2 == 0) = false := beq_eq_false_iff_ne.2 (by omega)
        have e' : ((i + 1) % 2 == 0) = true := beq_iff_eq.2 (by omega)
        rw [e] at hA HN
        by_cases hk : y.kd = 6
        · rw [hk] at c0 hV
          have HC := Lib.hid (hV (.inr rfl))
          have HE := Lib.hid (show okVp true l = (q && okVp true (l.drop (i + 1))) by rw [HN.out, hA, hk]; rfl)
          clear hA HN hV e hk
          go_wp2_with fail
          go_at_call 112
          refine (HC.out).mono ?_; rintro e1 w1 ⟨rfl, f1⟩
          cases q
          · go_wp2
            go_ret
            exact ⟨ret_bool HE.out.symm, hf.trans f1⟩
          · go_wp2
            go_roundw
            case rel => exact ⟨i + 1, by go_num, by omega, by rw [e', HE.out, Bool.true_and]; exact rfl, hf.trans f1⟩
            case measure => simp [RowKit.intOf]; omega
        · have hk' : (y.kd != 6) = true := by rw [bne_iff_ne]; exact hk
          have HE := Lib.hid (show okVp true l = false by rw [HN.out, hA]; simp [hk])
          clear hA HN hV e hk
          go_wp2
          go_ret
          exact ⟨ret_bool HE.out.symm, hf⟩
    · have HE := Lib.hid (show okVp true l = true by rw [HN.out, List.drop_of_length_le (by omega)]; rfl)
      go_wp2
      go_ret
      exact ⟨ret_bool HE.out.symm, hf⟩
end Go.Proofs.YtcadeijloobbmaaGreat
