/-
  Package value: validPath, validWithin, Valid: they tell the valid values, for every value in memory. Nothing that was there turns.
-/
import Derived.Test.YteonkiajgfkieaaGreatDoorLvD
namespace Go.Proofs.YteonkiajgfkieaaGreatDoor
open Go.RowKit

theorem okVp_drop (c : Bool) (l : List Vl) (i : Nat) (h : i < l.length) : okVp c (l.drop i) = ((l[i].kd == if c = true then 5 else 6) && okV 0 l[i] && okVp (!c) (l.drop (i + 1))) := by
  rw [List.drop_eq_getElem_cons h]; rfl
/-- Valid of a node or an edge. -/
theorem lvalid_id (x : Vl) (ao : Option Addr) (cap : Nat) (w : World) (h : x.kd = 5 ∨ x.kd = 6) : Calls Tryz.prog 25 #[vlv x ao cap] w (RetB w (okV 0 x)) := by
  have k : ∀ w', Calls Tryz.prog 38 #[vlv x ao cap, .int .i64 8] w' (RetB w' (okV 0 x)) := fun w' => by
    obtain ⟨k, n, d, s, l⟩ := x
    simp only [Vl.kd] at h
    rcases h with rfl | rfl
    · have e : okV 0 (.mk 5 n d s l) = okFlat 5 n d s l := by simp [okV]
      rw [e]; exact lvk5 n d s l ao cap 8 w'
    · have e : okV 0 (.mk 6 n d s l) = okFlat 6 n d s l := by simp [okV]
      rw [e]; exact lvk6 n d s l ao cap 8 w'
  obtain ⟨p0, f0⟩ := bx1 w x ao cap
  have HV := Lib.hid k
  clear k h
  unfold vlv at *
  go_enter Tryz.func25, Tryz.ntmps25
  go_wp2_with fail
  go_at_call 38; refine (HV.out _).mono ?_; rintro e1 w1 ⟨rfl, f1⟩
  go_wp2
  go_ret
  exact ⟨rfl, f0.trans f1⟩
def okP (l : List Vl) : Bool := decide (l.length % 2 = 1) && decide (l.length ≤ 25) && okVp true l

set_option maxHeartbeats 3200000 in
set_option maxRecDepth 100000 in
theorem lvpath_any (l : List Vl) (ao : Option Addr) (cap : Nat) (w : World) (hs : SlV w ao l cap) :
    Calls Tryz.prog 59 #[.slice ao l.length cap] w (RetB w (okP l)) := by
  have HS := Lib.hid hs
  have hl := hs.le
  have hx := hs.max
  unfold maxLen at hx
  clear hs
  by_cases h2 : l.length % 2 = 1
  rotate_left
  · have g : (l.length : Int) % 2 = 0 := by omega
    rw [show okP l = false by unfold okP; rw [decide_eq_false h2]; rfl]
    clear h2
    go_enter Tryz.func59, Tryz.ntmps59
    go_wp2
    go_ret
    exact ⟨rfl, Fur.refl _⟩
  have g2 : (l.length : Int) % 2 = 1 := by omega
  by_cases h25 : l.length ≤ 25
  rotate_left
  · have g : 25 < l.length := by omega
    rw [show okP l = false by unfold okP; rw [decide_eq_false h25, Bool.and_false]; rfl]
    clear h25 h2
    go_enter Tryz.func59, Tryz.ntmps59
    go_wp2
    go_ret
    exact ⟨rfl, Fur.refl _⟩
  rw [show okP l = okVp true l by unfold okP; rw [decide_eq_true h2, decide_eq_true h25]; rfl]
  clear h2
  go_enter Tryz.func59, Tryz.ntmps59
  go_wp2
  go_loopw [17] (fun iv wr => ∃ i : Nat, iv = .int .i64 i ∧ i ≤ l.length ∧ Hid (okVp true l = okVp (i % 2 == 0) (l.drop i)) ∧ Fur w wr) (fun iv _ => l.length - (RowKit.intOf iv).toNat)
  case atStart => exact ⟨0, rfl, Nat.zero_le _, rfl, Fur.refl _⟩
  case round =>
    clear g2
    obtain ⟨i, rfl, hi, HN, hf⟩ := hrel
    by_cases hlt : i < l.length
    · obtain ⟨b, o, rfl, hc⟩ := (HS.out.on hf).get hlt
      have hA := okVp_drop (i % 2 == 0) l i hlt
      obtain ⟨hy, c0, c1, c2, c3, ao', cap', c4, hs2⟩ := VC_of hc
      have hV := fun w' => lvalid_id l[i] ao' cap' w'
      obtain ⟨p0, f0⟩ := bx1 wr l[i] ao' cap'
      unfold vlv at hV
      clear hc hs2 hy
      generalize l[i] = y at *
      generalize okV 0 y = q at *
      rcases (show (i : Int) % 2 = 0 ∨ (i : Int) % 2 = 1 by omega) with hp | hp
      · have e : (i % 2 == 0) = true := beq_iff_eq.2 (by omega)
        have e' : ((i + 1) % 2 == 0) = false := beq_eq_false_iff_ne.2 (by omega)
        rw [e] at hA HN
        by_cases hk : y.kd = 5
        · rw [hk] at c0 hV f0
          have HC := Lib.hid (fun w' => hV w' (.inl rfl))
          have HE := Lib.hid (show okVp true l = (q && okVp false (l.drop (i + 1))) by rw [HN.out, hA, hk]; rfl)
          clear hA HN hV e hk
          go_wp2_with fail
          go_at_call 25
          refine (HC.out _).mono ?_; rintro e1 w1 ⟨rfl, f1⟩
          replace f1 := f0.trans f1
          cases q
          · go_wp2
            go_ret
            exact ⟨ret_bool HE.out.symm, hf.trans f1⟩
          · go_wp2
            go_roundw
            case rel => exact ⟨i + 1, by go_num, by omega, by rw [e', HE.out, Bool.true_and]; exact rfl, hf.trans f1⟩
            case measure => simp [RowKit.intOf]; omega
        · have hk' : (y.kd != 5) = true := by rw [bne_iff_ne]; exact hk
          have HE := Lib.hid (show okVp true l = false by rw [HN.out, hA]; simp [hk])
          clear hA HN hV e hk
          go_wp2
          go_ret
          exact ⟨ret_bool HE.out.symm, hf.trans f0⟩
      · have e : (i % 2 == 0) = false := beq_eq_false_iff_ne.2 (by omega)
        have e' : ((i + 1) % 2 == 0) = true := beq_iff_eq.2 (by omega)
        rw [e] at hA HN
        by_cases hk : y.kd = 6
        · rw [hk] at c0 hV f0
          have HC := Lib.hid (fun w' => hV w' (.inr rfl))
          have HE := Lib.hid (show okVp true l = (q && okVp true (l.drop (i + 1))) by rw [HN.out, hA, hk]; rfl)
          clear hA HN hV e hk
          go_wp2_with fail
          go_at_call 25
          refine (HC.out _).mono ?_; rintro e1 w1 ⟨rfl, f1⟩
          replace f1 := f0.trans f1
          cases q
          · go_wp2
            go_ret
            exact ⟨ret_bool HE.out.symm, hf.trans f1⟩
          · go_wp2
            go_roundw
            case rel => exact ⟨i + 1, by go_num, by omega, by rw [e', HE.out, Bool.true_and]; exact rfl, hf.trans f1⟩
            case measure => simp [RowKit.intOf]; omega
        · have hk' : (y.kd != 6) = true := by rw [bne_iff_ne]; exact hk
          have HE := Lib.hid (show okVp true l = false by rw [HN.out, hA]; simp [hk])
          clear hA HN hV e hk
          go_wp2
          go_ret
          exact ⟨ret_bool HE.out.symm, hf.trans f0⟩
    · have HE := Lib.hid (show okVp true l = true by rw [HN.out, List.drop_of_length_le (by omega)]; rfl)
      go_wp2
      go_ret
      exact ⟨ret_bool HE.out.symm, hf⟩
theorem inB_dec2 (n : Int) : inB n = (decide (-1000000000000000 ≤ n) && decide (n ≤ 1000000000000000)) := rfl
/-- validWithin, given what validList answers. -/
theorem lvw_by (m : Nat) (p : Bool) (k n d : Int) (s : List UInt8) (l : List Vl) (ao : Option Addr) (cap : Nat) (w : World) (hi : Vin (.mk k n d s l)) (hs : SlV w ao l cap)
    (hp : p = (decide (1 ≤ m) && decide (l.length ≤ 64) && okVs (m - 1) l))
    (HL : ∀ w', Fur w w' → Calls Tryz.prog 58 #[.slice ao l.length cap, .int .i64 (m : Int)] w' (RetB w' p)) :
    Calls Tryz.prog 38 #[vlv (.mk k n d s l) ao cap, .int .i64 (m : Int)] w (RetB w (okV m (.mk k n d s l))) := by
  by_cases h7 : k = 7
  · subst h7
    have e : okV m (.mk 7 n d s l) = (bareV n d s l false false false true && okP l) := by
      unfold okV okP
      rw [if_pos rfl, Bool.and_assoc, Bool.and_assoc, Bool.and_assoc]
    rw [e]
    exact lvk7 n d s l ao cap m w (okP l) (Lib.hid fun w' hf => lvpath_any l ao cap w' (hs.on hf))
  by_cases h8 : k = 8
  · subst h8
    have e : okV m (.mk 8 n d s l) = (bareV n d s l false false false true && p) := by
      unfold okV
      rw [if_neg (by decide), if_pos rfl, hp, Bool.and_assoc, Bool.and_assoc, Bool.and_assoc]
    rw [e]
    exact lvk8 n d s l ao cap m w p (Lib.hid HL)
  have e : okV m (.mk k n d s l) = okFlat k n d s l := by
    unfold okV
    rw [if_neg h7, if_neg h8]
  rw [e]
  by_cases h0 : k = 0
  · subst h0; exact lvk0 n d s l ao cap m w
  by_cases h1 : k = 1
  · subst h1; exact lvk1 n d s l ao cap m w
  by_cases h2 : k = 2
  · subst h2; exact lvk2 n d s l ao cap m w
  by_cases h3 : k = 3
  · subst h3; exact lvk3 n d s l ao cap m w
  by_cases h4 : k = 4
  · subst h4; exact lvk4 n d s l ao cap m w hi.s
  by_cases h5 : k = 5
  · subst h5; exact lvk5 n d s l ao cap m w
  by_cases h6 : k = 6
  · subst h6; exact lvk6 n d s l ao cap m w
  have e2 : okFlat k n d s l = false := by
    unfold okFlat
    rw [if_neg h0, if_neg h1, if_neg h2, if_neg h3, if_neg h4, if_neg (by omega)]
  rw [e2]
  refine lvk_no (.mk k n d s l) ao cap m w fun j hj => ?_
  show k ≠ (j : Int)
  omega
theorem lvw_all : ∀ m, m < 1000 → LVP m
  | 0, _ => fun x ao cap w hi hs => by
    obtain ⟨k, n, d, s, l⟩ := x
    exact lvw_by 0 false k n d s l ao cap w hi hs rfl (fun w' _ => lvlist_0 l ao cap w')
  | m + 1, h => fun x ao cap w hi hs => by
    have ih := lvw_all m (by omega)
    obtain ⟨k, n, d, s, l⟩ := x
    refine lvw_by (m + 1) (decide (l.length ≤ 64) && okVs m l) k n d s l ao cap w hi hs ?_ (fun w' hf => lvlist_any m (by omega) ih l ao cap w' (hs.on hf))
    rw [decide_eq_true (show 1 ≤ m + 1 by omega)]; rfl
theorem lvalid_any (x : Vl) (ao : Option Addr) (cap : Nat) (w : World) (hi : Vin x) (hs : SlV w ao x.ll cap) :
    Calls Tryz.prog 25 #[vlv x ao cap] w (RetB w (okX x)) := by
  have k : ∀ w', Fur w w' → Calls Tryz.prog 38 #[vlv x ao cap, .int .i64 8] w' (RetB w' (okX x)) := fun w' hf => lvw_all 8 (by decide) x ao cap w' hi (hs.on hf)
  obtain ⟨p0, f0⟩ := bx1 w x ao cap
  have HV := Lib.hid k
  clear k hs
  unfold vlv at *
  go_enter Tryz.func25, Tryz.ntmps25
  go_wp2_with fail
  go_at_call 38; refine (HV.out _ f0).mono ?_; rintro e1 w1 ⟨rfl, f1⟩
  go_wp2
  go_ret
  exact ⟨rfl, f0.trans f1⟩
end Go.Proofs.YteonkiajgfkieaaGreatDoor
