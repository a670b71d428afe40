/-
  Package graph: whether a node stands in a list whose ids increase (binary search). Nothing that was there turns.
-/
import Derived.Test.YtcadeijloobbmaaGreatNe
namespace Go.Proofs.YtcadeijloobbmaaGreat
open Go.RowKit

theorem cmpi_any (a b : Int) (w : World) : Calls Tryz.prog 58 #[.int .i64 a, .int .i64 b] w (PureI w (intc a b)) := by
  by_cases h1 : a < b
  · rw [show intc a b = -1 by unfold intc; rw [if_pos h1]]
    go_enter Tryz.func58, Tryz.ntmps58
    go_wp2
    go_ret
    exact ⟨rfl, rfl⟩
  · by_cases h2 : b < a
    · rw [show intc a b = 1 by unfold intc; rw [if_neg h1, if_pos h2]]
      go_enter Tryz.func58, Tryz.ntmps58
      go_wp2
      go_ret
      exact ⟨rfl, rfl⟩
    · rw [show intc a b = 0 by unfold intc; rw [if_neg h1, if_neg h2]]
      go_enter Tryz.func58, Tryz.ntmps58
      go_wp2
      go_ret
      exact ⟨rfl, rfl⟩
theorem hn1_any (n : Nd) (al ap : Option Addr) (cl cp : Nat) (x : Int) (w : World) : Calls Tryz.prog 64 #[ndv n al ap cl cp, .int .i64 x] w (FwI w (intc n.id x)) := by
  unfold ndv
  generalize n.id = k
  go_enter Tryz.func64, Tryz.ntmps64
  go_wp2_with (go_at_call 58; refine (cmpi_any _ _ _).mono ?_; rintro e1 w1 ⟨rfl, rfl⟩)
  go_ret
  exact ⟨rfl, fuwA _ _⟩

/-- Where the search stands. -/
def BsI (ns : List Nd) (x : Int) (i j : Nat) : Prop := i ≤ j ∧ j ≤ ns.length ∧ (∀ k (h : k < ns.length), k < i → ns[k].id < x) ∧ ∀ k (h : k < ns.length), j ≤ k → x ≤ ns[k].id
theorem bsI_mid {ns : List Nd} {x : Int} {i j : Nat} (hp : ns.Pairwise (fun a b => a.id < b.id)) (h : BsI ns x i j) (hij : i < j) (hm : (i + j) / 2 < ns.length) :
    (ns[(i + j) / 2].id < x → BsI ns x ((i + j) / 2 + 1) j) ∧ (x ≤ ns[(i + j) / 2].id → BsI ns x i ((i + j) / 2)) := by
  obtain ⟨h1, h2, h3, h4⟩ := h
  refine ⟨fun hx => ⟨by omega, h2, fun k hk hk' => ?_, h4⟩, fun hx => ⟨by omega, by omega, h3, fun k hk hk' => ?_⟩⟩
  · rcases Nat.lt_or_eq_of_le (show k ≤ (i + j) / 2 by omega) with g | g
    · have := List.pairwise_iff_getElem.1 hp k _ hk hm g; omega
    · subst g; exact hx
  · rcases Nat.lt_or_eq_of_le hk' with g | g
    · have := List.pairwise_iff_getElem.1 hp _ k hm hk g; omega
    · subst g; exact hx
theorem bsI_end {ns : List Nd} {x : Int} {i : Nat} (hp : ns.Pairwise (fun a b => a.id < b.id)) (h : BsI ns x i i) : hasN ns x = if g : i < ns.length then decide (ns[i].id = x) else false := by
  obtain ⟨-, h2, h3, h4⟩ := h
  unfold hasN
  rw [Bool.eq_iff_iff, List.any_eq_true]
  constructor
  · rintro ⟨n, hn, he⟩
    obtain ⟨k, hk, rfl⟩ := List.getElem_of_mem hn
    have he' : ns[k].id = x := by simpa using he
    have hik : ¬ k < i := fun g => by have := h3 k hk g; omega
    have hi : i < ns.length := by omega
    rw [dif_pos hi, decide_eq_true_eq]
    rcases Nat.lt_or_eq_of_le (show i ≤ k by omega) with g | g
    · have := List.pairwise_iff_getElem.1 hp _ _ hi hk g
      have := h4 i hi (Nat.le_refl _)
      omega
    · subst g; exact he'
  · intro h
    by_cases hi : i < ns.length
    · rw [dif_pos hi, decide_eq_true_eq] at h
      exact ⟨_, List.getElem_mem hi, by simpa using h⟩
    · rw [dif_neg hi] at h; cases h

set_option maxHeartbeats 3200000 in
set_option maxRecDepth 100000 in
theorem bsf_any (ns : List Nd) (ao : Option Addr) (cap : Nat) (x : Int) (w : World) (hs : SlN w ao ns cap) (hp : ns.Pairwise (fun a b => a.id < b.id)) (hn : ns.length ≤ 2000) :
    Calls Tryz.prog 63 #[.slice ao ns.length cap, .int .i64 x, .func (.func 64) #[] #[]] w (fun e w' => ∃ k : Int, e = .returned (.tuple #[.int .i64 k, .bool (hasN ns x)]) ∧ Fuw w w') := by
  have HS := Lib.hid hs
  have HP := Lib.hid hp
  have HB := Lib.hid (show BsI ns x 0 ns.length from ⟨Nat.zero_le _, Nat.le_refl _, fun k _ h => absurd h (by omega), fun k h h' => absurd h (by omega)⟩)
  clear hs hp
  obtain ⟨R, hR⟩ : ∃ R, R = hasN ns x := ⟨_, rfl⟩
  rw [← hR]
  have HR := Lib.hid hR
  clear hR
  go_enter Tryz.func63, Tryz.ntmps63
  go_wp2
  go_loopw [9, 10] (fun iv jv wr => ∃ i j : Nat, iv = .int .i64 i ∧ jv = .int .i64 j ∧ i ≤ j ∧ j ≤ ns.length ∧ Hid (BsI ns x i j) ∧ Hid (Fuw w wr)) (fun iv jv _ => (RowKit.intOf jv).toNat - (RowKit.intOf iv).toNat)
  case atStart => exact ⟨0, ns.length, rfl, rfl, Nat.zero_le _, Nat.le_refl _, HB, Fuw.refl _⟩
  case round =>
    obtain ⟨i, j, rfl, rfl, hij, hj, HI, hf⟩ := hrel
    by_cases hlt : i < j
    · have hm : (i + j) / 2 < ns.length := by omega
      obtain ⟨b, o, rfl, hi, c0, ⟨a1, k1, c1, -⟩, a2, k2, c2, -⟩ := (slN_on hf.out HS.out).get hm
      have HM := Lib.hid (bsI_mid HP.out HI.out hlt hm)
      have hh : ((i : Int) + (j : Int)) / 2 = ((i + j) / 2 : Nat) := by omega
      have HC := Lib.hid (fun w' => hn1_any ns[(i + j) / 2] a1 a2 k1 k2 x w')
      unfold ndv at HC
      have h1 : i ≤ (i + j) / 2 := by omega
      have h2 : (i + j) / 2 < j := by omega
      generalize ns[(i + j) / 2] = n at *
      generalize (i + j) / 2 = m at *
      go_wp2_with fail
      go_at_call 64; refine (HC.out _).mono ?_; rintro e1 w1 ⟨rfl, f1⟩
      clear hh
      have HF := Lib.hid (hf.out.trans f1)
      by_cases hx : n.id < x
      · have hq : intc n.id x = -1 := by unfold intc; rw [if_pos hx]
        have HZ := Lib.hid (HM.out.1 hx)
        rw [hq]
        clear hq hx
        go_wp2
        go_roundw
        case rel => exact ⟨m + 1, j, by go_num, rfl, by omega, hj, HZ, HF⟩
        case measure => simp [RowKit.intOf]; omega
      · have hq : 0 ≤ intc n.id x := by unfold intc; rw [if_neg hx]; split <;> omega
        have HZ := Lib.hid (HM.out.2 (by omega))
        generalize intc n.id x = q at *
        have hq' : ¬ q < 0 := by omega
        clear hq hx
        go_wp2
        go_roundw
        case rel => exact ⟨i, m, rfl, rfl, h1, by omega, HZ, HF⟩
        case measure => simp [RowKit.intOf]; omega
    · obtain rfl : i = j := by omega
      have HE := Lib.hid (HR.out.trans (bsI_end HP.out HI.out))
      by_cases hi : i < ns.length
      · have HE2 := Lib.hid (show R = decide (ns[i].id = x) by rw [HE.out, dif_pos hi])
        obtain ⟨b, o, rfl, -, c0, ⟨a1, k1, c1, -⟩, a2, k2, c2, -⟩ := (slN_on hf.out HS.out).get hi
        have HC := Lib.hid (fun w' => hn1_any ns[i] a1 a2 k1 k2 x w')
        unfold ndv at HC
        clear HE
        generalize ns[i] = n at *
        go_wp2_with fail
        go_at_call 64; refine (HC.out _).mono ?_; rintro e1 w1 ⟨rfl, f1⟩
        have HF := Lib.hid (hf.out.trans f1)
        by_cases hx : n.id = x
        · have hq : intc n.id x = 0 := by rw [hx]; exact intc_self _
          have HT := Lib.hid (show R = true by rw [HE2.out, decide_eq_true hx])
          rw [hq]
          clear hq hx
          go_wp2
          go_ret2
          exact ⟨_, (by rw [HT.out]; rfl), HF.out⟩
        · have hq : (intc n.id x == 0) = false := by
            rw [beq_eq_false_iff_ne]; unfold intc; split
            · decide
            · split
              · decide
              · omega
          have HT := Lib.hid (show R = false by rw [HE2.out, decide_eq_false hx])
          generalize intc n.id x = q at *
          clear hx
          go_wp2
          go_ret2
          exact ⟨_, (by rw [HT.out]; rfl), HF.out⟩
      · have HT := Lib.hid (show R = false by rw [HE.out, dif_neg hi])
        clear HE
        go_wp2
        go_ret2
        exact ⟨_, (by rw [HT.out]; rfl), hf.out⟩
/-- hasNode, where the ids increase. -/
theorem hasn_any (ns : List Nd) (ao : Option Addr) (cap : Nat) (x : Int) (w : World) (hs : SlN w ao ns cap) (hp : ns.Pairwise (fun a b => a.id < b.id)) (hn : ns.length ≤ 2000) :
    Calls Tryz.prog 44 #[.slice ao ns.length cap, .int .i64 x] w (FwB w (hasN ns x)) := by
  have HC := Lib.hid (bsf_any ns ao cap x w hs hp hn)
  clear hs hp
  generalize hasN ns x = R at *
  go_enter Tryz.func44, Tryz.ntmps44
  go_wp2_with fail
  go_at_call 63
  refine HC.out.mono ?_
  rintro e1 w1 ⟨k, rfl, f1⟩
  go_wp2
  go_ret
  exact ⟨rfl, f1⟩
end Go.Proofs.YtcadeijloobbmaaGreat
