/-
  For every slice of slices of int, the law IntsetMeets of package intset returns true: MeetAll gives the intersection on both sides. The walks alone; in any world; nothing that was there turns.
-/
import Derived.Test.YtmmkcnohicfjeaaIsTells
namespace Go.Proofs.Ytmmkcnohicfjeaa
open Go.RowKit

/-- A slice at ao, of capacity cap, holds slices that hold the lists ls. -/
structure IsSS (w : World) (ao : Option Addr) (ls : List (List Int)) (cap : Nat) : Prop where
  le : ls.length ≤ cap
  max : cap ≤ maxLen
  nil : ao = none → cap = 0
  at_ : 0 < ls.length → ∃ b off, ao = some ⟨b, off, none⟩ ∧ b < w.heap.size ∧ ∀ j, j < ls.length → ∃ A C, w.cell? ⟨b, off + j, none⟩ = some (.slice A (ls.getD j []).length C) ∧ IsS w A (ls.getD j []) C
theorem IsSS.on {w w' : World} {ao : Option Addr} {ls : List (List Int)} {cap : Nat} (h : IsSS w ao ls cap) (hf : Fur w w') : IsSS w' ao ls cap :=
  ⟨h.le, h.max, h.nil, fun hp => by
    obtain ⟨b, off, e, hb, hc⟩ := h.at_ hp
    refine ⟨b, off, e, Nat.lt_of_lt_of_le hb hf.size, fun j hj => ?_⟩
    obtain ⟨A, C, h1, h2⟩ := hc j hj
    exact ⟨A, C, (Below.cell hf (p := ⟨b, off + j, none⟩) hb).trans h1, h2.on hf⟩⟩

/-- The intersection of all of a first and further lists. -/
def mallL : List (List Int) → List Int
  | [] => []
  | l :: rest => rest.foldl meL (ofL l)
theorem fold_me_len (s : List Int) (rest : List (List Int)) : (rest.foldl meL s).length ≤ s.length := by
  induction rest generalizing s with
  | nil => exact Nat.le_refl _
  | cons l rest ih => exact Nat.le_trans (ih (meL s l)) (meL_len s l)
theorem getD_row {ls : List (List Int)} {k : Nat} (hk : k < ls.length) : ls.getD k [] = ls[k] := by rw [List.getD_eq_getElem?_getD, List.getElem?_eq_getElem hk]; rfl
theorem mall_step {s o : List Int} {rest : List (List Int)} (k : Nat) (hk : k < rest.length) (h : o = (rest.take k).foldl meL s) : meL o (rest.getD k []) = (rest.take (k + 1)).foldl meL s := by
  rw [getD_row hk, List.take_succ_eq_append_getElem hk, List.foldl_append, ← h]; rfl
theorem mall_bd {s o : List Int} {rest : List (List Int)} (k : Nat) (h : o = (rest.take k).foldl meL s) : o.length ≤ s.length := by
  rw [h]; exact fold_me_len s _
theorem getD_cons (l : List Int) (rest : List (List Int)) (k : Nat) : (l :: rest).getD (k + 1) [] = rest.getD k [] := by simp [List.getD]
theorem row_le {ls : List (List Int)} (h : ∀ l ∈ ls, l.length ≤ 1000) (k : Nat) (hk : k < ls.length) : (ls.getD k []).length ≤ 1000 := by
  rw [getD_row hk]; exact h _ (List.getElem_mem hk)

set_option maxHeartbeats 1600000 in
theorem mall_any (ao : Option Addr) (ls : List (List Int)) (cap : Nat) (w : World) (hs : IsSS w ao ls cap) (hl : ∀ l ∈ ls, l.length ≤ 1000) :
    Calls Try.prog 26 #[.slice ao ls.length cap] w (RetS w (mallL ls)) := by
  have hmax : cap ≤ 9223372036854775807 := by have := hs.max; unfold maxLen at this; omega
  cases ls with
  | nil =>
    go_enter Try.func26, Try.ntmps26
    go_wp2
    go_ret
    exact ⟨none, 0, rfl, IsS.empty _, Fur.refl _⟩
  | cons l0 rest =>
    have hle := hs.le
    obtain ⟨b, off, rfl, hb, hc⟩ := hs.at_ (by simp)
    obtain ⟨A0, C0, d0, g0⟩ := hc 0 (by simp)
    have e0 : (l0 :: rest).getD 0 [] = l0 := rfl
    rw [e0] at d0 g0
    rw [Nat.add_zero] at d0
    clear e0
    have HL := Lib.hid hl
    have h0 : l0.length ≤ 1000 := hl l0 (by simp)
    have HA := Lib.hid (of_any A0 l0 C0 w g0 (by omega))
    have hd := ofL_len l0
    have HS := Lib.hid (show ∀ o : List Int, o = rest.foldl meL (ofL l0) → mallL (l0 :: rest) = o by rintro o rfl; rfl)
    generalize ofL l0 = s at HA hd HS
    generalize mallL (l0 :: rest) = u at HS
    have hn : (l0 :: rest).length = rest.length + 1 := rfl
    rw [hn] at hle ⊢
    have hrow : ∀ k, k < rest.length → ∃ A C, w.cell? ⟨b, off + (k + 1), none⟩ = some (.slice A (rest.getD k []).length C) ∧ IsS w A (rest.getD k []) C ∧ (rest.getD k []).length ≤ 1000 := fun k hk => by
      obtain ⟨A, C, h1, h2⟩ := hc (k + 1) (by simp; omega)
      rw [getD_cons] at h1 h2
      refine ⟨A, C, h1, h2, ?_⟩
      have := row_le hl (k + 1) (by simp; omega)
      rwa [getD_cons] at this
    have HR := Lib.hid hrow
    clear hc hrow hl hn
    have hne : ((rest.length : Int) + 1 == 0) = false := by rw [beq_eq_false_iff_ne]; omega
    have i0 : (0 : Int) < (rest.length : Int) + 1 := by omega
    have i1 : (1 : Int) ≤ (rest.length : Int) + 1 := by omega
    have i2 : (rest.length : Int) + 1 ≤ cap := by omega
    have i3 : (rest.length : Int) + 1 - 1 = rest.length := by omega
    by_cases hc1 : cap = 1
    · have hr0 : rest.length = 0 := by omega
      have hrn : rest = [] := List.length_eq_zero_iff.1 hr0
      subst hrn
      subst hc1
      clear hr0
      go_enter Try.func26, Try.ntmps26
      go_wp2_with fail
      go_at_call 16; refine HA.out.mono ?_; rintro e w1 ⟨ao1, c1, rfl, g1, f1⟩
      go_wp2
      go_loopw [3, 16] (fun v i wr => i = .int .i64 0 ∧ v = .slice ao1 s.length c1 ∧ wr = w1) (fun _ i _ => 0 - (RowKit.intOf i).toNat)
      case atStart => exact ⟨rfl, rfl, rfl⟩
      case round =>
        obtain ⟨rfl, rfl, rfl⟩ := hrel
        go_wp2
        go_ret
        exact rets_of (HS.out s rfl) ⟨ao1, c1, rfl, g1, f1⟩
    · go_enter Try.func26, Try.ntmps26
      go_wp2_with fail
      go_at_call 16; refine HA.out.mono ?_; rintro e w1 ⟨ao1, c1, rfl, g1, f1⟩
      go_wp2
      go_loopw [3, 16] (fun v i wr => ∃ (k : Nat) (o : List Int) (bo : Option Addr) (cb : Nat), i = .int .i64 k ∧ k ≤ rest.length ∧ v = .slice bo o.length cb ∧ IsS wr bo o cb ∧ Fur w wr ∧ Hid (o = (rest.take k).foldl meL s)) (fun _ i _ => rest.length - (RowKit.intOf i).toNat)
      case atStart => exact ⟨0, s, ao1, c1, rfl, Nat.zero_le _, rfl, g1, f1, rfl⟩
      case round =>
        obtain ⟨k, o, bo, cb, rfl, hk, rfl, hI, hf, HW⟩ := hrel
        by_cases hlt : k < rest.length
        · obtain ⟨A, C, r1, r2, r3⟩ := HR.out k hlt
          have c0 : wr.cell? ⟨b, off + (k + 1), none⟩ = _ := (Below.cell hf (p := ⟨b, off + (k + 1), none⟩) hb).trans r1
          have ho := mall_bd k HW.out
          have hst := mall_step k hlt HW.out
          have HM := Lib.hid (fun w1 bo cb (h1 : IsS w1 bo o cb) (h2 : IsS w1 A (rest.getD k []) C) => me_any bo A o (rest.getD k []) cb C w1 h1 h2 (by omega) (by omega))
          clear r1
          generalize rest.getD k [] = z at c0 r2 r3 hst HM
          have HN := Lib.hid hst
          clear hst
          generalize meL o z = p at HN HM
          have HM2 := Lib.hid (HM.out wr bo cb hI (r2.on hf))
          clear HM r2
          have c1' : wr.cell? ⟨b, off + 1 + k, none⟩ = some (.slice A z.length C) := by rw [show off + 1 + k = off + (k + 1) by omega]; exact c0
          go_wp2_with fail
          go_at_call 20; refine HM2.out.mono ?_; rintro e w2 ⟨ao2, c2, rfl, g2, f2⟩
          go_wp2
          go_roundw
          case rel => exact ⟨k + 1, p, ao2, c2, by go_num, by omega, rfl, g2, hf.trans f2, HN.out⟩
          case measure => simp [RowKit.intOf]; omega
        · have HE := Lib.hid (HS.out o (by
            have h := HW.out
            rw [List.take_of_length_le (by omega)] at h
            exact h))
          go_wp2
          go_ret
          exact rets_of HE.out ⟨bo, cb, rfl, hI, hf⟩

set_option maxHeartbeats 1600000 in
theorem rmall_any (ao : Option Addr) (ls : List (List Int)) (cap : Nat) (w : World) (hs : IsSS w ao ls cap) (hl : ∀ l ∈ ls, l.length ≤ 1000) :
    Calls Try.prog 27 #[.slice ao ls.length cap] w (RetS w (mallL ls)) := by
  have hmax : cap ≤ 9223372036854775807 := by have := hs.max; unfold maxLen at this; omega
  cases ls with
  | nil =>
    go_enter Try.func27, Try.ntmps27
    go_wp2
    go_ret
    exact ⟨none, 0, rfl, IsS.empty _, Fur.refl _⟩
  | cons l0 rest =>
    have hle := hs.le
    obtain ⟨b, off, rfl, hb, hc⟩ := hs.at_ (by simp)
    obtain ⟨A0, C0, d0, g0⟩ := hc 0 (by simp)
    have e0 : (l0 :: rest).getD 0 [] = l0 := rfl
    rw [e0] at d0 g0
    rw [Nat.add_zero] at d0
    clear e0
    have h0 : l0.length ≤ 1000 := hl l0 (by simp)
    have HA := Lib.hid (rof_any A0 l0 C0 w g0 (by omega))
    have hd := ofL_len l0
    have HS := Lib.hid (show ∀ o : List Int, o = rest.foldl meL (ofL l0) → mallL (l0 :: rest) = o by rintro o rfl; rfl)
    generalize ofL l0 = s at HA hd HS
    generalize mallL (l0 :: rest) = u at HS
    have hn : (l0 :: rest).length = rest.length + 1 := rfl
    rw [hn] at hle ⊢
    have hrow : ∀ k, k < rest.length → ∃ A C, w.cell? ⟨b, off + (k + 1), none⟩ = some (.slice A (rest.getD k []).length C) ∧ IsS w A (rest.getD k []) C ∧ (rest.getD k []).length ≤ 1000 := fun k hk => by
      obtain ⟨A, C, h1, h2⟩ := hc (k + 1) (by simp; omega)
      rw [getD_cons] at h1 h2
      refine ⟨A, C, h1, h2, ?_⟩
      have := row_le hl (k + 1) (by simp; omega)
      rwa [getD_cons] at this
    have HR := Lib.hid hrow
    clear hc hrow hl hn
    have hne : ((rest.length : Int) + 1 == 0) = false := by rw [beq_eq_false_iff_ne]; omega
    have i0 : (0 : Int) < (rest.length : Int) + 1 := by omega
    go_enter Try.func27, Try.ntmps27
    go_wp2_with fail
    go_at_call 17; refine HA.out.mono ?_; rintro e w1 ⟨ao1, c1, rfl, g1, f1⟩
    go_wp2
    go_loopw [3, 4] (fun v i wr => ∃ (k : Nat) (o : List Int) (bo : Option Addr) (cb : Nat), i = .int .i64 ((k : Int) + 1) ∧ k ≤ rest.length ∧ v = .slice bo o.length cb ∧ IsS wr bo o cb ∧ Fur w wr ∧ Hid (o = (rest.take k).foldl meL s)) (fun _ i _ => rest.length + 1 - (RowKit.intOf i).toNat)
    case atStart => exact ⟨0, s, ao1, c1, rfl, Nat.zero_le _, rfl, g1, f1, rfl⟩
    case round =>
      obtain ⟨k, o, bo, cb, rfl, hk, rfl, hI, hf, HW⟩ := hrel
      by_cases hlt : k < rest.length
      · obtain ⟨A, C, r1, r2, r3⟩ := HR.out k hlt
        have c0 : wr.cell? ⟨b, off + (k + 1), none⟩ = _ := (Below.cell hf (p := ⟨b, off + (k + 1), none⟩) hb).trans r1
        have ho := mall_bd k HW.out
        have hst := mall_step k hlt HW.out
        have HM := Lib.hid (fun w1 bo cb (h1 : IsS w1 bo o cb) (h2 : IsS w1 A (rest.getD k []) C) => rmeet_any bo A o (rest.getD k []) cb C w1 h1 h2 (by omega))
        clear r1
        generalize rest.getD k [] = z at c0 r2 r3 hst HM
        have HN := Lib.hid hst
        clear hst
        generalize meL o z = p at HN HM
        have HM2 := Lib.hid (HM.out wr bo cb hI (r2.on hf))
        clear HM r2
        have j1 : (k : Int) + 1 < (rest.length : Int) + 1 := by omega
        have j2 : (0 : Int) ≤ (k : Int) + 1 := by omega
        have j3 : ((k : Int) + 1).toNat = k + 1 := by omega
        go_wp2_with fail
        go_at_call 21; refine HM2.out.mono ?_; rintro e w2 ⟨ao2, c2, rfl, g2, f2⟩
        go_wp2
        go_roundw
        case rel => exact ⟨k + 1, p, ao2, c2, by go_num, by omega, rfl, g2, hf.trans f2, HN.out⟩
        case measure => simp [RowKit.intOf]; omega
      · have HE := Lib.hid (HS.out o (by
          have h := HW.out
          rw [List.take_of_length_le (by omega)] at h
          exact h))
        have j1 : ¬ ((k : Int) + 1 < (rest.length : Int) + 1) := by omega
        go_wp2
        go_ret
        exact rets_of HE.out ⟨bo, cb, rfl, hI, hf⟩

theorem le_snoc {ls : List (List Int)} (k : Nat) (hk : k < ls.length) (h : ∀ l ∈ ls.take k, l.length ≤ 100) (h1 : (ls.getD k []).length ≤ 100) : ∀ l ∈ ls.take (k + 1), l.length ≤ 100 := by
  rw [getD_row hk] at h1
  rw [List.take_succ_eq_append_getElem hk]
  intro l hl
  rcases List.mem_append.1 hl with j | j
  · exact h l j
  · rw [List.mem_singleton.1 j]; exact h1

set_option maxHeartbeats 6400000 in
set_option maxRecDepth 100000 in
theorem meets_walk (ao : Option Addr) (ls : List (List Int)) (cap : Nat) (w : World) (hs : IsSS w ao ls cap) :
    Calls Try.prog 5 #[.slice ao ls.length cap] w (RetB w true) := by
  have hmax : cap ≤ 9223372036854775807 := by have := hs.max; unfold maxLen at this; omega
  have hle := hs.le
  by_cases h12 : 12 < ls.length
  · have i0 : (12 : Int) < ls.length := by omega
    go_enter Try.func5, Try.ntmps5
    go_wp2_with fail
    go_at_call 10; refine (alive_any _).mono ?_; rintro e w1 ⟨rfl, f1⟩
    go_wp2
    go_ret
    exact ⟨rfl, f1⟩
  · have i0 : ¬ ((12 : Int) < ls.length) := by omega
    have HM := fun h => mall_any ao ls cap w hs h
    have HQ := fun w1 (f : Fur w w1) h => rmall_any ao ls cap w1 (hs.on f) h
    generalize mallL ls = m at HM HQ
    have KM := Lib.hid HM
    have KQ := Lib.hid HQ
    clear HM HQ
    go_enter Try.func5, Try.ntmps5
    go_wp2
    go_loop [11] (fun i => ∃ k : Nat, i = .int .i64 k ∧ k ≤ ls.length ∧ Hid (∀ l ∈ ls.take k, l.length ≤ 100)) (fun i => ls.length - (RowKit.intOf i).toNat)
    case atStart => exact ⟨0, rfl, Nat.zero_le _, by intro l hl; simp at hl⟩
    case round =>
      obtain ⟨k, rfl, hk, HK⟩ := hrel
      by_cases hlt : k < ls.length
      · obtain ⟨b, off, rfl, hb, hc⟩ := hs.at_ (by omega)
        obtain ⟨A, C, c0, g0⟩ := hc k hlt
        have hn := le_snoc k hlt HK.out
        clear hc
        generalize ls.getD k [] = z at c0 g0 hn
        have hz0 := g0.le
        have hz1 := g0.max
        unfold maxLen at hz1
        clear g0
        by_cases h1 : z.length ≤ 100
        · have HN := Lib.hid (hn h1)
          have i1 : ¬ ((100 : Int) < z.length) := by omega
          clear hn
          go_wp2
          go_round
          case rel => exact ⟨k + 1, by go_num, by omega, HN.out⟩
          case measure => simp [RowKit.intOf]; omega
        · have i1 : (100 : Int) < z.length := by omega
          clear hn
          go_wp2_with fail
          go_at_call 10; refine (alive_any _).mono ?_; rintro e w1 ⟨rfl, f1⟩
          go_wp2
          go_ret
          exact ⟨rfl, f1⟩
      · have hall := HK.out
        rw [List.take_of_length_le (by omega)] at hall
        have hall2 : ∀ l ∈ ls, l.length ≤ 1000 := fun l hl => Nat.le_trans (hall l hl) (by decide)
        have K1 := Lib.hid (KM.out hall2)
        have K2 := Lib.hid (fun w1 f => KQ.out w1 f hall2)
        clear hall hall2 KM KQ
        go_wp2_with fail
        go_at_call 26; refine K1.out.mono ?_; rintro e w1 ⟨a1, c1, rfl, g1, f1⟩
        go_wp2_with fail
        go_at_call 27; refine (K2.out _ f1).mono ?_; rintro e w2 ⟨a2, c2, rfl, g2, f2⟩
        go_wp2_with fail
        go_at_call 15; refine (same_refl _ _ _ _ _ _ (g1.on f2) g2).mono ?_; rintro e w3 ⟨rfl, f3⟩
        go_wp2_with fail
        go_at_call 10; refine (alive_any _).mono ?_; rintro e w4 ⟨rfl, f4⟩
        go_wp2
        go_ret
        exact ⟨rfl, ((f1.trans f2).trans f3).trans f4⟩
end Go.Proofs.Ytmmkcnohicfjeaa
