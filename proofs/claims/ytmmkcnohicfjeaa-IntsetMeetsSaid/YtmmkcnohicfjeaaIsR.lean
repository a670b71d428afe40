/-
  The functions on slices of int that only read: Valid of both sides tells the strictly increasing lists, Has of both sides tells the elements, Seek of both sides gives the first place from a start on whose element is at least x, Same tells equal lists. For every slice of int; nothing that was there turns.
-/
import Derived.Test.YtmmkcnohicfjeaaIsMem
import Derived.Test.YtmmkcnohicfjeaaShelf
import Derived.WalkKit
import Derived.BigCall
import Derived.BigQuiet
import Derived.RegionTactic
import Derived.LoopTactic
import Derived.Deep.QuietTactic
namespace Go.Proofs.Ytmmkcnohicfjeaa
open Go.RowKit

theorem getD_at {l : List Int} {k : Nat} (hk : k < l.length) : l.getD k 0 = l[k] := by rw [List.getD_eq_getElem?_getD, List.getElem?_eq_getElem hk]; rfl
instance strD (l : List Int) : Decidable (Str l) := inferInstanceAs (Decidable (l.Pairwise (· < ·)))
def strB (l : List Int) : Bool := decide (Str l)
theorem strB_t {l : List Int} (h : Str l) : strB l = true := decide_eq_true h
theorem str_one (zs : List Int) : Str (zs.take 1) := by
  cases zs with
  | nil => exact Str.nil
  | cons x l => exact List.pairwise_singleton _ _
theorem str_bad {zs : List Int} (k : Nat) (h : k + 1 < zs.length) (hb : ¬ zs.getD k 0 < zs.getD (k + 1) 0) : strB zs = false := by
  refine decide_eq_false fun hs => hb ?_
  rw [getD_at (by omega), getD_at h]
  exact List.pairwise_iff_getElem.1 hs k (k + 1) (by omega) h (by omega)
theorem str_snoc {zs : List Int} (k : Nat) (h : k + 1 < zs.length) (hs : Str (zs.take (k + 1))) (hl : zs.getD k 0 < zs.getD (k + 1) 0) : Str (zs.take (k + 1 + 1)) := by
  rw [getD_at (by omega), getD_at h] at hl
  rw [List.take_succ_eq_append_getElem h]
  refine List.pairwise_append.2 ⟨hs, List.pairwise_singleton _ _, fun x hx y hy => ?_⟩
  simp at hy
  subst hy
  obtain ⟨i, hi, rfl⟩ := List.getElem_of_mem hx
  have hi' : i < k + 1 := by simp at hi; omega
  rw [List.getElem_take]
  rcases Nat.lt_or_ge i k with j | j
  · have hs' := List.pairwise_iff_getElem.1 hs i k hi (by simp; omega) j
    rw [List.getElem_take, List.getElem_take] at hs'
    omega
  · have e : i = k := by omega
    subst e
    exact hl
theorem str_end {zs : List Int} (k : Nat) (h : zs.length ≤ k + 1) (hs : Str (zs.take (k + 1))) : strB zs = true := by
  rw [List.take_of_length_le h] at hs
  exact strB_t hs

/-- The first place from f on whose element is at least x, or the length. -/
def seekN (l : List Int) (f : Nat) (x : Int) : Nat := if f < l.length then f + (l.drop f).findIdx (fun y => decide (x ≤ y)) else l.length
theorem seek_yes {zs : List Int} {x : Int} (k : Nat) (h : k < zs.length) (hx : x ≤ zs.getD k 0) : seekN zs k x = k := by
  rw [getD_at h] at hx
  unfold seekN
  rw [if_pos h, List.drop_eq_getElem_cons h, List.findIdx_cons]
  simp [hx]
theorem seek_out {zs : List Int} {x : Int} (k : Nat) (h : zs.length ≤ k) : seekN zs k x = zs.length := by
  unfold seekN
  rw [if_neg (by omega)]
theorem seek_no {zs : List Int} {x : Int} (k : Nat) (h : k < zs.length) (hx : ¬ x ≤ zs.getD k 0) : seekN zs k x = seekN zs (k + 1) x := by
  rw [getD_at h] at hx
  unfold seekN
  rw [if_pos h, List.drop_eq_getElem_cons h, List.findIdx_cons]
  simp only [hx, decide_false, cond_false]
  by_cases hk : k + 1 < zs.length
  · rw [if_pos hk]; omega
  · rw [if_neg hk, List.drop_of_length_le (by omega)]
    simp
    omega

set_option maxHeartbeats 1600000 in
theorem valid_any (ao : Option Addr) (zs : List Int) (cap : Nat) (w : World) (hs : IsS w ao zs cap) :
    Calls Try.prog 11 #[.slice ao zs.length cap] w fun e w' => e = .returned (.bool (strB zs)) ∧ Fur w w' := by
  have hmax : zs.length ≤ 9223372036854775807 := by have := hs.le; have := hs.max; unfold maxLen at this; omega
  go_enter Try.func11, Try.ntmps11
  go_wp2
  go_loopw [3] (fun i wr => ∃ k : Nat, k ≤ zs.length ∧ i = .int .i64 ((k : Int) + 1) ∧ Hid (Str (zs.take (k + 1))) ∧ Fur w wr) (fun i _ => zs.length + 1 - (RowKit.intOf i).toNat)
  case atStart => exact ⟨0, Nat.zero_le _, rfl, str_one zs, Fur.refl _⟩
  case round =>
    obtain ⟨k, hk, rfl, HD, hf⟩ := hrel
    by_cases hlt : k + 1 < zs.length
    · obtain ⟨b, off, rfl, hb, hc⟩ := (hs.on hf).at_ (by omega)
      have c0 := hc k (by omega)
      have c1 := hc (k + 1) hlt
      clear hc
      have hbad := str_bad (zs := zs) k hlt
      have hdn := str_snoc k hlt HD.out
      obtain ⟨y, hy⟩ : ∃ y, zs.getD k 0 = y := ⟨_, rfl⟩
      obtain ⟨z, hz⟩ : ∃ z, zs.getD (k + 1) 0 = z := ⟨_, rfl⟩
      rw [hy] at c0 hbad hdn
      rw [hz] at c1 hbad hdn
      clear hy hz
      have i1 : (k : Int) + 1 < zs.length := by omega
      have i0 : (k : Int) < zs.length := by omega
      have p0 : (0 : Int) ≤ (k : Int) := by omega
      have p1 : (0 : Int) ≤ (k : Int) + 1 := by omega
      have t1 : ((k : Int) + 1).toNat = k + 1 := by omega
      have t2 : (k : Int) + 1 - 1 = k := by omega
      by_cases h : y < z
      · have HN := Lib.hid (hdn h)
        have h' : ¬ (z ≤ y) := by omega
        clear hbad hdn
        go_wp2
        go_region
        go_wp2
        go_roundw
        case rel => exact ⟨k + 1, by omega, by go_num, HN.out, hf.drew⟩
        case measure => simp [RowKit.intOf]; omega
      · have HB := Lib.hid (hbad h)
        have h' : z ≤ y := by omega
        clear hbad hdn
        go_wp2
        go_region
        go_wp2
        go_ret
        exact ⟨ret_bool HB.out.symm, hf.drew⟩
    · have HE := Lib.hid (str_end k (by omega) HD.out)
      have i1 : ¬ ((k : Int) + 1 < zs.length) := by omega
      go_wp2
      go_ret
      exact ⟨ret_bool HE.out.symm, hf⟩

set_option maxHeartbeats 1600000 in
theorem rvalid_any (ao : Option Addr) (zs : List Int) (cap : Nat) (w : World) (hs : IsS w ao zs cap) :
    Calls Try.prog 12 #[.slice ao zs.length cap] w fun e w' => e = .returned (.bool (strB zs)) ∧ Fur w w' := by
  have hmax : zs.length ≤ 9223372036854775807 := by have := hs.le; have := hs.max; unfold maxLen at this; omega
  go_enter Try.func12, Try.ntmps12
  go_wp2
  go_loopw [3] (fun i wr => ∃ k : Nat, k ≤ zs.length ∧ i = .int .i64 ((k : Int) + 1) ∧ Hid (Str (zs.take (k + 1))) ∧ Fur w wr) (fun i _ => zs.length + 1 - (RowKit.intOf i).toNat)
  case atStart => exact ⟨0, Nat.zero_le _, rfl, str_one zs, Fur.refl _⟩
  case round =>
    obtain ⟨k, hk, rfl, HD, hf⟩ := hrel
    by_cases hlt : k + 1 < zs.length
    · obtain ⟨b, off, rfl, hb, hc⟩ := (hs.on hf).at_ (by omega)
      have c0 := hc k (by omega)
      have c1 := hc (k + 1) hlt
      clear hc
      have hbad := str_bad (zs := zs) k hlt
      have hdn := str_snoc k hlt HD.out
      obtain ⟨y, hy⟩ : ∃ y, zs.getD k 0 = y := ⟨_, rfl⟩
      obtain ⟨z, hz⟩ : ∃ z, zs.getD (k + 1) 0 = z := ⟨_, rfl⟩
      rw [hy] at c0 hbad hdn
      rw [hz] at c1 hbad hdn
      clear hy hz
      have i1 : (k : Int) + 1 < zs.length := by omega
      have i0 : (k : Int) < zs.length := by omega
      have p0 : (0 : Int) ≤ (k : Int) := by omega
      have p1 : (0 : Int) ≤ (k : Int) + 1 := by omega
      have t1 : ((k : Int) + 1).toNat = k + 1 := by omega
      have t2 : (k : Int) + 1 - 1 = k := by omega
      by_cases h : y < z
      · have HN := Lib.hid (hdn h)
        have h' : ¬ (z ≤ y) := by omega
        clear hbad hdn
        go_wp2
        go_region
        go_wp2
        go_roundw
        case rel => exact ⟨k + 1, by omega, by go_num, HN.out, hf.drew⟩
        case measure => simp [RowKit.intOf]; omega
      · have HB := Lib.hid (hbad h)
        have h' : z ≤ y := by omega
        clear hbad hdn
        go_wp2
        go_region
        go_wp2
        go_ret
        exact ⟨ret_bool HB.out.symm, hf.drew⟩
    · have HE := Lib.hid (str_end k (by omega) HD.out)
      have i1 : ¬ ((k : Int) + 1 < zs.length) := by omega
      go_wp2
      go_ret
      exact ⟨ret_bool HE.out.symm, hf⟩

set_option maxHeartbeats 1600000 in
theorem seek_any (ao : Option Addr) (zs : List Int) (cap : Nat) (fr x : Int) (w : World) (hs : IsS w ao zs cap) :
    Calls Try.prog 24 #[.slice ao zs.length cap, .int .i64 fr, .int .i64 x] w fun e w' => e = .returned (.int .i64 (seekN zs fr.toNat x)) ∧ w = w' := by
  have hmax : zs.length ≤ 9223372036854775807 := by have := hs.le; have := hs.max; unfold maxLen at this; omega
  have hgo : ∀ f : Nat, fr.toNat = f → (0 ≤ fr ∧ fr = f ∨ fr < 0 ∧ f = 0) → Calls Try.prog 24 #[.slice ao zs.length cap, .int .i64 fr, .int .i64 x] w fun e w' => e = .returned (.int .i64 (seekN zs f x)) ∧ w = w' := by
    intro f _ hf
    generalize hr : seekN zs f x = r
    have HR := Lib.hid hr
    clear hr
    have hm : max fr 0 = (f : Int) := by omega
    rcases hf with ⟨h0, rfl⟩ | ⟨h0, rfl⟩
    all_goals
      go_enter Try.func24, Try.ntmps24
      go_wp2
      go_loop [7] (fun i => ∃ k : Nat, i = .int .i64 k ∧ Hid (seekN zs k x = r)) (fun i => zs.length - (RowKit.intOf i).toNat)
      case atStart => exact ⟨_, rfl, HR.out⟩
      case round =>
        obtain ⟨k, rfl, HD⟩ := hrel
        by_cases hlt : k < zs.length
        · obtain ⟨b, off, rfl, hb, hc⟩ := hs.at_ (by omega)
          have c0 := hc k hlt
          clear hc
          have hyes := seek_yes (x := x) k hlt
          have hno := seek_no (x := x) k hlt
          obtain ⟨z, hz⟩ : ∃ z, zs.getD k 0 = z := ⟨_, rfl⟩
          rw [hz] at c0 hyes hno
          clear hz
          by_cases h : x ≤ z
          · have HY := Lib.hid ((hyes h).symm.trans HD.out)
            clear hyes hno
            go_wp2
            go_ret
            exact ⟨ret_int (congrArg Int.ofNat HY.out), rfl⟩
          · have HY := Lib.hid ((hno h).symm.trans HD.out)
            clear hyes hno
            go_wp2
            go_round
            case rel => exact ⟨k + 1, by go_num, HY.out⟩
            case measure => simp [RowKit.intOf]; omega
        · have HY := Lib.hid ((seek_out (x := x) k (by omega)).symm.trans HD.out)
          go_wp2
          go_ret
          exact ⟨ret_int (congrArg Int.ofNat HY.out), rfl⟩
  exact hgo fr.toNat rfl (by omega)

set_option maxHeartbeats 1600000 in
theorem rseek_any (ao : Option Addr) (zs : List Int) (cap : Nat) (fr x : Int) (w : World) (hs : IsS w ao zs cap) :
    Calls Try.prog 25 #[.slice ao zs.length cap, .int .i64 fr, .int .i64 x] w fun e w' => e = .returned (.int .i64 (seekN zs fr.toNat x)) ∧ w = w' := by
  have hmax : zs.length ≤ 9223372036854775807 := by have := hs.le; have := hs.max; unfold maxLen at this; omega
  have hgo : ∀ f : Nat, fr.toNat = f → (0 ≤ fr ∧ fr = f ∨ fr < 0 ∧ f = 0) → Calls Try.prog 25 #[.slice ao zs.length cap, .int .i64 fr, .int .i64 x] w fun e w' => e = .returned (.int .i64 (seekN zs f x)) ∧ w = w' := by
    intro f _ hf
    generalize hr : seekN zs f x = r
    have HR := Lib.hid hr
    clear hr
    have hm : max fr 0 = (f : Int) := by omega
    rcases hf with ⟨h0, rfl⟩ | ⟨h0, rfl⟩
    all_goals
      go_enter Try.func25, Try.ntmps25
      go_wp2
      go_loop [7] (fun i => ∃ k : Nat, i = .int .i64 k ∧ Hid (seekN zs k x = r)) (fun i => zs.length - (RowKit.intOf i).toNat)
      case atStart => exact ⟨_, rfl, HR.out⟩
      case round =>
        obtain ⟨k, rfl, HD⟩ := hrel
        by_cases hlt : k < zs.length
        · obtain ⟨b, off, rfl, hb, hc⟩ := hs.at_ (by omega)
          have c0 := hc k hlt
          clear hc
          have hyes := seek_yes (x := x) k hlt
          have hno := seek_no (x := x) k hlt
          obtain ⟨z, hz⟩ : ∃ z, zs.getD k 0 = z := ⟨_, rfl⟩
          rw [hz] at c0 hyes hno
          clear hz
          by_cases h : x ≤ z
          · have HY := Lib.hid ((hyes h).symm.trans HD.out)
            clear hyes hno
            go_wp2
            go_ret
            exact ⟨ret_int (congrArg Int.ofNat HY.out), rfl⟩
          · have HY := Lib.hid ((hno h).symm.trans HD.out)
            clear hyes hno
            go_wp2
            go_round
            case rel => exact ⟨k + 1, by go_num, HY.out⟩
            case measure => simp [RowKit.intOf]; omega
        · have HY := Lib.hid ((seek_out (x := x) k (by omega)).symm.trans HD.out)
          go_wp2
          go_ret
          exact ⟨ret_int (congrArg Int.ofNat HY.out), rfl⟩
  exact hgo fr.toNat rfl (by omega)

theorem has_snoc {zs : List Int} {x : Int} (k : Nat) (h : k < zs.length) (hn : (zs.take k).contains x = false) (hx : ¬ zs.getD k 0 = x) : (zs.take (k + 1)).contains x = false := by
  rw [getD_at h] at hx
  cases hb : (zs.take (k + 1)).contains x
  · rfl
  · have h1 := List.contains_iff_mem.1 hb
    rw [List.take_succ_eq_append_getElem h] at h1
    rcases List.mem_append.1 h1 with h2 | h2
    · rw [List.contains_iff_mem.2 h2] at hn
      cases hn
    · exact absurd (List.mem_singleton.1 h2).symm hx
theorem has_yes {zs : List Int} {x : Int} (k : Nat) (h : k < zs.length) (hx : zs.getD k 0 = x) : zs.contains x = true := by
  rw [getD_at h] at hx
  simp
  rw [← hx]
  exact List.getElem_mem h
set_option maxHeartbeats 1600000 in
theorem rhas_any (ao : Option Addr) (zs : List Int) (cap : Nat) (x : Int) (w : World) (hs : IsS w ao zs cap) :
    Calls Try.prog 14 #[.slice ao zs.length cap, .int .i64 x] w fun e w' => e = .returned (.bool (zs.contains x)) ∧ w = w' := by
  have hmax : zs.length ≤ 9223372036854775807 := by have := hs.le; have := hs.max; unfold maxLen at this; omega
  generalize hr : zs.contains x = r
  have HR := Lib.hid hr
  clear hr
  go_enter Try.func14, Try.ntmps14
  go_wp2
  go_loop [5] (fun i => ∃ k : Nat, k ≤ zs.length ∧ i = .int .i64 k ∧ Hid ((zs.take k).contains x = false)) (fun i => zs.length - (RowKit.intOf i).toNat)
  case atStart => exact ⟨0, Nat.zero_le _, rfl, rfl⟩
  case round =>
    obtain ⟨k, hk, rfl, HD⟩ := hrel
    by_cases hlt : k < zs.length
    · obtain ⟨b, off, rfl, hb, hc⟩ := hs.at_ (by omega)
      have c0 := hc k hlt
      clear hc
      have hyes := has_yes (x := x) k hlt
      have hno := has_snoc (x := x) k hlt HD.out
      obtain ⟨z, hz⟩ : ∃ z, zs.getD k 0 = z := ⟨_, rfl⟩
      rw [hz] at c0 hyes hno
      clear hz
      by_cases h : z = x
      · have HY := Lib.hid ((hyes h).symm.trans HR.out)
        have hb : (z == x) = true := by simpa using h
        clear hyes hno h
        go_wp2
        go_ret
        exact ⟨ret_bool HY.out, rfl⟩
      · have HY := Lib.hid (hno h)
        have hb : (z == x) = false := by simpa using h
        clear hyes hno
        go_wp2
        go_round
        case rel => exact ⟨k + 1, by omega, by go_num, HY.out⟩
        case measure => simp [RowKit.intOf]; omega
    · have HY := Lib.hid (show false = r by
        have h := HD.out
        rw [List.take_of_length_le (by omega)] at h
        rw [← h]
        exact HR.out)
      go_wp2
      go_ret
      exact ⟨ret_bool HY.out, rfl⟩
set_option maxHeartbeats 1600000 in
theorem has_any (ao : Option Addr) (zs : List Int) (cap : Nat) (x : Int) (w : World) (hs : IsS w ao zs cap) :
    Calls Try.prog 13 #[.slice ao zs.length cap, .int .i64 x] w fun e w' => e = .returned (.bool (zs.contains x)) ∧ w = w' := by
  have hmax : zs.length ≤ 9223372036854775807 := by have := hs.le; have := hs.max; unfold maxLen at this; omega
  have hc : Calls Try.prog 28 #[.slice ao zs.length cap, .int .i64 x] w fun e w' => e = .returned (.bool (zs.contains x)) ∧ w' = w := by
    rcases Nat.eq_zero_or_pos zs.length with h0 | h0
    · have e := List.length_eq_zero_iff.1 h0
      subst e
      exact Try.slices_Contains_int_empty ao cap x w
    · obtain ⟨b, off, rfl, _, hc⟩ := hs.at_ h0
      have h := Try.slices_Contains_int b off zs.length cap zs x w (Nat.le_refl _) hmax hc
      rwa [List.take_length] at h
  generalize zs.contains x = r at hc ⊢
  have HC := Lib.hid hc
  clear hc
  go_enter Try.func13, Try.ntmps13
  go_wp2_with fail
  go_at_call 28; refine HC.out.mono ?_; rintro e w4 ⟨rfl, rfl⟩
  go_wp2
  go_ret
  exact ⟨rfl, rfl⟩

theorem same_take {a b : List Int} (k : Nat) (ha : k < a.length) (hb : k < b.length) (h : a.take k = b.take k) (e : a.getD k 0 = b.getD k 0) : a.take (k + 1) = b.take (k + 1) := by
  rw [List.take_succ_eq_append_getElem ha, List.take_succ_eq_append_getElem hb, h]
  rw [getD_at ha, getD_at hb] at e
  rw [e]
theorem same_not {a b : List Int} (k : Nat) (e : a.getD k 0 ≠ b.getD k 0) : decide (a = b) = false := by
  rw [decide_eq_false_iff_not]; intro h; rw [h] at e; exact e rfl

set_option maxHeartbeats 800000 in
theorem same_any (ao bo : Option Addr) (a b : List Int) (ca cb : Nat) (w : World) (ha : IsS w ao a ca) (hb : IsS w bo b cb) :
    Calls Try.prog 15 #[.slice ao a.length ca, .slice bo b.length cb] w fun e w' => e = .returned (.bool (decide (a = b))) ∧ Fur w w' := by
  have hmax : a.length ≤ 9223372036854775807 := by have := ha.le; have := ha.max; unfold maxLen at this; omega
  by_cases hl : a.length = b.length
  · have hmax2 : b.length ≤ 9223372036854775807 := by omega
    have hne : ((a.length : Int) != (b.length : Int)) = false := by simp; omega
    have HL := Lib.hid hl
    have hl1 : a.length ≤ b.length := by omega
    have hl2 : b.length ≤ a.length := by omega
    clear hl
    go_enter Try.func15, Try.ntmps15
    go_wp2
    go_loopw [5] (fun i wr => ∃ k : Nat, k ≤ a.length ∧ i = .int .i64 k ∧ Hid (a.take k = b.take k) ∧ Fur w wr) (fun i _ => a.length - (RowKit.intOf i).toNat)
    case atStart => exact ⟨0, Nat.zero_le _, rfl, rfl, Fur.refl _⟩
    case round =>
      obtain ⟨k, hk, rfl, HT, hf⟩ := hrel
      by_cases hlt : k < a.length
      · obtain ⟨b1, o1, rfl, _, c1⟩ := (ha.on hf).at_ (by omega)
        obtain ⟨b2, o2, rfl, _, c2⟩ := (hb.on hf).at_ (by omega)
        have hc1 := c1 k hlt
        have hc2 := c2 k (by omega)
        clear c1 c2
        have hno := same_not (a := a) (b := b) k
        have hyes := same_take k hlt (by omega) HT.out
        obtain ⟨y, hy⟩ : ∃ y, a.getD k 0 = y := ⟨_, rfl⟩
        obtain ⟨z, hz⟩ : ∃ z, b.getD k 0 = z := ⟨_, rfl⟩
        rw [hy] at hc1 hno hyes
        rw [hz] at hc2 hno hyes
        clear hy hz
        have hkb : k < b.length := by omega
        by_cases he : y = z
        · subst he
          have HY := Lib.hid (hyes rfl)
          clear hno hyes
          go_wp2
          go_region
          go_wp2
          go_roundw
          case rel => exact ⟨k + 1, by omega, by go_num, HY.out, hf.drew⟩
          case measure => simp [RowKit.intOf]; omega
        · have HN := Lib.hid (hno he)
          have hyz : (y != z) = true := by simpa using he
          clear hno hyes
          go_wp2
          go_region
          go_wp2
          go_ret
          exact ⟨ret_bool HN.out.symm, hf.drew⟩
      · have e : k = a.length := by omega
        subst e
        have HE := Lib.hid (show a = b by
          have h := HT.out
          rw [List.take_length, HL.out, List.take_length] at h
          exact h)
        go_wp2
        go_ret
        exact ⟨ret_bool (decide_eq_true HE.out).symm, hf⟩
  · have hne : ((a.length : Int) != (b.length : Int)) = true := by simp; omega
    have e : decide (a = b) = false := by rw [decide_eq_false_iff_not]; intro h; rw [h] at hl; exact hl rfl
    have hmax2 : b.length ≤ 9223372036854775807 := by have := hb.le; have := hb.max; unfold maxLen at this; omega
    rw [e]
    clear e hl
    go_enter Try.func15, Try.ntmps15
    go_wp2
    go_ret
    exact ⟨rfl, Fur.refl _⟩
end Go.Proofs.Ytmmkcnohicfjeaa
