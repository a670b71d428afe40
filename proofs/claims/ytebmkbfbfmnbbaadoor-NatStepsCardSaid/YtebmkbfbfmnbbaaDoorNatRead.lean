/-
  The reference's functions on limbs that only read: Valid tells the valid lists, Same tells equal lists, limb gives a limb or 0. For every slice of int; nothing that was there turns.
-/
import Derived.Test.YtebmkbfbfmnbbaaDoorNatMem
import Derived.Test.YtebmkbfbfmnbbaaDoorProg
import Derived.WalkKit
import Derived.BigCall
import Derived.BigQuiet
import Derived.RegionTactic
import Derived.LoopTactic
import Derived.Deep.QuietTactic
namespace Go.Proofs.YtebmkbfbfmnbbaaDoor
open Go.RowKit

theorem getD_at {l : List Int} {k : Nat} (hk : k < l.length) : l.getD k 0 = l[k] := by rw [List.getD_eq_getElem?_getD, List.getElem?_eq_getElem hk]; rfl
theorem okL_long {l : List Int} (h : 64 < l.length) : okL l = false := by
  cases hk : okL l
  · rfl
  · have := (okL_t hk).1; omega
theorem okL_bad {l : List Int} (k : Nat) (hk : k < l.length) (h : l.getD k 0 < 0 ∨ 1000000000 ≤ l.getD k 0) : okL l = false := by
  cases ho : okL l
  · rfl
  · have := (okL_t ho).2.1 (l.getD k 0) (by rw [getD_at hk]; exact List.getElem_mem hk)
    omega
theorem digs_snoc {l : List Int} (k : Nat) (hk : k < l.length) (h : Digs (l.take k)) (h0 : 0 ≤ l.getD k 0) (h1 : l.getD k 0 < 1000000000) : Digs (l.take (k + 1)) := by
  rw [List.take_succ_eq_append_getElem hk]
  refine digs_app h (digs_one ?_ ?_) <;> rw [getD_at hk] at h0 h1 <;> assumption
theorem okL_end {l : List Int} (h64 : l.length ≤ 64) (hd : Digs (l.take l.length)) (hl : 0 < l.length) : okL l = (l.getD (l.length - 1) 0 != 0) := by
  rw [List.take_length] at hd
  have e : l.getLast? = some (l.getD (l.length - 1) 0) := by
    rw [List.getLast?_eq_getElem?, getD_at (by omega), List.getElem?_eq_getElem]
  cases hb : (l.getD (l.length - 1) 0 != 0)
  · cases ho : okL l
    · rfl
    · have k := (okL_t ho).2.2
      rw [e] at k
      simp at hb
      exact absurd (by rw [List.getD_eq_getElem?_getD, hb]) k
  · refine okL_mk h64 hd ?_
    rw [e]
    intro k
    injection k with k
    rw [k] at hb
    cases hb

set_option maxHeartbeats 800000 in
theorem valid_any (ao : Option Addr) (zs : List Int) (cap : Nat) (w : World) (hs : IsS w ao zs cap) :
    Calls Tryd.prog 24 #[.slice ao zs.length cap] w fun e w' => e = .returned (.bool (okL zs)) ∧ w = w' := by
  have hmax : zs.length ≤ 9223372036854775807 := by have := hs.le; have := hs.max; unfold maxLen at this; omega
  by_cases h64 : 64 < zs.length
  · rw [okL_long h64]
    go_enter Tryd.func24, Tryd.ntmps24
    go_wp2
    go_ret
    exact ⟨rfl, rfl⟩
  have h64' : zs.length ≤ 64 := by omega
  clear h64
  go_enter Tryd.func24, Tryd.ntmps24
  go_wp2
  go_loop [3] (fun i => ∃ k : Nat, k ≤ zs.length ∧ i = .int .i64 k ∧ Hid (Digs (zs.take k))) (fun i => zs.length - (RowKit.intOf i).toNat)
  case atStart => exact ⟨0, Nat.zero_le _, rfl, digs_nil⟩
  case round =>
    obtain ⟨k, hk, rfl, HD⟩ := hrel
    by_cases hlt : k < zs.length
    · obtain ⟨b, off, rfl, hb, hc⟩ := hs.at_ (by omega)
      have hck := hc k hlt
      clear hc
      have hbad := okL_bad k hlt
      have hdn := digs_snoc k hlt HD.out
      obtain ⟨z, hz⟩ : ∃ z, zs.getD k 0 = z := ⟨_, rfl⟩
      rw [hz] at hck hbad hdn
      clear hz
      by_cases h0 : z < 0
      · have HB := Lib.hid (hbad (.inl h0))
        clear hbad hdn
        go_wp2
        go_ret
        exact ⟨ret_bool HB.out.symm, rfl⟩
      · by_cases h1 : 1000000000 ≤ z
        · have HB := Lib.hid (hbad (.inr h1))
          clear hbad hdn
          go_wp2
          go_ret
          exact ⟨ret_bool HB.out.symm, rfl⟩
        · have HN := Lib.hid (hdn (by omega) (by omega))
          clear hbad hdn
          go_wp2
          go_round
          case rel => exact ⟨k + 1, by omega, by go_num, HN.out⟩
          case measure => simp [RowKit.intOf]; omega
    · have e : k = zs.length := by omega
      subst e
      by_cases hp : 0 < zs.length
      · obtain ⟨b, off, rfl, hb, hc⟩ := hs.at_ hp
        have hck := hc (zs.length - 1) (by omega)
        clear hc
        have he := okL_end h64' HD.out hp
        obtain ⟨y, hy⟩ : ∃ y, zs.getD (zs.length - 1) 0 = y := ⟨_, rfl⟩
        rw [hy] at he hck
        have HE := Lib.hid he
        have hne : ((zs.length : Int) == 0) = false := by rw [beq_eq_false_iff_ne]; omega
        clear he hy
        go_wp2
        go_ret
        exact ⟨ret_bool HE.out.symm, rfl⟩
      · have e0 : zs = [] := List.length_eq_zero_iff.1 (by omega)
        subst e0
        go_wp2
        go_ret
        exact ⟨rfl, rfl⟩

theorem same_take {a b : List Int} (k : Nat) (ha : k < a.length) (hb : k < b.length) (h : a.take k = b.take k) (e : a.getD k 0 = b.getD k 0) : a.take (k + 1) = b.take (k + 1) := by
  rw [List.take_succ_eq_append_getElem ha, List.take_succ_eq_append_getElem hb, h]
  rw [getD_at ha, getD_at hb] at e
  rw [e]
theorem same_not {a b : List Int} (k : Nat) (e : a.getD k 0 ≠ b.getD k 0) : decide (a = b) = false := by
  rw [decide_eq_false_iff_not]; intro h; rw [h] at e; exact e rfl

set_option maxHeartbeats 800000 in
theorem same_any (ao bo : Option Addr) (a b : List Int) (ca cb : Nat) (w : World) (ha : IsS w ao a ca) (hb : IsS w bo b cb) :
    Calls Tryd.prog 18 #[.slice ao a.length ca, .slice bo b.length cb] w fun e w' => e = .returned (.bool (decide (a = b))) ∧ Fur w w' := by
  have hmax : a.length ≤ 9223372036854775807 := by have := ha.le; have := ha.max; unfold maxLen at this; omega
  by_cases hl : a.length = b.length
  · have hmax2 : b.length ≤ 9223372036854775807 := by omega
    have hne : ((a.length : Int) != (b.length : Int)) = false := by simp; omega
    have HL := Lib.hid hl
    have hl1 : a.length ≤ b.length := by omega
    have hl2 : b.length ≤ a.length := by omega
    clear hl
    go_enter Tryd.func18, Tryd.ntmps18
    go_wp2
    go_loopw [5] (fun i wr => ∃ k : Nat, k ≤ a.length ∧ i = .int .i64 k ∧ Hid (a.take k = b.take k) ∧ Fur w wr) (fun i _ => a.length - (RowKit.intOf i).toNat)
    case atStart => exact ⟨0, Nat.zero_le _, rfl, rfl, Fur.refl _⟩
    case round =>
      obtain ⟨k, hk, rfl, HT, hf⟩ := hrel
      by_cases hlt : k < a.length
      · obtain ⟨b1, o1, rfl, _, c1⟩ := (ha.on hf).at_ (by omega)
        obtain ⟨b2, o2, rfl, _, c2⟩ := (hb.on hf).at_ (by omega)
        have hc1 := c1 k hlt
        have hc2 := c2 k (by omega)
        clear c1 c2
        have hno := same_not (a := a) (b := b) k
        have hyes := same_take k hlt (by omega) HT.out
        obtain ⟨y, hy⟩ : ∃ y, a.getD k 0 = y := ⟨_, rfl⟩
        obtain ⟨z, hz⟩ : ∃ z, b.getD k 0 = z := ⟨_, rfl⟩
        rw [hy] at hc1 hno hyes
        rw [hz] at hc2 hno hyes
        clear hy hz
        have hkb : k < b.length := by omega
        by_cases he : y = z
        · subst he
          have HY := Lib.hid (hyes rfl)
          clear hno hyes
          go_wp2
          go_region
          go_wp2
          go_roundw
          case rel => exact ⟨k + 1, by omega, by go_num, HY.out, hf.drew⟩
          case measure => simp [RowKit.intOf]; omega
        · have HN := Lib.hid (hno he)
          have hyz : (y != z) = true := by simpa using he
          clear hno hyes
          go_wp2
          go_region
          go_wp2
          go_ret
          exact ⟨ret_bool HN.out.symm, hf.drew⟩
      · have e : k = a.length := by omega
        subst e
        have HE := Lib.hid (show a = b by
          have h := HT.out
          rw [List.take_length, HL.out, List.take_length] at h
          exact h)
        go_wp2
        go_ret
        exact ⟨ret_bool (decide_eq_true HE.out).symm, hf⟩
  · have hne : ((a.length : Int) != (b.length : Int)) = true := by simp; omega
    have e : decide (a = b) = false := by rw [decide_eq_false_iff_not]; intro h; rw [h] at hl; exact hl rfl
    have hmax2 : b.length ≤ 9223372036854775807 := by have := hb.le; have := hb.max; unfold maxLen at this; omega
    rw [e]
    clear e hl
    go_enter Tryd.func18, Tryd.ntmps18
    go_wp2
    go_ret
    exact ⟨rfl, Fur.refl _⟩

theorem limb_any (ao : Option Addr) (zs : List Int) (cap : Nat) (i : Nat) (w : World) (hs : IsS w ao zs cap) :
    Calls Tryd.prog 37 #[.slice ao zs.length cap, .int .i64 i] w fun e w' => e = .returned (.int .i64 (zs.getD i 0)) ∧ w = w' := by
  have hmax : zs.length ≤ 9223372036854775807 := by have := hs.le; have := hs.max; unfold maxLen at this; omega
  by_cases h : i < zs.length
  · obtain ⟨b, off, rfl, _, hc⟩ := hs.at_ (by omega)
    have hck := hc i h
    clear hc
    obtain ⟨z, hz⟩ : ∃ z, zs.getD i 0 = z := ⟨_, rfl⟩
    rw [hz] at hck
    rw [hz]
    clear hz
    go_enter Tryd.func37, Tryd.ntmps37
    go_wp2
    go_ret
    exact ⟨rfl, rfl⟩
  · have e : zs.getD i 0 = 0 := by rw [List.getD_eq_getElem?_getD, List.getElem?_eq_none (by omega)]; rfl
    rw [e]
    have h' : zs.length ≤ i := by omega
    clear e h
    go_enter Tryd.func37, Tryd.ntmps37
    go_wp2
    go_ret
    exact ⟨rfl, rfl⟩

/-- What 'bounded' gives: the list, if it is not too long. -/
def bdL (l : List Int) : List Int := if l.length ≤ 64 then l else []
def bdB (l : List Int) : Bool := decide (l.length ≤ 64)
theorem bounded_any (ao : Option Addr) (zs : List Int) (cap : Nat) (w : World) (hs : IsS w ao zs cap) :
    Calls Tryd.prog 38 #[.slice ao zs.length cap] w (RetSB w (bdL zs) (bdB zs)) := by
  have hmax : zs.length ≤ 9223372036854775807 := by have := hs.le; have := hs.max; unfold maxLen at this; omega
  by_cases h : zs.length ≤ 64
  · have e1 : bdL zs = zs := by unfold bdL; rw [if_pos h]
    have e2 : bdB zs = true := by unfold bdB; exact decide_eq_true h
    rw [e1, e2]; clear e1 e2
    go_enter Tryd.func38, Tryd.ntmps38
    go_wp2
    go_ret2
    exact ⟨_, _, rfl, hs, Fur.refl _⟩
  · have e1 : bdL zs = [] := by unfold bdL; rw [if_neg h]
    have e2 : bdB zs = false := by unfold bdB; exact decide_eq_false h
    rw [e1, e2]; clear e1 e2
    have h' : 64 < zs.length := by omega
    clear h
    go_enter Tryd.func38, Tryd.ntmps38
    go_wp2
    go_ret2
    exact ⟨none, 0, rfl, IsS.empty _, Fur.refl _⟩
end Go.Proofs.YtebmkbfbfmnbbaaDoor
