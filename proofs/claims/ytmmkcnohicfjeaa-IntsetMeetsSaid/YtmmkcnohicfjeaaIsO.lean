/-
  Package intset: Of gives the set of a slice's elements as a new slice, out of the library's Clone, Sort and Compact. For every slice of at most 1,000,000 ints; nothing that was there turns.
-/
import Derived.Test.YtmmkcnohicfjeaaIsR
namespace Go.Proofs.Ytmmkcnohicfjeaa
open Go.RowKit

theorem infoI : (Try.prog.info? 3).map (fun i => (i.zero, i.size, i.bytes)) = some (some (.int .i64 0), 1, 8) := by kernel_rfl
/-- A result is a row of the call's own that holds zs; nothing that was there has turned. -/
def RetO (w : World) (zs : List Int) (e : Ending) (w' : World) : Prop := ∃ v, e = .returned v ∧ w'.ownsRow w.heap.size 3 1 v zs.length (cs zs) ∧ Fur w w'
def sortL (l : List Int) : List Int := l.mergeSort fun x y => decide (x ≤ y)
theorem sortL_len (l : List Int) : (sortL l).length = l.length := sort_len l

theorem clone_any (ao : Option Addr) (zs : List Int) (cap : Nat) (w : World) (hs : IsS w ao zs cap) (hl : zs.length ≤ 1000000) :
    Calls Try.prog 29 #[.slice ao zs.length cap] w (RetO w zs) := by
  rcases ao with _ | a
  · have h0 := hs.nil rfl
    have hle := hs.le
    have e : zs = [] := List.length_eq_zero_iff.1 (by omega)
    subst e
    refine (Try.slices_Clone_int_nil _ cap w).mono ?_
    rintro e w' ⟨rfl, rfl⟩
    exact ⟨_, rfl, World.ownsRow_nil _ _ _ _, Fur.refl _⟩
  · rcases Nat.eq_zero_or_pos zs.length with h0 | h0
    · have e := List.length_eq_zero_iff.1 h0
      subst e
      refine (Try.slices_Clone_int_zero a cap w).mono ?_
      rintro e w' ⟨v, rfl, hown, _, hb⟩
      exact ⟨v, rfl, hown, hb⟩
    · obtain ⟨b, off, e, _, hc⟩ := hs.at_ h0
      cases e
      refine (Try.slices_Clone_int b off zs.length cap zs w (Nat.le_refl _) (by omega) hc).mono ?_
      rintro e w' ⟨v, rfl, hown, _, hb⟩
      rw [List.take_length] at hown
      exact ⟨v, rfl, hown, hb⟩

theorem block_lt {w : World} {g : Nat} {o : Obj} (h : w.heap[g]? = some o) : g < w.heap.size := (Array.getElem?_eq_some_iff.1 h).1
theorem fur_grown {w0 w w' : World} {g : Nat} (F : Fur w0 w) (h : w.grownBy w' (some g)) (hg : w0.heap.size ≤ g) : Fur w0 w' :=
  Below.grown F h F.size (fun k hk => by cases hk; exact hg)

theorem sort_own {w0 w : World} {v : Value} {zs : List Int} (h : w.ownsRow w0.heap.size 3 1 v zs.length (cs zs)) (F : Fur w0 w) (hl : zs.length ≤ 1000000) :
    Calls Try.prog 30 #[v] w fun e w' => e = .returned (.tuple #[]) ∧ w'.ownsRow w0.heap.size 3 1 v (sortL zs).length (cs (sortL zs)) ∧ Fur w0 w' := by
  have hlen := h.1
  rcases h.2 with ⟨rfl, h0⟩ | ⟨g, cap, cur, rfl, hb, hh, h1, h2, h3, h4⟩
  · have e := List.length_eq_zero_iff.1 h0
    subst e
    have e0 : sortL [] = [] := by simp [sortL]
    rw [e0]
    refine (Try.slices_Sort_int_none none 0 w).mono ?_
    rintro e w' ⟨rfl, rfl⟩
    exact ⟨rfl, World.ownsRow_nil _ _ _ _, F⟩
  · have hH := holds_of_blockI (ss := zs) hh (by rw [Nat.mul_one] at h4; exact h4)
    refine (Try.slices_Sort_int g 0 cap zs w hH (block_lt hh) (by omega)).mono ?_
    rintro e w' ⟨rfl, n, os, rfl⟩
    refine ⟨rfl, ?_, fur_grown F (grownBy_sortedI _) hb⟩
    have k := ownsRow_sortedI (n := n) (os := os) (sortL_len zs) hb hh h1 h2 h3
    rw [sortL_len]
    exact k

theorem compact_own {w0 w : World} {v : Value} {zs : List Int} (h : w.ownsRow w0.heap.size 3 1 v zs.length (cs zs)) (F : Fur w0 w) (hl : zs.length ≤ 1000000) :
    Calls Try.prog 31 #[v] w (fun e w' => ∃ v', e = .returned v' ∧ w'.ownsRow w0.heap.size 3 1 v' (Lib.compact zs).length (cs (Lib.compact zs)) ∧ Fur w0 w') := by
  rcases h.2 with ⟨rfl, h0⟩ | ⟨g, cap, cur, rfl, hb, hh, h1, h2, h3, h4⟩
  · have e := List.length_eq_zero_iff.1 h0
    subst e
    refine (Try.slices_Compact_int_empty none 0 w).mono ?_
    rintro e w' ⟨rfl, rfl⟩
    exact ⟨_, rfl, World.ownsRow_nil _ _ _ _, F⟩
  · have hH := holds_of_blockI (ss := zs) hh (by rw [Nat.mul_one] at h4; exact h4)
    have hcl := Lib.compact_length_le zs
    refine (Try.slices_Compact_int g 0 cap zs w hH (by omega) h1).mono ?_
    rintro e w' ⟨rfl, q, rfl⟩
    have e1 : Sort.putRow (Value.int .i64) (Sort.ahead w q) g 0 (Lib.compact zs ++ List.replicate (zs.length - (Lib.compact zs).length) 0).toArray
        = Sort.grow (Sort.putRow (Value.int .i64) (Sort.ahead w q) g 0 (Lib.compact zs ++ List.replicate (zs.length - (Lib.compact zs).length) 0).toArray) #[] := (Sort.grow_empty _).symm
    rw [e1]
    refine ⟨_, rfl, ⟨by simp [cs], .inr ⟨g, cap, _, rfl, hb, heap_sortedI _ hh, by omega, h2, by simp [Sort.putCells, h3], ?_⟩⟩, fur_grown F (grownBy_sortedI _) hb⟩
    have hts : (Lib.compact zs ++ List.replicate (zs.length - (Lib.compact zs).length) 0).length = zs.length := by simp; omega
    have k := take_putCellsI cur (Lib.compact zs ++ List.replicate (zs.length - (Lib.compact zs).length) 0) (by rw [hts]; omega)
    have k2 := congrArg (List.take (Lib.compact zs).length) k
    rw [List.take_take, hts, Nat.min_eq_left hcl, List.map_append, List.take_left' (by simp)] at k2
    rw [Nat.mul_one]
    exact k2

theorem ofL_sort (l : List Int) : Lib.compact (sortL l) = ofL l := compact_sort l

set_option maxHeartbeats 800000 in
theorem of_own (ao : Option Addr) (zs : List Int) (cap : Nat) (w : World) (hs : IsS w ao zs cap) (hl : zs.length ≤ 1000000) :
    Calls Try.prog 16 #[.slice ao zs.length cap] w (RetO w (ofL zs)) := by
  have HC := Lib.hid (fun w1 v (h : w1.ownsRow w.heap.size 3 1 v zs.length (cs zs)) (F : Fur w w1) => sort_own h F hl)
  have hl2 : (sortL zs).length ≤ 1000000 := by rw [sortL_len]; exact hl
  have HD := Lib.hid (fun w1 v (h : w1.ownsRow w.heap.size 3 1 v (sortL zs).length (cs (sortL zs))) (F : Fur w w1) => compact_own h F hl2)
  rw [ofL_sort] at HD
  have HB := Lib.hid (clone_any ao zs cap w hs hl)
  clear hl hl2
  go_enter Try.func16, Try.ntmps16
  go_wp2_with fail
  go_at_call 29; refine HB.out.mono ?_; rintro e w1 ⟨v1, rfl, o1, f1⟩
  go_wp2_with fail
  go_at_call 30; refine (HC.out _ _ o1 f1).mono ?_; rintro e w2 ⟨rfl, o2, f2⟩
  go_wp2_with fail
  go_at_call 31; refine (HD.out _ _ o2 f2).mono ?_; rintro e w3 ⟨v3, rfl, o3, f3⟩
  go_wp2
  go_ret
  exact ⟨v3, rfl, o3, f3⟩
theorem ret_own {w : World} {zs : List Int} {e : Ending} {w' : World} (h : RetO w zs e w') : RetS w zs e w' := by
  obtain ⟨v, rfl, o, f⟩ := h
  obtain ⟨ao, cap, rfl, _, hI⟩ := IsS.of_own o
  exact ⟨ao, cap, rfl, hI, f⟩
theorem of_any (ao : Option Addr) (zs : List Int) (cap : Nat) (w : World) (hs : IsS w ao zs cap) (hl : zs.length ≤ 1000000) :
    Calls Try.prog 16 #[.slice ao zs.length cap] w (RetS w (ofL zs)) := (of_own ao zs cap w hs hl).mono fun _ _ => ret_own
end Go.Proofs.Ytmmkcnohicfjeaa
