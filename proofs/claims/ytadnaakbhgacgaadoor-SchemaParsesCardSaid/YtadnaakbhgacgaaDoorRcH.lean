/-
  The reference of package schema: words and errors of kinds, labels (word, kind, label, some, Fault). Nothing that was there turns.
-/
import Derived.Test.YtadnaakbhgacgaaDoorScL
namespace Go.Proofs.YtadnaakbhgacgaaDoor
open Go.RowKit

theorem rflt (k : Int) (w : World) : Calls Tryd.prog 13 #[.int .i64 k] w (PureI w (fltR k)) := by
  by_cases h : k = 1 ∨ k = 2 ∨ k = 3 ∨ k = 4 ∨ k = 5 ∨ k = 6 ∨ k = 7
  · rcases h with rfl | rfl | rfl | rfl | rfl | rfl | rfl
    all_goals
      go_enter Tryd.func13, Tryd.ntmps13
      go_wp2
      go_ret
      exact ⟨rfl, rfl⟩
  · have n1 : ¬ k = 1 := fun e => h (.inl e)
    have n2 : ¬ k = 2 := fun e => h (.inr (.inl e))
    have n3 : ¬ k = 3 := fun e => h (.inr (.inr (.inl e)))
    have n4 : ¬ k = 4 := fun e => h (.inr (.inr (.inr (.inl e))))
    have n5 : ¬ k = 5 := fun e => h (.inr (.inr (.inr (.inr (.inl e)))))
    have n6 : ¬ k = 6 := fun e => h (.inr (.inr (.inr (.inr (.inr (.inl e))))))
    have n7 : ¬ k = 7 := fun e => h (.inr (.inr (.inr (.inr (.inr (.inr e))))))
    have HE := Lib.hid (show fltR k = 0 by unfold fltR; simp [n1, n2, n3, n4, n5, n6, n7])
    clear h
    go_enter Tryd.func13, Tryd.ntmps13
    go_wp2
    go_ret
    exact ⟨ret_int HE.out.symm, rfl⟩
theorem rlabel (s : List UInt8) (w : World) : Calls Tryd.prog 37 #[.string (bs s)] w (PureT w (bs (endW s))) := by
  unfold endW
  cases e : s.isEmpty with
  | true =>
    obtain rfl : s = [] := List.isEmpty_iff.1 e
    show Calls Tryd.prog 37 #[.string ⟨#[]⟩] w (PureT w ⟨#[42]⟩)
    clear e
    go_enter Tryd.func37, Tryd.ntmps37
    go_wp2
    go_ret
    exact ⟨rfl, rfl⟩
  | false =>
    rw [if_neg Bool.false_ne_true]
    have e1 : ¬ (bs s).toList = [] := by rw [bs_list]; rintro rfl; cases e
    have e2 : (bs s).toList.isEmpty = false := by rw [bs_list]; exact e
    clear e
    go_enter Tryd.func37, Tryd.ntmps37
    go_wp2
    go_ret
    exact ⟨rfl, rfl⟩
theorem rsome (s : List UInt8) (w : World) : Calls Tryd.prog 66 #[.string (bs s)] w (PureT w (bs (endO s))) := by
  unfold endO
  by_cases e : s = [42]
  · subst e
    rw [if_pos rfl]
    show Calls Tryd.prog 66 #[.string ⟨#[42]⟩] w (PureT w ⟨#[]⟩)
    go_enter Tryd.func66, Tryd.ntmps66
    go_wp2
    go_ret
    exact ⟨rfl, rfl⟩
  · rw [if_neg e]
    have e1 : ¬ (bs s).toList = [42] := by rw [bs_list]; exact e
    have e2 : ((bs s).toList == [42]) = false := by rw [bs_list]; simpa using e
    clear e
    go_enter Tryd.func66, Tryd.ntmps66
    go_wp2
    go_ret
    exact ⟨rfl, rfl⟩
theorem rkind (s : List UInt8) (w : World) : Calls Tryd.prog 65 #[.string (bs s)] w (PureI w (kwN s)) := by
  unfold kwN
  by_cases e1 : s = [98, 111, 111, 108]
  · subst e1
    rw [if_pos rfl]
    show Calls Tryd.prog 65 #[.string ⟨#[98, 111, 111, 108]⟩] w (PureI w 1)
    go_enter Tryd.func65, Tryd.ntmps65
    go_wp2
    go_ret
    exact ⟨rfl, rfl⟩
  · by_cases e2 : s = [105, 110, 116]
    · subst e2
      show Calls Tryd.prog 65 #[.string ⟨#[105, 110, 116]⟩] w (PureI w 2)
      clear e1
      go_enter Tryd.func65, Tryd.ntmps65
      go_wp2
      go_ret
      exact ⟨rfl, rfl⟩
    · by_cases e3 : s = [115, 116, 114]
      · subst e3
        show Calls Tryd.prog 65 #[.string ⟨#[115, 116, 114]⟩] w (PureI w 4)
        clear e1 e2
        go_enter Tryd.func65, Tryd.ntmps65
        go_wp2
        go_ret
        exact ⟨rfl, rfl⟩
      · rw [if_neg e1, if_neg e2, if_neg e3]
        have f1 : ((bs s).toList == [98, 111, 111, 108]) = false := by rw [bs_list]; simpa using e1
        have f2 : ((bs s).toList == [105, 110, 116]) = false := by rw [bs_list]; simpa using e2
        have f3 : ((bs s).toList == [115, 116, 114]) = false := by rw [bs_list]; simpa using e3
        clear e1 e2 e3
        go_enter Tryd.func65, Tryd.ntmps65
        go_wp2
        go_ret
        exact ⟨rfl, rfl⟩
theorem rword (n : Int) (h : kwV n = true) (w : World) : Calls Tryd.prog 36 #[.int .i64 n] w (PureT w (bs (kwW n))) := by
  rcases kwV_cases n with ⟨-, rfl | rfl | rfl⟩ | ⟨k, -⟩
  · go_enter Tryd.func36, Tryd.ntmps36
    go_wp2
    go_ret
    exact ⟨rfl, rfl⟩
  · go_enter Tryd.func36, Tryd.ntmps36
    go_wp2
    go_ret
    exact ⟨rfl, rfl⟩
  · go_enter Tryd.func36, Tryd.ntmps36
    go_wp2
    go_ret
    exact ⟨rfl, rfl⟩
  · rw [k] at h; cases h
end Go.Proofs.YtadnaakbhgacgaaDoor
