/-
  The reference of package value: valid and Valid tell the valid values, for every value in memory. Nothing that was there turns.
-/
import Derived.Test.YtcadeijloobbmaaGreatRvF
namespace Go.Proofs.YtcadeijloobbmaaGreat
open Go.RowKit

theorem rlist_0 (l : List Vl) (ao : Option Addr) (cap : Nat) (w : World) : Calls Tryz.prog 139 #[.slice ao l.length cap, .int .i64 0] w (RetB w false) := by
  go_enter Tryz.func139, Tryz.ntmps139
  go_wp2
  go_ret
  exact ⟨rfl, Fur.refl _⟩
/-- valid, given what list answers. -/
theorem rvalid_by (m : Nat) (p : Bool) (k n d : Int) (s : List UInt8) (l : List Vl) (ao : Option Addr) (cap : Nat) (w : World) (hi : Vin (.mk k n d s l)) (hs : SlV w ao l cap)
    (hp : p = (decide (1 ≤ m) && decide (l.length ≤ 64) && okVs (m - 1) l))
    (HL : ∀ w', Fur w w' → Calls Tryz.prog 139 #[.slice ao l.length cap, .int .i64 (m : Int)] w' (RetB w' p)) :
    Calls Tryz.prog 112 #[vlv (.mk k n d s l) ao cap, .int .i64 (m : Int)] w (RetB w (okV m (.mk k n d s l))) := by
  by_cases h7 : k = 7
  · subst h7
    have e : okV m (.mk 7 n d s l) = (bareV n d s l false false false true && okP l) := by
      unfold okV okP
      rw [if_pos rfl, Bool.and_assoc, Bool.and_assoc, Bool.and_assoc]
    rw [e]
    exact rvk7 n d s l ao cap m w (okP l) (Lib.hid fun w' hf => rpath_any l ao cap w' (hs.on hf))
  by_cases h8 : k = 8
  · subst h8
    have e : okV m (.mk 8 n d s l) = (bareV n d s l false false false true && p) := by
      unfold okV
      rw [if_neg (by decide), if_pos rfl, hp, Bool.and_assoc, Bool.and_assoc, Bool.and_assoc]
    rw [e]
    exact rvk8 n d s l ao cap m w p (Lib.hid HL)
  have e : okV m (.mk k n d s l) = okFlat k n d s l := by
    unfold okV
    rw [if_neg h7, if_neg h8]
  rw [e]
  by_cases h0 : k = 0
  · subst h0; exact rvk0 n d s l ao cap m w
  by_cases h1 : k = 1
  · subst h1; exact rvk1 n d s l ao cap m w
  by_cases h2 : k = 2
  · subst h2; exact rvk2 n d s l ao cap m w
  by_cases h3 : k = 3
  · subst h3; exact rvk3 n d s l ao cap m w
  by_cases h4 : k = 4
  · subst h4; exact rvk4 n d s l ao cap m w hi.s
  by_cases h5 : k = 5
  · subst h5; exact rvk5 n d s l ao cap m w
  by_cases h6 : k = 6
  · subst h6; exact rvk6 n d s l ao cap m w
  have e2 : okFlat k n d s l = false := by
    unfold okFlat
    rw [if_neg h0, if_neg h1, if_neg h2, if_neg h3, if_neg h4, if_neg (by omega)]
  rw [e2]
  refine rvk_no (.mk k n d s l) ao cap m w fun j hj => ?_
  show k ≠ (j : Int)
  omega
theorem rvalid_all : ∀ m, m < 1000 → VP m
  | 0, _ => fun x ao cap w hi hs => by
    obtain ⟨k, n, d, s, l⟩ := x
    exact rvalid_by 0 false k n d s l ao cap w hi hs rfl (fun w' _ => rlist_0 l ao cap w')
  | m + 1, h => fun x ao cap w hi hs => by
    have ih := rvalid_all m (by omega)
    obtain ⟨k, n, d, s, l⟩ := x
    refine rvalid_by (m + 1) (decide (l.length ≤ 64) && okVs m l) k n d s l ao cap w hi hs ?_ (fun w' hf => rlist_any m (by omega) ih l ao cap w' (hs.on hf))
    rw [decide_eq_true (show 1 ≤ m + 1 by omega)]; rfl
theorem rokV_any (x : Vl) (ao : Option Addr) (cap : Nat) (w : World) (hi : Vin x) (hs : SlV w ao x.ll cap) :
    Calls Tryz.prog 88 #[vlv x ao cap] w (RetB w (okX x)) := by
  have k : ∀ w', Fur w w' → Calls Tryz.prog 112 #[vlv x ao cap, .int .i64 8] w' (RetB w' (okX x)) := fun w' hf => rvalid_all 8 (by decide) x ao cap w' hi (hs.on hf)
  obtain ⟨p0, f0⟩ := bx1 w x ao cap
  have HV := Lib.hid k
  clear k hs
  unfold vlv at *
  go_enter Tryz.func88, Tryz.ntmps88
  go_wp2_with fail
  go_at_call 112; refine (HV.out _ f0).mono ?_; rintro e1 w1 ⟨rfl, f1⟩
  go_wp2
  go_ret
  exact ⟨rfl, f0.trans f1⟩
end Go.Proofs.YtcadeijloobbmaaGreat
