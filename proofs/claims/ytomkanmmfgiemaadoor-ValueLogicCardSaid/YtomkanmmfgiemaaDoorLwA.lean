/-
  ValueLogic gives true by the contracts of package value and of its reference.
-/
import Derived.Test.YtomkanmmfgiemaaDoorLvP
import Derived.Test.YtomkanmmfgiemaaDoorLvQ
import Derived.Test.YtomkanmmfgiemaaDoorRkK
namespace Go.Proofs.YtomkanmmfgiemaaDoor
open Go.RowKit

/-- Kleene's three. -/
def notV (a : Int) : Int := 2 - triV a
def andV (a b : Int) : Int := min (triV a) (triV b)
def orV (a b : Int) : Int := max (triV a) (triV b)
theorem tri_0 : triV 0 = 0 := by decide
theorem tri_1 : triV 1 = 1 := by decide
theorem tri_2 : triV 2 = 2 := by decide
theorem not_c (a : Int) : triV (notV a) = notV a := by unfold notV; rcases triV_3 a with h | h | h <;> rw [h] <;> decide
theorem and_c (a b : Int) : triV (andV a b) = andV a b := by unfold andV; rcases triV_3 a with h | h | h <;> rcases triV_3 b with g | g | g <;> rw [h, g] <;> decide
theorem or_c (a b : Int) : triV (orV a b) = orV a b := by unfold orV; rcases triV_3 a with h | h | h <;> rcases triV_3 b with g | g | g <;> rw [h, g] <;> decide
theorem lw_nn (a : Int) : notV (notV a) = triV a := by
  rw [notV, not_c, notV]; omega
theorem lw_1 (a b : Int) : notV (andV a b) = orV (notV a) (notV b) := by
  rw [notV, and_c, orV, not_c, not_c, notV, notV, andV]
  omega
theorem lw_2 (a b : Int) : andV a (orV a b) = notV (notV a) := by
  rw [lw_nn, andV, or_c, orV]; omega
theorem lw_3 (a b : Int) : orV a (andV a b) = notV (notV a) := by
  rw [lw_nn, orV, and_c, andV]; omega
theorem lw_4 (a b : Int) : andV a b = andV b a := by unfold andV; omega
theorem lw_5 (a b c : Int) : andV a (andV b c) = andV (andV a b) c := by
  rw [andV, and_c, andV, andV, and_c, andV]; omega
theorem lw_6 (a b c : Int) : orV a (orV b c) = orV (orV a b) c := by
  rw [orV, or_c, orV, orV, or_c, orV]; omega
theorem ft_ok (a : Int) : okX (.mk (ftK (triV a)) (ftN (triV a)) 0 [] []) = true := by
  rcases triV_3 a with h | h | h <;> rw [h] <;> decide +kernel
theorem ft_tru (a : Int) : truV (.mk (ftK (triV a)) (ftN (triV a)) 0 [] []) = notV (notV a) := by
  rw [lw_nn]
  rcases triV_3 a with h | h | h <;> rw [h] <;> decide +kernel
theorem ft_vin (a : Int) : vinB (ftK (triV a)) (ftN (triV a)) 0 [] = true := by
  rcases triV_3 a with h | h | h <;> rw [h] <;> decide
theorem cnot (a : Int) (w : World) : Calls Tryd.prog 13 #[.int .i64 a] w (RwI w (notV a)) := (lnot_any a w).mono fun _ _ ⟨he, hw⟩ => ⟨he, hw ▸ Fuw.refl _⟩
theorem cand (a b : Int) (w : World) : Calls Tryd.prog 15 #[.int .i64 a, .int .i64 b] w (RwI w (andV a b)) := (land_any a b w).mono fun _ _ ⟨he, hw⟩ => ⟨he, hw ▸ Fuw.refl _⟩
theorem cor (a b : Int) (w : World) : Calls Tryd.prog 16 #[.int .i64 a, .int .i64 b] w (RwI w (orV a b)) := (lor_any a b w).mono fun _ _ ⟨he, hw⟩ => ⟨he, hw ▸ Fuw.refl _⟩
theorem dnot (a : Int) (w : World) : Calls Tryd.prog 14 #[.int .i64 a] w (RwI w (notV a)) := (rnot_any a w).mono fun _ _ ⟨he, hw⟩ => ⟨he, hw ▸ Fuw.refl _⟩
theorem dand (a b : Int) (w : World) : Calls Tryd.prog 17 #[.int .i64 a, .int .i64 b] w (RwI w (andV a b)) := (rand_any a b w).mono fun _ _ ⟨he, hw⟩ => ⟨he, hw ▸ Fuw.refl _⟩
theorem dor (a b : Int) (w : World) : Calls Tryd.prog 18 #[.int .i64 a, .int .i64 b] w (RwI w (orV a b)) := (ror_any a b w).mono fun _ _ ⟨he, hw⟩ => ⟨he, hw ▸ Fuw.refl _⟩
theorem ctruth (a : Int) (w : World) : Calls Tryd.prog 19 #[.agg #[.int .i64 (ftK (triV a)), .int .i64 (ftN (triV a)), .int .i64 0, .string ⟨#[]⟩, .slice none 0 0]] w (RwI w (notV (notV a))) := by
  have k := ltr_any (.mk (ftK (triV a)) (ftN (triV a)) 0 [] []) none 0 w (vin_of (ft_vin a)) (SlV.nil0 w)
  rw [ft_tru] at k
  exact k.mono fun _ _ h => h.w
theorem csame (a : Int) (w : World) : Calls Tryd.prog 9 #[.agg #[.int .i64 (ftK (triV a)), .int .i64 (ftN (triV a)), .int .i64 0, .string ⟨#[]⟩, .slice none 0 0], .agg #[.int .i64 (ftK (triV a)), .int .i64 (ftN (triV a)), .int .i64 0, .string ⟨#[]⟩, .slice none 0 0]] w (RwB w true) := by
  have k := lsame_all (.mk (ftK (triV a)) (ftN (triV a)) 0 [] []) (.mk (ftK (triV a)) (ftN (triV a)) 0 [] []) none none 0 0 w (vin_of (ft_vin a)) (vin_of (ft_vin a)) (SlV.nil0 w) (SlV.nil0 w)
  rw [samB_t.2 rfl] at k
  exact k.mono fun _ _ h => h.w

set_option maxHeartbeats 8000000 in
set_option maxRecDepth 100000 in
theorem logic_any (a b c : Int) (w : World) (G : Good w) :
    Calls Tryd.prog 5 #[.int .i64 a, .int .i64 b, .int .i64 c] w (RwB w true) := by
  have GG := Lib.hid G
  clear G
  have f1 : (notV (andV a b) != orV (notV a) (notV b)) = false := by rw [bne_eq_false_iff_eq]; exact lw_1 a b
  have f2 : (andV a (orV a b) != notV (notV a)) = false := by rw [bne_eq_false_iff_eq]; exact lw_2 a b
  have f3 : (orV a (andV a b) != notV (notV a)) = false := by rw [bne_eq_false_iff_eq]; exact lw_3 a b
  have f4 : (andV a b != andV b a) = false := by rw [bne_eq_false_iff_eq]; exact lw_4 a b
  have f5 : (andV a (andV b c) != andV (andV a b) c) = false := by rw [bne_eq_false_iff_eq]; exact lw_5 a b c
  have f6 : (orV a (orV b c) != orV (orV a b) c) = false := by rw [bne_eq_false_iff_eq]; exact lw_6 a b c
  have ff : Fuw w w := Fuw.refl w
  go_enter Tryd.func5, Tryd.ntmps5
  go_wp2_with (first
    | (go_at_call 13; refine (cnot _ _).mono ?_; rintro e1 w1 ⟨rfl, g⟩; replace ff := ff.trans g; clear g)
    | (go_at_call 15; refine (cand _ _ _).mono ?_; rintro e1 w1 ⟨rfl, g⟩; replace ff := ff.trans g; clear g)
    | (go_at_call 16; refine (cor _ _ _).mono ?_; rintro e1 w1 ⟨rfl, g⟩; replace ff := ff.trans g; clear g)
    | (go_at_call 14; refine (dnot _ _).mono ?_; rintro e1 w1 ⟨rfl, g⟩; replace ff := ff.trans g; clear g)
    | (go_at_call 17; refine (dand _ _ _).mono ?_; rintro e1 w1 ⟨rfl, g⟩; replace ff := ff.trans g; clear g)
    | (go_at_call 18; refine (dor _ _ _).mono ?_; rintro e1 w1 ⟨rfl, g⟩; replace ff := ff.trans g; clear g)
    | (go_at_call 20; refine (lft_any _ _).mono ?_; rintro e1 w1 ⟨rfl, g⟩; replace ff := ff.trans g.b; clear g)
    | (go_at_call 21; refine (rcft_any _ _).mono ?_; rintro e1 w1 ⟨rfl, g⟩; replace ff := ff.trans g.b; clear g)
    | (go_at_call 19; refine (ctruth _ _).mono ?_; rintro e1 w1 ⟨rfl, g⟩; replace ff := ff.trans g; clear g)
    | (go_at_call 9; refine (csame _ _).mono ?_; rintro e1 w1 ⟨rfl, g⟩; replace ff := ff.trans g; clear g)
    | (go_at_call 7; refine (alive_any _ (GG.out.onw ff)).mono ?_; rintro e1 w1 ⟨rfl, g⟩; replace ff := ff.trans g; clear g))
  go_ret
  exact ⟨rfl, ff⟩
end Go.Proofs.YtomkanmmfgiemaaDoor
