/-
  For every two (three) slices of int, the laws IntsetTells of package intset return true. The walks alone; in any world; nothing that was there turns.
-/
import Derived.Test.YtmmkcnohicfjeaaIsA
namespace Go.Proofs.Ytmmkcnohicfjeaa
open Go.RowKit

/-- A function of two slices that gives the list z. -/
def K2 (f : FuncId) (x y z : List Int) : Prop := ∀ (w : World) (ao bo : Option Addr) (ca cb : Nat), IsS w ao x ca → IsS w bo y cb → Calls Try.prog f #[.slice ao x.length ca, .slice bo y.length cb] w (RetS w z)
def K1 (f : FuncId) (x z : List Int) : Prop := ∀ (w : World) (ao : Option Addr) (ca : Nat), IsS w ao x ca → Calls Try.prog f #[.slice ao x.length ca] w (RetS w z)
theorem k_of {a : List Int} (la : a.length ≤ 1000) : K1 16 a (ofL a) := fun w ao ca h => of_any ao a ca w h (by omega)
theorem k_rof {a : List Int} (la : a.length ≤ 1000) : K1 17 a (ofL a) := fun w ao ca h => rof_any ao a ca w h (by omega)
theorem k_un {a b : List Int} (la : a.length ≤ 1000) (lb : b.length ≤ 1000) : K2 18 a b (unL a b) := fun w ao bo ca cb h k => un_any ao bo a b ca cb w h k (by omega) (by omega)
theorem k_run {a b : List Int} (la : a.length ≤ 1000) (lb : b.length ≤ 1000) : K2 19 a b (unL a b) := fun w ao bo ca cb h k => run_any ao bo a b ca cb w h k (by omega) (by omega)
theorem k_me {a b : List Int} (la : a.length ≤ 1000) (lb : b.length ≤ 1000) : K2 20 a b (meL a b) := fun w ao bo ca cb h k => me_any ao bo a b ca cb w h k (by omega) (by omega)
theorem k_rme {a b : List Int} (la : a.length ≤ 1000) : K2 21 a b (meL a b) := fun w ao bo ca cb h k => rmeet_any ao bo a b ca cb w h k (by omega)
theorem k_mi {a b : List Int} (la : a.length ≤ 1000) (lb : b.length ≤ 1000) : K2 22 a b (miL a b) := fun w ao bo ca cb h k => mi_any ao bo a b ca cb w h k (by omega) (by omega)
theorem k_rmi {a b : List Int} (la : a.length ≤ 1000) : K2 23 a b (miL a b) := fun w ao bo ca cb h k => rminus_any ao bo a b ca cb w h k (by omega)

set_option maxHeartbeats 6400000 in
set_option maxRecDepth 100000 in
theorem tells_walk (ao bo : Option Addr) (a b : List Int) (ca cb : Nat) (x : Int) (w : World) (ha : IsS w ao a ca) (hb : IsS w bo b cb) :
    Calls Try.prog 3 #[.slice ao a.length ca, .slice bo b.length cb, .int .i64 x] w (RetB w true) := by
  have F := Fur.refl w
  by_cases hs : a.length ≤ 200 ∧ b.length ≤ 200
  · obtain ⟨la, lb⟩ := hs
    have k1 := k_of (a := a) (by omega); have k2 := k_rof (a := a) (by omega)
    have k3 := k_un (a := a) (b := b) (by omega) (by omega); have k4 := k_run (a := a) (b := b) (by omega) (by omega)
    have k5 := k_me (a := a) (b := b) (by omega) (by omega); have k6 := k_rme (a := a) (b := b) (by omega)
    have k7 := k_mi (a := a) (b := b) (by omega) (by omega); have k8 := k_rmi (a := a) (b := b) (by omega)
    generalize ofL a = s at k1 k2
    generalize unL a b = u at k3 k4
    generalize meL a b = m at k5 k6
    generalize miL a b = d at k7 k8
    have v1 := Lib.hid (fun w ao ca h => valid_any ao a ca w h)
    have v2 := Lib.hid (fun w ao ca h => rvalid_any ao a ca w h)
    generalize strB a = v at v1 v2
    have q1 := Lib.hid (fun w ao ca h => has_any ao a ca x w h)
    have q2 := Lib.hid (fun w ao ca h => rhas_any ao a ca x w h)
    generalize a.contains x = q at q1 q2
    have hv : (v == v) = true := by simp
    have hq : (q == q) = true := by simp
    go_enter Try.func3, Try.ntmps3
    go_wp2_with fail
    go_at_call 9; refine (small_yes _ _ _ _ _ _ _ la lb).mono ?_; rintro e w1 ⟨rfl, rfl⟩
    go_wp2_with fail
    go_at_call 11; refine (v1.out _ _ _ ha).mono ?_; rintro e w2 ⟨rfl, f2⟩
    replace ha := ha.on f2
    replace hb := hb.on f2
    replace F := F.trans f2
    clear f2
    go_wp2_with fail
    go_at_call 12; refine (v2.out _ _ _ ha).mono ?_; rintro e w3 ⟨rfl, f3⟩
    replace ha := ha.on f3
    replace hb := hb.on f3
    replace F := F.trans f3
    clear f3
    go_wp2_with fail
    go_at_call 13; refine (q1.out _ _ _ ha).mono ?_; rintro e w4 ⟨rfl, rfl⟩
    go_wp2_with fail
    go_at_call 14; refine (q2.out _ _ _ ha).mono ?_; rintro e w5 ⟨rfl, rfl⟩
    go_wp2_with fail
    go_at_call 16; refine (k1 _ _ _ ha).mono ?_; rintro e w6 ⟨a6, c6, rfl, g6, f6⟩
    replace ha := ha.on f6
    replace hb := hb.on f6
    replace F := F.trans f6
    clear f6
    go_wp2_with fail
    go_at_call 17; refine (k2 _ _ _ ha).mono ?_; rintro e w7 ⟨a7, c7, rfl, g7, f7⟩
    replace ha := ha.on f7
    replace hb := hb.on f7
    replace g6 := g6.on f7
    replace F := F.trans f7
    clear f7
    go_wp2_with fail
    go_at_call 15; refine (same_refl _ _ _ _ _ _ g6 g7).mono ?_; rintro e w8 ⟨rfl, f8⟩
    replace ha := ha.on f8
    replace hb := hb.on f8
    replace g6 := g6.on f8
    replace g7 := g7.on f8
    replace F := F.trans f8
    clear f8
    clear g6
    clear g7
    go_wp2_with fail
    go_at_call 18; refine (k3 _ _ _ _ _ ha hb).mono ?_; rintro e w9 ⟨a9, c9, rfl, g9, f9⟩
    replace ha := ha.on f9
    replace hb := hb.on f9
    replace F := F.trans f9
    clear f9
    go_wp2_with fail
    go_at_call 19; refine (k4 _ _ _ _ _ ha hb).mono ?_; rintro e w10 ⟨a10, c10, rfl, g10, f10⟩
    replace ha := ha.on f10
    replace hb := hb.on f10
    replace g9 := g9.on f10
    replace F := F.trans f10
    clear f10
    go_wp2_with fail
    go_at_call 15; refine (same_refl _ _ _ _ _ _ g9 g10).mono ?_; rintro e w11 ⟨rfl, f11⟩
    replace ha := ha.on f11
    replace hb := hb.on f11
    replace g9 := g9.on f11
    replace g10 := g10.on f11
    replace F := F.trans f11
    clear f11
    clear g9
    clear g10
    go_wp2_with fail
    go_at_call 20; refine (k5 _ _ _ _ _ ha hb).mono ?_; rintro e w12 ⟨a12, c12, rfl, g12, f12⟩
    replace ha := ha.on f12
    replace hb := hb.on f12
    replace F := F.trans f12
    clear f12
    go_wp2_with fail
    go_at_call 21; refine (k6 _ _ _ _ _ ha hb).mono ?_; rintro e w13 ⟨a13, c13, rfl, g13, f13⟩
    replace ha := ha.on f13
    replace hb := hb.on f13
    replace g12 := g12.on f13
    replace F := F.trans f13
    clear f13
    go_wp2_with fail
    go_at_call 15; refine (same_refl _ _ _ _ _ _ g12 g13).mono ?_; rintro e w14 ⟨rfl, f14⟩
    replace ha := ha.on f14
    replace hb := hb.on f14
    replace g12 := g12.on f14
    replace g13 := g13.on f14
    replace F := F.trans f14
    clear f14
    clear g12
    clear g13
    go_wp2_with fail
    go_at_call 22; refine (k7 _ _ _ _ _ ha hb).mono ?_; rintro e w15 ⟨a15, c15, rfl, g15, f15⟩
    replace ha := ha.on f15
    replace hb := hb.on f15
    replace F := F.trans f15
    clear f15
    go_wp2_with fail
    go_at_call 23; refine (k8 _ _ _ _ _ ha hb).mono ?_; rintro e w16 ⟨a16, c16, rfl, g16, f16⟩
    replace ha := ha.on f16
    replace hb := hb.on f16
    replace g15 := g15.on f16
    replace F := F.trans f16
    clear f16
    go_wp2_with fail
    go_at_call 15; refine (same_refl _ _ _ _ _ _ g15 g16).mono ?_; rintro e w17 ⟨rfl, f17⟩
    replace ha := ha.on f17
    replace hb := hb.on f17
    replace g15 := g15.on f17
    replace g16 := g16.on f17
    replace F := F.trans f17
    clear f17
    clear g15
    clear g16
    go_wp2_with fail
    go_at_call 10; refine (alive_any _).mono ?_; rintro e w18 ⟨rfl, f18⟩
    go_wp2
    go_ret
    exact ⟨rfl, F.trans f18⟩
  · have hs2 : 200 < a.length ∨ 200 < b.length := by omega
    clear hs
    go_enter Try.func3, Try.ntmps3
    go_wp2_with fail
    go_at_call 9; refine (small_no _ _ _ _ _ _ _ hs2).mono ?_; rintro e w1 ⟨rfl, rfl⟩
    go_wp2_with fail
    go_at_call 10; refine (alive_any _).mono ?_; rintro e w2 ⟨rfl, f2⟩
    go_wp2
    go_ret
    exact ⟨rfl, F.trans f2⟩
end Go.Proofs.Ytmmkcnohicfjeaa
