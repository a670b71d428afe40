/-
  For every two (three) slices of int, the laws IntsetParts of package intset return true. The walks alone; in any world; nothing that was there turns.
-/
import Derived.Test.YtmmkcnohicfjeaaIsTells
namespace Go.Proofs.Ytmmkcnohicfjeaa
open Go.RowKit

set_option maxHeartbeats 6400000 in
set_option maxRecDepth 100000 in
theorem parts_walk (ao bo : Option Addr) (a b : List Int) (ca cb : Nat) (w : World) (ha : IsS w ao a ca) (hb : IsS w bo b cb) :
    Calls Try.prog 7 #[.slice ao a.length ca, .slice bo b.length cb] w (RetB w true) := by
  have F := Fur.refl w
  by_cases hs : a.length ≤ 200 ∧ b.length ≤ 200
  · obtain ⟨la, lb⟩ := hs
    have b1 := meL_len a b
    have b2 := miL_len a b
    have b3 := unL_len a b
    have b4 := ofL_len a
    have b5 := ofL_len b
    have k1 := k_me (a := a) (b := b) (by omega) (by omega)
    have k2 := k_mi (a := a) (b := b) (by omega) (by omega)
    have k3 := k_un (a := a) (b := b) (by omega) (by omega)
    have k4 := k_of (a := a) (by omega)
    have k5 := k_me (a := meL a b) (b := miL a b) (by omega) (by omega)
    rw [me_parts] at k5
    have k6 := k_un (a := meL a b) (b := miL a b) (by omega) (by omega)
    rw [un_parts] at k6
    have k7 := k_of (a := b) (by omega)
    have v1 := Lib.hid (fun w ao ca h => valid_any ao (meL a b) ca w h)
    have v2 := Lib.hid (fun w ao ca h => valid_any ao (miL a b) ca w h)
    have v3 := Lib.hid (fun w ao ca h => valid_any ao (unL a b) ca w h)
    have v4 := Lib.hid (fun w ao ca h => valid_any ao (ofL a) ca w h)
    rw [strB_t (meL_str a b)] at v1
    rw [strB_t (miL_str a b)] at v2
    rw [strB_t (unL_str a b)] at v3
    rw [strB_t (ofL_str a)] at v4
    have hz := sizes a b
    generalize meL a b = m at k1 k5 k6 v1 b1 hz
    generalize miL a b = d at k2 k5 k6 v2 b2
    generalize unL a b = u at k3 v3 b3 hz
    generalize ofL a = s at k4 k6 v4 b4 hz
    generalize ofL b = t at k7 b5 hz
    have hzz : ((u.length : Int) + (m.length : Int) == (s.length : Int) + (t.length : Int)) = true := by rw [beq_iff_eq]; omega
    clear hz
    go_enter Try.func7, Try.ntmps7
    go_wp2_with fail
    go_at_call 9; refine (small_yes _ _ _ _ _ _ _ la lb).mono ?_; rintro e w1 ⟨rfl, rfl⟩
    go_wp2_with fail
    go_at_call 20; refine (k1 _ _ _ _ _ ha hb).mono ?_; rintro e w2 ⟨a2, c2, rfl, g2, f2⟩
    replace ha := ha.on f2
    replace hb := hb.on f2
    replace F := F.trans f2
    clear f2
    go_wp2_with fail
    go_at_call 22; refine (k2 _ _ _ _ _ ha hb).mono ?_; rintro e w3 ⟨a3, c3, rfl, g3, f3⟩
    replace ha := ha.on f3
    replace hb := hb.on f3
    replace g2 := g2.on f3
    replace F := F.trans f3
    clear f3
    go_wp2_with fail
    go_at_call 18; refine (k3 _ _ _ _ _ ha hb).mono ?_; rintro e w4 ⟨a4, c4, rfl, g4, f4⟩
    replace ha := ha.on f4
    replace hb := hb.on f4
    replace g2 := g2.on f4
    replace g3 := g3.on f4
    replace F := F.trans f4
    clear f4
    go_wp2_with fail
    go_at_call 16; refine (k4 _ _ _ ha).mono ?_; rintro e w5 ⟨a5, c5, rfl, g5, f5⟩
    replace ha := ha.on f5
    replace hb := hb.on f5
    replace g2 := g2.on f5
    replace g3 := g3.on f5
    replace g4 := g4.on f5
    replace F := F.trans f5
    clear f5
    go_wp2_with fail
    go_at_call 11; refine (v1.out _ _ _ g2).mono ?_; rintro e w6 ⟨rfl, f6⟩
    replace ha := ha.on f6
    replace hb := hb.on f6
    replace g2 := g2.on f6
    replace g3 := g3.on f6
    replace g4 := g4.on f6
    replace g5 := g5.on f6
    replace F := F.trans f6
    clear f6
    go_wp2_with fail
    go_at_call 11; refine (v2.out _ _ _ g3).mono ?_; rintro e w7 ⟨rfl, f7⟩
    replace ha := ha.on f7
    replace hb := hb.on f7
    replace g2 := g2.on f7
    replace g3 := g3.on f7
    replace g4 := g4.on f7
    replace g5 := g5.on f7
    replace F := F.trans f7
    clear f7
    go_wp2_with fail
    go_at_call 11; refine (v3.out _ _ _ g4).mono ?_; rintro e w8 ⟨rfl, f8⟩
    replace ha := ha.on f8
    replace hb := hb.on f8
    replace g2 := g2.on f8
    replace g3 := g3.on f8
    replace g4 := g4.on f8
    replace g5 := g5.on f8
    replace F := F.trans f8
    clear f8
    go_wp2_with fail
    go_at_call 11; refine (v4.out _ _ _ g5).mono ?_; rintro e w9 ⟨rfl, f9⟩
    replace ha := ha.on f9
    replace hb := hb.on f9
    replace g2 := g2.on f9
    replace g3 := g3.on f9
    replace g4 := g4.on f9
    replace g5 := g5.on f9
    replace F := F.trans f9
    clear f9
    go_wp2_with fail
    go_at_call 20; refine (k5 _ _ _ _ _ g2 g3).mono ?_; rintro e w10 ⟨a10, c10, rfl, g10, f10⟩
    replace ha := ha.on f10
    replace hb := hb.on f10
    replace g2 := g2.on f10
    replace g3 := g3.on f10
    replace g4 := g4.on f10
    replace g5 := g5.on f10
    replace F := F.trans f10
    clear f10
    go_wp2_with fail
    go_at_call 18; refine (k6 _ _ _ _ _ g2 g3).mono ?_; rintro e w11 ⟨a11, c11, rfl, g11, f11⟩
    replace ha := ha.on f11
    replace hb := hb.on f11
    replace g2 := g2.on f11
    replace g3 := g3.on f11
    replace g4 := g4.on f11
    replace g5 := g5.on f11
    replace g10 := g10.on f11
    replace F := F.trans f11
    clear f11
    go_wp2_with fail
    go_at_call 15; refine (same_refl _ _ _ _ _ _ g11 g5).mono ?_; rintro e w12 ⟨rfl, f12⟩
    replace ha := ha.on f12
    replace hb := hb.on f12
    replace g2 := g2.on f12
    replace g3 := g3.on f12
    replace g4 := g4.on f12
    replace g5 := g5.on f12
    replace g10 := g10.on f12
    replace g11 := g11.on f12
    replace F := F.trans f12
    clear f12
    go_wp2_with fail
    go_at_call 16; refine (k7 _ _ _ hb).mono ?_; rintro e w13 ⟨a13, c13, rfl, g13, f13⟩
    replace ha := ha.on f13
    replace hb := hb.on f13
    replace g2 := g2.on f13
    replace g3 := g3.on f13
    replace g4 := g4.on f13
    replace g5 := g5.on f13
    replace g10 := g10.on f13
    replace g11 := g11.on f13
    replace F := F.trans f13
    clear f13
    go_wp2_with fail
    go_at_call 10; refine (alive_any _).mono ?_; rintro e w14 ⟨rfl, f14⟩
    go_wp2
    go_ret
    exact ⟨rfl, F.trans f14⟩
  · have hs2 : 200 < a.length ∨ 200 < b.length := by omega
    clear hs
    go_enter Try.func7, Try.ntmps7
    go_wp2_with fail
    go_at_call 9; refine (small_no _ _ _ _ _ _ _ hs2).mono ?_; rintro e w1 ⟨rfl, rfl⟩
    go_wp2_with fail
    go_at_call 10; refine (alive_any _).mono ?_; rintro e w2 ⟨rfl, f2⟩
    go_wp2
    go_ret
    exact ⟨rfl, F.trans f2⟩
end Go.Proofs.Ytmmkcnohicfjeaa
