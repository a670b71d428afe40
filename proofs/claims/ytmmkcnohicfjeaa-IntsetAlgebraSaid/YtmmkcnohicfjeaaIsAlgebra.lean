/-
  For every two (three) slices of int, the laws IntsetAlgebra of package intset return true. The walks alone; in any world; nothing that was there turns.
-/
import Derived.Test.YtmmkcnohicfjeaaIsTells
namespace Go.Proofs.Ytmmkcnohicfjeaa
open Go.RowKit

set_option maxHeartbeats 6400000 in
set_option maxRecDepth 100000 in
theorem algebra_walk (ao bo co : Option Addr) (a b c : List Int) (ca cb cc : Nat) (w : World) (ha : IsS w ao a ca) (hb : IsS w bo b cb) (hc : IsS w co c cc) :
    Calls Try.prog 6 #[.slice ao a.length ca, .slice bo b.length cb, .slice co c.length cc] w (RetB w true) := by
  have F := Fur.refl w
  by_cases hs : a.length ≤ 200 ∧ b.length ≤ 200
  · obtain ⟨la, lb⟩ := hs
    by_cases lc : c.length ≤ 200
    · have b1 := unL_len b c
      have b2 := meL_len b c
      have b3 := meL_len a b
      have b4 := meL_len a c
      have b5 := unL_len a b
      have b6 := unL_len a c
      have k1 := k_un (a := a) (b := b) (by omega) (by omega)
      have k2 := k_un (a := b) (b := a) (by omega) (by omega)
      rw [un_comm b a] at k2
      have k3 := k_me (a := a) (b := b) (by omega) (by omega)
      have k4 := k_me (a := b) (b := a) (by omega) (by omega)
      rw [me_comm b a] at k4
      have k5 := k_me (a := b) (b := c) (by omega) (by omega)
      have k6 := k_me (a := a) (b := meL b c) (by omega) (by omega)
      have k7 := k_me (a := meL a b) (b := c) (by omega) (by omega)
      rw [← me_assoc] at k7
      have k8 := k_un (a := b) (b := c) (by omega) (by omega)
      have k9 := k_me (a := a) (b := unL b c) (by omega) (by omega)
      have k10 := k_me (a := a) (b := c) (by omega) (by omega)
      have k11 := k_un (a := meL a b) (b := meL a c) (by omega) (by omega)
      rw [← me_un] at k11
      have k12 := k_un (a := a) (b := meL b c) (by omega) (by omega)
      have k13 := k_un (a := a) (b := c) (by omega) (by omega)
      have k14 := k_me (a := unL a b) (b := unL a c) (by omega) (by omega)
      rw [← un_me] at k14
      clear b1 b2 b3 b4 b5 b6
      generalize meL a (meL b c) = m1 at k6 k7
      generalize meL a (unL b c) = m2 at k9 k11
      generalize unL a (meL b c) = m3 at k12 k14
      generalize meL b c = m4 at k5 k6 k12
      generalize unL b c = m5 at k8 k9
      generalize meL a b = m6 at k3 k4 k7 k11
      generalize meL a c = m7 at k10 k11
      generalize unL a b = m8 at k1 k2 k14
      generalize unL a c = m9 at k13 k14
      go_enter Try.func6, Try.ntmps6
      go_wp2_with fail
      go_at_call 9; refine (small_yes _ _ _ _ _ _ _ la lb).mono ?_; rintro e w1 ⟨rfl, rfl⟩
      go_wp2_with fail
      go_at_call 9; refine (small_yes _ _ _ _ _ _ _ lc (by omega)).mono ?_; rintro e w2 ⟨rfl, rfl⟩
      go_wp2_with fail
      go_at_call 18; refine (k1 _ _ _ _ _ ha hb).mono ?_; rintro e w3 ⟨a3, c3, rfl, g3, f3⟩
      replace ha := ha.on f3
      replace hb := hb.on f3
      replace hc := hc.on f3
      replace F := F.trans f3
      clear f3
      go_wp2_with fail
      go_at_call 18; refine (k2 _ _ _ _ _ hb ha).mono ?_; rintro e w4 ⟨a4, c4, rfl, g4, f4⟩
      replace ha := ha.on f4
      replace hb := hb.on f4
      replace hc := hc.on f4
      replace g3 := g3.on f4
      replace F := F.trans f4
      clear f4
      go_wp2_with fail
      go_at_call 15; refine (same_refl _ _ _ _ _ _ g3 g4).mono ?_; rintro e w5 ⟨rfl, f5⟩
      replace ha := ha.on f5
      replace hb := hb.on f5
      replace hc := hc.on f5
      replace g3 := g3.on f5
      replace g4 := g4.on f5
      replace F := F.trans f5
      clear f5
      clear g3
      clear g4
      go_wp2_with fail
      go_at_call 20; refine (k3 _ _ _ _ _ ha hb).mono ?_; rintro e w6 ⟨a6, c6, rfl, g6, f6⟩
      replace ha := ha.on f6
      replace hb := hb.on f6
      replace hc := hc.on f6
      replace F := F.trans f6
      clear f6
      go_wp2_with fail
      go_at_call 20; refine (k4 _ _ _ _ _ hb ha).mono ?_; rintro e w7 ⟨a7, c7, rfl, g7, f7⟩
      replace ha := ha.on f7
      replace hb := hb.on f7
      replace hc := hc.on f7
      replace g6 := g6.on f7
      replace F := F.trans f7
      clear f7
      go_wp2_with fail
      go_at_call 15; refine (same_refl _ _ _ _ _ _ g6 g7).mono ?_; rintro e w8 ⟨rfl, f8⟩
      replace ha := ha.on f8
      replace hb := hb.on f8
      replace hc := hc.on f8
      replace g6 := g6.on f8
      replace g7 := g7.on f8
      replace F := F.trans f8
      clear f8
      clear g6
      clear g7
      go_wp2_with fail
      go_at_call 20; refine (k5 _ _ _ _ _ hb hc).mono ?_; rintro e w9 ⟨a9, c9, rfl, g9, f9⟩
      replace ha := ha.on f9
      replace hb := hb.on f9
      replace hc := hc.on f9
      replace F := F.trans f9
      clear f9
      go_wp2_with fail
      go_at_call 20; refine (k6 _ _ _ _ _ ha g9).mono ?_; rintro e w10 ⟨a10, c10, rfl, g10, f10⟩
      replace ha := ha.on f10
      replace hb := hb.on f10
      replace hc := hc.on f10
      replace g9 := g9.on f10
      replace F := F.trans f10
      clear f10
      go_wp2_with fail
      go_at_call 20; refine (k3 _ _ _ _ _ ha hb).mono ?_; rintro e w11 ⟨a11, c11, rfl, g11, f11⟩
      replace ha := ha.on f11
      replace hb := hb.on f11
      replace hc := hc.on f11
      replace g9 := g9.on f11
      replace g10 := g10.on f11
      replace F := F.trans f11
      clear f11
      go_wp2_with fail
      go_at_call 20; refine (k7 _ _ _ _ _ g11 hc).mono ?_; rintro e w12 ⟨a12, c12, rfl, g12, f12⟩
      replace ha := ha.on f12
      replace hb := hb.on f12
      replace hc := hc.on f12
      replace g9 := g9.on f12
      replace g10 := g10.on f12
      replace g11 := g11.on f12
      replace F := F.trans f12
      clear f12
      go_wp2_with fail
      go_at_call 15; refine (same_refl _ _ _ _ _ _ g10 g12).mono ?_; rintro e w13 ⟨rfl, f13⟩
      replace ha := ha.on f13
      replace hb := hb.on f13
      replace hc := hc.on f13
      replace g9 := g9.on f13
      replace g10 := g10.on f13
      replace g11 := g11.on f13
      replace g12 := g12.on f13
      replace F := F.trans f13
      clear f13
      clear g10
      clear g12
      go_wp2_with fail
      go_at_call 18; refine (k8 _ _ _ _ _ hb hc).mono ?_; rintro e w14 ⟨a14, c14, rfl, g14, f14⟩
      replace ha := ha.on f14
      replace hb := hb.on f14
      replace hc := hc.on f14
      replace g9 := g9.on f14
      replace g11 := g11.on f14
      replace F := F.trans f14
      clear f14
      go_wp2_with fail
      go_at_call 20; refine (k9 _ _ _ _ _ ha g14).mono ?_; rintro e w15 ⟨a15, c15, rfl, g15, f15⟩
      replace ha := ha.on f15
      replace hb := hb.on f15
      replace hc := hc.on f15
      replace g9 := g9.on f15
      replace g11 := g11.on f15
      replace g14 := g14.on f15
      replace F := F.trans f15
      clear f15
      go_wp2_with fail
      go_at_call 20; refine (k3 _ _ _ _ _ ha hb).mono ?_; rintro e w16 ⟨a16, c16, rfl, g16, f16⟩
      replace ha := ha.on f16
      replace hb := hb.on f16
      replace hc := hc.on f16
      replace g9 := g9.on f16
      replace g11 := g11.on f16
      replace g14 := g14.on f16
      replace g15 := g15.on f16
      replace F := F.trans f16
      clear f16
      go_wp2_with fail
      go_at_call 20; refine (k10 _ _ _ _ _ ha hc).mono ?_; rintro e w17 ⟨a17, c17, rfl, g17, f17⟩
      replace ha := ha.on f17
      replace hb := hb.on f17
      replace hc := hc.on f17
      replace g9 := g9.on f17
      replace g11 := g11.on f17
      replace g14 := g14.on f17
      replace g15 := g15.on f17
      replace g16 := g16.on f17
      replace F := F.trans f17
      clear f17
      go_wp2_with fail
      go_at_call 18; refine (k11 _ _ _ _ _ g16 g17).mono ?_; rintro e w18 ⟨a18, c18, rfl, g18, f18⟩
      replace ha := ha.on f18
      replace hb := hb.on f18
      replace hc := hc.on f18
      replace g9 := g9.on f18
      replace g11 := g11.on f18
      replace g14 := g14.on f18
      replace g15 := g15.on f18
      replace g16 := g16.on f18
      replace g17 := g17.on f18
      replace F := F.trans f18
      clear f18
      go_wp2_with fail
      go_at_call 15; refine (same_refl _ _ _ _ _ _ g15 g18).mono ?_; rintro e w19 ⟨rfl, f19⟩
      replace ha := ha.on f19
      replace hb := hb.on f19
      replace hc := hc.on f19
      replace g9 := g9.on f19
      replace g11 := g11.on f19
      replace g14 := g14.on f19
      replace g15 := g15.on f19
      replace g16 := g16.on f19
      replace g17 := g17.on f19
      replace g18 := g18.on f19
      replace F := F.trans f19
      clear f19
      clear g15
      clear g18
      go_wp2_with fail
      go_at_call 20; refine (k5 _ _ _ _ _ hb hc).mono ?_; rintro e w20 ⟨a20, c20, rfl, g20, f20⟩
      replace ha := ha.on f20
      replace hb := hb.on f20
      replace hc := hc.on f20
      replace g9 := g9.on f20
      replace g11 := g11.on f20
      replace g14 := g14.on f20
      replace g16 := g16.on f20
      replace g17 := g17.on f20
      replace F := F.trans f20
      clear f20
      go_wp2_with fail
      go_at_call 18; refine (k12 _ _ _ _ _ ha g20).mono ?_; rintro e w21 ⟨a21, c21, rfl, g21, f21⟩
      replace ha := ha.on f21
      replace hb := hb.on f21
      replace hc := hc.on f21
      replace g9 := g9.on f21
      replace g11 := g11.on f21
      replace g14 := g14.on f21
      replace g16 := g16.on f21
      replace g17 := g17.on f21
      replace g20 := g20.on f21
      replace F := F.trans f21
      clear f21
      go_wp2_with fail
      go_at_call 18; refine (k1 _ _ _ _ _ ha hb).mono ?_; rintro e w22 ⟨a22, c22, rfl, g22, f22⟩
      replace ha := ha.on f22
      replace hb := hb.on f22
      replace hc := hc.on f22
      replace g9 := g9.on f22
      replace g11 := g11.on f22
      replace g14 := g14.on f22
      replace g16 := g16.on f22
      replace g17 := g17.on f22
      replace g20 := g20.on f22
      replace g21 := g21.on f22
      replace F := F.trans f22
      clear f22
      go_wp2_with fail
      go_at_call 18; refine (k13 _ _ _ _ _ ha hc).mono ?_; rintro e w23 ⟨a23, c23, rfl, g23, f23⟩
      replace ha := ha.on f23
      replace hb := hb.on f23
      replace hc := hc.on f23
      replace g9 := g9.on f23
      replace g11 := g11.on f23
      replace g14 := g14.on f23
      replace g16 := g16.on f23
      replace g17 := g17.on f23
      replace g20 := g20.on f23
      replace g21 := g21.on f23
      replace g22 := g22.on f23
      replace F := F.trans f23
      clear f23
      go_wp2_with fail
      go_at_call 20; refine (k14 _ _ _ _ _ g22 g23).mono ?_; rintro e w24 ⟨a24, c24, rfl, g24, f24⟩
      replace ha := ha.on f24
      replace hb := hb.on f24
      replace hc := hc.on f24
      replace g9 := g9.on f24
      replace g11 := g11.on f24
      replace g14 := g14.on f24
      replace g16 := g16.on f24
      replace g17 := g17.on f24
      replace g20 := g20.on f24
      replace g21 := g21.on f24
      replace g22 := g22.on f24
      replace g23 := g23.on f24
      replace F := F.trans f24
      clear f24
      go_wp2_with fail
      go_at_call 15; refine (same_refl _ _ _ _ _ _ g21 g24).mono ?_; rintro e w25 ⟨rfl, f25⟩
      replace ha := ha.on f25
      replace hb := hb.on f25
      replace hc := hc.on f25
      replace g9 := g9.on f25
      replace g11 := g11.on f25
      replace g14 := g14.on f25
      replace g16 := g16.on f25
      replace g17 := g17.on f25
      replace g20 := g20.on f25
      replace g21 := g21.on f25
      replace g22 := g22.on f25
      replace g23 := g23.on f25
      replace g24 := g24.on f25
      replace F := F.trans f25
      clear f25
      clear g21
      clear g24
      go_wp2_with fail
      go_at_call 10; refine (alive_any _).mono ?_; rintro e w26 ⟨rfl, f26⟩
      go_wp2
      go_ret
      exact ⟨rfl, F.trans f26⟩
    · have hs2 : 200 < c.length ∨ 200 < 0 := by omega
      go_enter Try.func6, Try.ntmps6
      go_wp2_with fail
      go_at_call 9; refine (small_yes _ _ _ _ _ _ _ la lb).mono ?_; rintro e w1 ⟨rfl, rfl⟩
      go_wp2_with fail
      go_at_call 9; refine (small_no _ _ _ _ _ _ _ hs2).mono ?_; rintro e w2 ⟨rfl, rfl⟩
      go_wp2_with fail
      go_at_call 10; refine (alive_any _).mono ?_; rintro e w3 ⟨rfl, f3⟩
      go_wp2
      go_ret
      exact ⟨rfl, F.trans f3⟩
  · have hs2 : 200 < a.length ∨ 200 < b.length := by omega
    clear hs
    go_enter Try.func6, Try.ntmps6
    go_wp2_with fail
    go_at_call 9; refine (small_no _ _ _ _ _ _ _ hs2).mono ?_; rintro e w1 ⟨rfl, rfl⟩
    go_wp2_with fail
    go_at_call 10; refine (alive_any _).mono ?_; rintro e w2 ⟨rfl, f2⟩
    go_wp2
    go_ret
    exact ⟨rfl, F.trans f2⟩
end Go.Proofs.Ytmmkcnohicfjeaa
