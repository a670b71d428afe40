/-
  Package nat: Sub gives the list of the difference of two numbers, an empty list if it is negative. For every two slices of int; nothing that was there turns.
-/
import Derived.Test.YtebmkbfbfmnbbaaDoorNatS
namespace Go.Proofs.YtebmkbfbfmnbbaaDoor
open Go.RowKit

theorem sub_fin {a b x y : List Int} (hx : Num a x) (hy : Num b y) (hle : nv b ≤ nv a) {o : List Int} {c : Int} (h : SubAt x y x.length o c) : vl o = nv a - nv b := by
  obtain ⟨h1, h2, h3, h4, h5⟩ := h
  have ky : y.length ≤ x.length := by
    rcases Nat.lt_or_ge x.length y.length with g | g
    · have := num_lt hx hy g; omega
    · exact g
  rw [List.take_of_length_le (Nat.le_refl _), List.take_of_length_le ky, hx.val, hy.val] at h5
  have g := vl_lt h2
  rw [h1] at g
  rcases bit_cases h3 h4 with rfl | rfl
  · have e0 : 1000000000 ^ x.length * (0 : Int).toNat = 0 := by simp
    omega
  · have e1 : 1000000000 ^ x.length * (1 : Int).toNat = 1000000000 ^ x.length := by simp
    omega

set_option maxHeartbeats 3200000 in
theorem nat_sub (ao bo : Option Addr) (a b : List Int) (ca cb : Nat) (w : World) (ha : IsS w ao a ca) (hb : IsS w bo b cb) :
    Calls Tryd.prog 19 #[.slice ao a.length ca, .slice bo b.length cb] w (RetS w (lim (nv a - nv b))) := by
  obtain ⟨i0, hi, hz0, hz1, hz2⟩ := info_parts infoI
  obtain ⟨x, hx⟩ := num_of a
  obtain ⟨y, hy⟩ := num_of b
  have lx := hx.len
  have ly := hy.len
  have hc : ∀ (ao1 : Option Addr) (c1 : Nat) (bo : Option Addr) (cb : Nat) (w : World), IsS w ao1 x c1 → IsS w bo y cb → Calls Tryd.prog 21 #[.slice ao1 x.length c1, .slice bo y.length cb] w (RetI w (cmpV (nv a) (nv b))) := fun ao1 c1 bo cb w h1 h2 => by
    have k := nat_cmp ao1 bo x y c1 cb w h1 h2
    rwa [nv_num hx, nv_num hy] at k
  by_cases hlt : nv a < nv b
  · rw [cmpV_lt hlt] at hc
    have e : lim (nv a - nv b) = [] := by rw [show nv a - nv b = 0 by omega, lim_0]
    rw [e]
    have HC := Lib.hid hc
    clear hc hlt e
    go_enter Tryd.func19, Tryd.ntmps19
    go_wp2_with fail
    go_at_call 33; refine (zero_get hx _ _ _ ha).mono ?_; rintro e w1 ⟨ao1, c1, rfl, h1, f1⟩
    go_wp2_with fail
    go_at_call 33; refine (zero_get hy _ _ _ (hb.on f1)).mono ?_; rintro e w2 ⟨bo1, c2, rfl, h2, f2⟩
    go_wp2_with fail
    go_at_call 21; refine (HC.out _ _ _ _ _ (h1.on f2) h2).mono ?_; rintro e w3 ⟨rfl, f3⟩
    go_wp2
    go_ret
    exact ⟨none, 0, rfl, IsS.empty _, (f1.trans f2).trans f3⟩
  · have hge : 0 ≤ cmpV (nv a) (nv b) := by
      rcases Nat.lt_or_eq_of_le (show nv b ≤ nv a by omega) with h | h
      · rw [cmpV_gt h]; decide
      · rw [cmpV_eq h.symm]; exact Int.le_refl _
    generalize cmpV (nv a) (nv b) = cv at hc hge
    have HC := Lib.hid hc
    have HT := Lib.hid (show nv b ≤ nv a by omega)
    clear hc hlt
    go_enter Tryd.func19, Tryd.ntmps19
    go_wp2_with fail
    go_at_call 33; refine (zero_get hx _ _ _ ha).mono ?_; rintro e w1 ⟨ao1, c1, rfl, h1, f1⟩
    go_wp2_with fail
    go_at_call 33; refine (zero_get hy _ _ _ (hb.on f1)).mono ?_; rintro e w2 ⟨bo1, c2, rfl, h2, f2⟩
    go_wp2_with fail
    go_at_call 21; refine (HC.out _ _ _ _ _ (h1.on f2) h2).mono ?_; rintro e w3 ⟨rfl, f3⟩
    go_wp2_with (at_make; refine wpList_make_full _ rfl (.tmp 18) (.tmp 18) 23 rfl w3.heap.size 3 i0 (.int .i64 0) 1 Tryd.underlying23 hi hz0 hz1 .i64 .i64 _ _ x.length rfl rfl (by omega) (by omega) (by rw [hz2]; omega) (by unfold maxLen; omega) (Nat.le_refl _) ?_; intro w4 hown0 hgrow0)
    have hown1 : w4.ownsRow w3.heap.size 3 1 (.slice (some ⟨w3.heap.size, 0, none⟩) x.length x.length) x.length (cs (List.replicate x.length 0)) := by
      rw [made_zero] at hown0
      exact hown0
    have hf1 : Fur w3 w4 := Below.grown (Fur.refl w3) hgrow0 (Nat.le_refl _) (by intro k hk; cases hk)
    clear hown0 hgrow0
    go_loopw [6, 22] (fun cc ii wr => ∃ (k : Nat) (o : List Int) (c : Int), ii = .int .i64 k ∧ k ≤ x.length ∧ cc = .int .i64 c ∧ 0 ≤ c ∧ c ≤ 1 ∧ wr.ownsRow w3.heap.size 3 1 (.slice (some ⟨w3.heap.size, 0, none⟩) x.length x.length) x.length (cs o) ∧ Fur w3 wr ∧ Hid (o.length = x.length ∧ SubAt x y k (o.take k) c)) (fun _ ii _ => x.length - (RowKit.intOf ii).toNat)
    case atStart => exact ⟨0, _, 0, rfl, Nat.zero_le _, rfl, by decide, by decide, hown1, hf1, List.length_replicate, ⟨rfl, digs_nil, by decide, by decide, rfl⟩⟩
    case round =>
      obtain ⟨k, o, c, rfl, hk, rfl, d0, d1, hown, hf, HA⟩ := hrel
      have g1 := ((h1.on f2).on f3).on hf
      have g2 := (h2.on f3).on hf
      have hsz := hf.size
      by_cases hlt : k < x.length
      · have hol : k < o.length := by have := HA.out.1; omega
        have P := digs_getD hx.digs k
        have Q := digs_getD hy.digs k
        have hst := fun p q (hp : x.getD k 0 = p) (hq : y.getD k 0 = q) => fun d e => sub_step (p := p) (q := q) (d := d) (e := e) HA.out.2 hp hq
        have cy : ∀ w, IsS w bo1 y c2 → Calls Tryd.prog 34 #[.slice bo1 y.length c2, .int .i64 k] w fun e w' => e = .returned (.int .i64 (y.getD k 0)) ∧ w' = w := fun w h => (at_any _ _ _ k w h).mono fun _ _ ⟨he, hw⟩ => ⟨he, hw.symm⟩
        obtain ⟨b1, o1, rfl, _, q1⟩ := g1.at_ (by omega)
        have hc1 := q1 k hlt
        clear q1
        generalize y.getD k 0 = q at Q hst cy
        obtain ⟨p, hp⟩ : ∃ p, x.getD k 0 = p := ⟨_, rfl⟩
        rw [hp] at hc1 P
        have hst2 := hst p q hp rfl
        clear hst hp
        obtain ⟨p0, p1⟩ := P
        obtain ⟨q0, q1⟩ := Q
        have CY := Lib.hid fun n => cy _ (g2.on (fur_drewN wr n))
        have HOL := Lib.hid hol
        have HLN := Lib.hid HA.out.1
        have kx' : (k : Int) < x.length := by omega
        have kx2 : k + 1 ≤ x.length := by omega
        have s1 : IntKind.i64.wrap (p - q) = p - q := IntWalk.i64_in _ (by omega)
        have s2 : IntKind.i64.wrap (p - q - c) = p - q - c := IntWalk.i64_in _ (by omega)
        clear hol cy
        by_cases hneg : p - q - c < 0
        · have HS := Lib.hid (hst2 (p - q - c + 1000000000) 1 p0 q0 (by omega) (by omega) (by decide) (by decide) (by omega))
          clear hst2
          go_wp2_with fail
          go_quiet ((go_at_call 34; exact Calls.quiet_of_same (CY.out _)))
          clear s1 s2
          have hownq : (wr.drewN nq).ownsRow w3.heap.size 3 1 (.slice (some ⟨w3.heap.size, 0, none⟩) x.length x.length) x.length (cs o) := hown
          have hfq : Fur w3 (wr.drewN nq) := hf.trans (fur_drewN _ _)
          have hco := hownq.cellAt k (by omega)
          rw [cs_getD HOL.out] at hco
          have hfz := hownq.frozenAt k
          have hw := (hownq.stored k (.int .i64 (p - q - c + 1000000000))).1
          rw [cs_set] at hw
          have HW := Lib.hid hw
          have hf3 := fur_set (u := .int .i64 (p - q - c + 1000000000)) (j := k) hfq (Nat.le_refl w3.heap.size)
          clear hw hownq hown
          go_wp2
          go_roundw
          case rel => exact ⟨k + 1, _, _, by go_num, kx2, rfl, by decide, by decide, HW.out, hf3, by rw [List.length_set]; exact HLN.out, by rw [set_take HOL.out]; exact HS.out⟩
          case measure => simp [RowKit.intOf]; omega
        · have HS := Lib.hid (hst2 (p - q - c) 0 p0 q0 (by omega) (by omega) (by decide) (by decide) (by omega))
          have hneg' : 0 ≤ p - q - c := by omega
          clear hst2 hneg
          go_wp2_with fail
          go_quiet ((go_at_call 34; exact Calls.quiet_of_same (CY.out _)))
          clear s1 s2
          have hownq : (wr.drewN nq).ownsRow w3.heap.size 3 1 (.slice (some ⟨w3.heap.size, 0, none⟩) x.length x.length) x.length (cs o) := hown
          have hfq : Fur w3 (wr.drewN nq) := hf.trans (fur_drewN _ _)
          have hco := hownq.cellAt k (by omega)
          rw [cs_getD HOL.out] at hco
          have hfz := hownq.frozenAt k
          have hw := (hownq.stored k (.int .i64 (p - q - c))).1
          rw [cs_set] at hw
          have HW := Lib.hid hw
          have hf3 := fur_set (u := .int .i64 (p - q - c)) (j := k) hfq (Nat.le_refl w3.heap.size)
          clear hw hownq hown
          go_wp2
          go_roundw
          case rel => exact ⟨k + 1, _, _, by go_num, kx2, rfl, by decide, by decide, HW.out, hf3, by rw [List.length_set]; exact HLN.out, by rw [set_take HOL.out]; exact HS.out⟩
          case measure => simp [RowKit.intOf]; omega
      · have e : k = x.length := by omega
        subst e
        have hol := HA.out.1
        have HAT : SubAt x y x.length o c := by
          have g := HA.out.2
          rwa [List.take_of_length_le (by omega)] at g
        have HV := Lib.hid (sub_fin hx hy HT.out HAT)
        have hdo := HAT.digs
        obtain ⟨ao3, c3, h3, -, hI⟩ := IsS.of_own hown
        obtain ⟨rfl, h4, rfl⟩ := Value.slice.inj h3
        have HB := Lib.hid (show Calls Tryd.prog 40 #[.slice (some ⟨w3.heap.size, 0, none⟩) x.length x.length] wr (RetS wr (lim (vl o))) from by
          have g := cut_any _ o _ _ hI hdo
          rw [hol] at g
          exact g)
        clear h3 h4 hol hdo hown HAT
        go_wp2_with fail
        go_at_call 40; refine HB.out.mono ?_; rintro e w6 ⟨ao6, c6, rfl, h6, f6⟩
        go_wp2
        go_ret
        exact ret_of (congrArg lim HV.out.symm) ⟨_, _, rfl, h6, (((f1.trans f2).trans f3).trans hf).trans f6⟩
end Go.Proofs.YtebmkbfbfmnbbaaDoor
