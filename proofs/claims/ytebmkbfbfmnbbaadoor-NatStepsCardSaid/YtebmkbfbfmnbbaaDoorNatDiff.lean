/-
  The reference's Sub gives the list of the difference of two numbers, an empty list if it is negative. For every two slices of int; nothing that was there turns.
-/
import Derived.Test.YtebmkbfbfmnbbaaDoorNatSum
import Derived.IntWalk
namespace Go.Proofs.YtebmkbfbfmnbbaaDoor
open Go.RowKit

/-- After k rounds of a subtraction. -/
structure SubAt (x y : List Int) (k : Nat) (o : List Int) (c : Int) : Prop where
  len : o.length = k
  digs : Digs o
  c0 : 0 ≤ c
  c1 : c ≤ 1
  val : vl o + vl (y.take k) = vl (x.take k) + 1000000000 ^ k * c.toNat
theorem sub_step {x y : List Int} {k : Nat} {o : List Int} {c p q d e : Int} (h : SubAt x y k o c) (hp : x.getD k 0 = p) (hq : y.getD k 0 = q) (p0 : 0 ≤ p) (q0 : 0 ≤ q) (d0 : 0 ≤ d) (d1 : d < 1000000000) (e0 : 0 ≤ e) (e1 : e ≤ 1) (hd : d = p - q - c + 1000000000 * e) :
    SubAt x y (k + 1) (o ++ [d]) e := by
  obtain ⟨h1, h2, h3, h4, h5⟩ := h
  refine ⟨by rw [List.length_append, h1]; rfl, digs_app h2 (digs_one d0 d1), e0, e1, ?_⟩
  rw [take_vl, take_vl, hp, hq, vl_app, h1, Nat.pow_succ]
  have e2 : vl [d] = d.toNat := by simp [vl]
  rw [e2]
  have s : 1000000000 ^ k * d.toNat + 1000000000 ^ k * q.toNat + 1000000000 ^ k * c.toNat = 1000000000 ^ k * p.toNat + 1000000000 ^ k * 1000000000 * e.toNat := by
    rw [Nat.mul_assoc, ← Nat.mul_add, ← Nat.mul_add, ← Nat.mul_add]
    congr 1
    omega
  omega
theorem sub_end {a b x y : List Int} (hx : Num a x) (hy : Num b y) (hlt : nv b < nv a) {k : Nat} {o : List Int} {c : Int} (h : SubAt x y k o c) (kx : k = x.length) : vl o = nv a - nv b := by
  obtain ⟨h1, h2, h3, h4, h5⟩ := h
  have ky : y.length ≤ k := by
    rw [kx]
    rcases Nat.lt_or_ge x.length y.length with g | g
    · have := num_lt hx hy g; omega
    · exact g
  rw [List.take_of_length_le (show x.length ≤ k by omega), List.take_of_length_le ky, hx.val, hy.val] at h5
  have g := vl_lt h2
  rw [h1] at g
  rcases bit_cases h3 h4 with rfl | rfl
  · have e0 : 1000000000 ^ k * (0 : Int).toNat = 0 := by simp
    omega
  · have e1 : 1000000000 ^ k * (1 : Int).toNat = 1000000000 ^ k := by simp
    omega

theorem fur_drewN (w : World) (n : Nat) : Fur w (w.drewN n) := ⟨rfl, rfl, rfl, Nat.le_refl _, fun _ _ => rfl⟩

set_option maxHeartbeats 6400000 in
theorem sub_any (ao bo : Option Addr) (a b : List Int) (ca cb : Nat) (w : World) (ha : IsS w ao a ca) (hb : IsS w bo b cb) :
    Calls Tryd.prog 20 #[.slice ao a.length ca, .slice bo b.length cb] w (RetS w (lim (nv a - nv b))) := by
  obtain ⟨i0, hi, hz0, hz1, hz2⟩ := info_parts infoI
  obtain ⟨x, hx⟩ := num_of a
  obtain ⟨y, hy⟩ := num_of b
  have lx := hx.len
  have ly := hy.len
  have hc : ∀ (ao1 : Option Addr) (c1 : Nat) (bo : Option Addr) (cb : Nat) (w : World), IsS w ao1 x c1 → IsS w bo y cb → Calls Tryd.prog 22 #[.slice ao1 x.length c1, .slice bo y.length cb] w (RetI w (cmpV (nv a) (nv b))) := fun ao1 c1 bo cb w h1 h2 => by
    have k := cmp_any ao1 bo x y c1 cb w h1 h2
    rwa [nv_num hx, nv_num hy] at k
  by_cases hlt : nv b < nv a
  · rw [cmpV_gt hlt] at hc
    have HC := Lib.hid hc
    have HT := Lib.hid hlt
    clear hc hlt
    go_enter Tryd.func20, Tryd.ntmps20
    go_wp2_with fail
    go_at_call 36; refine (num_get hx _ _ _ ha).mono ?_; rintro e w1 ⟨ao1, c1, rfl, h1, f1⟩
    go_wp2_with fail
    go_at_call 36; refine (num_get hy _ _ _ (hb.on f1)).mono ?_; rintro e w2 ⟨bo1, c2, rfl, h2, f2⟩
    go_wp2_with fail
    go_at_call 22; refine (HC.out _ _ _ _ _ (h1.on f2) h2).mono ?_; rintro e w3 ⟨rfl, f3⟩
    go_wp2
    go_loopw [7, 8, 9] (fun v cc i wr => ∃ (k : Nat) (o : List Int) (c : Int), i = .int .i64 k ∧ k ≤ x.length ∧ cc = .int .i64 c ∧ 0 ≤ c ∧ c ≤ 1 ∧ wr.ownsRow w3.heap.size 3 1 v k (cs o) ∧ Fur w3 wr ∧ Hid (SubAt x y k o c)) (fun _ _ i _ => x.length - (RowKit.intOf i).toNat)
    case atStart => exact ⟨0, [], 0, rfl, Nat.zero_le _, rfl, by decide, by decide, World.ownsRow_nil _ _ _ _, Fur.refl _, ⟨rfl, digs_nil, by decide, by decide, rfl⟩⟩
    case round =>
      obtain ⟨k, o, c, rfl, hk, rfl, d0, d1, hown, hf, HA⟩ := hrel
      have g1 := ((h1.on f2).on f3).on hf
      have g2 := (h2.on f3).on hf
      have hsz := hf.size
      by_cases hlt : k < x.length
      · have P := digs_getD hx.digs k
        have Q := digs_getD hy.digs k
        have hst := fun p q (hp : x.getD k 0 = p) (hq : y.getD k 0 = q) => fun d e => sub_step (p := p) (q := q) (d := d) (e := e) HA.out hp hq
        have cy : ∀ w, IsS w bo1 y c2 → Calls Tryd.prog 37 #[.slice bo1 y.length c2, .int .i64 k] w fun e w' => e = .returned (.int .i64 (y.getD k 0)) ∧ w' = w := fun w h => (limb_any _ _ _ k w h).mono fun _ _ ⟨he, hw⟩ => ⟨he, hw.symm⟩
        obtain ⟨b1, o1, rfl, _, q1⟩ := g1.at_ (by omega)
        have hc1 := q1 k hlt
        clear q1
        generalize y.getD k 0 = q at Q hst cy
        obtain ⟨p, hp⟩ : ∃ p, x.getD k 0 = p := ⟨_, rfl⟩
        rw [hp] at hc1 P
        have hst2 := hst p q hp rfl
        clear hst hp
        obtain ⟨p0, p1⟩ := P
        obtain ⟨q0, q1⟩ := Q
        have CY := Lib.hid fun n => cy _ (g2.on (fur_drewN wr n))
        have kx' : (k : Int) < x.length := by omega
        have kx2 : k + 1 ≤ x.length := by omega
        by_cases hneg : p - q - c < 0
        · have HS := Lib.hid (hst2 (p - q - c + 1000000000) 1 p0 q0 (by omega) (by omega) (by decide) (by decide) (by omega))
          clear hst2 cy
          have s1 : IntKind.i64.wrap (p - q) = p - q := IntWalk.i64_in _ (by omega)
          have s2 : IntKind.i64.wrap (p - q - c) = p - q - c := IntWalk.i64_in _ (by omega)
          go_wp2_with fail
          go_quiet ((go_at_call 37; exact Calls.quiet_of_same (CY.out _)))
          clear s1 s2
          have hownq : (wr.drewN nq).ownsRow w3.heap.size 3 1 _ k (cs o) := hown
          have hfq : Fur w3 (wr.drewN nq) := hf.trans (fur_drewN _ _)
          go_wp2_with (at_builtin; refine wpList_append_own _ rfl (.tmp 39) (.tmp 41) 23 rfl w3.heap.size 3 i0 (.int .i64 0) 1 8 Tryd.underlying23 hi hz0 hz1 hz2 rfl (by decide) _ _ _ rfl (hownq.alloc _) ⟨wr.heap.size, 0, none⟩ 1 1 [.int .i64 (p - q - c + 1000000000)] rfl rfl (at_one (wr.drewN nq) _) (by intro u hu; simp at hu; subst hu; rfl) (by unfold maxLen; omega) (by omega) (by simp; omega) ?_; intro v' w5 hown' hgrow _)
          have hown2 : w5.ownsRow w3.heap.size 3 1 v' (k + 1) (cs (o ++ [p - q - c + 1000000000])) := by rw [cs_app]; exact hown'
          have hf2 := fur_own hfq hownq hgrow
          clear hown' hgrow hownq hown
          go_wp2
          go_roundw
          case rel => exact ⟨k + 1, _, _, by go_num, by omega, rfl, by decide, by decide, hown2, hf2, HS.out⟩
          case measure => simp [RowKit.intOf]; omega
        · have HS := Lib.hid (hst2 (p - q - c) 0 p0 q0 (by omega) (by omega) (by decide) (by decide) (by omega))
          have hneg' : 0 ≤ p - q - c := by omega
          clear hneg
          clear hst2 cy
          have s1 : IntKind.i64.wrap (p - q) = p - q := IntWalk.i64_in _ (by omega)
          have s2 : IntKind.i64.wrap (p - q - c) = p - q - c := IntWalk.i64_in _ (by omega)
          go_wp2_with fail
          go_quiet ((go_at_call 37; exact Calls.quiet_of_same (CY.out _)))
          clear s1 s2
          have hownq : (wr.drewN nq).ownsRow w3.heap.size 3 1 _ k (cs o) := hown
          have hfq : Fur w3 (wr.drewN nq) := hf.trans (fur_drewN _ _)
          go_wp2_with (at_builtin; refine wpList_append_own _ rfl (.tmp 39) (.tmp 41) 23 rfl w3.heap.size 3 i0 (.int .i64 0) 1 8 Tryd.underlying23 hi hz0 hz1 hz2 rfl (by decide) _ _ _ rfl (hownq.alloc _) ⟨wr.heap.size, 0, none⟩ 1 1 [.int .i64 (p - q - c)] rfl rfl (at_one (wr.drewN nq) _) (by intro u hu; simp at hu; subst hu; rfl) (by unfold maxLen; omega) (by omega) (by simp; omega) ?_; intro v' w5 hown' hgrow _)
          have hown2 : w5.ownsRow w3.heap.size 3 1 v' (k + 1) (cs (o ++ [p - q - c])) := by rw [cs_app]; exact hown'
          have hf2 := fur_own hfq hownq hgrow
          clear hown' hgrow hownq hown
          go_wp2
          go_roundw
          case rel => exact ⟨k + 1, _, _, by go_num, by omega, rfl, by decide, by decide, hown2, hf2, HS.out⟩
          case measure => simp [RowKit.intOf]; omega
      · have kx : k = x.length := by omega
        have HE := Lib.hid (sub_end hx hy HT.out HA.out kx)
        have hdo := HA.out.digs
        have hlo := HA.out.len
        obtain ⟨ao3, c3, rfl, hl, hI⟩ := IsS.of_own hown
        have HB := Lib.hid (trim_any ao3 o c3 _ hI hdo (by omega))
        have kx2 : x.length ≤ k := by omega
        clear hdo hlo kx
        subst hl
        go_wp2_with fail
        go_at_call 41; refine HB.out.mono ?_; rintro e w6 ⟨ao6, c6, rfl, h6, f6⟩
        go_wp2
        go_ret
        exact ret_of (congrArg lim HE.out.symm) ⟨_, _, rfl, h6, (((f1.trans f2).trans f3).trans hf).trans f6⟩
  · have hle : cmpV (nv a) (nv b) ≤ 0 := by
      rcases Nat.lt_or_eq_of_le (show nv a ≤ nv b by omega) with h | h
      · rw [cmpV_lt h]; decide
      · rw [cmpV_eq h]; exact Int.le_refl _
    generalize cmpV (nv a) (nv b) = c at hc hle
    have e : lim (nv a - nv b) = [] := by rw [show nv a - nv b = 0 by omega, lim_0]
    rw [e]
    have HC := Lib.hid hc
    clear hc hlt e
    go_enter Tryd.func20, Tryd.ntmps20
    go_wp2_with fail
    go_at_call 36; refine (num_get hx _ _ _ ha).mono ?_; rintro e w1 ⟨ao1, c1, rfl, h1, f1⟩
    go_wp2_with fail
    go_at_call 36; refine (num_get hy _ _ _ (hb.on f1)).mono ?_; rintro e w2 ⟨bo1, c2, rfl, h2, f2⟩
    go_wp2_with fail
    go_at_call 22; refine (HC.out _ _ _ _ _ (h1.on f2) h2).mono ?_; rintro e w3 ⟨rfl, f3⟩
    go_wp2
    go_ret
    exact ⟨none, 0, rfl, IsS.empty _, (f1.trans f2).trans f3⟩
end Go.Proofs.YtebmkbfbfmnbbaaDoor
