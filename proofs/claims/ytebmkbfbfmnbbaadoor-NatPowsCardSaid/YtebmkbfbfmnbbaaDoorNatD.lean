/-
  Package nat: Add gives the list of the sum of two numbers and true, or an empty list and false if it has more than 64 limbs. For every two slices of int; nothing that was there turns.
-/
import Derived.Test.YtebmkbfbfmnbbaaDoorNatS
namespace Go.Proofs.YtebmkbfbfmnbbaaDoor
open Go.RowKit

set_option maxHeartbeats 3200000 in
theorem nat_add (ao bo : Option Addr) (a b : List Int) (ca cb : Nat) (w : World) (ha : IsS w ao a ca) (hb : IsS w bo b cb) :
    Calls Tryd.prog 12 #[.slice ao a.length ca, .slice bo b.length cb] w (RetSB w (bdL (lim (nv a + nv b))) (bdB (lim (nv a + nv b)))) := by
  obtain ⟨i0, hi, hz0, hz1, hz2⟩ := info_parts infoI
  obtain ⟨x, hx⟩ := num_of a
  obtain ⟨y, hy⟩ := num_of b
  have lx := hx.len
  have ly := hy.len
  rcases Nat.lt_or_ge x.length y.length with hl | hl
  · have hxL : x.length < y.length + 1 := by omega
    have hyL : y.length < y.length + 1 := by omega
    have lL : y.length + 1 ≤ 65 := by omega
    go_enter Tryd.func12, Tryd.ntmps12
    go_wp2_with fail
    go_at_call 33; refine (zero_get hx _ _ _ ha).mono ?_; rintro e w1 ⟨ao1, c1, rfl, h1, f1⟩
    go_wp2_with fail
    go_at_call 33; refine (zero_get hy _ _ _ (hb.on f1)).mono ?_; rintro e w2 ⟨bo1, c2, rfl, h2, f2⟩
    go_wp2_with (at_make; refine wpList_make_full _ rfl (.tmp 19) (.tmp 19) 23 rfl w2.heap.size 3 i0 (.int .i64 0) 1 Tryd.underlying23 hi hz0 hz1 .i64 .i64 _ _ (y.length + 1) rfl rfl (by omega) (by omega) (by rw [hz2]; omega) (by unfold maxLen; omega) (Nat.le_refl _) ?_; intro w3 hown0 hgrow0)
    have hown1 : w3.ownsRow w2.heap.size 3 1 (.slice (some ⟨w2.heap.size, 0, none⟩) (y.length + 1) (y.length + 1)) (y.length + 1) (cs (List.replicate (y.length + 1) 0)) := by
      rw [made_zero] at hown0
      exact hown0
    have hf1 : Fur w2 w3 := Below.grown (Fur.refl w2) hgrow0 (Nat.le_refl _) (by intro k hk; cases hk)
    clear hown0 hgrow0 hl
    go_loopw [7, 23] (fun cc ii wr => ∃ (k : Nat) (o : List Int) (c : Int), ii = .int .i64 k ∧ k ≤ (y.length + 1) ∧ cc = .int .i64 c ∧ 0 ≤ c ∧ c ≤ 1 ∧ wr.ownsRow w2.heap.size 3 1 (.slice (some ⟨w2.heap.size, 0, none⟩) (y.length + 1) (y.length + 1)) (y.length + 1) (cs o) ∧ Fur w2 wr ∧ Hid (o.length = (y.length + 1) ∧ AddAt x y k (o.take k) c)) (fun _ ii _ => (y.length + 1) - (RowKit.intOf ii).toNat)
    case atStart => exact ⟨0, _, 0, rfl, Nat.zero_le _, rfl, by decide, by decide, hown1, hf1, List.length_replicate, ⟨rfl, digs_nil, by decide, by decide, rfl⟩⟩
    case round =>
      obtain ⟨k, o, c, rfl, hk, rfl, d0, d1, hown, hf, HA⟩ := hrel
      have g1 := (h1.on f2).on hf
      have g2 := h2.on hf
      have hsz := hf.size
      by_cases hlt : k < (y.length + 1)
      · have hol : k < o.length := by have := HA.out.1; omega
        have P := digs_getD hx.digs k
        have Q := digs_getD hy.digs k
        have hst := fun p q (hp : x.getD k 0 = p) (hq : y.getD k 0 = q) => add_step (p := p) (q := q) HA.out.2 hp hq
        have CX := Lib.hid (at_any ao1 x c1 k wr g1)
        have CY := Lib.hid (at_any bo1 y c2 k wr g2)
        generalize x.getD k 0 = p at P hst CX
        generalize y.getD k 0 = q at Q hst CY
        obtain ⟨p0, p1⟩ := P
        obtain ⟨q0, q1⟩ := Q
        have HS := Lib.hid (show (o.set k ((p + q + c) % 1000000000)).length = (y.length + 1) ∧ AddAt x y (k + 1) ((o.set k ((p + q + c) % 1000000000)).take (k + 1)) ((p + q + c) / 1000000000) from ⟨by rw [List.length_set]; exact HA.out.1, by
          rw [set_take hol]
          exact hst p q rfl rfl p0 p1 q0 q1⟩)
        have hco := hown.cellAt k (by omega)
        rw [cs_getD hol] at hco
        have hfz := hown.frozenAt k
        have hw := (hown.stored k (.int .i64 ((p + q + c) % 1000000000))).1
        rw [cs_set] at hw
        have HW := Lib.hid hw
        have hf3 := fur_set (u := .int .i64 ((p + q + c) % 1000000000)) (j := k) hf (Nat.le_refl w2.heap.size)
        have kn : (k : Int) < (y.length + 1) := by omega
        have kn1 : k + 1 ≤ (y.length + 1) := by omega
        clear hst hw hol hlt
        go_wp2_with fail
        go_at_call 34; refine CX.out.mono ?_; rintro e w4 ⟨rfl, rfl⟩
        go_wp2_with fail
        go_at_call 34; refine CY.out.mono ?_; rintro e w4 ⟨rfl, rfl⟩
        go_wp2
        go_roundw
        case rel => exact ⟨k + 1, _, _, by go_num, kn1, rfl, by omega, by omega, HW.out, hf3, HS.out⟩
        case measure => simp [RowKit.intOf]; omega
      · have e : k = y.length + 1 := by omega
        subst e
        have hol := HA.out.1
        have HAT : AddAt x y (y.length + 1) o c := by
          have g := HA.out.2
          rwa [List.take_of_length_le (by omega)] at g
        have HV := Lib.hid (add_fin hx hy HAT (by omega) (by omega))
        have hdo := HAT.digs
        obtain ⟨ao3, c3, h3, -, hI⟩ := IsS.of_own hown
        obtain ⟨rfl, h4, rfl⟩ := Value.slice.inj h3
        have HB := Lib.hid (show Calls Tryd.prog 35 #[.slice (some ⟨w2.heap.size, 0, none⟩) (y.length + 1) (y.length + 1)] wr (RetSB wr (bdL (lim (vl o))) (bdB (lim (vl o)))) from by
          have g := limbs_any _ o _ _ hI hdo
          rw [hol] at g
          exact g)
        clear h3 h4 hol hdo hown HAT
        go_wp2_with fail
        go_at_call 35; refine HB.out.mono ?_; rintro e w6 ⟨ao6, c6, rfl, h6, f6⟩
        go_wp2
        go_ret2
        exact retb_of (congrArg (fun v => bdL (lim v)) HV.out.symm) (congrArg (fun v => bdB (lim v)) HV.out.symm) ⟨_, _, rfl, h6, ((f1.trans f2).trans hf).trans f6⟩
  · have hxL : x.length < x.length + 1 := by omega
    have hyL : y.length < x.length + 1 := by omega
    have lL : x.length + 1 ≤ 65 := by omega
    go_enter Tryd.func12, Tryd.ntmps12
    go_wp2_with fail
    go_at_call 33; refine (zero_get hx _ _ _ ha).mono ?_; rintro e w1 ⟨ao1, c1, rfl, h1, f1⟩
    go_wp2_with fail
    go_at_call 33; refine (zero_get hy _ _ _ (hb.on f1)).mono ?_; rintro e w2 ⟨bo1, c2, rfl, h2, f2⟩
    go_wp2_with (at_make; refine wpList_make_full _ rfl (.tmp 19) (.tmp 19) 23 rfl w2.heap.size 3 i0 (.int .i64 0) 1 Tryd.underlying23 hi hz0 hz1 .i64 .i64 _ _ (x.length + 1) rfl rfl (by omega) (by omega) (by rw [hz2]; omega) (by unfold maxLen; omega) (Nat.le_refl _) ?_; intro w3 hown0 hgrow0)
    have hown1 : w3.ownsRow w2.heap.size 3 1 (.slice (some ⟨w2.heap.size, 0, none⟩) (x.length + 1) (x.length + 1)) (x.length + 1) (cs (List.replicate (x.length + 1) 0)) := by
      rw [made_zero] at hown0
      exact hown0
    have hf1 : Fur w2 w3 := Below.grown (Fur.refl w2) hgrow0 (Nat.le_refl _) (by intro k hk; cases hk)
    clear hown0 hgrow0 hl
    go_loopw [7, 23] (fun cc ii wr => ∃ (k : Nat) (o : List Int) (c : Int), ii = .int .i64 k ∧ k ≤ (x.length + 1) ∧ cc = .int .i64 c ∧ 0 ≤ c ∧ c ≤ 1 ∧ wr.ownsRow w2.heap.size 3 1 (.slice (some ⟨w2.heap.size, 0, none⟩) (x.length + 1) (x.length + 1)) (x.length + 1) (cs o) ∧ Fur w2 wr ∧ Hid (o.length = (x.length + 1) ∧ AddAt x y k (o.take k) c)) (fun _ ii _ => (x.length + 1) - (RowKit.intOf ii).toNat)
    case atStart => exact ⟨0, _, 0, rfl, Nat.zero_le _, rfl, by decide, by decide, hown1, hf1, List.length_replicate, ⟨rfl, digs_nil, by decide, by decide, rfl⟩⟩
    case round =>
      obtain ⟨k, o, c, rfl, hk, rfl, d0, d1, hown, hf, HA⟩ := hrel
      have g1 := (h1.on f2).on hf
      have g2 := h2.on hf
      have hsz := hf.size
      by_cases hlt : k < (x.length + 1)
      · have hol : k < o.length := by have := HA.out.1; omega
        have P := digs_getD hx.digs k
        have Q := digs_getD hy.digs k
        have hst := fun p q (hp : x.getD k 0 = p) (hq : y.getD k 0 = q) => add_step (p := p) (q := q) HA.out.2 hp hq
        have CX := Lib.hid (at_any ao1 x c1 k wr g1)
        have CY := Lib.hid (at_any bo1 y c2 k wr g2)
        generalize x.getD k 0 = p at P hst CX
        generalize y.getD k 0 = q at Q hst CY
        obtain ⟨p0, p1⟩ := P
        obtain ⟨q0, q1⟩ := Q
        have HS := Lib.hid (show (o.set k ((p + q + c) % 1000000000)).length = (x.length + 1) ∧ AddAt x y (k + 1) ((o.set k ((p + q + c) % 1000000000)).take (k + 1)) ((p + q + c) / 1000000000) from ⟨by rw [List.length_set]; exact HA.out.1, by
          rw [set_take hol]
          exact hst p q rfl rfl p0 p1 q0 q1⟩)
        have hco := hown.cellAt k (by omega)
        rw [cs_getD hol] at hco
        have hfz := hown.frozenAt k
        have hw := (hown.stored k (.int .i64 ((p + q + c) % 1000000000))).1
        rw [cs_set] at hw
        have HW := Lib.hid hw
        have hf3 := fur_set (u := .int .i64 ((p + q + c) % 1000000000)) (j := k) hf (Nat.le_refl w2.heap.size)
        have kn : (k : Int) < (x.length + 1) := by omega
        have kn1 : k + 1 ≤ (x.length + 1) := by omega
        clear hst hw hol hlt
        go_wp2_with fail
        go_at_call 34; refine CX.out.mono ?_; rintro e w4 ⟨rfl, rfl⟩
        go_wp2_with fail
        go_at_call 34; refine CY.out.mono ?_; rintro e w4 ⟨rfl, rfl⟩
        go_wp2
        go_roundw
        case rel => exact ⟨k + 1, _, _, by go_num, kn1, rfl, by omega, by omega, HW.out, hf3, HS.out⟩
        case measure => simp [RowKit.intOf]; omega
      · have e : k = x.length + 1 := by omega
        subst e
        have hol := HA.out.1
        have HAT : AddAt x y (x.length + 1) o c := by
          have g := HA.out.2
          rwa [List.take_of_length_le (by omega)] at g
        have HV := Lib.hid (add_fin hx hy HAT (by omega) (by omega))
        have hdo := HAT.digs
        obtain ⟨ao3, c3, h3, -, hI⟩ := IsS.of_own hown
        obtain ⟨rfl, h4, rfl⟩ := Value.slice.inj h3
        have HB := Lib.hid (show Calls Tryd.prog 35 #[.slice (some ⟨w2.heap.size, 0, none⟩) (x.length + 1) (x.length + 1)] wr (RetSB wr (bdL (lim (vl o))) (bdB (lim (vl o)))) from by
          have g := limbs_any _ o _ _ hI hdo
          rw [hol] at g
          exact g)
        clear h3 h4 hol hdo hown HAT
        go_wp2_with fail
        go_at_call 35; refine HB.out.mono ?_; rintro e w6 ⟨ao6, c6, rfl, h6, f6⟩
        go_wp2
        go_ret2
        exact retb_of (congrArg (fun v => bdL (lim v)) HV.out.symm) (congrArg (fun v => bdB (lim v)) HV.out.symm) ⟨_, _, rfl, h6, ((f1.trans f2).trans hf).trans f6⟩
end Go.Proofs.YtebmkbfbfmnbbaaDoor
