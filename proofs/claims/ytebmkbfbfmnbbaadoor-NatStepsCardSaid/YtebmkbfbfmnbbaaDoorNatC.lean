/-
  Package nat: Cmp compares the numbers of two slices of int; Small gives the number of a slice if it is an int. For every argument; nothing that was there turns.
-/
import Derived.Test.YtebmkbfbfmnbbaaDoorNatB
namespace Go.Proofs.YtebmkbfbfmnbbaaDoor
open Go.RowKit

set_option maxHeartbeats 3200000 in
theorem nat_cmp (ao bo : Option Addr) (a b : List Int) (ca cb : Nat) (w : World) (ha : IsS w ao a ca) (hb : IsS w bo b cb) :
    Calls Tryd.prog 21 #[.slice ao a.length ca, .slice bo b.length cb] w (RetI w (cmpV (nv a) (nv b))) := by
  obtain ⟨x, hx⟩ := num_of a
  obtain ⟨y, hy⟩ := num_of b
  have lx := hx.len
  have ly := hy.len
  rcases Nat.lt_or_ge x.length y.length with hl | hl
  all_goals
    go_enter Tryd.func21, Tryd.ntmps21
    go_wp2_with fail
    go_at_call 33; refine (zero_get hx _ _ _ ha).mono ?_; rintro e w1 ⟨ao1, c1, rfl, h1, f1⟩
    go_wp2_with fail
    go_at_call 33; refine (zero_get hy _ _ _ (hb.on f1)).mono ?_; rintro e w2 ⟨bo1, c2, rfl, h2, f2⟩
    go_wp2
    go_loopw [5, 6, 7] (fun i _ _ wr => ∃ j : Int, i = .int .i64 j ∧ -1 ≤ j ∧ j < 64 ∧ Hid (vl (x.drop (j + 1).toNat) = vl (y.drop (j + 1).toNat)) ∧ Fur w2 wr) (fun i _ _ _ => (RowKit.intOf i + 1).toNat)
    case atStart => exact ⟨_, rfl, by omega, by omega, (by
      show vl (x.drop _) = vl (y.drop _)
      rw [List.drop_of_length_le (by omega), List.drop_of_length_le (by omega)]), Fur.refl _⟩
    case round =>
      obtain ⟨j, rfl, j0, j1, HD, hf⟩ := hrel
      clear hl
      by_cases hj : j = -1
      · subst hj
        have HE := Lib.hid (cmpV_eq (show nv a = nv b by
          have h := HD.out
          rw [← hx.val, ← hy.val]
          exact h))
        go_wp2
        go_ret
        exact ⟨ret_int HE.out.symm, (f1.trans f2).trans hf⟩
      · obtain ⟨k, rfl⟩ : ∃ k : Nat, j = (k : Int) := ⟨j.toNat, by omega⟩
        have hd : vl (x.drop (k + 1)) = vl (y.drop (k + 1)) := HD.out
        have P := digs_getD hx.digs k
        have Q := digs_getD hy.digs k
        have hlt := fun p q (hp : x.getD k 0 = p) (hq : y.getD k 0 = q) => cmp_lt k hx.digs hd hp hq
        have hgt := fun p q (hp : x.getD k 0 = p) (hq : y.getD k 0 = q) => cmp_lt k hy.digs hd.symm hq hp
        have hst := fun p q (hp : x.getD k 0 = p) (hq : y.getD k 0 = q) (e : p = q) => show vl (x.drop k) = vl (y.drop k) by rw [drop_one x k, drop_one y k, hd, hp, hq, e]
        rw [hx.val, hy.val] at hlt hgt
        have CX := Lib.hid (at_any ao1 x c1 k wr ((h1.on f2).on hf))
        have CY := Lib.hid (at_any bo1 y c2 k wr (h2.on hf))
        clear hd
        generalize x.getD k 0 = p at P hlt hgt hst CX
        generalize y.getD k 0 = q at Q hlt hgt hst CY
        obtain ⟨p0, p1⟩ := P
        obtain ⟨q0, q1⟩ := Q
        have hlt' := hlt p q rfl rfl p0
        have hgt' := hgt p q rfl rfl q0
        have hst' := hst p q rfl rfl
        clear hlt hgt hst
        rcases (show p < q ∨ p = q ∨ q < p by omega) with h | h | h
        · have HE := Lib.hid (cmpV_lt (hlt' h))
          have hne : (p != q) = true := by rw [bne_iff_ne]; omega
          clear hlt' hgt' hst'
          go_wp2_with fail
          go_at_call 34; refine CX.out.mono ?_; rintro e w4 ⟨rfl, rfl⟩
          go_wp2_with fail
          go_at_call 34; refine CY.out.mono ?_; rintro e w4 ⟨rfl, rfl⟩
          go_wp2
          go_ret
          exact ⟨ret_int HE.out.symm, (f1.trans f2).trans hf⟩
        · subst h
          have HS := Lib.hid (hst' rfl)
          have hne : (p != p) = false := by rw [bne_eq_false_iff_eq]
          clear hlt' hgt' hst'
          go_wp2_with fail
          go_at_call 34; refine CX.out.mono ?_; rintro e w4 ⟨rfl, rfl⟩
          go_wp2_with fail
          go_at_call 34; refine CY.out.mono ?_; rintro e w4 ⟨rfl, rfl⟩
          go_wp2
          go_roundw
          case rel => exact ⟨_, rfl, by omega, by omega, (by
            have e : ((k : Int) - 1 + 1).toNat = k := by omega
            show vl (x.drop _) = vl (y.drop _)
            rw [e]; exact HS.out), hf⟩
          case measure => simp [RowKit.intOf]
        · have HE := Lib.hid (cmpV_gt (hgt' h))
          have hne : (p != q) = true := by rw [bne_iff_ne]; omega
          clear hlt' hgt' hst'
          go_wp2_with fail
          go_at_call 34; refine CX.out.mono ?_; rintro e w4 ⟨rfl, rfl⟩
          go_wp2_with fail
          go_at_call 34; refine CY.out.mono ?_; rintro e w4 ⟨rfl, rfl⟩
          go_wp2
          go_ret
          exact ⟨ret_int HE.out.symm, (f1.trans f2).trans hf⟩

set_option maxHeartbeats 3200000 in
theorem nat_small (ao : Option Addr) (a : List Int) (ca : Nat) (w : World) (ha : IsS w ao a ca) :
    Calls Tryd.prog 16 #[.slice ao a.length ca] w (RetIB w (smallV (nv a)) (smallB (nv a))) := by
  obtain ⟨x, hx⟩ := num_of a
  have lx := hx.len
  have hc : ∀ (bo : Option Addr) (cb : Nat) (ao1 : Option Addr) (c1 : Nat) (w : World), IsS w ao1 x c1 → IsS w bo topL cb → Calls Tryd.prog 21 #[.slice ao1 x.length c1, .slice bo topL.length cb] w (RetI w (cmpV (nv a) 9223372036854775807)) := fun bo cb ao1 c1 w h1 h2 => by
    have k := nat_cmp ao1 bo x topL c1 cb w h1 h2
    rwa [nv_num hx, nv_top] at k
  by_cases hn : nv a ≤ 9223372036854775807
  · have e1 : smallV (nv a) = nv a := by unfold smallV; rw [if_pos hn]
    have e2 : smallB (nv a) = true := decide_eq_true hn
    rw [e1, e2]; clear e1 e2
    have hle : cmpV (nv a) 9223372036854775807 ≤ 0 := by
      rcases Nat.lt_or_eq_of_le hn with h | h
      · rw [cmpV_lt h]; decide
      · rw [cmpV_eq h]; exact Int.le_refl _
    generalize cmpV (nv a) 9223372036854775807 = c at hc hle
    have HC := Lib.hid hc
    have HN := Lib.hid hn
    clear hc hn
    go_enter Tryd.func16, Tryd.ntmps16
    go_wp2_with fail
    go_at_call 33; refine (zero_get hx _ _ _ ha).mono ?_; rintro e w1 ⟨ao1, c1, rfl, h1, f1⟩
    go_wp2_with fail
    go_at_call 31; refine (ntop_get _).mono ?_; rintro e w2 ⟨bo1, c2, rfl, h2, f2⟩
    go_wp2_with fail
    go_at_call 21; refine (HC.out _ _ _ _ _ (h1.on f2) h2).mono ?_; rintro e w3 ⟨rfl, f3⟩
    go_wp2
    go_loop [4, 5] (fun n i => ∃ j : Int, i = .int .i64 j ∧ -1 ≤ j ∧ j < x.length ∧ ∃ v : Nat, n = .int .i64 v ∧ Hid (v = vl (x.drop (j + 1).toNat))) (fun _ i => (RowKit.intOf i + 1).toNat)
    case atStart => exact ⟨_, rfl, by omega, by omega, 0, rfl, (by
      show 0 = vl (x.drop _)
      rw [List.drop_of_length_le (by omega)]; rfl)⟩
    case round =>
      obtain ⟨j, rfl, j0, j1, v, rfl, HV⟩ := hrel
      by_cases hj : j = -1
      · subst hj
        have HE := Lib.hid (show (v : Int) = (nv a : Int) by
          have h := HV.out
          rw [← hx.val]
          have e : x.drop ((-1 : Int) + 1).toNat = x := rfl
          rw [e] at h
          omega)
        go_wp2
        go_ret2
        exact ⟨ret_ib HE.out rfl, (f1.trans f2).trans f3⟩
      · obtain ⟨k, rfl⟩ : ∃ k : Nat, j = (k : Int) := ⟨j.toNat, by omega⟩
        have kx : k < x.length := by omega
        have hv : v = vl (x.drop (k + 1)) := HV.out
        have hd := drop_vl k kx
        have hb := drop_le x k
        rw [hx.val] at hb
        have hnn := HN.out
        obtain ⟨p0, p1⟩ := digs_at hx.digs k kx
        rw [← hv] at hd
        obtain ⟨b1, o1, rfl, _, c4⟩ := (((h1.on f2).on f3)).at_ (by omega)
        have hc1 := c4 k kx
        obtain ⟨p, hp⟩ : ∃ p, x.getD k 0 = p := ⟨_, rfl⟩
        rw [hp] at hc1 hd p0 p1
        clear c4 hp hv
        have hs0 : (v : Int) * 1000000000 + p ≤ 9223372036854775807 := by omega
        have hs1 : 0 ≤ (v : Int) * 1000000000 := by omega
        have HS := Lib.hid (show ((v * 1000000000 + p.toNat : Nat)) = vl (x.drop k) by omega)
        have HP := Lib.hid (show (v : Int) * 1000000000 + p = ((v * 1000000000 + p.toNat : Nat) : Int) by omega)
        clear hd hb hnn
        have kx' : (k : Int) < x.length := by omega
        go_wp2
        go_round
        case rel => exact ⟨_, rfl, by omega, by omega, v * 1000000000 + p.toNat, congrArg _ HP.out, (by
            have e : ((k : Int) - 1 + 1).toNat = k := by omega
            show _ = vl (x.drop _)
            rw [e]; exact HS.out)⟩
        case measure => simp [RowKit.intOf]
  · have e1 : smallV (nv a) = 0 := by unfold smallV; rw [if_neg hn]
    have e2 : smallB (nv a) = false := decide_eq_false hn
    rw [e1, e2]; clear e1 e2
    rw [cmpV_gt (show 9223372036854775807 < nv a by omega)] at hc
    have HC := Lib.hid hc
    clear hc hn
    go_enter Tryd.func16, Tryd.ntmps16
    go_wp2_with fail
    go_at_call 33; refine (zero_get hx _ _ _ ha).mono ?_; rintro e w1 ⟨ao1, c1, rfl, h1, f1⟩
    go_wp2_with fail
    go_at_call 31; refine (ntop_get _).mono ?_; rintro e w2 ⟨bo1, c2, rfl, h2, f2⟩
    go_wp2_with fail
    go_at_call 21; refine (HC.out _ _ _ _ _ (h1.on f2) h2).mono ?_; rintro e w3 ⟨rfl, f3⟩
    go_wp2
    go_ret2
    exact ⟨rfl, (f1.trans f2).trans f3⟩

end Go.Proofs.YtebmkbfbfmnbbaaDoor
