/-
  Package nat: Mul gives the list of the product of two numbers and true, or an empty list and false if it has more than 64 limbs. For every two slices of int; nothing that was there turns.
-/
import Derived.Test.YtebmkbfbfmnbbaaDoorNatS
namespace Go.Proofs.YtebmkbfbfmnbbaaDoor
open Go.RowKit

set_option maxHeartbeats 3200000 in
theorem nat_mul (ao bo : Option Addr) (a b : List Int) (ca cb : Nat) (w : World) (ha : IsS w ao a ca) (hb : IsS w bo b cb) :
    Calls Tryd.prog 14 #[.slice ao a.length ca, .slice bo b.length cb] w (RetSB w (bdL (lim (nv a * nv b))) (bdB (lim (nv a * nv b)))) := by
  obtain ⟨i0, hi, hz0, hz1, hz2⟩ := info_parts infoI
  obtain ⟨x, hx⟩ := num_of a
  obtain ⟨y, hy⟩ := num_of b
  have lx := hx.len
  have ly := hy.len
  have dx := hx.digs
  have dy := hy.digs
  go_enter Tryd.func14, Tryd.ntmps14
  go_wp2_with fail
  go_at_call 33; refine (zero_get hx _ _ _ ha).mono ?_; rintro e w1 ⟨ao1, c1, rfl, h1, f1⟩
  go_wp2_with fail
  go_at_call 33; refine (zero_get hy _ _ _ (hb.on f1)).mono ?_; rintro e w2 ⟨bo1, c2, rfl, h2, f2⟩
  go_wp2_with (at_make; refine wpList_make_full _ rfl (.tmp 21) (.tmp 21) 23 rfl w2.heap.size 3 i0 (.int .i64 0) 1 Tryd.underlying23 hi hz0 hz1 .i64 .i64 _ _ (x.length + y.length) rfl rfl (by omega) (by omega) (by rw [hz2]; omega) (by unfold maxLen; omega) (Nat.le_refl _) ?_; intro w3 hown0 hgrow0)
  have hown1 : w3.ownsRow w2.heap.size 3 1 (.slice (some ⟨w2.heap.size, 0, none⟩) (x.length + y.length) (x.length + y.length)) (x.length + y.length) (cs (List.replicate (x.length + y.length) 0)) := by
    rw [made_zero] at hown0
    exact hown0
  have hf1 : Fur w2 w3 := Below.grown (Fur.refl w2) hgrow0 (Nat.le_refl _) (by intro k hk; cases hk)
  clear hown0 hgrow0
  go_wp2
  go_loopw [25] (fun ii wr => ∃ (i : Nat) (o : List Int), ii = .int .i64 i ∧ i ≤ x.length ∧ wr.ownsRow w2.heap.size 3 1 (.slice (some ⟨w2.heap.size, 0, none⟩) (x.length + y.length) (x.length + y.length)) (x.length + y.length) (cs o) ∧ Fur w2 wr ∧ Hid (OutAt x y (x.length + y.length) i o)) (fun ii _ => x.length - (RowKit.intOf ii).toNat)
  case atStart => exact ⟨0, _, rfl, Nat.zero_le _, hown1, hf1, out_start _ _ _⟩
  case round =>
    obtain ⟨i, o, rfl, hi', hown, hf, HO⟩ := hrel
    by_cases hlt : i < x.length
    · obtain ⟨p, hp⟩ : ∃ p, x.getD i 0 = p := ⟨_, rfl⟩
      have HP := Lib.hid hp
      have hpd := digs_at dx i hlt
      rw [hp] at hpd
      obtain ⟨p0, p1⟩ := hpd
      obtain ⟨b1, o1, rfl, _, cx⟩ := ((h1.on f2).on hf).at_ (by omega)
      have hcx := cx i hlt
      rw [hp] at hcx
      clear cx hp
      go_wp2
      go_loopw [9, 32] (fun cc kk wr2 => ∃ (k : Nat) (o2 : List Int) (c : Int), kk = .int .i64 k ∧ k ≤ y.length ∧ cc = .int .i64 c ∧ 0 ≤ c ∧ c < 1000000000 ∧ wr2.ownsRow w2.heap.size 3 1 (.slice (some ⟨w2.heap.size, 0, none⟩) (x.length + y.length) (x.length + y.length)) (x.length + y.length) (cs o2) ∧ Fur w2 wr2 ∧ Hid (InAt x y (x.length + y.length) i p k o2 c)) (fun _ kk _ => y.length - (RowKit.intOf kk).toNat)
      case atStart => exact ⟨0, o, 0, rfl, Nat.zero_le _, rfl, by decide, by decide, hown, hf, in_start HO.out p⟩
      case round =>
        obtain ⟨k, o2, c, rfl, hk, rfl, d0, d1, hown2, hf2, HI⟩ := hrel
        clear hcx
        have hol : o2.length = x.length + y.length := HI.out.len
        by_cases hlk : k < y.length
        · obtain ⟨q, hq⟩ : ∃ q, y.getD k 0 = q := ⟨_, rfl⟩
          obtain ⟨r, hr⟩ : ∃ r, o2.getD (i + k) 0 = r := ⟨_, rfl⟩
          have hqd := digs_at dy k hlk
          have hrd := digs_getD HI.out.digs (i + k)
          rw [hq] at hqd
          rw [hr] at hrd
          obtain ⟨q0, q1⟩ := hqd
          obtain ⟨r0, r1⟩ := hrd
          obtain ⟨m0, m1⟩ := mul_bd p0 p1 q0 q1
          have HS := Lib.hid (show InAt x y (x.length + y.length) i p (k + 1) (o2.set (i + k) ((p * q + r + c) % 1000000000)) ((p * q + r + c) / 1000000000) from by
            rw [Int.add_comm (p * q) r]
            exact in_step HI.out hlk (by omega) hq hr p0 q0 r0 r1 ⟨m0, m1⟩)
          obtain ⟨b2, o3, rfl, _, cy⟩ := (h2.on hf2).at_ (by omega)
          have hcy := cy k hlk
          have hco := hown2.cellAt (i + k) (by omega)
          rw [cs_getD (by omega), hr] at hco
          rw [hq] at hcy
          have hfz := hown2.frozenAt (i + k)
          have hsz := hf2.size
          have hst := (hown2.stored (i + k) (.int .i64 ((p * q + r + c) % 1000000000))).1
          rw [cs_set] at hst
          have HST := Lib.hid hst
          have hf3 := fur_set (u := .int .i64 ((p * q + r + c) % 1000000000)) (j := i + k) hf2 (Nat.le_refl w2.heap.size)
          clear cy hq hr hol hst
          have ikn : (i : Int) + k < x.length + y.length := by omega
          have ilt : (i : Int) < x.length := by omega
          have klt : (k : Int) < y.length := by omega
          have ht : ((i : Int) + k).toNat = i + k := by omega
          have s0 : IntKind.i64.wrap ((i : Int) + k) = (i : Int) + k := IntWalk.i64_in _ (by omega)
          have s1 : IntKind.i64.wrap (p * q) = p * q := IntWalk.i64_in _ (by omega)
          have s2 : IntKind.i64.wrap (p * q + r) = p * q + r := IntWalk.i64_in _ (by omega)
          have s3 : IntKind.i64.wrap (p * q + r + c) = p * q + r + c := IntWalk.i64_in _ (by omega)
          have klt' : k + 1 ≤ y.length := by omega
          have v0 : 0 ≤ p * q + r + c := by omega
          have v1 : (p * q + r + c) / 1000000000 < 1000000000 := by omega
          have v2 : 0 ≤ (p * q + r + c) / 1000000000 := by omega
          have V := Lib.hid (And.intro v2 v1)
          clear v1 v2
          go_wp2
          go_roundw
          case rel => exact ⟨k + 1, _, _, by go_num, klt', rfl, V.out.1, V.out.2, HST.out, hf3, HS.out⟩
          case measure => simp [RowKit.intOf]; omega
        · have e : k = y.length := by omega
          subst e
          have HE := Lib.hid (in_end HI.out (by omega) HP.out)
          have hco := hown2.cellAt (i + y.length) (by omega)
          rw [cs_getD (by omega)] at hco
          have hfz := hown2.frozenAt (i + y.length)
          have hst := (hown2.stored (i + y.length) (.int .i64 c)).1
          rw [cs_set] at hst
          have HST := Lib.hid hst
          have hf3 := fur_set (u := .int .i64 c) (j := i + y.length) hf2 (Nat.le_refl w2.heap.size)
          have ilt : (i : Int) < x.length := by omega
          have ikn : (i : Int) + y.length < x.length + y.length := by omega
          have i1 : i + 1 ≤ x.length := by omega
          have ht : ((i : Int) + y.length).toNat = i + y.length := by omega
          clear hst hol hlk hk
          go_wp2
          go_roundw
          case rel => exact ⟨i + 1, _, by go_num, i1, HST.out, hf3, HE.out⟩
          case measure => simp [RowKit.intOf]; omega
    · have e : i = x.length := by omega
      subst e
      have HV := Lib.hid (show vl o = nv a * nv b by have h := HO.out.val; rwa [List.take_length, hx.val, hy.val] at h)
      have hdo := HO.out.digs
      have hol := HO.out.len
      clear hlt hi'
      obtain ⟨ao3, c3, h3, -, hI⟩ := IsS.of_own hown
      obtain ⟨rfl, h4, rfl⟩ := Value.slice.inj h3
      have HB := Lib.hid (show Calls Tryd.prog 35 #[.slice (some ⟨w2.heap.size, 0, none⟩) (x.length + y.length) (x.length + y.length)] wr (RetSB wr (bdL (lim (vl o))) (bdB (lim (vl o)))) from by
        have k := limbs_any _ o _ _ hI hdo
        rw [hol] at k
        exact k)
      clear h3 h4 hol hdo hown
      go_wp2_with fail
      go_at_call 35; refine HB.out.mono ?_; rintro e w6 ⟨ao6, c6, rfl, h6, f6⟩
      go_wp2
      go_ret2
      exact retb_of (congrArg (fun v => bdL (lim v)) HV.out.symm) (congrArg (fun v => bdB (lim v)) HV.out.symm) ⟨_, _, rfl, h6, ((f1.trans f2).trans hf).trans f6⟩
end Go.Proofs.YtebmkbfbfmnbbaaDoor
