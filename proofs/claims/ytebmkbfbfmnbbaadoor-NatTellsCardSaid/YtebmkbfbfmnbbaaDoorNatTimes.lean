/-
  The reference's times gives the list of the product of the values of two lists of digits of at most 64 limbs each. Nothing that was there turns.
-/
import Derived.Test.YtebmkbfbfmnbbaaDoorNatTimesM
namespace Go.Proofs.YtebmkbfbfmnbbaaDoor
open Go.RowKit

theorem cs_getD {o : List Int} {j : Nat} (h : j < o.length) : (cs o)[j]? = some (.int .i64 (o.getD j 0)) := by
  unfold cs
  rw [List.getElem?_map, List.getElem?_eq_getElem h, getD_at h]; rfl
theorem cs_set (o : List Int) (j : Nat) (z : Int) : (cs o).set j (.int .i64 z) = cs (o.set j z) := by
  unfold cs
  rw [List.map_set]
theorem fur_set {w w1 : World} {g j : Nat} {u : Value} (hf : Fur w w1) (hg : w.heap.size ≤ g) : Fur w (w1.setCell ⟨g, j, none⟩ u) := Below.setCell hf hg u

set_option maxHeartbeats 3200000 in
theorem times_any (ao bo : Option Addr) (x y : List Int) (ca cb : Nat) (w : World) (ha : IsS w ao x ca) (hb : IsS w bo y cb) (dx : Digs x) (dy : Digs y) (lx : x.length ≤ 64) (ly : y.length ≤ 64) :
    Calls Tryd.prog 39 #[.slice ao x.length ca, .slice bo y.length cb] w (RetS w (lim (vl x * vl y))) := by
  obtain ⟨i0, hi, hz0, hz1, hz2⟩ := info_parts infoI
  go_enter Tryd.func39, Tryd.ntmps39
  go_wp2_with (at_make; refine wpList_make_full _ rfl (.tmp 14) (.tmp 14) 23 rfl w.heap.size 3 i0 (.int .i64 0) 1 Tryd.underlying23 hi hz0 hz1 .i64 .i64 _ _ (x.length + y.length) rfl rfl (by omega) (by omega) (by rw [hz2]; omega) (by unfold maxLen; omega) (Nat.le_refl _) ?_; intro w1 hown0 hgrow0)
  have hown1 : w1.ownsRow w.heap.size 3 1 (.slice (some ⟨w.heap.size, 0, none⟩) (x.length + y.length) (x.length + y.length)) (x.length + y.length) (cs (List.replicate (x.length + y.length) 0)) := by
    have e : (madeCells (Value.int .i64 0).cells ((x.length + y.length) * 1)).toList = cs (List.replicate (x.length + y.length) 0) := by
      rw [Nat.mul_one]
      unfold cs
      rw [List.map_replicate]
      exact toList_madeCells_one (.int .i64 0) _
    rw [e] at hown0
    exact hown0
  have hf1 : Fur w w1 := Below.grown (Fur.refl w) hgrow0 (Nat.le_refl _) (by intro k hk; cases hk)
  clear hown0 hgrow0
  go_loopw [6] (fun ii wr => ∃ (i : Nat) (o : List Int), ii = .int .i64 i ∧ i ≤ x.length ∧ wr.ownsRow w.heap.size 3 1 (.slice (some ⟨w.heap.size, 0, none⟩) (x.length + y.length) (x.length + y.length)) (x.length + y.length) (cs o) ∧ Fur w wr ∧ Hid (OutAt x y (x.length + y.length) i o)) (fun ii _ => x.length - (RowKit.intOf ii).toNat)
  case atStart => exact ⟨0, _, rfl, Nat.zero_le _, hown1, hf1, out_start _ _ _⟩
  case round =>
    obtain ⟨i, o, rfl, hi', hown, hf, HO⟩ := hrel
    by_cases hlt : i < x.length
    · obtain ⟨p, hp⟩ : ∃ p, x.getD i 0 = p := ⟨_, rfl⟩
      have HP := Lib.hid hp
      have hpd := digs_at dx i hlt
      rw [hp] at hpd
      obtain ⟨p0, p1⟩ := hpd
      clear hp
      go_wp2
      go_loopw [7, 8] (fun cc kk wr2 => ∃ (k : Nat) (o2 : List Int) (c : Int), kk = .int .i64 k ∧ k ≤ y.length ∧ cc = .int .i64 c ∧ 0 ≤ c ∧ c < 1000000000 ∧ wr2.ownsRow w.heap.size 3 1 (.slice (some ⟨w.heap.size, 0, none⟩) (x.length + y.length) (x.length + y.length)) (x.length + y.length) (cs o2) ∧ Fur w wr2 ∧ Hid (InAt x y (x.length + y.length) i p k o2 c)) (fun _ kk _ => y.length - (RowKit.intOf kk).toNat)
      case atStart => exact ⟨0, o, 0, rfl, Nat.zero_le _, rfl, by decide, by decide, hown, hf, in_start HO.out p⟩
      case round =>
        obtain ⟨k, o2, c, rfl, hk, rfl, d0, d1, hown2, hf2, HI⟩ := hrel
        have hol : o2.length = x.length + y.length := HI.out.len
        by_cases hlk : k < y.length
        · obtain ⟨q, hq⟩ : ∃ q, y.getD k 0 = q := ⟨_, rfl⟩
          obtain ⟨r, hr⟩ : ∃ r, o2.getD (i + k) 0 = r := ⟨_, rfl⟩
          have hqd := digs_at dy k hlk
          have hrd := digs_getD HI.out.digs (i + k)
          rw [hq] at hqd
          rw [hr] at hrd
          obtain ⟨q0, q1⟩ := hqd
          obtain ⟨r0, r1⟩ := hrd
          obtain ⟨m0, m1⟩ := mul_bd p0 p1 q0 q1
          have HS := Lib.hid (in_step HI.out hlk (by omega) hq hr p0 q0 r0 r1 ⟨m0, m1⟩)
          obtain ⟨b1, o1, rfl, _, cx⟩ := (ha.on hf2).at_ (by omega)
          obtain ⟨b2, o3, rfl, _, cy⟩ := (hb.on hf2).at_ (by omega)
          have hcx := cx i hlt
          have hcy := cy k hlk
          have hco := hown2.cellAt (i + k) (by omega)
          rw [cs_getD (by omega), hr] at hco
          rw [HP.out] at hcx
          rw [hq] at hcy
          have hfz := hown2.frozenAt (i + k)
          have hsz := hf2.size
          clear cx cy hq hr hol
          have ikn : (i : Int) + k < x.length + y.length := by omega
          have ilt : (i : Int) < x.length := by omega
          have klt : (k : Int) < y.length := by omega
          have ht : ((i : Int) + k).toNat = i + k := by omega
          have s0 : IntKind.i64.wrap ((i : Int) + k) = (i : Int) + k := IntWalk.i64_in _ (by omega)
          have s1 : IntKind.i64.wrap (p * q) = p * q := IntWalk.i64_in _ (by omega)
          have s2 : IntKind.i64.wrap (r + p * q) = r + p * q := IntWalk.i64_in _ (by omega)
          have s3 : IntKind.i64.wrap (r + p * q + c) = r + p * q + c := IntWalk.i64_in _ (by omega)
          go_wp2_with fail
          go_quiet (fail)
          clear s1 s2 s3
          have hownq : (wr.drewN nq).ownsRow w.heap.size 3 1 (.slice (some ⟨w.heap.size, 0, none⟩) (x.length + y.length) (x.length + y.length)) (x.length + y.length) (cs o2) := hown2
          have hst := (hownq.stored (i + k) (.int .i64 ((r + p * q + c) % 1000000000))).1
          rw [cs_set] at hst
          have HST := Lib.hid hst
          have hf3 := fur_set (u := .int .i64 ((r + p * q + c) % 1000000000)) (j := i + k) (hf2.trans (fur_drewN wr nq)) (Nat.le_refl w.heap.size)
          have klt' : k + 1 ≤ y.length := by omega
          have v0 : 0 ≤ r + p * q + c := by omega
          have v1 : (r + p * q + c) / 1000000000 < 1000000000 := by omega
          have v2 : 0 ≤ (r + p * q + c) / 1000000000 := by omega
          have V := Lib.hid (And.intro v2 v1)
          clear hst v1 v2 hownq
          go_wp2
          go_roundw
          case rel => exact ⟨k + 1, _, _, by go_num, klt', rfl, V.out.1, V.out.2, HST.out, hf3, HS.out⟩
          case measure => simp [RowKit.intOf]; omega
        · have e : k = y.length := by omega
          subst e
          have HE := Lib.hid (in_end HI.out (by omega) HP.out)
          have hco := hown2.cellAt (i + y.length) (by omega)
          rw [cs_getD (by omega)] at hco
          have hfz := hown2.frozenAt (i + y.length)
          have hst := (hown2.stored (i + y.length) (.int .i64 c)).1
          rw [cs_set] at hst
          have HST := Lib.hid hst
          have hf3 := fur_set (u := .int .i64 c) (j := i + y.length) hf2 (Nat.le_refl w.heap.size)
          have ilt : (i : Int) < x.length := by omega
          have ikn : (i : Int) + y.length < x.length + y.length := by omega
          have i1 : i + 1 ≤ x.length := by omega
          have ht : ((i : Int) + y.length).toNat = i + y.length := by omega
          clear hst hol hlk hk
          go_wp2
          go_roundw
          case rel => exact ⟨i + 1, _, by go_num, i1, HST.out, hf3, HE.out⟩
          case measure => simp [RowKit.intOf]; omega
    · have e : i = x.length := by omega
      subst e
      have HV := Lib.hid (show vl o = vl x * vl y by have h := HO.out.val; rwa [List.take_length] at h)
      have hdo := HO.out.digs
      have hol := HO.out.len
      have hn : x.length + y.length = o.length := hol.symm
      have HI := Lib.hid hown
      clear hlt hi'
      obtain ⟨ao3, c3, h3, -, hI⟩ := IsS.of_own hown
      obtain ⟨rfl, h4, rfl⟩ := Value.slice.inj h3
      have HB := Lib.hid (show Calls Tryd.prog 41 #[.slice (some ⟨w.heap.size, 0, none⟩) (x.length + y.length) (x.length + y.length)] wr (RetS wr (lim (vl o))) from by
        have k := trim_any _ o _ _ hI hdo (by omega)
        rw [hol] at k
        exact k)
      clear h3 h4 hn hol hdo hown
      go_wp2_with fail
      go_at_call 41; refine HB.out.mono ?_; rintro e w6 ⟨ao6, c6, rfl, h6, f6⟩
      go_wp2
      go_ret
      exact ret_of (congrArg lim HV.out.symm) ⟨_, _, rfl, h6, hf.trans f6⟩
end Go.Proofs.YtebmkbfbfmnbbaaDoor
