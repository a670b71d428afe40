/-
  Package codec: elementsAt of paths: walked out of what valueAt gives at each offset. Nothing that was there turns.
-/
import Derived.Test.YtehmdeponbhhjaaDoorM22
namespace Go.Proofs.YtehmdeponbhhjaaDoor
open Go.RowKit

theorem w64b (k p : Nat) (h : k < 256) (hn : ¬ k = p) : (wrap64 (k : Int) != (p : Int)) = true := by
  have y : wrap64 (k : Int) = (k : Int) := by unfold wrap64; omega
  rw [y, bne_iff_ne]
  omega

set_option maxHeartbeats 3000000 in
set_option maxRecDepth 100000 in
theorem els_path (ao : Option Addr) (l : List UInt8) (cap : Nat) (a nest : Int) (h0 : -9223372036854775808 ≤ a) (h1 : a ≤ 9223372036854775807) (w : World) (h : IsB w ao l cap) (rv : Int → Rs)
    (HV : ∀ (b : Int) (w' : World), 0 ≤ b → b ≤ l.length → (b = l.length ∨ (l.getD b.toNat 0).toNat = 5 ∨ (l.getD b.toNat 0).toNat = 6) → Fuw w w' → Calls Tryd.prog 14 #[.slice ao l.length cap, .int .i64 b, .int .i64 nest] w' (RetG w' (rv b)))
    (HB : ∀ (b : Int) (x : Vl) (E : Int), 0 ≤ b → b ≤ l.length → rv b = .ok x E → Vin x ∧ b ≤ E ∧ E ≤ l.length) :
    Calls Tryd.prog 43 #[.slice ao l.length cap, .int .i64 a, .int .i64 7, .int .i64 nest] w (RetL w (pathV l rv a)) := by
  obtain ⟨i0, hi, hz0, hz1, hz2⟩ := info_parts infoV
  obtain ⟨n, E0, c, hu⟩ : ∃ u e c, uintV l a = (u, e, c) := ⟨_, _, _, rfl⟩
  have hok := uint_ok hu
  have hlen := h.len.1
  have HU := Lib.hid (uint_is ao l cap a h0 h1 w h n E0 c hu)
  unfold pathV
  rw [hu]
  simp only
  have HI := Lib.hid h
  have HV' := Lib.hid HV
  have HB' := Lib.hid HB
  clear HV HB hu h0 h1 h
  by_cases hc : c = 0
  case neg =>
    rw [if_pos hc]
    have hcb : (c == 0) = false := beq_eq_false_iff_ne.2 hc
    have hE := hok.2.2.2.2 hc
    have HC := Lib.hid hc
    clear hok hc
    go_enter Tryd.func43, Tryd.ntmps43
    go_wp2_with fail
    go_at_call 8; refine HU.out.mono ?_; rintro e1 w1 ⟨rfl, rfl⟩
    clear HU
    go_wp2
    go_ret3
    exact ⟨Fuw.refl _, rfl, HC.out⟩
  subst hc
  rw [if_neg (fun t => t rfl)]
  have hb := hok.2.2.2.1 rfl
  obtain ⟨m, rfl⟩ : ∃ m : Nat, n = (m : Int) := ⟨n.toNat, by omega⟩
  rw [Int.toNat_natCast]
  have HM := Lib.hid (may_path m (by omega) w)
  by_cases hn : m ≤ 25 ∧ m % 2 = 1
  case neg =>
    rw [if_pos hn]
    rw [decide_eq_false hn] at HM
    clear hok
    go_enter Tryd.func43, Tryd.ntmps43
    go_wp2_with fail
    go_at_call 8; refine HU.out.mono ?_; rintro e1 w1 ⟨rfl, rfl⟩
    clear HU
    go_wp2_with fail
    go_at_call 58; refine HM.out.mono ?_; rintro e1 w1 ⟨rfl, rfl⟩
    go_wp2
    go_ret3
    exact ⟨Fuw.refl _, rfl, by decide⟩
  rw [if_neg (fun t => t hn)]
  rw [decide_eq_true hn] at HM
  obtain ⟨bb, off, hao, hbb, hcs⟩ := HI.out.at_ (by omega)
  subst hao
  have HBB := Lib.hid hbb
  have hm : m ≤ 25 := hn.1
  clear hn
  clear hok
  go_enter Tryd.func43, Tryd.ntmps43
  go_wp2_with fail
  go_at_call 8; refine HU.out.mono ?_; rintro e1 w1 ⟨rfl, rfl⟩
  clear HU
  go_wp2_with fail
  go_at_call 58; refine HM.out.mono ?_; rintro e1 w1 ⟨rfl, rfl⟩
  go_upto_region 7 with (at_make; refine wpList_make_full _ rfl (.tmp 29) (.tmp 29) 24 rfl w.heap.size 26 i0 (.agg #[.int .i64 0, .int .i64 0, .int .i64 0, .string ⟨#[]⟩, .slice none 0 0]) 5 Tryd.underlying24 hi hz0 hz1 .i64 .i64 _ _ m rfl rfl rfl rfl (by rw [hz2]; omega) (by unfold maxLen; omega) (Nat.le_refl _) ?_; intro w2 hown hgrow)
  have hR := rm_made hown
  have hf2 : Fuw w w2 := Below.grown (Below.refl _ _) hgrow (Nat.le_refl _) (fun k hk => by cases hk)
  clear hown hgrow hi hz0 hz1 hz2
  generalize hg : w.heap.size = g at *
  have HG := Lib.hid hg
  clear hg
  go_wp2
  go_loopw [1, 33] (fun av iv wr => ∃ (i : Nat) (xs : List Vl) (b : Int), iv = .int .i64 i ∧ av = .int .i64 b ∧ i ≤ m ∧ xs.length = i ∧ 0 ≤ b ∧ b ≤ l.length ∧ Hid (elsV l 7 rv m 0 E0 = appL xs (elsV l 7 rv (m - i) i b)) ∧ Fuw w wr ∧ Hid (QV wr g xs) ∧ Hid (Rm wr g m)) (fun _ iv _ => m - (RowKit.intOf iv).toNat)
  case atStart => exact ⟨0, [], E0, rfl, rfl, Nat.zero_le _, rfl, by omega, hb.2.2, Lib.hid (appL_nil _).symm, hf2, Lib.hid (fun j hj => absurd hj (Nat.not_lt_zero _)), Lib.hid hR⟩
  case round =>
    obtain ⟨i, xs, b, rfl, rfl, him, hxl, hb0, hb1, hE, hf, hQ, hRm⟩ := hrel
    by_cases hlt : (i : Int) < m
    · obtain ⟨bn, rfl⟩ : ∃ bn : Nat, b = (bn : Int) := ⟨b.toNat, by omega⟩
      have HPK := Lib.hid (fun w' => pk_is i w')
      by_cases hbn : bn < l.length
      · have hck := (Below.cell hf (p := ⟨bb, off + bn, none⟩) (Nat.lt_of_lt_of_le HBB.out (Nat.le_of_eq HG.out.symm))).trans (hcs bn hbn)
        have hbi : (bn : Int) < l.length := by omega
        generalize hkk : (l.getD bn 0).toNat = kk at *
        have hk8 : kk < 256 := by rw [← hkk]; exact (l.getD bn 0).toNat_lt
        have y0 : IntKind.i64.wrap (kk : Int) = (kk : Int) := IntWalk.i64_in _ (by omega)
        have y1 : wrap64 (kk : Int) = (kk : Int) := by unfold wrap64; omega
        by_cases hpk : kk = pkV i
        · subst hpk
          have hpb : (wrap64 ((pkV i : Nat) : Int) != ((pkV i : Nat) : Int)) = false := by rw [y1]; exact bne_self_eq_false _
          have hkn : ¬ (7 = 7 ∧ (bn : Int) < l.length ∧ (l.getD (bn : Int).toNat 0).toNat ≠ pkV i) := by rw [Int.toNat_natCast, hkk]; exact fun t => t.2.2 rfl
          have HN := Lib.hid (fun nq => HV'.out bn (wr.drewN nq) hb0 hb1 (.inr (by rw [Int.toNat_natCast, hkk]; unfold pkV; split <;> simp)) (Fuw.trans hf (fuwN wr nq)))
          clear hcs
          have hbx := HB'.out bn
          generalize hrb : rv (bn : Int) = r at *
          have hgz := hRm.out.1
          cases r with
          | ok x E =>
            have hx := hbx x E hb0 hb1 rfl
            have hE1 := Lib.hid (els_ok (l := l) (kind := 7) (rv := rv) (n := m - i - 1) (i := i) hkn hrb)
            clear hbx hrb
            go_upto_region 10 with fail
            go_quiet (first | (go_at_call 59; exact Calls.quiet_of_same ((HPK.out _).mono fun _ _ t => ⟨t.1, t.2.symm⟩)))
            go_wp2_with fail
            go_at_call 14; refine (HN.out _).mono ?_; rintro e3 w3 ⟨f3d, a2, c2, he3, hk3⟩
            have f3 : Fuw wr w3 := Fuw.trans (fuwN wr _) f3d
            clear f3d HN
            unfold vc at he3
            subst he3
            have hQ3 := qv_on hQ.out hgz f3
            have hR3 := rm_on hRm.out f3
            have hK3 := Lib.hid (kp_mono (Nat.le_of_lt hgz) hk3)
            have il : i < m := by omega
            have r0 := hR3.2 (i * 5) (by omega)
            have r1 := hR3.2 (i * 5 + 1) (by omega)
            have r2 := hR3.2 (i * 5 + 2) (by omega)
            have r3 := hR3.2 (i * 5 + 3) (by omega)
            have r4 := hR3.2 (i * 5 + 4) (by omega)
            obtain ⟨q0, fz0⟩ := r0; obtain ⟨q1, fz1⟩ := r1; obtain ⟨q2, fz2⟩ := r2; obtain ⟨q3, fz3⟩ := r3; obtain ⟨q4, fz4⟩ := r4
            obtain ⟨y0, q0⟩ := Option.isSome_iff_exists.1 q0; obtain ⟨y1, q1⟩ := Option.isSome_iff_exists.1 q1; obtain ⟨y2, q2⟩ := Option.isSome_iff_exists.1 q2; obtain ⟨y3, q3⟩ := Option.isSome_iff_exists.1 q3; obtain ⟨y4, q4⟩ := Option.isSome_iff_exists.1 q4
            have HQ3 := Lib.hid hQ3
            have HR3 := Lib.hid hR3
            clear hQ3 hR3 hk3
            go_wp2
            go_roundw
            case rel =>
              have hq := qv_put HQ3.out HR3.out (by omega) hx.1 hK3.out
              rw [hxl] at hq
              exact ⟨i + 1, xs ++ [x], E, congrArg (Value.int .i64) (by omega), rfl, il, by rw [List.length_append, hxl]; rfl, by omega, hx.2.2, Lib.hid (by rw [hE.out, show m - i = m - i - 1 + 1 by omega, hE1.out, ← appL_app, show m - (i + 1) = m - i - 1 by omega]), fuw_set (fuw_set (fuw_set (fuw_set (fuw_set (Fuw.trans hf f3) (Nat.le_of_eq HG.out)) (Nat.le_of_eq HG.out)) (Nat.le_of_eq HG.out)) (Nat.le_of_eq HG.out)) (Nat.le_of_eq HG.out), Lib.hid hq, Lib.hid (rm_set (rm_set (rm_set (rm_set (rm_set HR3.out)))))⟩
            case measure => simp [RowKit.intOf]; omega
          | er c =>
            have hE1 := Lib.hid (els_er (l := l) (kind := 7) (rv := rv) (n := m - i - 1) (i := i) hkn hrb)
            clear hbx hrb
            go_upto_region 10 with fail
            go_quiet (first | (go_at_call 59; exact Calls.quiet_of_same ((HPK.out _).mono fun _ _ t => ⟨t.1, t.2.symm⟩)))
            go_wp2_with fail
            go_at_call 14; refine (HN.out _).mono ?_; rintro e3 w3 ⟨f3d, he3, hc0⟩
            have f3 : Fuw wr w3 := Fuw.trans (fuwN wr _) f3d
            rw [vc_v0] at he3
            clear f3d HN
            subst he3
            have hcb : (c == 0) = false := beq_eq_false_iff_ne.2 hc0
            have hR3 := rm_on hRm.out f3
            have il : i < m := by omega
            have r0 := hR3.2 (i * 5) (by omega)
            have r1 := hR3.2 (i * 5 + 1) (by omega)
            have r2 := hR3.2 (i * 5 + 2) (by omega)
            have r3 := hR3.2 (i * 5 + 3) (by omega)
            have r4 := hR3.2 (i * 5 + 4) (by omega)
            obtain ⟨q0, fz0⟩ := r0; obtain ⟨q1, fz1⟩ := r1; obtain ⟨q2, fz2⟩ := r2; obtain ⟨q3, fz3⟩ := r3; obtain ⟨q4, fz4⟩ := r4
            obtain ⟨y0, q0⟩ := Option.isSome_iff_exists.1 q0; obtain ⟨y1, q1⟩ := Option.isSome_iff_exists.1 q1; obtain ⟨y2, q2⟩ := Option.isSome_iff_exists.1 q2; obtain ⟨y3, q3⟩ := Option.isSome_iff_exists.1 q3; obtain ⟨y4, q4⟩ := Option.isSome_iff_exists.1 q4
            have HC0 := Lib.hid hc0
            clear hR3 hc0
            go_wp2
            go_ret3
            have e : elsV l 7 rv m 0 E0 = .er c := by rw [hE.out, show m - i = m - i - 1 + 1 by omega, hE1.out]; rfl
            rw [e]
            exact ⟨fuw_set (fuw_set (fuw_set (fuw_set (fuw_set (Fuw.trans hf f3) (Nat.le_of_eq HG.out)) (Nat.le_of_eq HG.out)) (Nat.le_of_eq HG.out)) (Nat.le_of_eq HG.out)) (Nat.le_of_eq HG.out), rfl, HC0.out⟩
        · clear hcs y0 y1 hk8
          go_upto_region 10 with fail
          go_quiet (first | (go_at_call 59; exact Calls.quiet_of_same ((HPK.out _).mono fun _ _ t => ⟨t.1, t.2.symm⟩)))
          rw [w64b kk (pkV i) (by rw [← hkk]; exact (l.getD bn 0).toNat_lt) hpk]
          go_wp2
          go_ret3
          have e : elsV l 7 rv m 0 E0 = .er 2 := by
            rw [hE.out, show m - i = m - i - 1 + 1 by omega, elsV, if_pos ⟨rfl, hbi, by rw [Int.toNat_natCast, hkk]; exact hpk⟩]; rfl
          rw [e]
          exact ⟨Fuw.trans hf (fuwN wr _), rfl, by decide⟩
      · have hbe : (bn : Int) = l.length := by omega
        have hbi : ¬ ((bn : Int) < l.length) := by omega
        have hkn : ¬ (7 = 7 ∧ (bn : Int) < l.length ∧ (l.getD (bn : Int).toNat 0).toNat ≠ pkV i) := fun t => hbi t.2.1
        have HN := Lib.hid (fun nq => HV'.out bn (wr.drewN nq) hb0 hb1 (.inl hbe) (Fuw.trans hf (fuwN wr nq)))
        clear hcs hbe hbn
        have hbx := HB'.out bn
        generalize hrb : rv (bn : Int) = r at *
        have hgz := hRm.out.1
        cases r with
        | ok x E =>
          have hx := hbx x E hb0 hb1 rfl
          have hE1 := Lib.hid (els_ok (l := l) (kind := 7) (rv := rv) (n := m - i - 1) (i := i) hkn hrb)
          clear hbx hrb
          go_upto_region 10 with fail
          go_quiet (fail)
          go_wp2_with fail
          go_at_call 14; refine (HN.out _).mono ?_; rintro e3 w3 ⟨f3d, a2, c2, he3, hk3⟩
          have f3 : Fuw wr w3 := Fuw.trans (fuwN wr _) f3d
          clear f3d HN
          unfold vc at he3
          subst he3
          have hQ3 := qv_on hQ.out hgz f3
          have hR3 := rm_on hRm.out f3
          have hK3 := Lib.hid (kp_mono (Nat.le_of_lt hgz) hk3)
          have il : i < m := by omega
          have r0 := hR3.2 (i * 5) (by omega)
          have r1 := hR3.2 (i * 5 + 1) (by omega)
          have r2 := hR3.2 (i * 5 + 2) (by omega)
          have r3 := hR3.2 (i * 5 + 3) (by omega)
          have r4 := hR3.2 (i * 5 + 4) (by omega)
          obtain ⟨q0, fz0⟩ := r0; obtain ⟨q1, fz1⟩ := r1; obtain ⟨q2, fz2⟩ := r2; obtain ⟨q3, fz3⟩ := r3; obtain ⟨q4, fz4⟩ := r4
          obtain ⟨y0, q0⟩ := Option.isSome_iff_exists.1 q0; obtain ⟨y1, q1⟩ := Option.isSome_iff_exists.1 q1; obtain ⟨y2, q2⟩ := Option.isSome_iff_exists.1 q2; obtain ⟨y3, q3⟩ := Option.isSome_iff_exists.1 q3; obtain ⟨y4, q4⟩ := Option.isSome_iff_exists.1 q4
          have HQ3 := Lib.hid hQ3
          have HR3 := Lib.hid hR3
          clear hQ3 hR3 hk3
          go_wp2
          go_roundw
          case rel =>
            have hq := qv_put HQ3.out HR3.out (by omega) hx.1 hK3.out
            rw [hxl] at hq
            exact ⟨i + 1, xs ++ [x], E, congrArg (Value.int .i64) (by omega), rfl, il, by rw [List.length_append, hxl]; rfl, by omega, hx.2.2, Lib.hid (by rw [hE.out, show m - i = m - i - 1 + 1 by omega, hE1.out, ← appL_app, show m - (i + 1) = m - i - 1 by omega]), fuw_set (fuw_set (fuw_set (fuw_set (fuw_set (Fuw.trans hf f3) (Nat.le_of_eq HG.out)) (Nat.le_of_eq HG.out)) (Nat.le_of_eq HG.out)) (Nat.le_of_eq HG.out)) (Nat.le_of_eq HG.out), Lib.hid hq, Lib.hid (rm_set (rm_set (rm_set (rm_set (rm_set HR3.out)))))⟩
          case measure => simp [RowKit.intOf]; omega
        | er c =>
          have hE1 := Lib.hid (els_er (l := l) (kind := 7) (rv := rv) (n := m - i - 1) (i := i) hkn hrb)
          clear hbx hrb
          go_upto_region 10 with fail
          go_quiet (fail)
          go_wp2_with fail
          go_at_call 14; refine (HN.out _).mono ?_; rintro e3 w3 ⟨f3d, he3, hc0⟩
          have f3 : Fuw wr w3 := Fuw.trans (fuwN wr _) f3d
          rw [vc_v0] at he3
          clear f3d HN
          subst he3
          have hcb : (c == 0) = false := beq_eq_false_iff_ne.2 hc0
          have hR3 := rm_on hRm.out f3
          have il : i < m := by omega
          have r0 := hR3.2 (i * 5) (by omega)
          have r1 := hR3.2 (i * 5 + 1) (by omega)
          have r2 := hR3.2 (i * 5 + 2) (by omega)
          have r3 := hR3.2 (i * 5 + 3) (by omega)
          have r4 := hR3.2 (i * 5 + 4) (by omega)
          obtain ⟨q0, fz0⟩ := r0; obtain ⟨q1, fz1⟩ := r1; obtain ⟨q2, fz2⟩ := r2; obtain ⟨q3, fz3⟩ := r3; obtain ⟨q4, fz4⟩ := r4
          obtain ⟨y0, q0⟩ := Option.isSome_iff_exists.1 q0; obtain ⟨y1, q1⟩ := Option.isSome_iff_exists.1 q1; obtain ⟨y2, q2⟩ := Option.isSome_iff_exists.1 q2; obtain ⟨y3, q3⟩ := Option.isSome_iff_exists.1 q3; obtain ⟨y4, q4⟩ := Option.isSome_iff_exists.1 q4
          have HC0 := Lib.hid hc0
          clear hR3 hc0
          go_wp2
          go_ret3
          have e : elsV l 7 rv m 0 E0 = .er c := by rw [hE.out, show m - i = m - i - 1 + 1 by omega, hE1.out]; rfl
          rw [e]
          exact ⟨fuw_set (fuw_set (fuw_set (fuw_set (fuw_set (Fuw.trans hf f3) (Nat.le_of_eq HG.out)) (Nat.le_of_eq HG.out)) (Nat.le_of_eq HG.out)) (Nat.le_of_eq HG.out)) (Nat.le_of_eq HG.out), rfl, HC0.out⟩
    · go_wp2
      go_ret3
      have ei : i = m := by omega
      subst ei
      have hE2 := hE.out
      rw [Nat.sub_self] at hE2
      have e : elsV l 7 rv i 0 E0 = .ok xs b := by rw [hE2]; unfold elsV appL; exact congrArg (fun t => Rl.ok t b) (List.append_nil xs)
      rw [e]
      exact ⟨hf, _, _, by rw [hxl]; rfl, fun lo hlo => by rw [← hxl]; exact qv_kp hQ.out hRm.out.1 (by rw [← HG.out]; exact hlo) (by unfold maxLen; omega)⟩
end Go.Proofs.YtehmdeponbhhjaaDoor
