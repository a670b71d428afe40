/-
  CgN; CgP; CgQ; CgY; PvN: texts of one kind in one file; each part says what it holds.
-/
import Derived.Test.YtolkdmhjomampaaDoorMcg
import Derived.BigQuiet
import Derived.Test.YtolkdmhjomampaaDoorValT

/-! Package codec: what elementsAt of paths calls: mayHave and pathKind. Nothing that was there turns. -/
namespace Go.Proofs.YtolkdmhjomampaaDoor
open Go.RowKit

theorem may_path (n : Nat) (hn : n ≤ 9223372036854775807) (w : World) : Calls Tryd.prog 86 #[.int .i64 7, .int .i64 n] w fun e w' => e = .returned (.bool (decide (n ≤ 25 ∧ n % 2 = 1))) ∧ w = w' := by
  have ht : ((n : Int).tmod 2) = ((n % 2 : Nat) : Int) := rfl
  by_cases h : n ≤ 25
  · have hi : (n : Int) ≤ 25 := by omega
    rcases Nat.mod_two_eq_zero_or_one n with e | e
    · rw [show decide (n ≤ 25 ∧ n % 2 = 1) = false from decide_eq_false (by omega)]
      rw [e] at ht
      have hb : ((((n : Int).tmod 2)) == 1) = false := by rw [ht]; rfl
      clear e h hn
      go_enter Tryd.func86, Tryd.ntmps86
      go_wp2
      go_ret
      exact ⟨rfl, rfl⟩
    · rw [show decide (n ≤ 25 ∧ n % 2 = 1) = true from decide_eq_true (by omega)]
      rw [e] at ht
      have hb : ((((n : Int).tmod 2)) == 1) = true := by rw [ht]; rfl
      clear e h hn
      go_enter Tryd.func86, Tryd.ntmps86
      go_wp2
      go_ret
      exact ⟨rfl, rfl⟩
  · rw [show decide (n ≤ 25 ∧ n % 2 = 1) = false from decide_eq_false (by omega)]
    have hi : ¬ ((n : Int) ≤ 25) := by omega
    clear ht h hn
    go_enter Tryd.func86, Tryd.ntmps86
    go_wp2
    go_ret
    exact ⟨rfl, rfl⟩
theorem pk_is (i : Nat) (w : World) : Calls Tryd.prog 87 #[.int .i64 i] w fun e w' => e = .returned (.int .i64 (pkV i)) ∧ w = w' := by
  have ht : ((i : Int).tmod 2) = ((i % 2 : Nat) : Int) := rfl
  unfold pkV
  rcases Nat.mod_two_eq_zero_or_one i with e | e
  · rw [if_neg (by omega)]
    rw [e] at ht
    have hb : ((((i : Int).tmod 2)) == 1) = false := by rw [ht]; rfl
    clear e
    go_enter Tryd.func87, Tryd.ntmps87
    go_wp2
    go_ret
    exact ⟨rfl, rfl⟩
  · rw [if_pos e]
    rw [e] at ht
    have hb : ((((i : Int).tmod 2)) == 1) = true := by rw [ht]; rfl
    clear e
    go_enter Tryd.func87, Tryd.ntmps87
    go_wp2
    go_ret
    exact ⟨rfl, rfl⟩
theorem fuwN (w : World) (n : Nat) : Fuw w (w.drewN n) := ⟨rfl, rfl, rfl, Nat.le_refl _, fun _ _ => rfl⟩
/-- A path's elements: the number, then each. -/
def pathV (l : List UInt8) (rv : Int → Rs) (a : Int) : Rl :=
  if (uintV l a).2.2 ≠ 0 then .er (uintV l a).2.2
  else if ¬ ((uintV l a).1.toNat ≤ 25 ∧ (uintV l a).1.toNat % 2 = 1) then .er 2
  else elsV l 7 rv (uintV l a).1.toNat 0 (uintV l a).2.1
end Go.Proofs.YtolkdmhjomampaaDoor

/-! Package codec: elementsAt of paths: walked out of what valueAt gives at each offset. Nothing that was there turns. -/
namespace Go.Proofs.YtolkdmhjomampaaDoor
open Go.RowKit

theorem w64b (k p : Nat) (h : k < 256) (hn : ¬ k = p) : (wrap64 (k : Int) != (p : Int)) = true := by
  have y : wrap64 (k : Int) = (k : Int) := by unfold wrap64; omega
  rw [y, bne_iff_ne]
  omega

set_option maxHeartbeats 3000000 in
set_option maxRecDepth 100000 in
theorem els_path (ao : Option Addr) (l : List UInt8) (cap : Nat) (a nest : Int) (h0 : -9223372036854775808 ≤ a) (h1 : a ≤ 9223372036854775807) (w : World) (h : IsB w ao l cap) (rv : Int → Rs)
    (HV : ∀ (b : Int) (w' : World), 0 ≤ b → b ≤ l.length → (b = l.length ∨ (l.getD b.toNat 0).toNat = 5 ∨ (l.getD b.toNat 0).toNat = 6) → Fuw w w' → Calls Tryd.prog 40 #[.slice ao l.length cap, .int .i64 b, .int .i64 nest] w' (RetG w' (rv b)))
    (HB : ∀ (b : Int) (x : Vl) (E : Int), 0 ≤ b → b ≤ l.length → rv b = .ok x E → Vin x ∧ b ≤ E ∧ E ≤ l.length) :
    Calls Tryd.prog 77 #[.slice ao l.length cap, .int .i64 a, .int .i64 7, .int .i64 nest] w (RetL w (pathV l rv a)) := by
  obtain ⟨i0, hi, hz0, hz1, hz2⟩ := info_parts infoV
  obtain ⟨n, E0, c, hu⟩ : ∃ u e c, uintV l a = (u, e, c) := ⟨_, _, _, rfl⟩
  have hok := uint_ok hu
  have hlen := h.len.1
  have HU := Lib.hid (uint_is ao l cap a h0 h1 w h n E0 c hu)
  unfold pathV
  rw [hu]
  simp only
  have HI := Lib.hid h
  have HV' := Lib.hid HV
  have HB' := Lib.hid HB
  clear HV HB hu h0 h1 h
  by_cases hc : c = 0
  case neg =>
    rw [if_pos hc]
    have hcb : (c == 0) = false := beq_eq_false_iff_ne.2 hc
    have hE := hok.2.2.2.2 hc
    have HC := Lib.hid hc
    clear hok hc
    go_enter Tryd.func77, Tryd.ntmps77
    go_wp2_with fail
    go_at_call 27; refine HU.out.mono ?_; rintro e1 w1 ⟨rfl, rfl⟩
    clear HU
    go_wp2
    go_ret3
    exact ⟨Fuw.refl _, rfl, HC.out⟩
  subst hc
  rw [if_neg (fun t => t rfl)]
  have hb := hok.2.2.2.1 rfl
  obtain ⟨m, rfl⟩ : ∃ m : Nat, n = (m : Int) := ⟨n.toNat, by omega⟩
  rw [Int.toNat_natCast]
  have HM := Lib.hid (may_path m (by omega) w)
  by_cases hn : m ≤ 25 ∧ m % 2 = 1
  case neg =>
    rw [if_pos hn]
    rw [decide_eq_false hn] at HM
    clear hok
    go_enter Tryd.func77, Tryd.ntmps77
    go_wp2_with fail
    go_at_call 27; refine HU.out.mono ?_; rintro e1 w1 ⟨rfl, rfl⟩
    clear HU
    go_wp2_with fail
    go_at_call 86; refine HM.out.mono ?_; rintro e1 w1 ⟨rfl, rfl⟩
    go_wp2
    go_ret3
    exact ⟨Fuw.refl _, rfl, by decide⟩
  rw [if_neg (fun t => t hn)]
  rw [decide_eq_true hn] at HM
  obtain ⟨bb, off, hao, hbb, hcs⟩ := HI.out.at_ (by omega)
  subst hao
  have HBB := Lib.hid hbb
  have hm : m ≤ 25 := hn.1
  clear hn
  clear hok
  go_enter Tryd.func77, Tryd.ntmps77
  go_wp2_with fail
  go_at_call 27; refine HU.out.mono ?_; rintro e1 w1 ⟨rfl, rfl⟩
  clear HU
  go_wp2_with fail
  go_at_call 86; refine HM.out.mono ?_; rintro e1 w1 ⟨rfl, rfl⟩
  go_upto_region 7 with (at_make; refine wpList_make_full _ rfl (.tmp 29) (.tmp 29) 22 rfl w.heap.size 24 i0 (.agg #[.int .i64 0, .int .i64 0, .int .i64 0, .string ⟨#[]⟩, .slice none 0 0]) 5 Tryd.underlying22 hi hz0 hz1 .i64 .i64 _ _ m rfl rfl rfl rfl (by rw [hz2]; omega) (by unfold maxLen; omega) (Nat.le_refl _) ?_; intro w2 hown hgrow)
  have hR := rm_made hown
  have hf2 : Fuw w w2 := Below.grown (Below.refl _ _) hgrow (Nat.le_refl _) (fun k hk => by cases hk)
  clear hown hgrow hi hz0 hz1 hz2
  generalize hg : w.heap.size = g at *
  have HG := Lib.hid hg
  clear hg
  go_wp2
  go_loopw [1, 33] (fun av iv wr => ∃ (i : Nat) (xs : List Vl) (b : Int), iv = .int .i64 i ∧ av = .int .i64 b ∧ i ≤ m ∧ xs.length = i ∧ 0 ≤ b ∧ b ≤ l.length ∧ Hid (elsV l 7 rv m 0 E0 = appL xs (elsV l 7 rv (m - i) i b)) ∧ Fuw w wr ∧ Hid (QV wr g xs) ∧ Hid (Rm wr g m)) (fun _ iv _ => m - (RowKit.intOf iv).toNat)
  case atStart => exact ⟨0, [], E0, rfl, rfl, Nat.zero_le _, rfl, by omega, hb.2.2, Lib.hid (appL_nil _).symm, hf2, Lib.hid (fun j hj => absurd hj (Nat.not_lt_zero _)), Lib.hid hR⟩
  case round =>
    obtain ⟨i, xs, b, rfl, rfl, him, hxl, hb0, hb1, hE, hf, hQ, hRm⟩ := hrel
    by_cases hlt : (i : Int) < m
    · obtain ⟨bn, rfl⟩ : ∃ bn : Nat, b = (bn : Int) := ⟨b.toNat, by omega⟩
      have HPK := Lib.hid (fun w' => pk_is i w')
      by_cases hbn : bn < l.length
      · have hck := (Below.cell hf (p := ⟨bb, off + bn, none⟩) (Nat.lt_of_lt_of_le HBB.out (Nat.le_of_eq HG.out.symm))).trans (hcs bn hbn)
        have hbi : (bn : Int) < l.length := by omega
        generalize hkk : (l.getD bn 0).toNat = kk at *
        have hk8 : kk < 256 := by rw [← hkk]; exact (l.getD bn 0).toNat_lt
        have y0 : IntKind.i64.wrap (kk : Int) = (kk : Int) := IntWalk.i64_in _ (by omega)
        have y1 : wrap64 (kk : Int) = (kk : Int) := by unfold wrap64; omega
        by_cases hpk : kk = pkV i
        · subst hpk
          have hpb : (wrap64 ((pkV i : Nat) : Int) != ((pkV i : Nat) : Int)) = false := by rw [y1]; exact bne_self_eq_false _
          have hkn : ¬ (7 = 7 ∧ (bn : Int) < l.length ∧ (l.getD (bn : Int).toNat 0).toNat ≠ pkV i) := by rw [Int.toNat_natCast, hkk]; exact fun t => t.2.2 rfl
          have HN := Lib.hid (fun nq => HV'.out bn (wr.drewN nq) hb0 hb1 (.inr (by rw [Int.toNat_natCast, hkk]; unfold pkV; split <;> simp)) (Fuw.trans hf (fuwN wr nq)))
          clear hcs
          have hbx := HB'.out bn
          generalize hrb : rv (bn : Int) = r at *
          have hgz := hRm.out.1
          cases r with
          | ok x E =>
            have hx := hbx x E hb0 hb1 rfl
            have hE1 := Lib.hid (els_ok (l := l) (kind := 7) (rv := rv) (n := m - i - 1) (i := i) hkn hrb)
            clear hbx hrb
            go_upto_region 10 with fail
            go_quiet (first | (go_at_call 87; exact Calls.quiet_of_same ((HPK.out _).mono fun _ _ t => ⟨t.1, t.2.symm⟩)))
            go_wp2_with fail
            go_at_call 40; refine (HN.out _).mono ?_; rintro e3 w3 ⟨f3d, a2, c2, he3, hk3⟩
            have f3 : Fuw wr w3 := Fuw.trans (fuwN wr _) f3d
            clear f3d HN
            unfold vc at he3
            subst he3
            have hQ3 := qv_on hQ.out hgz f3
            have hR3 := rm_on hRm.out f3
            have hK3 := Lib.hid (kp_mono (Nat.le_of_lt hgz) hk3)
            have il : i < m := by omega
            have r0 := hR3.2 (i * 5) (by omega)
            have r1 := hR3.2 (i * 5 + 1) (by omega)
            have r2 := hR3.2 (i * 5 + 2) (by omega)
            have r3 := hR3.2 (i * 5 + 3) (by omega)
            have r4 := hR3.2 (i * 5 + 4) (by omega)
            obtain ⟨q0, fz0⟩ := r0; obtain ⟨q1, fz1⟩ := r1; obtain ⟨q2, fz2⟩ := r2; obtain ⟨q3, fz3⟩ := r3; obtain ⟨q4, fz4⟩ := r4
            obtain ⟨y0, q0⟩ := Option.isSome_iff_exists.1 q0; obtain ⟨y1, q1⟩ := Option.isSome_iff_exists.1 q1; obtain ⟨y2, q2⟩ := Option.isSome_iff_exists.1 q2; obtain ⟨y3, q3⟩ := Option.isSome_iff_exists.1 q3; obtain ⟨y4, q4⟩ := Option.isSome_iff_exists.1 q4
            have HQ3 := Lib.hid hQ3
            have HR3 := Lib.hid hR3
            clear hQ3 hR3 hk3
            go_wp2
            go_roundw
            case rel =>
              have hq := qv_put HQ3.out HR3.out (by omega) hx.1 hK3.out
              rw [hxl] at hq
              exact ⟨i + 1, xs ++ [x], E, congrArg (Value.int .i64) (by omega), rfl, il, by rw [List.length_append, hxl]; rfl, by omega, hx.2.2, Lib.hid (by rw [hE.out, show m - i = m - i - 1 + 1 by omega, hE1.out, ← appL_app, show m - (i + 1) = m - i - 1 by omega]), fuw_set (fuw_set (fuw_set (fuw_set (fuw_set (Fuw.trans hf f3) (Nat.le_of_eq HG.out)) (Nat.le_of_eq HG.out)) (Nat.le_of_eq HG.out)) (Nat.le_of_eq HG.out)) (Nat.le_of_eq HG.out), Lib.hid hq, Lib.hid (rm_set (rm_set (rm_set (rm_set (rm_set HR3.out)))))⟩
            case measure => simp [RowKit.intOf]; omega
          | er c =>
            have hE1 := Lib.hid (els_er (l := l) (kind := 7) (rv := rv) (n := m - i - 1) (i := i) hkn hrb)
            clear hbx hrb
            go_upto_region 10 with fail
            go_quiet (first | (go_at_call 87; exact Calls.quiet_of_same ((HPK.out _).mono fun _ _ t => ⟨t.1, t.2.symm⟩)))
            go_wp2_with fail
            go_at_call 40; refine (HN.out _).mono ?_; rintro e3 w3 ⟨f3d, he3, hc0⟩
            have f3 : Fuw wr w3 := Fuw.trans (fuwN wr _) f3d
            rw [vc_v0] at he3
            clear f3d HN
            subst he3
            have hcb : (c == 0) = false := beq_eq_false_iff_ne.2 hc0
            have hR3 := rm_on hRm.out f3
            have il : i < m := by omega
            have r0 := hR3.2 (i * 5) (by omega)
            have r1 := hR3.2 (i * 5 + 1) (by omega)
            have r2 := hR3.2 (i * 5 + 2) (by omega)
            have r3 := hR3.2 (i * 5 + 3) (by omega)
            have r4 := hR3.2 (i * 5 + 4) (by omega)
            obtain ⟨q0, fz0⟩ := r0; obtain ⟨q1, fz1⟩ := r1; obtain ⟨q2, fz2⟩ := r2; obtain ⟨q3, fz3⟩ := r3; obtain ⟨q4, fz4⟩ := r4
            obtain ⟨y0, q0⟩ := Option.isSome_iff_exists.1 q0; obtain ⟨y1, q1⟩ := Option.isSome_iff_exists.1 q1; obtain ⟨y2, q2⟩ := Option.isSome_iff_exists.1 q2; obtain ⟨y3, q3⟩ := Option.isSome_iff_exists.1 q3; obtain ⟨y4, q4⟩ := Option.isSome_iff_exists.1 q4
            have HC0 := Lib.hid hc0
            clear hR3 hc0
            go_wp2
            go_ret3
            have e : elsV l 7 rv m 0 E0 = .er c := by rw [hE.out, show m - i = m - i - 1 + 1 by omega, hE1.out]; rfl
            rw [e]
            exact ⟨fuw_set (fuw_set (fuw_set (fuw_set (fuw_set (Fuw.trans hf f3) (Nat.le_of_eq HG.out)) (Nat.le_of_eq HG.out)) (Nat.le_of_eq HG.out)) (Nat.le_of_eq HG.out)) (Nat.le_of_eq HG.out), rfl, HC0.out⟩
        · clear hcs y0 y1 hk8
          go_upto_region 10 with fail
          go_quiet (first | (go_at_call 87; exact Calls.quiet_of_same ((HPK.out _).mono fun _ _ t => ⟨t.1, t.2.symm⟩)))
          rw [w64b kk (pkV i) (by rw [← hkk]; exact (l.getD bn 0).toNat_lt) hpk]
          go_wp2
          go_ret3
          have e : elsV l 7 rv m 0 E0 = .er 2 := by
            rw [hE.out, show m - i = m - i - 1 + 1 by omega, elsV, if_pos ⟨rfl, hbi, by rw [Int.toNat_natCast, hkk]; exact hpk⟩]; rfl
          rw [e]
          exact ⟨Fuw.trans hf (fuwN wr _), rfl, by decide⟩
      · have hbe : (bn : Int) = l.length := by omega
        have hbi : ¬ ((bn : Int) < l.length) := by omega
        have hkn : ¬ (7 = 7 ∧ (bn : Int) < l.length ∧ (l.getD (bn : Int).toNat 0).toNat ≠ pkV i) := fun t => hbi t.2.1
        have HN := Lib.hid (fun nq => HV'.out bn (wr.drewN nq) hb0 hb1 (.inl hbe) (Fuw.trans hf (fuwN wr nq)))
        clear hcs hbe hbn
        have hbx := HB'.out bn
        generalize hrb : rv (bn : Int) = r at *
        have hgz := hRm.out.1
        cases r with
        | ok x E =>
          have hx := hbx x E hb0 hb1 rfl
          have hE1 := Lib.hid (els_ok (l := l) (kind := 7) (rv := rv) (n := m - i - 1) (i := i) hkn hrb)
          clear hbx hrb
          go_upto_region 10 with fail
          go_quiet (fail)
          go_wp2_with fail
          go_at_call 40; refine (HN.out _).mono ?_; rintro e3 w3 ⟨f3d, a2, c2, he3, hk3⟩
          have f3 : Fuw wr w3 := Fuw.trans (fuwN wr _) f3d
          clear f3d HN
          unfold vc at he3
          subst he3
          have hQ3 := qv_on hQ.out hgz f3
          have hR3 := rm_on hRm.out f3
          have hK3 := Lib.hid (kp_mono (Nat.le_of_lt hgz) hk3)
          have il : i < m := by omega
          have r0 := hR3.2 (i * 5) (by omega)
          have r1 := hR3.2 (i * 5 + 1) (by omega)
          have r2 := hR3.2 (i * 5 + 2) (by omega)
          have r3 := hR3.2 (i * 5 + 3) (by omega)
          have r4 := hR3.2 (i * 5 + 4) (by omega)
          obtain ⟨q0, fz0⟩ := r0; obtain ⟨q1, fz1⟩ := r1; obtain ⟨q2, fz2⟩ := r2; obtain ⟨q3, fz3⟩ := r3; obtain ⟨q4, fz4⟩ := r4
          obtain ⟨y0, q0⟩ := Option.isSome_iff_exists.1 q0; obtain ⟨y1, q1⟩ := Option.isSome_iff_exists.1 q1; obtain ⟨y2, q2⟩ := Option.isSome_iff_exists.1 q2; obtain ⟨y3, q3⟩ := Option.isSome_iff_exists.1 q3; obtain ⟨y4, q4⟩ := Option.isSome_iff_exists.1 q4
          have HQ3 := Lib.hid hQ3
          have HR3 := Lib.hid hR3
          clear hQ3 hR3 hk3
          go_wp2
          go_roundw
          case rel =>
            have hq := qv_put HQ3.out HR3.out (by omega) hx.1 hK3.out
            rw [hxl] at hq
            exact ⟨i + 1, xs ++ [x], E, congrArg (Value.int .i64) (by omega), rfl, il, by rw [List.length_append, hxl]; rfl, by omega, hx.2.2, Lib.hid (by rw [hE.out, show m - i = m - i - 1 + 1 by omega, hE1.out, ← appL_app, show m - (i + 1) = m - i - 1 by omega]), fuw_set (fuw_set (fuw_set (fuw_set (fuw_set (Fuw.trans hf f3) (Nat.le_of_eq HG.out)) (Nat.le_of_eq HG.out)) (Nat.le_of_eq HG.out)) (Nat.le_of_eq HG.out)) (Nat.le_of_eq HG.out), Lib.hid hq, Lib.hid (rm_set (rm_set (rm_set (rm_set (rm_set HR3.out)))))⟩
          case measure => simp [RowKit.intOf]; omega
        | er c =>
          have hE1 := Lib.hid (els_er (l := l) (kind := 7) (rv := rv) (n := m - i - 1) (i := i) hkn hrb)
          clear hbx hrb
          go_upto_region 10 with fail
          go_quiet (fail)
          go_wp2_with fail
          go_at_call 40; refine (HN.out _).mono ?_; rintro e3 w3 ⟨f3d, he3, hc0⟩
          have f3 : Fuw wr w3 := Fuw.trans (fuwN wr _) f3d
          rw [vc_v0] at he3
          clear f3d HN
          subst he3
          have hcb : (c == 0) = false := beq_eq_false_iff_ne.2 hc0
          have hR3 := rm_on hRm.out f3
          have il : i < m := by omega
          have r0 := hR3.2 (i * 5) (by omega)
          have r1 := hR3.2 (i * 5 + 1) (by omega)
          have r2 := hR3.2 (i * 5 + 2) (by omega)
          have r3 := hR3.2 (i * 5 + 3) (by omega)
          have r4 := hR3.2 (i * 5 + 4) (by omega)
          obtain ⟨q0, fz0⟩ := r0; obtain ⟨q1, fz1⟩ := r1; obtain ⟨q2, fz2⟩ := r2; obtain ⟨q3, fz3⟩ := r3; obtain ⟨q4, fz4⟩ := r4
          obtain ⟨y0, q0⟩ := Option.isSome_iff_exists.1 q0; obtain ⟨y1, q1⟩ := Option.isSome_iff_exists.1 q1; obtain ⟨y2, q2⟩ := Option.isSome_iff_exists.1 q2; obtain ⟨y3, q3⟩ := Option.isSome_iff_exists.1 q3; obtain ⟨y4, q4⟩ := Option.isSome_iff_exists.1 q4
          have HC0 := Lib.hid hc0
          clear hR3 hc0
          go_wp2
          go_ret3
          have e : elsV l 7 rv m 0 E0 = .er c := by rw [hE.out, show m - i = m - i - 1 + 1 by omega, hE1.out]; rfl
          rw [e]
          exact ⟨fuw_set (fuw_set (fuw_set (fuw_set (fuw_set (Fuw.trans hf f3) (Nat.le_of_eq HG.out)) (Nat.le_of_eq HG.out)) (Nat.le_of_eq HG.out)) (Nat.le_of_eq HG.out)) (Nat.le_of_eq HG.out), rfl, HC0.out⟩
    · go_wp2
      go_ret3
      have ei : i = m := by omega
      subst ei
      have hE2 := hE.out
      rw [Nat.sub_self] at hE2
      have e : elsV l 7 rv i 0 E0 = .ok xs b := by rw [hE2]; unfold elsV appL; exact congrArg (fun t => Rl.ok t b) (List.append_nil xs)
      rw [e]
      exact ⟨hf, _, _, by rw [hxl]; rfl, fun lo hlo => by rw [← hxl]; exact qv_kp hQ.out hRm.out.1 (by rw [← HG.out]; exact hlo) (by unfold maxLen; omega)⟩
end Go.Proofs.YtolkdmhjomampaaDoor

/-! Package codec: readFields of lists and paths, out of what elementsAt gives. Nothing that was there turns. -/
namespace Go.Proofs.YtolkdmhjomampaaDoor
open Go.RowKit

/-- A value of kind k out of its elements. -/
def ofL (k : Int) : Rl → Rs
  | .ok xs E => .ok (.mk k 0 0 [] xs) E
  | .er c => .er c
set_option maxHeartbeats 8000000 in
set_option maxRecDepth 100000 in
theorem rg_seq (ao : Option Addr) (l : List UInt8) (cap : Nat) (k : Nat) (hk : k = 7 ∨ k = 8) (a nest : Int) (hn0 : -9223372036854775808 < nest) (hn1 : nest ≤ 9223372036854775807) (B : Nat) (U : World) (o : Rl) (hq : U.heap[B]? = some (.cells (vc (vk k) none 0) 24 (0, 0)))
    (HE : Calls Tryd.prog 77 #[.slice ao l.length cap, .int .i64 a, .int .i64 k, .int .i64 (nest - 1)] U (RetL U o)) : RGat ao l cap a nest (ofL k o) B U := by
  obtain ⟨c0, c1, c2, c3, c4, cf, cl⟩ := vc_cells hq
  have HE' := Lib.hid HE
  have HQ := Lib.hid hq
  unfold vk at *
  clear HE hq c1 c2 c3 c4 cf
  cases o with
  | ok xs E =>
    show RGat ao l cap a nest (.ok (.mk k 0 0 [] xs) E) B U
    unfold RGat
    simp only
    rcases hk with rfl | rfl
    all_goals
      go_enter Tryd.func55, Tryd.ntmps55
      go_wp2_with fail
      go_at_call 77; refine HE'.out.mono ?_; rintro e1 w1 ⟨f1, a2, c2, rfl, hk⟩
      have hq1 := (Below.block f1 B cl).trans HQ.out
      obtain ⟨x0, x1, x2, x3, x4, xf, xl⟩ := vc_cells hq1
      have xf4 := xf 4
      have HK := Lib.hid (hk B cl)
      have HS := Lib.hid ((vc_set hq1).2.2.2 a2 xs c2)
      clear hk xf hq1 HE'
      go_wp2
      go_ret2
      refine ⟨fun X hX hXB => fuw_set (Fuw.trans hX f1) hXB, a2, c2, rfl, HS.out, fun w3 hs hw => HK.out w3 ?_ fun b h1 h2 => ?_⟩
      · simp at hs; omega
      · rw [hw b h1 (by simp; omega), heap_set_other (by omega)]
  | er c =>
    show RGat ao l cap a nest (.er c) B U
    unfold RGat
    simp only
    rcases hk with rfl | rfl
    all_goals
      go_enter Tryd.func55, Tryd.ntmps55
      go_wp2_with fail
      go_at_call 77; refine HE'.out.mono ?_; rintro e1 w1 ⟨f1, rfl, hc0⟩
      have hq1 := (Below.block f1 B cl).trans HQ.out
      obtain ⟨x0, x1, x2, x3, x4, xf, xl⟩ := vc_cells hq1
      have xf4 := xf 4
      clear xf hq1 HE'
      go_wp2
      go_ret2
      exact ⟨fun X hX hXB => fuw_set (Fuw.trans hX f1) hXB, 0, rfl, hc0⟩
end Go.Proofs.YtolkdmhjomampaaDoor

/-! CgW; CgX; CgY: texts of one kind in one file; each part says what it holds. -/

/-! Package codec: valueAt whole: what it gives for every list of bytes, offset and nesting. Nothing that was there turns. -/
namespace Go.Proofs.YtolkdmhjomampaaDoor
open Go.RowKit

/-- What stands at an offset where a node or an edge must stand. -/
def endV (l : List UInt8) (b : Int) : Rs :=
  if (l.length : Int) ≤ b then .er 3 else if (l.getD b.toNat 0).toNat < 7 then fin (flatV (l.getD b.toNat 0).toNat l (b + 1)) else .er 2
/-- What stands at an offset, given what a list is. -/
def headV (l : List UInt8) (b : Int) (seq : Int → Rs) : Rs :=
  if (l.length : Int) ≤ b then .er 3
  else if (l.getD b.toNat 0).toNat < 7 then fin (flatV (l.getD b.toNat 0).toNat l (b + 1))
  else if (l.getD b.toNat 0).toNat = 7 then fin (ofL 7 (pathV l (endV l) (b + 1)))
  else if (l.getD b.toNat 0).toNat = 8 then seq (b + 1)
  else .er 2
/-- What stands at an offset, lists nested at most n deep. -/
def valV (l : List UInt8) : Nat → Int → Rs
  | 0, b => headV l b fun _ => .er 2
  | n + 1, b => headV l b fun b' => fin (ofL 8 (listV l (valV l n) b'))
theorem fin_ok {o : Rs} {x : Vl} {E : Int} (h : fin o = .ok x E) : o = .ok x E := by
  cases o with
  | ok y F =>
    unfold fin at h
    simp only at h
    by_cases e : okX y = true
    · rw [if_pos e] at h; exact h
    · rw [if_neg e] at h; cases h
  | er c => cases h
/-- What may be said of a reader: what it gives lies in the bounds and behind the offset. -/
def RdB (l : List UInt8) (rv : Int → Rs) : Prop := ∀ (b : Int) (x : Vl) (E : Int), 0 ≤ b → b ≤ l.length → rv b = .ok x E → Vin x ∧ b ≤ E ∧ E ≤ l.length
theorem flat_rd {l : List UInt8} (hl : l.length ≤ maxLen) {b : Int} {x : Vl} {E : Int} (h0 : 0 ≤ b) (h1 : ¬ (l.length : Int) ≤ b) {k : Nat} (hk : k < 7) (h : fin (flatV k l (b + 1)) = .ok x E) : Vin x ∧ b ≤ E ∧ E ≤ l.length := by
  have q := flat_in hk hl ⟨by omega, by omega⟩ (fin_ok h)
  exact ⟨q.1, by have := q.2.1; omega, q.2.2.1⟩
theorem end_rd {l : List UInt8} (hl : l.length ≤ maxLen) : RdB l (endV l) := fun b x E h0 h1 h => by
  unfold endV at h
  by_cases e : (l.length : Int) ≤ b
  · rw [if_pos e] at h; cases h
  rw [if_neg e] at h
  by_cases e7 : (l.getD b.toNat 0).toNat < 7
  · rw [if_pos e7] at h
    exact flat_rd hl h0 e e7 h
  · rw [if_neg e7] at h; cases h
theorem els_rd {l : List UInt8} {rv : Int → Rs} (hr : RdB l rv) (kind : Nat) : ∀ (n i : Nat) (b : Int) (xs : List Vl) (E : Int), 0 ≤ b → b ≤ l.length → elsV l kind rv n i b = .ok xs E → b ≤ E ∧ E ≤ l.length
  | 0, i, b, xs, E, h0, h1, h => by
    unfold elsV at h
    obtain ⟨-, rfl⟩ := Rl.ok.inj h
    exact ⟨Int.le_refl _, h1⟩
  | n + 1, i, b, xs, E, h0, h1, h => by
    unfold elsV at h
    by_cases e : kind = 7 ∧ b < l.length ∧ (l.getD b.toNat 0).toNat ≠ pkV i
    · rw [if_pos e] at h; cases h
    rw [if_neg e] at h
    cases hb : rv b with
    | er c => rw [hb] at h; cases h
    | ok x E1 =>
      rw [hb] at h
      simp only at h
      have q := hr b x E1 h0 h1 hb
      cases hs : elsV l kind rv n (i + 1) E1 with
      | er c => rw [hs] at h; cases h
      | ok ys E2 =>
        rw [hs] at h
        simp only at h
        obtain ⟨-, rfl⟩ := Rl.ok.inj h
        have q2 := els_rd hr kind n (i + 1) E1 ys E2 (by omega) q.2.2 hs
        omega
theorem vin_seq (k : Nat) (hk : k < 256) (xs : List Vl) : Vin (.mk k 0 0 [] xs) :=
  have hz : I64 (0 : Int) := ⟨by decide, by decide⟩
  ⟨(show I64 (k : Int) from ⟨by omega, by omega⟩), hz, hz, Nat.zero_le _⟩
theorem seq_rd {l : List UInt8} {rv : Int → Rs} (hr : RdB l rv) {b : Int} {k : Nat} {o : Rl} (hk : k < 256) (ho : o = listV l rv b ∨ o = pathV l rv b) {x : Vl} {E : Int} (h : fin (ofL k o) = .ok x E) : Vin x ∧ b ≤ E ∧ E ≤ l.length := by
  have h := fin_ok h
  cases o with
  | er c => cases h
  | ok xs E1 =>
    obtain ⟨rfl, rfl⟩ := Rs.ok.inj h
    refine ⟨vin_seq k hk xs, ?_⟩
    obtain ⟨n, E0, c, hu⟩ : ∃ u e c, uintV l b = (u, e, c) := ⟨_, _, _, rfl⟩
    have hok := uint_ok hu
    have main : ∀ (kind : Nat), c = 0 → elsV l kind rv n.toNat 0 E0 = .ok xs E1 → b ≤ E1 ∧ E1 ≤ l.length := fun kind hc he => by
      have q := hok.2.2.2.1 hc
      have t := els_rd hr kind _ _ _ _ _ (by omega) q.2.2 he
      omega
    rcases ho with ho | ho
    · unfold listV at ho
      rw [hu] at ho
      simp only at ho
      by_cases hc : c = 0
      · rw [if_neg (fun t => t hc)] at ho
        by_cases hn : n ≤ 64
        · rw [if_neg (fun t => t hn)] at ho; exact main 8 hc ho.symm
        · rw [if_pos hn] at ho; cases ho
      · rw [if_pos hc] at ho; cases ho
    · unfold pathV at ho
      rw [hu] at ho
      simp only at ho
      by_cases hc : c = 0
      · rw [if_neg (fun t => t hc)] at ho
        by_cases hn : n.toNat ≤ 25 ∧ n.toNat % 2 = 1
        · rw [if_neg (fun t => t hn)] at ho; exact main 7 hc ho.symm
        · rw [if_pos hn] at ho; cases ho
      · rw [if_pos hc] at ho; cases ho
theorem head_rd {l : List UInt8} (hl : l.length ≤ maxLen) {seq : Int → Rs} (hs : ∀ (b : Int) (x : Vl) (E : Int), 0 ≤ b → b ≤ l.length → seq b = .ok x E → Vin x ∧ b ≤ E ∧ E ≤ l.length) : RdB l (fun b => headV l b seq) := fun b x E h0 h1 h => by
  simp only at h
  unfold headV at h
  by_cases e : (l.length : Int) ≤ b
  · rw [if_pos e] at h; cases h
  rw [if_neg e] at h
  by_cases e7 : (l.getD b.toNat 0).toNat < 7
  · rw [if_pos e7] at h
    exact flat_rd hl h0 e e7 h
  rw [if_neg e7] at h
  by_cases e8 : (l.getD b.toNat 0).toNat = 7
  · rw [if_pos e8] at h
    have q := seq_rd (end_rd hl) (b := b + 1) (k := 7) (by decide) (.inr rfl) h
    exact ⟨q.1, by have := q.2.1; omega, q.2.2⟩
  rw [if_neg e8] at h
  by_cases e9 : (l.getD b.toNat 0).toNat = 8
  · rw [if_pos e9] at h
    have q := hs (b + 1) x E (by omega) (by omega) h
    exact ⟨q.1, by have := q.2.1; omega, q.2.2⟩
  · rw [if_neg e9] at h; cases h
theorem val_rd {l : List UInt8} (hl : l.length ≤ maxLen) : ∀ n, RdB l (valV l n)
  | 0 => fun b x E h0 h1 h => head_rd hl (seq := fun _ => .er 2) (fun _ _ _ _ _ t => by cases t) b x E h0 h1 h
  | n + 1 => fun b x E h0 h1 h => head_rd hl (seq := fun b' => fin (ofL 8 (listV l (valV l n) b'))) (fun b' x' E' _ _ t => seq_rd (val_rd hl n) (k := 8) (by decide) (.inl rfl) t) b x E h0 h1 h
end Go.Proofs.YtolkdmhjomampaaDoor

/-! Package codec: valueAt for every list of bytes, offset and nesting. Nothing that was there turns. -/
namespace Go.Proofs.YtolkdmhjomampaaDoor
open Go.RowKit

theorem end_is (ao : Option Addr) (l : List UInt8) (cap : Nat) (b nest : Int) (w : World) (h : IsB w ao l cap) (h0 : 0 ≤ b) (h1 : b ≤ l.length) (hk : b = l.length ∨ (l.getD b.toNat 0).toNat = 5 ∨ (l.getD b.toNat 0).toNat = 6) :
    Calls Tryd.prog 40 #[.slice ao l.length cap, .int .i64 b, .int .i64 nest] w (RetG w (endV l b)) := by
  by_cases e : (l.length : Int) ≤ b
  · have eb : b = l.length := by omega
    subst eb
    rw [show endV l l.length = .er 3 from if_pos (Int.le_refl _)]
    exact vat_end ao l cap nest w
  · have hk7 : (l.getD b.toNat 0).toNat < 7 := by omega
    rw [show endV l b = fin (flatV (l.getD b.toNat 0).toNat l (b + 1)) by unfold endV; rw [if_neg e, if_pos hk7]]
    obtain ⟨a, rfl⟩ : ∃ a : Nat, b = (a : Int) := ⟨b.toNat, by omega⟩
    rw [Int.toNat_natCast] at hk7 ⊢
    exact vat_flat ao l cap a _ nest w h (by omega) rfl hk7
theorem ofl_vin {k : Nat} (hk : k < 256) {o : Rl} : ∀ x E, ofL k o = .ok x E → Vin x := fun x E h => by
  cases o with
  | er c => cases h
  | ok xs E1 =>
    obtain ⟨rfl, rfl⟩ := Rs.ok.inj h
    exact vin_seq k hk xs
theorem head_is (ao : Option Addr) (l : List UInt8) (cap : Nat) (b nest : Int) (hn0 : -9223372036854775808 < nest) (hn1 : nest ≤ 9223372036854775807) (w : World) (h : IsB w ao l cap) (h0 : 0 ≤ b) (h1 : b ≤ l.length) (seq : Int → Rs)
    (HS : ∀ a : Nat, a < l.length → (l.getD a 0).toNat = 8 → Calls Tryd.prog 40 #[.slice ao l.length cap, .int .i64 a, .int .i64 nest] w (RetG w (seq ((a : Int) + 1)))) :
    Calls Tryd.prog 40 #[.slice ao l.length cap, .int .i64 b, .int .i64 nest] w (RetG w (headV l b seq)) := by
  have hlen := h.len.1
  have hl := Nat.le_trans h.le h.max
  unfold headV
  by_cases e : (l.length : Int) ≤ b
  · have eb : b = l.length := by omega
    subst eb
    rw [if_pos e]
    exact vat_end ao l cap nest w
  rw [if_neg e]
  obtain ⟨a, rfl⟩ : ∃ a : Nat, b = (a : Int) := ⟨b.toNat, by omega⟩
  rw [Int.toNat_natCast]
  have ha : a < l.length := by omega
  by_cases e7 : (l.getD a 0).toNat < 7
  · rw [if_pos e7]
    exact vat_flat ao l cap a _ nest w h ha rfl e7
  rw [if_neg e7]
  by_cases e8 : (l.getD a 0).toNat = 7
  · rw [if_pos e8]
    exact vat_any ao l cap a 7 nest w h ha e8 (by decide) (.inl (by decide)) _ (fun B U hf _ hq => rg_seq ao l cap 7 (.inl rfl) _ nest hn0 hn1 B U _ hq (els_path ao l cap ((a : Int) + 1) (nest - 1) (by omega) (by omega) U (h.on hf) (endV l) (fun b' w' t0 t1 t2 t3 => end_is ao l cap b' (nest - 1) w' ((h.on hf).on t3) t0 t1 t2) (end_rd hl))) (ofl_vin (by decide))
  rw [if_neg e8]
  by_cases e9 : (l.getD a 0).toNat = 8
  · rw [if_pos e9]
    exact HS a ha e9
  · rw [if_neg e9]
    exact vat_kind ao l cap a _ nest w h ha rfl (.inl (by omega))
theorem val_is (ao : Option Addr) (l : List UInt8) (cap : Nat) : ∀ (n : Nat) (_ : n ≤ 1000) (b : Int) (w : World) (_ : IsB w ao l cap) (_ : 0 ≤ b) (_ : b ≤ l.length),
    Calls Tryd.prog 40 #[.slice ao l.length cap, .int .i64 b, .int .i64 n] w (RetG w (valV l n b))
  | 0, _, b, w, h, h0, h1 => head_is ao l cap b (0 : Nat) (by decide) (by decide) w h h0 h1 _ fun a ha e => vat_kind ao l cap a 8 _ w h ha e (.inr ⟨rfl, by decide⟩)
  | n + 1, hn, b, w, h, h0, h1 => head_is ao l cap b (n + 1 : Nat) (by omega) (by omega) w h h0 h1 _ fun a ha e =>
      vat_any ao l cap a 8 _ w h ha e (by decide) (.inr (by omega)) _ (fun B U hf _ hq => rg_seq ao l cap 8 (.inr rfl) _ _ (by omega) (by omega) B U _ hq (by
        have hlen := h.len.1
        rw [show ((n + 1 : Nat) : Int) - 1 = (n : Int) by omega]
        exact els_list ao l cap ((a : Int) + 1) n (by omega) (by omega) U (h.on hf) (valV l n) (fun b' w' t0 t1 t3 => val_is ao l cap n (by omega) b' w' ((h.on hf).on t3) t0 t1) (val_rd (Nat.le_trans h.le h.max) n))) (ofl_vin (by decide))
end Go.Proofs.YtolkdmhjomampaaDoor

/-! Package codec: Value for every list of bytes and every offset. Nothing that was there turns. -/
namespace Go.Proofs.YtolkdmhjomampaaDoor
open Go.RowKit

/-- What Value gives. -/
def valueV (l : List UInt8) (b : Int) : Rs := if b < 0 ∨ (l.length : Int) < b then .er 1 else valV l 8 b
set_option maxHeartbeats 8000000 in
set_option maxRecDepth 100000 in
theorem value_is (ao : Option Addr) (l : List UInt8) (cap : Nat) (b : Int) (w : World) (h : IsB w ao l cap) :
    Calls Tryd.prog 18 #[.slice ao l.length cap, .int .i64 b] w (RetG w (valueV l b)) := by
  obtain ⟨z, f0⟩ := bz0 w
  obtain ⟨W, hW⟩ : ∃ W, (w.alloc (.cells #[.int .i64 0, .int .i64 0, .int .i64 0, .string ⟨#[]⟩, .slice none 0 0] 24)) = W := ⟨_, rfl⟩
  rw [hW] at z f0
  have zz := (bz_cells z).2.2.2.2.2.2
  by_cases hb : b < 0 ∨ (l.length : Int) < b
  · rw [show valueV l b = .er 1 from if_pos hb]
    obtain ⟨x0, x1, x2, x3, x4, xf, xl⟩ := bz_cells z
    have xf0 := xf 0; have xf1 := xf 1; have xf2 := xf 2; have xf3 := xf 3; have xf4 := xf 4
    have HZ := Lib.hid z
    clear z xf h
    by_cases hb0 : b < 0
    · clear hb
      go_enter Tryd.func18, Tryd.ntmps18
      go_upto_region 1 with fail
      clear hW
      go_wp2
      try simp only [Exit.inBlock, Exit.then]
      exact vg_ret (x := v0) rfl rfl rfl rfl (val_put' W _ _ _ _ _ _ _ _ _ _ _ _ _ HZ.out) ⟨fuw_put5 f0 (Nat.le_refl _) _ _ _ _ _, rfl, by decide⟩
    · have hb1 : (l.length : Int) < b := by omega
      clear hb
      go_enter Tryd.func18, Tryd.ntmps18
      go_upto_region 1 with fail
      clear hW
      go_wp2
      try simp only [Exit.inBlock, Exit.then]
      exact vg_ret (x := v0) rfl rfl rfl rfl (val_put' W _ _ _ _ _ _ _ _ _ _ _ _ _ HZ.out) ⟨fuw_put5 f0 (Nat.le_refl _) _ _ _ _ _, rfl, by decide⟩
  have hb0 : ¬ (b < 0) := fun t => hb (.inl t)
  have hb1 : ¬ ((l.length : Int) < b) := fun t => hb (.inr t)
  have hv := val_is ao l cap 8 (by decide) b W (h.on f0) (by omega) (by omega)
  rw [show valueV l b = valV l 8 b from if_neg hb]
  generalize valV l 8 b = o at *
  have HV := Lib.hid hv
  clear hb hv h
  cases o with
  | ok x E =>
    go_enter Tryd.func18, Tryd.ntmps18
    go_upto_region 1 with fail
    clear hW
    go_wp2_with fail
    go_at_call 40; refine HV.out.mono ?_; rintro e3 w3 ⟨f3, a2, c2, he3, hk3⟩
    unfold vc at he3
    subst he3
    have h3 := bz_on z f3
    obtain ⟨x0, x1, x2, x3, x4, xf, xl⟩ := bz_cells h3
    have xf0 := xf 0; have xf1 := xf 1; have xf2 := xf 2; have xf3 := xf 3; have xf4 := xf 4
    have HH3 := Lib.hid h3
    have HK := Lib.hid hk3
    have hs3 := f3.size
    clear h3 xf hk3 z HV
    go_wp2
    try simp only [Exit.inBlock, Exit.then]
    refine vg_ret (x := x) rfl rfl rfl rfl (val_put' w3 _ _ _ _ _ _ _ _ _ _ _ _ _ HH3.out) ⟨fuw_put5 (Fuw.trans f0 f3) (Nat.le_refl _) _ _ _ _ _, a2, c2, rfl, ?_⟩
    intro w4 hs4 hw4
    refine HK.out w4 ?_ (fun b h1 h2 => ?_)
    · simp at hs4; omega
    · rw [hw4 b (by omega) (by simp; omega), heap_set_other (by omega), heap_set_other (by omega), heap_set_other (by omega), heap_set_other (by omega), heap_set_other (by omega)]
  | er c =>
    go_enter Tryd.func18, Tryd.ntmps18
    go_upto_region 1 with fail
    clear hW
    go_wp2_with fail
    go_at_call 40; refine HV.out.mono ?_; rintro e3 w3 ⟨f3, he3, hc0⟩
    rw [vc_v0] at he3
    subst he3
    have h3 := bz_on z f3
    obtain ⟨x0, x1, x2, x3, x4, xf, xl⟩ := bz_cells h3
    have xf0 := xf 0; have xf1 := xf 1; have xf2 := xf 2; have xf3 := xf 3; have xf4 := xf 4
    have HH3 := Lib.hid h3
    have HC := Lib.hid hc0
    clear h3 xf z HV hc0
    go_wp2
    try simp only [Exit.inBlock, Exit.then]
    exact vg_ret (x := v0) rfl rfl rfl rfl (val_put' w3 _ _ _ _ _ _ _ _ _ _ _ _ _ HH3.out) ⟨fuw_put5 (Fuw.trans f0 f3) (Nat.le_refl _) _ _ _ _ _, rfl, HC.out⟩
end Go.Proofs.YtolkdmhjomampaaDoor

/-! PvM; PvN: texts of one kind in one file; each part says what it holds. -/

/-! Plain mathematics of encoded values: what is written of a valid value, between any other bytes, is read as the value. No program's function is walked here. -/
namespace Go.Proofs.YtolkdmhjomampaaDoor
open Go.Lib

mutual
/-- The bytes of a value. -/
def putX : Vl → List UInt8
  | .mk k n d s l => k.toNat.toUInt8 :: (
    if k = 1 ∨ k = 2 ∨ k = 5 ∨ k = 6 then uvarint (zigzag n)
    else if k = 3 then uvarint (zigzag n) ++ uvarint (zigzag d)
    else if k = 4 then uvarint s.length ++ s
    else if k = 7 ∨ k = 8 then uvarint l.length ++ putXs l
    else [])
/-- The bytes of values, one behind the other. -/
def putXs : List Vl → List UInt8
  | [] => []
  | x :: r => putX x ++ putXs r
end
/-- What stands behind the byte of the kind. -/
def tailX (k n d : Int) (s : List UInt8) (l : List Vl) : List UInt8 :=
  if k = 1 ∨ k = 2 ∨ k = 5 ∨ k = 6 then uvarint (zigzag n)
  else if k = 3 then uvarint (zigzag n) ++ uvarint (zigzag d)
  else if k = 4 then uvarint s.length ++ s
  else if k = 7 ∨ k = 8 then uvarint l.length ++ putXs l
  else []
theorem putX_mk (k n d : Int) (s : List UInt8) (l : List Vl) : putX (.mk k n d s l) = k.toNat.toUInt8 :: tailX k n d s l := by unfold putX tailX; rfl
theorem putXs_nil : putXs [] = [] := by unfold putXs; rfl
theorem putXs_cons (x : Vl) (r : List Vl) : putXs (x :: r) = putX x ++ putXs r := by conv => lhs; unfold putXs

theorem drop_at (f r : List UInt8) : (f ++ r).drop ((f.length : Int)).toNat = r := by
  rw [Int.toNat_natCast, List.drop_left]
theorem uint_back (f r : List UInt8) {u : Nat} (h : u ≤ 9223372036854775807) : uintV (f ++ (uvarint u ++ r)) f.length = ((u : Int), (f.length : Int) + (uvarint u).length, 0) := by
  unfold uintV
  have hl : (f ++ (uvarint u ++ r)).length = f.length + ((uvarint u).length + r.length) := by simp
  rw [if_neg (by rw [hl]; omega), drop_at, rdv_uv h (by omega)]
  simp
theorem int_back (f r : List UInt8) {n : Int} (h : I64 n) : intV (f ++ (uvarint (zigzag n) ++ r)) f.length = (n, (f.length : Int) + (uvarint (zigzag n)).length, 0) := by
  unfold intV
  have hl : (f ++ (uvarint (zigzag n) ++ r)).length = f.length + ((uvarint (zigzag n)).length + r.length) := by simp
  have hz := zigzag_lt h.1 h.2
  rw [if_neg (by rw [hl]; omega), drop_at, rdv_uv (by omega) hz]
  simp [unzz_zz]
theorem str_back (f s r : List UInt8) {most : Int} (h : (s.length : Int) ≤ most) (h2 : s.length ≤ 9223372036854775807) :
    strV (f ++ (uvarint s.length ++ (s ++ r))) f.length most = (s, (f.length : Int) + (uvarint s.length).length + s.length, 0) := by
  have hu := uint_back f (s ++ r) h2
  have hl : (f ++ (uvarint s.length ++ (s ++ r))).length = f.length + ((uvarint s.length).length + (s.length + r.length)) := by simp
  unfold strV
  rw [hu]
  simp only
  rw [if_neg (fun h => h rfl), if_neg (by omega), if_neg (by rw [hl]; omega)]
  have e : ((f.length : Int) + (uvarint s.length).length).toNat = f.length + (uvarint s.length).length := by omega
  have e2 : f ++ (uvarint s.length ++ (s ++ r)) = (f ++ uvarint s.length) ++ (s ++ r) := by simp
  rw [e, e2, List.drop_left' (by simp), Int.toNat_natCast, List.take_left]
theorem kind_at (f r : List UInt8) {k : Int} (h0 : 0 ≤ k) (h1 : k ≤ 8) : ((f ++ (k.toNat.toUInt8 :: r)).getD ((f.length : Int)).toNat 0).toNat = k.toNat := by
  rw [Int.toNat_natCast, List.getD_eq_getElem?_getD, List.getElem?_append_right (Nat.le_refl _)]
  have e : (k.toNat.toUInt8).toNat = k.toNat := by
    show k.toNat % 256 = k.toNat
    omega
  simpa using e

/-- A value that holds none is read. -/
theorem flat_back (f r : List UInt8) {m : Nat} {k n d : Int} {s : List UInt8} {l : List Vl} (hk : k < 7) (h : okV m (.mk k n d s l) = true) :
    0 ≤ k ∧ flatV k.toNat (f ++ (tailX k n d s l ++ r)) f.length = .ok (.mk k n d s l) ((f.length : Int) + (tailX k n d s l).length) := by
  have hX : okX (.mk k n d s l) = true := by
    unfold okX
    unfold okV at h ⊢
    rw [if_neg (by omega), if_neg (by omega)] at h ⊢
    exact h
  have hb : k = 4 → okStr s = true := fun e => by
    unfold okV at h
    rw [if_neg (by omega), if_neg (by omega)] at h
    unfold okFlat at h
    subst e
    simp at h
    exact h.2
  rcases kinds hX with ⟨rfl, rfl, rfl, rfl, rfl⟩ | ⟨rfl, hn, rfl, rfl, rfl⟩ | ⟨rfl, hn, rfl, rfl, rfl⟩ | ⟨rfl, hF, hd, rfl, rfl⟩ | ⟨rfl, rfl, rfl, rfl⟩ | ⟨rfl, hn, rfl, rfl, rfl⟩ | ⟨rfl, hn, rfl, rfl, rfl⟩ | ⟨rfl, _⟩ | ⟨rfl, _⟩
  · refine ⟨by decide, ?_⟩
    show flatV 0 _ _ = _
    unfold flatV tailX
    simp [vk]
  · refine ⟨by decide, ?_⟩
    have hI : I64 n := ⟨by omega, by omega⟩
    show flatV 1 _ _ = _
    unfold flatV tailX
    simp only [true_or, if_true, int_back f r hI]
    simp
  · refine ⟨by decide, ?_⟩
    have hI : I64 n := ⟨by omega, by omega⟩
    show flatV 2 _ _ = _
    unfold flatV tailX
    simp only [true_or, or_true, if_true, int_back f r hI]
    simp
  · refine ⟨by decide, ?_⟩
    have hR : (1 ≤ d ∧ d ≤ 1000000000000000) ∧ (-1000000000000000 ≤ n ∧ n ≤ 1000000000000000) := by
      simp only [okF, Bool.and_eq_true, decide_eq_true_eq] at hF
      omega
    have hI : I64 n := ⟨by omega, by omega⟩
    have hD : I64 d := ⟨by omega, by omega⟩
    show flatV 3 _ _ = _
    have e1 : tailX 3 n d [] [] = uvarint (zigzag n) ++ uvarint (zigzag d) := by unfold tailX; simp
    rw [e1]
    have q1 := int_back f (uvarint (zigzag d) ++ r) hI
    have q2 := int_back (f ++ uvarint (zigzag n)) r hD
    have e2 : f ++ (uvarint (zigzag n) ++ uvarint (zigzag d) ++ r) = f ++ (uvarint (zigzag n) ++ (uvarint (zigzag d) ++ r)) := by simp
    have e3 : (f ++ uvarint (zigzag n)) ++ (uvarint (zigzag d) ++ r) = f ++ (uvarint (zigzag n) ++ (uvarint (zigzag d) ++ r)) := by simp
    rw [e3] at q2
    have e4 : ((f ++ uvarint (zigzag n)).length : Int) = (f.length : Int) + (uvarint (zigzag n)).length := by simp
    rw [e4] at q2
    rw [e2]
    unfold flatV
    simp only [q1, q2]
    simp
    omega
  · refine ⟨by decide, ?_⟩
    have hs := hb rfl
    have hl : s.length ≤ 100 := by
      unfold okStr at hs
      rw [Bool.and_eq_true] at hs
      simpa using hs.2
    show flatV 4 _ _ = _
    have e1 : tailX 4 0 0 s [] = uvarint s.length ++ s := by unfold tailX; simp
    rw [e1]
    have q := str_back f s r (most := 100) (by omega) (by omega)
    have e2 : f ++ (uvarint s.length ++ s ++ r) = f ++ (uvarint s.length ++ (s ++ r)) := by simp
    rw [e2]
    unfold flatV
    simp only [q]
    simp
    omega
  · refine ⟨by decide, ?_⟩
    have hI : I64 n := ⟨by omega, by omega⟩
    show flatV 5 _ _ = _
    unfold flatV tailX
    simp only [true_or, or_true, if_true, int_back f r hI]
    simp
  · refine ⟨by decide, ?_⟩
    have hI : I64 n := ⟨by omega, by omega⟩
    show flatV 6 _ _ = _
    unfold flatV tailX
    simp only [or_true, if_true, int_back f r hI]
    simp
  · omega
  · omega
end Go.Proofs.YtolkdmhjomampaaDoor

/-! Plain mathematics of encoded values: lists and paths between any other bytes are read as what was written. No program's function is walked here. -/
namespace Go.Proofs.YtolkdmhjomampaaDoor
open Go.Lib

theorem fin_yes {x : Vl} {E : Int} (h : okX x = true) : fin (.ok x E) = .ok x E := if_pos h
theorem putX_len (x : Vl) : 0 < (putX x).length := by
  obtain ⟨k, n, d, s, l⟩ := x
  rw [putX_mk]; simp
theorem els_back {l : List UInt8} {kind : Nat} {rv : Int → Rs} : ∀ (xs : List Vl) (i : Nat) (f r : List UInt8), l = f ++ (putXs xs ++ r) →
    (∀ x ∈ xs, ∀ f' r', l = f' ++ (putX x ++ r') → rv f'.length = .ok x ((f'.length : Int) + (putX x).length)) → (kind = 7 → okVp (i % 2 == 0) xs = true) →
    elsV l kind rv xs.length i f.length = .ok xs ((f.length : Int) + (putXs xs).length)
  | [], i, f, r, _, _, _ => by
    rw [putXs_nil]
    show elsV l kind rv 0 i f.length = _
    unfold elsV
    simp
  | x :: xs, i, f, r, e, hr, hp => by
    rw [putXs_cons, List.append_assoc] at e
    have hx := hr x (by simp) f (putXs xs ++ r) e
    have hk : ¬ (kind = 7 ∧ (f.length : Int) < l.length ∧ (l.getD ((f.length : Int)).toNat 0).toNat ≠ pkV i) := by
      rintro ⟨h7, _, hne⟩
      have h := hp h7
      unfold okVp at h
      rw [Bool.and_eq_true, Bool.and_eq_true] at h
      have hkd : x.kd = if (i % 2 == 0) = true then 5 else 6 := by simpa using h.1.1
      apply hne
      obtain ⟨k, n, d, s, ll⟩ := x
      have hkd' : k = if (i % 2 == 0) = true then 5 else 6 := hkd
      rw [e, putX_mk, List.cons_append, kind_at f _ (by rw [hkd']; split <;> decide) (by rw [hkd']; split <;> decide), hkd']
      unfold pkV
      by_cases hi : i % 2 = 1
      · rw [if_pos hi, if_neg (by simp [hi])]; rfl
      · rw [if_neg hi, if_pos (by simp; omega)]; rfl
    have e2 : l = (f ++ putX x) ++ (putXs xs ++ r) := by rw [e]; simp
    have ih := els_back (rv := rv) (kind := kind) xs (i + 1) (f ++ putX x) r e2 (fun y hy => hr y (by simp [hy])) (fun h7 => by
      have h := hp h7
      unfold okVp at h
      rw [Bool.and_eq_true, Bool.and_eq_true] at h
      have h2 := h.2
      have e3 : ((i + 1) % 2 == 0) = !(i % 2 == 0) := by
        rcases Nat.mod_two_eq_zero_or_one i with q | q
        · have q2 : (i + 1) % 2 = 1 := by omega
          rw [q, q2]; rfl
        · have q2 : (i + 1) % 2 = 0 := by omega
          rw [q, q2]; rfl
      rw [e3]
      exact h2)
    have e4 : (((f ++ putX x).length : Nat) : Int) = (f.length : Int) + (putX x).length := by simp
    rw [e4] at ih
    show elsV l kind rv (xs.length + 1) i f.length = _
    rw [els_ok hk hx, ih, putXs_cons]
    show Rl.ok (x :: xs) _ = _
    congr 1
    simp
    omega
/-- A node or an edge is read where it must stand. -/
theorem end_back {l : List UInt8} {x : Vl} (h : okV 0 x = true) (hk : x.kd = 5 ∨ x.kd = 6) (f r : List UInt8) (e : l = f ++ (putX x ++ r)) : endV l f.length = .ok x ((f.length : Int) + (putX x).length) := by
  obtain ⟨k, n, d, s, ll⟩ := x
  have hk' : k = 5 ∨ k = 6 := hk
  rw [putX_mk, List.cons_append] at e
  have hl : f.length < l.length := by rw [e]; simp
  have hkk : (l.getD ((f.length : Int)).toNat 0).toNat = k.toNat := by rw [e]; exact kind_at f _ (by omega) (by omega)
  unfold endV
  rw [if_neg (by omega), hkk, if_pos (by omega)]
  obtain ⟨_, hf⟩ := flat_back (f ++ [k.toNat.toUInt8]) r (by omega) h
  have e2 : (f ++ [k.toNat.toUInt8]) ++ (tailX k n d s ll ++ r) = l := by rw [e]; simp
  have e3 : (((f ++ [k.toNat.toUInt8]).length : Nat) : Int) = (f.length : Int) + 1 := by simp
  rw [e2, e3] at hf
  rw [hf, fin_yes (ok_mono _ 0 8 (by decide) h), putX_mk]
  congr 1
  simp
  omega
theorem okVs_mem : ∀ {l : List Vl} {m : Nat}, okVs m l = true → ∀ x ∈ l, okV m x = true
  | [], _, _ => fun x h => by cases h
  | y :: r, m, g => by
    unfold okVs at g
    rw [Bool.and_eq_true] at g
    intro x hx
    rcases List.mem_cons.1 hx with e | e
    · rw [e]; exact g.1
    · exact okVs_mem g.2 x e
theorem okVp_mem : ∀ {l : List Vl} {b : Bool}, okVp b l = true → ∀ x ∈ l, okV 0 x = true ∧ (x.kd = 5 ∨ x.kd = 6)
  | [], _, _ => fun x h => by cases h
  | y :: r, b, g => by
    unfold okVp at g
    rw [Bool.and_eq_true, Bool.and_eq_true] at g
    intro x hx
    rcases List.mem_cons.1 hx with e | e
    · subst e
      refine ⟨g.1.2, ?_⟩
      have h := g.1.1
      cases b
      · right; simpa using h
      · left; simpa using h
    · exact okVp_mem g.2 x e
/-- What is written of a valid value is read as the value. -/
theorem val_back : ∀ (m : Nat) (v : Vl) (l f r : List UInt8), m ≤ 8 → okV m v = true → l = f ++ (putX v ++ r) → valV l m f.length = .ok v ((f.length : Int) + (putX v).length) := by
  intro m
  induction m with
  | zero =>
    intro v l f r _ h e
    exact head_back 0 v l f r (by decide) h e _ (fun hk => by
      exfalso
      obtain ⟨k, n, d, s, ll⟩ := v
      have hk' : k = 8 := hk
      unfold okV at h
      rw [if_neg (by omega), if_pos hk'] at h
      simp at h)
  | succ m ih =>
    intro v l f r hm h e
    refine head_back (m + 1) v l f r hm h e _ (fun hk => ?_)
    obtain ⟨k, n, d, s, ll⟩ := v
    have hk' : k = 8 := hk
    subst hk'
    have hX := ok_mono _ _ 8 hm h
    unfold okV at h
    rw [if_neg (by decide), if_pos rfl] at h
    simp only [Bool.and_eq_true, decide_eq_true_eq, Nat.add_sub_cancel] at h
    obtain ⟨⟨⟨hb, h1⟩, h64⟩, hs⟩ := h
    have hb' : n = 0 ∧ d = 0 ∧ s = [] := by simp [bareV] at hb; exact ⟨hb.1.1, hb.1.2, hb.2⟩
    obtain ⟨rfl, rfl, rfl⟩ := hb'
    have e1 : tailX 8 0 0 [] ll = uvarint ll.length ++ putXs ll := by unfold tailX; simp
    rw [putX_mk, e1] at e ⊢
    have e2 : l = (f ++ [(8 : Int).toNat.toUInt8]) ++ (uvarint ll.length ++ (putXs ll ++ r)) := by rw [e]; simp
    have hu := uint_back (f ++ [(8 : Int).toNat.toUInt8]) (putXs ll ++ r) (u := ll.length) (by omega)
    rw [← e2] at hu
    have e3 : (((f ++ [(8 : Int).toNat.toUInt8]).length : Nat) : Int) = (f.length : Int) + 1 := by simp
    rw [e3] at hu
    have e4 : l = (f ++ [(8 : Int).toNat.toUInt8] ++ uvarint ll.length) ++ (putXs ll ++ r) := by rw [e2]; simp
    have hels := els_back (kind := 8) (rv := valV l m) ll 0 _ r e4 (fun x hx f' r' e' => ih x l f' r' (by omega) (okVs_mem hs x hx) e') (fun h => absurd h (by decide))
    have e5 : (((f ++ [(8 : Int).toNat.toUInt8] ++ uvarint ll.length).length : Nat) : Int) = (f.length : Int) + 1 + (uvarint ll.length).length := by simp; omega
    rw [e5] at hels
    show fin (ofL 8 (listV l (valV l m) ((f.length : Int) + 1))) = _
    unfold listV
    rw [hu]
    simp only
    rw [if_neg (fun h => h rfl), if_neg (fun h => h (by omega)), Int.toNat_natCast, hels]
    show fin (.ok _ _) = _
    rw [fin_yes hX]
    congr 1
    simp
    omega
where
  head_back (m : Nat) (v : Vl) (l f r : List UInt8) (hm : m ≤ 8) (h : okV m v = true) (e : l = f ++ (putX v ++ r)) (seq : Int → Rs)
      (hseq : v.kd = 8 → seq ((f.length : Int) + 1) = .ok v ((f.length : Int) + (putX v).length)) : headV l f.length seq = .ok v ((f.length : Int) + (putX v).length) := by
    obtain ⟨k, n, d, s, ll⟩ := v
    have hX := ok_mono _ _ 8 hm h
    have hkr : 0 ≤ k ∧ k ≤ 8 := by
      rcases kinds hX with h | h | h | h | h | h | h | h | h <;> omega
    have hl : f.length < l.length := by rw [e, putX_mk]; simp
    have hkk : (l.getD ((f.length : Int)).toNat 0).toNat = k.toNat := by rw [e, putX_mk, List.cons_append]; exact kind_at f _ hkr.1 hkr.2
    unfold headV
    rw [if_neg (by omega), hkk]
    by_cases h7 : k < 7
    · rw [if_pos (by omega)]
      obtain ⟨_, hf⟩ := flat_back (f ++ [k.toNat.toUInt8]) r h7 h
      have e2 : (f ++ [k.toNat.toUInt8]) ++ (tailX k n d s ll ++ r) = l := by rw [e, putX_mk]; simp
      have e3 : (((f ++ [k.toNat.toUInt8]).length : Nat) : Int) = (f.length : Int) + 1 := by simp
      rw [e2, e3] at hf
      rw [hf, fin_yes hX, putX_mk]
      congr 1
      simp
      omega
    · rw [if_neg (by omega)]
      by_cases h8 : k = 7
      · subst h8
        rw [if_pos (show Int.toNat 7 = 7 from rfl)]
        unfold okV at h
        rw [if_pos rfl] at h
        simp only [Bool.and_eq_true, decide_eq_true_eq] at h
        obtain ⟨⟨⟨hb, h1⟩, h25⟩, hs⟩ := h
        have hb' : n = 0 ∧ d = 0 ∧ s = [] := by simp [bareV] at hb; exact ⟨hb.1.1, hb.1.2, hb.2⟩
        obtain ⟨rfl, rfl, rfl⟩ := hb'
        have e1 : tailX 7 0 0 [] ll = uvarint ll.length ++ putXs ll := by unfold tailX; simp
        rw [putX_mk, e1] at e ⊢
        have e2 : l = (f ++ [(7 : Int).toNat.toUInt8]) ++ (uvarint ll.length ++ (putXs ll ++ r)) := by rw [e]; simp
        have hu := uint_back (f ++ [(7 : Int).toNat.toUInt8]) (putXs ll ++ r) (u := ll.length) (by omega)
        rw [← e2] at hu
        have e3 : (((f ++ [(7 : Int).toNat.toUInt8]).length : Nat) : Int) = (f.length : Int) + 1 := by simp
        rw [e3] at hu
        have e4 : l = (f ++ [(7 : Int).toNat.toUInt8] ++ uvarint ll.length) ++ (putXs ll ++ r) := by rw [e2]; simp
        have hels := els_back (kind := 7) (rv := endV l) ll 0 _ r e4 (fun x hx f' r' e' => end_back (okVp_mem hs x hx).1 (okVp_mem hs x hx).2 f' r' e') (fun _ => hs)
        have e5 : (((f ++ [(7 : Int).toNat.toUInt8] ++ uvarint ll.length).length : Nat) : Int) = (f.length : Int) + 1 + (uvarint ll.length).length := by simp; omega
        rw [e5] at hels
        unfold pathV
        rw [hu]
        simp only
        rw [if_neg (fun h => h rfl), if_neg (fun h => h ⟨by omega, by omega⟩), Int.toNat_natCast, hels]
        show fin (.ok _ _) = _
        rw [fin_yes hX]
        congr 1
        simp
        omega
      · have hk8 : k = 8 := by omega
        rw [if_neg (by omega), if_pos (by omega)]
        exact hseq hk8
theorem value_back {v : Vl} (h : okX v = true) (f r : List UInt8) : valueV (f ++ (putX v ++ r)) f.length = .ok v ((f.length : Int) + (putX v).length) := by
  unfold valueV
  rw [if_neg (by simp; omega)]
  exact val_back 8 v _ f r (Nat.le_refl _) h rfl
end Go.Proofs.YtolkdmhjomampaaDoor
