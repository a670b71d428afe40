/-
  CgV; CgN: texts of one kind in one file; each part says what it holds.
-/
import Derived.Test.YtehmdeponbhhjaaDoorCgT
import Derived.BigQuiet

/-! Package codec: elementsAt of lists: walked out of what valueAt gives at each offset. Nothing that was there turns. -/
namespace Go.Proofs.YtehmdeponbhhjaaDoor
open Go.RowKit

theorem kp_mono {lo hi : Nat} (hh : lo ≤ hi) {w : World} {P : World → Prop} (h : Kp hi w P) : Kp lo w P := fun w2 hs hw => h w2 hs fun b h1 h2 => hw b (Nat.lt_of_le_of_lt hh h1) h2
theorem rm_made {w : World} {base g n : Nat} {z : Value} (h : w.ownsRow base 26 5 (.slice (some ⟨g, 0, none⟩) n n) n (madeCells z.cells (n * 5)).toList) : Rm w g n := by
  rcases h.2 with ⟨h0, _⟩ | ⟨g', cap, cur, hv, hb, hh, h1, h2, h3, h4⟩
  · cases h0
  · cases hv
    refine ⟨?_, fun j hj => ⟨?_, by simp [World.frozen?, hh]⟩⟩
    · rcases Nat.lt_or_ge g w.heap.size with k | k
      · exact k
      · rw [Array.getElem?_eq_none k] at hh; cases hh
    · have hj' : j < cur.size := by omega
      simp [World.cell?, hh, Array.getElem?_eq_getElem hj']
theorem qv_ve {w : World} {g : Nat} : ∀ (ys xs : List Vl), QV w g (xs ++ ys) → VE w ys g (xs.length * 5)
  | [], _, _ => by unfold VE; trivial
  | y :: r, xs, h => by
    obtain ⟨hv, a, c, h5, hk⟩ := h xs.length (by simp)
    have e : (xs ++ y :: r)[xs.length]'(by simp) = y := by simp
    rw [e] at hv h5 hk
    unfold VE
    refine ⟨VC_mk hv h5.1 h5.2.1 h5.2.2.1 h5.2.2.2.1 h5.2.2.2.2 (hk w (Nat.le_refl _) fun _ _ _ => rfl), ?_⟩
    have q := qv_ve r (xs ++ [y]) (by rw [List.append_assoc]; exact h)
    rw [List.length_append, List.length_singleton, show (xs.length + 1) * 5 = xs.length * 5 + 5 by omega] at q
    exact q
theorem qv_sl {w : World} {g : Nat} {xs : List Vl} (h : QV w g xs) (hm : xs.length ≤ maxLen) : SlV w (some ⟨g, 0, none⟩) xs xs.length :=
  ⟨Nat.le_refl _, hm, (fun e => by cases e), fun _ => ⟨g, 0, rfl, by have q := qv_ve xs [] h; simpa using q⟩⟩
theorem qv_kp {w : World} {g lo : Nat} {xs : List Vl} (h : QV w g xs) (hg : g < w.heap.size) (hlo : lo < g) (hm : xs.length ≤ maxLen) : Kp lo w (fun w2 => SlV w2 (some ⟨g, 0, none⟩) xs xs.length) := fun w2 hs hw => by
  refine qv_sl (fun j hj => ?_) hm
  obtain ⟨hv, a, c, h5, hk⟩ := h j hj
  have hb := hw g hlo hg
  have ce : ∀ i, w2.cell? ⟨g, i, none⟩ = w.cell? ⟨g, i, none⟩ := fun i => by simp [World.cell?, hb]
  refine ⟨hv, a, c, ⟨(ce _).trans h5.1, (ce _).trans h5.2.1, (ce _).trans h5.2.2.1, (ce _).trans h5.2.2.2.1, (ce _).trans h5.2.2.2.2⟩, fun w3 hs3 hw3 => hk w3 (Nat.le_trans hs hs3) fun b h1 h2 => ?_⟩
  exact (hw3 b h1 (Nat.lt_of_lt_of_le h2 hs)).trans (hw b (Nat.lt_trans hlo h1) h2)
theorem may_list8 (n : Int) (w : World) : Calls Tryd.prog 58 #[.int .i64 8, .int .i64 n] w fun e w' => e = .returned (.bool (decide (n ≤ 64))) ∧ w = w' := by
  by_cases h : n ≤ 64
  · rw [decide_eq_true h]
    go_enter Tryd.func58, Tryd.ntmps58
    go_wp2
    go_ret
    exact ⟨rfl, rfl⟩
  · rw [decide_eq_false h]
    go_enter Tryd.func58, Tryd.ntmps58
    go_wp2
    go_ret
    exact ⟨rfl, rfl⟩
/-- Elements are read, or none with a code. -/
def RetL (w : World) (o : Rl) (e : Ending) (w' : World) : Prop :=
  Fuw w w' ∧ match o with
    | .ok xs E => ∃ a2 c2, e = .returned (.tuple #[.slice a2 xs.length c2, .int .i64 E, .int .i64 0]) ∧ ∀ lo, lo < w.heap.size → Kp lo w' (fun w2 => SlV w2 a2 xs c2)
    | .er c => e = .returned (.tuple #[.slice none 0 0, .int .i64 0, .int .i64 c]) ∧ c ≠ 0
theorem vc_v0 : vc v0 none 0 = #[.int .i64 0, .int .i64 0, .int .i64 0, .string ⟨#[]⟩, .slice none 0 0] := rfl
/-- A list's elements: the number, then each. -/
def listV (l : List UInt8) (rv : Int → Rs) (a : Int) : Rl :=
  if (uintV l a).2.2 ≠ 0 then .er (uintV l a).2.2
  else if ¬ (uintV l a).1 ≤ 64 then .er 2
  else elsV l 8 rv (uintV l a).1.toNat 0 (uintV l a).2.1
set_option maxHeartbeats 8000000 in
set_option maxRecDepth 100000 in
theorem els_list (ao : Option Addr) (l : List UInt8) (cap : Nat) (a nest : Int) (h0 : -9223372036854775808 ≤ a) (h1 : a ≤ 9223372036854775807) (w : World) (h : IsB w ao l cap) (rv : Int → Rs)
    (HV : ∀ (b : Int) (w' : World), 0 ≤ b → b ≤ l.length → Fuw w w' → Calls Tryd.prog 14 #[.slice ao l.length cap, .int .i64 b, .int .i64 nest] w' (RetG w' (rv b)))
    (HB : ∀ (b : Int) (x : Vl) (E : Int), 0 ≤ b → b ≤ l.length → rv b = .ok x E → Vin x ∧ b ≤ E ∧ E ≤ l.length) :
    Calls Tryd.prog 43 #[.slice ao l.length cap, .int .i64 a, .int .i64 8, .int .i64 nest] w (RetL w (listV l rv a)) := by
  obtain ⟨i0, hi, hz0, hz1, hz2⟩ := info_parts infoV
  obtain ⟨n, E0, c, hu⟩ : ∃ u e c, uintV l a = (u, e, c) := ⟨_, _, _, rfl⟩
  have hok := uint_ok hu
  have hlen := h.len.1
  have HU := Lib.hid (uint_is ao l cap a h0 h1 w h n E0 c hu)
  unfold listV
  rw [hu]
  simp only
  have HV' := Lib.hid HV
  have HB' := Lib.hid HB
  clear HV HB hu h0 h1 h
  by_cases hc : c = 0
  case neg =>
    rw [if_pos hc]
    have hcb : (c == 0) = false := beq_eq_false_iff_ne.2 hc
    have hE := hok.2.2.2.2 hc
    have HC := Lib.hid hc
    clear hok hc
    go_enter Tryd.func43, Tryd.ntmps43
    go_wp2_with fail
    go_at_call 8; refine HU.out.mono ?_; rintro e1 w1 ⟨rfl, rfl⟩
    clear HU
    go_wp2
    go_ret3
    exact ⟨Fuw.refl _, rfl, HC.out⟩
  subst hc
  rw [if_neg (fun t => t rfl)]
  have hb := hok.2.2.2.1 rfl
  by_cases hn : n ≤ 64
  case neg =>
    rw [if_pos hn]
    have hm := decide_eq_false hn
    have HM := Lib.hid (may_list8 n w)
    rw [hm] at HM
    clear hok hm
    go_enter Tryd.func43, Tryd.ntmps43
    go_wp2_with fail
    go_at_call 8; refine HU.out.mono ?_; rintro e1 w1 ⟨rfl, rfl⟩
    clear HU
    go_wp2_with fail
    go_at_call 58; refine HM.out.mono ?_; rintro e1 w1 ⟨rfl, rfl⟩
    go_wp2
    go_ret3
    exact ⟨Fuw.refl _, rfl, by decide⟩
  rw [if_neg (fun t => t hn)]
  obtain ⟨m, rfl⟩ : ∃ m : Nat, n = (m : Int) := ⟨n.toNat, by omega⟩
  rw [Int.toNat_natCast]
  have HM := Lib.hid (may_list8 m w)
  rw [decide_eq_true hn] at HM
  have hm : m ≤ 64 := by omega
  clear hok
  go_enter Tryd.func43, Tryd.ntmps43
  go_wp2_with fail
  go_at_call 8; refine HU.out.mono ?_; rintro e1 w1 ⟨rfl, rfl⟩
  clear HU
  go_wp2_with fail
  go_at_call 58; refine HM.out.mono ?_; rintro e1 w1 ⟨rfl, rfl⟩
  go_upto_region 7 with (at_make; refine wpList_make_full _ rfl (.tmp 29) (.tmp 29) 24 rfl w.heap.size 26 i0 (.agg #[.int .i64 0, .int .i64 0, .int .i64 0, .string ⟨#[]⟩, .slice none 0 0]) 5 Tryd.underlying24 hi hz0 hz1 .i64 .i64 _ _ m rfl rfl rfl rfl (by rw [hz2]; omega) (by unfold maxLen; omega) (Nat.le_refl _) ?_; intro w2 hown hgrow)
  have hR := rm_made hown
  have hf2 : Fuw w w2 := Below.grown (Below.refl _ _) hgrow (Nat.le_refl _) (fun k hk => by cases hk)
  clear hown hgrow hi hz0 hz1 hz2
  generalize hg : w.heap.size = g at *
  have HG := Lib.hid hg
  clear hg
  go_wp2
  go_loopw [1, 33] (fun av iv wr => ∃ (i : Nat) (xs : List Vl) (b : Int), iv = .int .i64 i ∧ av = .int .i64 b ∧ i ≤ m ∧ xs.length = i ∧ 0 ≤ b ∧ b ≤ l.length ∧ Hid (elsV l 8 rv m 0 E0 = appL xs (elsV l 8 rv (m - i) i b)) ∧ Fuw w wr ∧ Hid (QV wr g xs) ∧ Hid (Rm wr g m)) (fun _ iv _ => m - (RowKit.intOf iv).toNat)
  case atStart => exact ⟨0, [], E0, rfl, rfl, Nat.zero_le _, rfl, by omega, hb.2.2, Lib.hid (appL_nil _).symm, hf2, Lib.hid (fun j hj => absurd hj (Nat.not_lt_zero _)), Lib.hid hR⟩
  case round =>
    obtain ⟨i, xs, b, rfl, rfl, him, hxl, hb0, hb1, hE, hf, hQ, hRm⟩ := hrel
    by_cases hlt : (i : Int) < m
    · have HN := Lib.hid (HV'.out b _ hb0 hb1 (Fuw.drew hf))
      have hbx := HB'.out b
      generalize hrb : rv b = r at *
      have hgz := hRm.out.1
      cases r with
      | ok x E =>
        have hx := hbx x E hb0 hb1 rfl
        have hE1 := Lib.hid (els_ok (l := l) (kind := 8) (rv := rv) (n := m - i - 1) (i := i) (fun t => absurd t.1 (by decide)) hrb)
        clear hbx hrb
        go_upto_region 10 with fail
        go_region
        go_wp2_with fail
        go_at_call 14; refine HN.out.mono ?_; rintro e3 w3 ⟨f3d, a2, c2, he3, hk3⟩
        have f3 : Fuw wr w3 := Fuw.trans (Fuw.drew (Fuw.refl wr)) f3d
        clear f3d HN
        unfold vc at he3
        subst he3
        have hQ3 := qv_on hQ.out hgz f3
        have hR3 := rm_on hRm.out f3
        have hK3 := Lib.hid (kp_mono (Nat.le_of_lt hgz) hk3)
        have il : i < m := by omega
        have r0 := hR3.2 (i * 5) (by omega)
        have r1 := hR3.2 (i * 5 + 1) (by omega)
        have r2 := hR3.2 (i * 5 + 2) (by omega)
        have r3 := hR3.2 (i * 5 + 3) (by omega)
        have r4 := hR3.2 (i * 5 + 4) (by omega)
        obtain ⟨q0, fz0⟩ := r0; obtain ⟨q1, fz1⟩ := r1; obtain ⟨q2, fz2⟩ := r2; obtain ⟨q3, fz3⟩ := r3; obtain ⟨q4, fz4⟩ := r4
        obtain ⟨y0, q0⟩ := Option.isSome_iff_exists.1 q0; obtain ⟨y1, q1⟩ := Option.isSome_iff_exists.1 q1; obtain ⟨y2, q2⟩ := Option.isSome_iff_exists.1 q2; obtain ⟨y3, q3⟩ := Option.isSome_iff_exists.1 q3; obtain ⟨y4, q4⟩ := Option.isSome_iff_exists.1 q4
        have HQ3 := Lib.hid hQ3
        have HR3 := Lib.hid hR3
        clear hQ3 hR3 hk3
        go_wp2
        go_roundw
        case rel =>
          have hq := qv_put HQ3.out HR3.out (by omega) hx.1 hK3.out
          rw [hxl] at hq
          exact ⟨i + 1, xs ++ [x], E, congrArg (Value.int .i64) (by omega), rfl, il, by rw [List.length_append, hxl]; rfl, by omega, hx.2.2, Lib.hid (by rw [hE.out, show m - i = m - i - 1 + 1 by omega, hE1.out, ← appL_app, show m - (i + 1) = m - i - 1 by omega]), fuw_set (fuw_set (fuw_set (fuw_set (fuw_set (Fuw.trans hf f3) (Nat.le_of_eq HG.out)) (Nat.le_of_eq HG.out)) (Nat.le_of_eq HG.out)) (Nat.le_of_eq HG.out)) (Nat.le_of_eq HG.out), Lib.hid hq, Lib.hid (rm_set (rm_set (rm_set (rm_set (rm_set HR3.out)))))⟩
        case measure => simp [RowKit.intOf]; omega
      | er c =>
        have hE1 := Lib.hid (els_er (l := l) (kind := 8) (rv := rv) (n := m - i - 1) (i := i) (fun t => absurd t.1 (by decide)) hrb)
        clear hbx hrb
        go_upto_region 10 with fail
        go_region
        go_wp2_with fail
        go_at_call 14; refine HN.out.mono ?_; rintro e3 w3 ⟨f3d, he3, hc0⟩
        have f3 : Fuw wr w3 := Fuw.trans (Fuw.drew (Fuw.refl wr)) f3d
        rw [vc_v0] at he3
        clear f3d HN
        subst he3
        have hcb : (c == 0) = false := beq_eq_false_iff_ne.2 hc0
        have hR3 := rm_on hRm.out f3
        have il : i < m := by omega
        have r0 := hR3.2 (i * 5) (by omega)
        have r1 := hR3.2 (i * 5 + 1) (by omega)
        have r2 := hR3.2 (i * 5 + 2) (by omega)
        have r3 := hR3.2 (i * 5 + 3) (by omega)
        have r4 := hR3.2 (i * 5 + 4) (by omega)
        obtain ⟨q0, fz0⟩ := r0; obtain ⟨q1, fz1⟩ := r1; obtain ⟨q2, fz2⟩ := r2; obtain ⟨q3, fz3⟩ := r3; obtain ⟨q4, fz4⟩ := r4
        obtain ⟨y0, q0⟩ := Option.isSome_iff_exists.1 q0; obtain ⟨y1, q1⟩ := Option.isSome_iff_exists.1 q1; obtain ⟨y2, q2⟩ := Option.isSome_iff_exists.1 q2; obtain ⟨y3, q3⟩ := Option.isSome_iff_exists.1 q3; obtain ⟨y4, q4⟩ := Option.isSome_iff_exists.1 q4
        have HC0 := Lib.hid hc0
        clear hR3 hc0
        go_wp2
        go_ret3
        have e : elsV l 8 rv m 0 E0 = .er c := by rw [hE.out, show m - i = m - i - 1 + 1 by omega, hE1.out]; rfl
        rw [e]
        exact ⟨fuw_set (fuw_set (fuw_set (fuw_set (fuw_set (Fuw.trans hf f3) (Nat.le_of_eq HG.out)) (Nat.le_of_eq HG.out)) (Nat.le_of_eq HG.out)) (Nat.le_of_eq HG.out)) (Nat.le_of_eq HG.out), rfl, HC0.out⟩
    · go_wp2
      go_ret3
      have ei : i = m := by omega
      subst ei
      have hE2 := hE.out
      rw [Nat.sub_self] at hE2
      have e : elsV l 8 rv i 0 E0 = .ok xs b := by rw [hE2]; unfold elsV appL; exact congrArg (fun t => Rl.ok t b) (List.append_nil xs)
      rw [e]
      exact ⟨hf, _, _, by rw [hxl]; rfl, fun lo hlo => by rw [← hxl]; exact qv_kp hQ.out hRm.out.1 (by rw [← HG.out]; exact hlo) (by unfold maxLen; omega)⟩
end Go.Proofs.YtehmdeponbhhjaaDoor

/-! Package codec: what elementsAt of paths calls: mayHave and pathKind. Nothing that was there turns. -/
namespace Go.Proofs.YtehmdeponbhhjaaDoor
open Go.RowKit

theorem may_path (n : Nat) (hn : n ≤ 9223372036854775807) (w : World) : Calls Tryd.prog 58 #[.int .i64 7, .int .i64 n] w fun e w' => e = .returned (.bool (decide (n ≤ 25 ∧ n % 2 = 1))) ∧ w = w' := by
  have ht : ((n : Int).tmod 2) = ((n % 2 : Nat) : Int) := rfl
  by_cases h : n ≤ 25
  · have hi : (n : Int) ≤ 25 := by omega
    rcases Nat.mod_two_eq_zero_or_one n with e | e
    · rw [show decide (n ≤ 25 ∧ n % 2 = 1) = false from decide_eq_false (by omega)]
      rw [e] at ht
      have hb : ((((n : Int).tmod 2)) == 1) = false := by rw [ht]; rfl
      clear e h hn
      go_enter Tryd.func58, Tryd.ntmps58
      go_wp2
      go_ret
      exact ⟨rfl, rfl⟩
    · rw [show decide (n ≤ 25 ∧ n % 2 = 1) = true from decide_eq_true (by omega)]
      rw [e] at ht
      have hb : ((((n : Int).tmod 2)) == 1) = true := by rw [ht]; rfl
      clear e h hn
      go_enter Tryd.func58, Tryd.ntmps58
      go_wp2
      go_ret
      exact ⟨rfl, rfl⟩
  · rw [show decide (n ≤ 25 ∧ n % 2 = 1) = false from decide_eq_false (by omega)]
    have hi : ¬ ((n : Int) ≤ 25) := by omega
    clear ht h hn
    go_enter Tryd.func58, Tryd.ntmps58
    go_wp2
    go_ret
    exact ⟨rfl, rfl⟩
theorem pk_is (i : Nat) (w : World) : Calls Tryd.prog 59 #[.int .i64 i] w fun e w' => e = .returned (.int .i64 (pkV i)) ∧ w = w' := by
  have ht : ((i : Int).tmod 2) = ((i % 2 : Nat) : Int) := rfl
  unfold pkV
  rcases Nat.mod_two_eq_zero_or_one i with e | e
  · rw [if_neg (by omega)]
    rw [e] at ht
    have hb : ((((i : Int).tmod 2)) == 1) = false := by rw [ht]; rfl
    clear e
    go_enter Tryd.func59, Tryd.ntmps59
    go_wp2
    go_ret
    exact ⟨rfl, rfl⟩
  · rw [if_pos e]
    rw [e] at ht
    have hb : ((((i : Int).tmod 2)) == 1) = true := by rw [ht]; rfl
    clear e
    go_enter Tryd.func59, Tryd.ntmps59
    go_wp2
    go_ret
    exact ⟨rfl, rfl⟩
theorem fuwN (w : World) (n : Nat) : Fuw w (w.drewN n) := ⟨rfl, rfl, rfl, Nat.le_refl _, fun _ _ => rfl⟩
/-- A path's elements: the number, then each. -/
def pathV (l : List UInt8) (rv : Int → Rs) (a : Int) : Rl :=
  if (uintV l a).2.2 ≠ 0 then .er (uintV l a).2.2
  else if ¬ ((uintV l a).1.toNat ≤ 25 ∧ (uintV l a).1.toNat % 2 = 1) then .er 2
  else elsV l 7 rv (uintV l a).1.toNat 0 (uintV l a).2.1
end Go.Proofs.YtehmdeponbhhjaaDoor
