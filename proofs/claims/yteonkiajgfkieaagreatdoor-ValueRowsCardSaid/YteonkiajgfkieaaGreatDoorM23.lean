/-
  LvL; FzC: texts of one kind in one file; each part says what it holds.
-/
import Derived.Test.YteonkiajgfkieaaGreatDoorLvE
import Derived.Test.YteonkiajgfkieaaGreatDoorValT
import Derived.Test.YteonkiajgfkieaaGreatDoorM10
import Derived.Test.YteonkiajgfkieaaGreatDoorM07
import Derived.Deep.RegionHeld3

/-! Package value: the library's ReplaceAll at a quote and Join, as the text of a value has them (mathematics); texts, given what textValid answers of each element. Nothing that was there turns. -/
namespace Go.Proofs.YteonkiajgfkieaaGreatDoor
open Go.RowKit

/-! Quotes doubled, by the library's words. -/
theorem ix_cons (b : UInt8) (l : List UInt8) : Lib.index (b :: l) [39] = if b = 39 then 0 else if Lib.index l [39] == -1 then -1 else Lib.index l [39] + 1 := by
  rw [Lib.index]
  have e : List.isPrefixOf [(39 : UInt8)] (b :: l) = (39 == b) := by simp [List.isPrefixOf]
  rw [e]
  by_cases h : b = 39
  · rw [if_pos h, h]; rfl
  · have : ((39 : UInt8) == b) = false := beq_eq_false_iff_ne.2 (fun t => h t.symm)
    rw [if_neg h, this]; rfl
theorem ct_39 : ∀ (s : List UInt8) (f : Nat), s.length < f → Lib.countFrom [39] f s = s.count 39
  | [], f, h => by
    cases f with
    | zero => omega
    | succ f => rw [Lib.countFrom]; rfl
  | b :: l, f, h => by
    cases f with
    | zero => omega
    | succ f =>
      have hl : l.length < f := by simp at h; omega
      by_cases hb : b = 39
      · have e : Lib.index (b :: l) [39] = 0 := by rw [ix_cons, if_pos hb]
        rw [Lib.countFrom, e]
        have := ct_39 l f hl
        simp [this, hb]
        omega
      · have ih := ct_39 l (f + 1) (by omega)
        rw [Lib.countFrom] at ih
        rw [Lib.countFrom, ix_cons, if_neg hb]
        have hc : (b :: l).count 39 = l.count 39 := List.count_cons_of_ne hb
        rw [hc, ← ih]
        have hge := Lib.index_ge l [39]
        by_cases hi : Lib.index l [39] = -1
        · rw [hi]; rfl
        · have h1 : (Lib.index l [39] == -1) = false := beq_eq_false_iff_ne.2 hi
          have h2 : (Lib.index l [39] + 1 == -1) = false := by rw [beq_eq_false_iff_ne]; omega
          rw [h1]
          simp only [Bool.false_eq_true, if_false, h2]
          rw [show (Lib.index l [39] + 1).toNat = (Lib.index l [39]).toNat + 1 by omega]
          rfl
theorem dbl_none : ∀ {s : List UInt8}, s.count 39 = 0 → dbl s = s
  | [], _ => rfl
  | b :: l, h => by
    by_cases hb : b = 39
    · rw [hb] at h; simp at h
    · rw [List.count_cons_of_ne hb] at h
      unfold dbl
      rw [if_neg hb, dbl_none h]
theorem rep_39 : ∀ (s : List UInt8) (k : Nat), s.count 39 ≤ k → Lib.replaceK [39] [39, 39] k s = dbl s
  | [], k, _ => by cases k <;> rfl
  | b :: l, 0, h => by
    rw [Lib.replaceK, dbl_none (by omega)]
  | b :: l, k + 1, h => by
    by_cases hb : b = 39
    · have e : Lib.index (b :: l) [39] = ((0 : Nat) : Int) := by rw [ix_cons, if_pos hb]; rfl
      rw [hb] at h
      have ih := rep_39 l k (by simp at h; omega)
      rw [Lib.replaceK_hit _ _ _ _ 0 e]
      unfold dbl
      rw [if_pos hb]
      simp [ih]
    · rw [List.count_cons_of_ne hb] at h
      have ih := rep_39 l (k + 1) h
      have hge := Lib.index_ge l [39]
      rw [Lib.replaceK, ix_cons, if_neg hb]
      rw [Lib.replaceK] at ih
      unfold dbl
      rw [if_neg hb, ← ih]
      by_cases hi : Lib.index l [39] = -1
      · rw [hi]; rfl
      · have h1 : (Lib.index l [39] == -1) = false := beq_eq_false_iff_ne.2 hi
        have h2 : (Lib.index l [39] + 1 == -1) = false := by rw [beq_eq_false_iff_ne]; omega
        rw [h1]
        simp only [Bool.false_eq_true, if_false, h2]
        rw [show (Lib.index l [39] + 1).toNat = (Lib.index l [39]).toNat + 1 by omega]
        rfl
theorem rep_dbl (s : List UInt8) : Lib.replaceAll s [39] [39, 39] = dbl s := by
  unfold Lib.replaceAll Lib.replace
  rw [if_neg (by decide)]
  apply rep_39
  unfold Lib.replaceNum
  rw [if_pos (.inl (by decide))]
  unfold Lib.count
  rw [ct_39 s _ (Nat.lt_succ_self _)]
  exact Nat.le_refl _
theorem ct_le (s : List UInt8) : Lib.count s [39] ≤ s.length := by
  unfold Lib.count
  rw [ct_39 s _ (Nat.lt_succ_self _)]
  exact List.count_le_length
theorem join_R (by_ : List UInt8) : ∀ l : List Vl, Lib.joinTail by_ (l.map texX) = texR by_ l
  | [] => rfl
  | x :: r => by
    have ih := join_R by_ r
    unfold texR
    rw [← ih]
    simp [Lib.joinTail]
theorem join_tex (by_ : List UInt8) (l : List Vl) : Lib.join (l.map texX) by_ = texL by_ l := by
  cases l with
  | nil => rfl
  | cons x r =>
    unfold texL
    rw [List.map_cons, Lib.join_cons, join_R]

/-! texts. -/
/-- The cells of a list of strings. -/
def cst (o : List (List UInt8)) : List Value := o.map fun s => .string (bs s)
theorem cst_set (o : List (List UInt8)) (j : Nat) (s : List UInt8) : (cst o).set j (.string (bs s)) = cst (o.set j s) := by
  unfold cst
  rw [List.map_set]
theorem cst_at {o : List (List UInt8)} {j : Nat} {s : List UInt8} (h : o[j]? = some s) : (cst o)[j]? = some (.string (bs s)) := by
  unfold cst
  rw [List.getElem?_map, h]; rfl
theorem infoS : (Tryz.prog.info? 9).map (fun i => (i.zero, i.size, i.bytes)) = some (some (.string ⟨#[]⟩), 1, 16) := by kernel_rfl
theorem made_empty (n : Nat) : (madeCells (Value.string ⟨#[]⟩).cells (n * 1)).toList = cst (List.replicate n []) := by
  rw [Nat.mul_one]
  unfold cst
  rw [List.map_replicate]
  exact toList_madeCells_one (.string ⟨#[]⟩) _
theorem own_beloww {w w' : World} {base e size : Nat} {v : Value} {n : Nat} {xs : List Value} (h : w.ownsRow base e size v n xs) (hf : Fuw w w') : w'.ownsRow base e size v n xs := by
  refine ⟨h.1, ?_⟩
  rcases h.2 with h0 | ⟨g, cap, cur, hv, hg, hh, rest⟩
  · exact .inl h0
  · refine .inr ⟨g, cap, cur, hv, hg, ?_, rest⟩
    have hlt : g < w.heap.size := by
      rcases Nat.lt_or_ge g w.heap.size with k | k
      · exact k
      · rw [Array.getElem?_eq_none k] at hh; cases hh
    rw [Below.block hf g hlt]; exact hh
/-- A string; nothing that was there has turned. -/
def RwT (w : World) (s : List UInt8) (e : Ending) (w' : World) : Prop := e = .returned (.string (bs s)) ∧ Fuw w w'
/-- What textValid answers of a value. -/
def TxAt (x : Vl) : Prop := ∀ (ao : Option Addr) (ca : Nat) (w : World), Vin x → SlV w ao x.ll ca → Good w → Calls Tryz.prog 37 #[vlv x ao ca] w (RwT w (texX x))
/-- The first i are done. -/
structure TxDone (l : List Vl) (i : Nat) (o : List (List UInt8)) : Prop where
  len : o.length = l.length
  has : ∀ j, j < i → ∀ x, l[j]? = some x → o[j]? = some (texX x)
theorem TxDone.step {l : List Vl} {i : Nat} {o : List (List UInt8)} (h : TxDone l i o) (hi : i < l.length) : TxDone l (i + 1) (o.set i (texX l[i])) := by
  refine ⟨by rw [List.length_set, h.len], fun j hj x hx => ?_⟩
  have hl := h.len
  by_cases e : j = i
  · subst e
    rw [List.getElem?_set_self (by omega)]
    rw [List.getElem?_eq_getElem hi] at hx
    cases hx; rfl
  · rw [List.getElem?_set_ne (fun t => e t.symm)]
    exact h.has j (by omega) x hx
theorem TxDone.all {l : List Vl} {o : List (List UInt8)} (h : TxDone l l.length o) : o = l.map texX := by
  apply List.ext_getElem?
  intro j
  rw [List.getElem?_map]
  rcases Nat.lt_or_ge j l.length with k | k
  · have e := List.getElem?_eq_getElem k
    rw [e, h.has j k _ e]; rfl
  · have := h.len
    rw [List.getElem?_eq_none k, List.getElem?_eq_none (by omega)]; rfl
/-- A slice of strings. -/
def RwS (w : World) (o : List (List UInt8)) (e : Ending) (w' : World) : Prop := ∃ b cap, e = .returned (.slice (some ⟨b, 0, none⟩) o.length cap) ∧ o.length ≤ cap ∧ b < w'.heap.size ∧ (∀ (j : Nat) s, o[j]? = some s → w'.cell? ⟨b, j, none⟩ = some (.string (bs s))) ∧ Fuw w w'

set_option maxHeartbeats 3200000 in
set_option maxRecDepth 100000 in
theorem ltexts_any (l : List Vl) (hO : ∀ x, x ∈ l → TxAt x) (h64 : l.length ≤ 64) (ao : Option Addr) (ca : Nat) (w : World) (hs : SlV w ao l ca) (G : Good w) :
    Calls Tryz.prog 54 #[.slice ao l.length ca] w (RwS w (l.map texX)) := by
  obtain ⟨i0, hi, hz0, hz1, hz2⟩ := info_parts infoS
  have HO := Lib.hid hO
  have HS := Lib.hid hs
  have HG := Lib.hid G
  clear hs hO G
  go_enter Tryz.func54, Tryz.ntmps54
  go_wp2_with (at_make; refine wpList_make_full _ rfl (.tmp 7) (.tmp 7) 67 rfl w.heap.size 9 i0 (.string ⟨#[]⟩) 1 Tryz.underlying67 hi hz0 hz1 .i64 .i64 _ _ l.length rfl rfl (by omega) (by omega) (by rw [hz2]; omega) (by unfold maxLen; omega) (Nat.le_refl _) ?_; intro w1 hown0 hgrow0)
  have hown1 : w1.ownsRow w.heap.size 9 1 (.slice (some ⟨w.heap.size, 0, none⟩) l.length l.length) l.length (cst (List.replicate l.length [])) := by
    rw [made_empty] at hown0
    exact hown0
  have hf1 : Fuw w w1 := Below.grown (Fuw.refl w) hgrow0 (Nat.le_refl _) (by intro k hk; cases hk)
  clear hown0 hgrow0
  go_wp2
  go_loopw [11] (fun iv wr => ∃ (i : Nat) (o : List (List UInt8)), iv = .int .i64 i ∧ i ≤ l.length ∧ wr.ownsRow w.heap.size 9 1 (.slice (some ⟨w.heap.size, 0, none⟩) l.length l.length) l.length (cst o) ∧ Fuw w wr ∧ Hid (TxDone l i o)) (fun iv _ => l.length - (RowKit.intOf iv).toNat)
  case atStart => exact ⟨0, _, rfl, Nat.zero_le _, hown1, hf1, ⟨by simp, fun j hj => by omega⟩⟩
  case round =>
    obtain ⟨i, o, rfl, hil, hown, hf, HN⟩ := hrel
    by_cases hlt : i < l.length
    · obtain ⟨b, of, rfl, hc⟩ := (HS.out.onw hf).get hlt
      have hT := HO.out l[i] (List.getElem_mem hlt)
      obtain ⟨hy, c0, c1, c2, c3, a1, k1, c4, hs2⟩ := VC_of hc
      obtain ⟨p0, f0⟩ := bx1 wr l[i] a1 k1
      have HC := Lib.hid (fun w' (hf' : Fuw wr w') => hT a1 k1 w' hy (hs2.onw hf') (HG.out.onw (hf.trans hf')))
      have HN2 := Lib.hid (HN.out.step hlt)
      have hol := HN.out.len
      unfold vlv at HC
      clear hc hs2 hy hT HN
      generalize l[i] = x at *
      generalize texX x = t at *
      go_wp2_with fail
      go_at_call 37; refine (HC.out _ f0.b).mono ?_; rintro e1 w1 ⟨rfl, f1⟩
      have ff : Fuw wr w1 := f0.w.trans f1
      have hown' := own_beloww hown ff
      have hco := hown'.cellAt i (by omega)
      have hfz := hown'.frozenAt i
      have hst := (hown'.stored i (.string (bs t))).1
      rw [cst_set] at hst
      have HST := Lib.hid hst
      have hf3 : Fuw w (w1.setCell ⟨w.heap.size, i, none⟩ (.string (bs t))) := Below.setCell (hf.trans ff) (Nat.le_refl w.heap.size) _
      obtain ⟨u, hu⟩ : ∃ u, (cst o)[i]? = some u := ⟨_, List.getElem?_eq_getElem (by unfold cst; rw [List.length_map]; omega)⟩
      rw [hu] at hco
      clear hst hown hown' hu hol
      go_wp2
      go_roundw
      case rel => exact ⟨i + 1, _, by go_num, by omega, HST.out, hf3, HN2.out⟩
      case measure => simp [RowKit.intOf]; omega
    · have e : i = l.length := by omega
      have hE := HN.out
      rw [e] at hE
      have HE := Lib.hid hE.all
      clear hE
      have HW := Lib.hid hown
      have hb : w.heap.size < wr.heap.size := by
        have c := hf1.size
        rcases hown.2 with ⟨h0, -⟩ | ⟨g, cap, cur, hv, hg, hh, -⟩
        · cases h0
        · have e1 : g = w.heap.size := by
            have := (Value.slice.inj hv).1
            have := (Addr.mk.inj (Option.some.inj this)).1
            exact this.symm
          subst e1
          rcases Nat.lt_or_ge w.heap.size wr.heap.size with k | k
          · exact k
          · rw [Array.getElem?_eq_none k] at hh; cases hh
      have HL := Lib.hid HN.out.len
      clear hown
      go_wp2
      go_ret
      refine ⟨w.heap.size, l.length, ret_slice (List.length_map (f := texX)).symm, by rw [List.length_map]; exact Nat.le_refl _, hb, fun j s hj => ?_, hf⟩
      have c := HW.out.cellAt j (by
        have := (List.getElem?_eq_some_iff.1 hj).1
        rw [List.length_map] at this
        omega)
      rw [c, HE.out]
      exact cst_at hj
end Go.Proofs.YteonkiajgfkieaaGreatDoor

/-! Package frac: Floor and Text. For every pair of ints (Text: where the table of powers of ten reads as laid); nothing that was there turns. -/
namespace Go.Proofs.YteonkiajgfkieaaGreatDoor
open Go.RowKit

set_option maxHeartbeats 1600000 in
set_option maxRecDepth 100000 in
theorem nf_text (n d : Int) (w : World) (G : Good w) : Calls Tryz.prog 50 #[.agg #[.int .i64 n, .int .i64 d]] w (RetT w (texV n d)) := by
  obtain ⟨p0, f0⟩ := box1 w n d
  have VA := Lib.hid (fun w => nf_valid n d w)
  have GG := Lib.hid G
  cases va : okF n d
  · rw [show texV n d = ⟨#[]⟩ by unfold texV; rw [va]; rfl]
    rw [va] at VA
    clear va
    have c00 := p0.c0
    have c01 := p0.c1
    go_enter Tryz.func50, Tryz.ntmps50
    go_wp2_with fail
    go_at_call 56; refine (VA.out _).mono ?_; rintro e1 w1 ⟨rfl, f1⟩
    go_wp2
    go_ret
    exact ⟨rfl, f0.trans f1⟩
  · rw [show texV n d = fracTxt n d by unfold texV; rw [va]; rfl]
    have ha := okF_t va
    have a1 := ha.d1; have a2 := ha.d2; have a3 := ha.n1; have a4 := ha.n2
    rw [va] at VA
    have c00 := p0.c0
    have c01 := p0.c1
    clear va ha
    by_cases hd : d = 1
    · subst hd
      rw [show fracTxt n 1 = txt n by unfold fracTxt; rw [if_pos rfl]]
      go_enter Tryz.func50, Tryz.ntmps50
      go_wp2_with fail
      go_at_call 56; refine (VA.out _).mono ?_; rintro e1 w1 ⟨rfl, f1⟩
      clear c00 c01
      replace p0 := p0.on f1
      have c00 := p0.c0
      have c01 := p0.c1
      go_wp2_with fail
      go_at_call 52; refine (num_text _ (by omega) (by omega) _ (GG.out.on (f0.trans f1))).mono ?_; rintro e1 w2 ⟨rfl, f2⟩
      go_wp2
      go_ret
      exact ⟨rfl, (f0.trans f1).trans f2⟩
    · rw [show fracTxt n d = txt n ++ ⟨#[47]⟩ ++ txt d by unfold fracTxt; rw [if_neg hd]]
      have hdne : (d == 1) = false := by rw [beq_eq_false_iff_ne]; exact hd
      have z1 := txt_size n (by omega) (by omega)
      have z2 := txt_size d (by omega) (by omega)
      have z3 : ¬ (9223372036854775807 < (txt n).size + 1) := by omega
      have z4 : ¬ (9223372036854775807 < (txt n).size + 1 + (txt d).size) := by omega
      clear hd
      go_enter Tryz.func50, Tryz.ntmps50
      go_wp2_with fail
      go_at_call 56; refine (VA.out _).mono ?_; rintro e1 w1 ⟨rfl, f1⟩
      clear c00 c01
      replace p0 := p0.on f1
      replace f0 := f0.trans f1
      have c00 := p0.c0
      have c01 := p0.c1
      have G1 := Lib.hid (GG.out.on f0)
      go_wp2_with fail
      go_region_held3 (fun w' => Fur w1 w' ∧ w'.cell? ⟨w.heap.size, 0, none⟩ = some (.int .i64 n) ∧ w'.cell? ⟨w.heap.size, 1, none⟩ = some (.int .i64 d))
        (first
          | (refine ⟨Fur.drew (Fur.refl _), ?_, ?_⟩ <;> simp [*]; done)
          | go_keep
          | (refine ⟨Fur.trans ?_ (by assumption), cellOn (by assumption) ?_, cellOn (by assumption) ?_⟩ <;> simp [*]))
        (first
          | (go_at_call 52; refine (num_text _ ?_ ?_ _ (G1.out.on ?_)).mono ?_; omega; omega; (first | (simp [*]; done) | (exact Fur.drew (Fur.refl _)) | (simp only [*])); rintro e w4 ⟨rfl, f4⟩))
      have hS : Fur w1 w4 ∧ w4.cell? ⟨w.heap.size, 0, none⟩ = some (.int .i64 n) ∧ w4.cell? ⟨w.heap.size, 1, none⟩ = some (.int .i64 d) := by assumption
      have ff := f0.trans hS.1
      go_wp2
      go_ret
      exact ⟨rfl, ff⟩
end Go.Proofs.YteonkiajgfkieaaGreatDoor
