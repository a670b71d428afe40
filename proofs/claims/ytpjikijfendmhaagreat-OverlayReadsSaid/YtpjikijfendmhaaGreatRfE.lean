
/-
  The reference of columns: entries in order, by insertion. Nothing that was there turns.
-/
import Derived.Test.YtpjikijfendmhaaGreatRfD
namespace Go.Proofs.YtpjikijfendmhaaGreat
open Go.RowKit

def insK (A : List Aj) (x : Aj) (k : Nat) : List Aj := A.take k ++ x :: A.drop k
theorem insK_len {A : List Aj} (x : Aj) {k : Nat} (hk : k ≤ A.length) : (insK A x k).length = A.length + 1 := by
  unfold insK
  rw [List.length_append, List.length_cons, List.length_take, List.length_drop]; omega
theorem insK_at {A : List Aj} (x : Aj) {k : Nat} (hk : k ≤ A.length) : (insK A x k)[k]? = some x := by
  unfold insK
  rw [List.getElem?_append_right (by rw [List.length_take]; omega), List.length_take, show k - min k A.length = 0 by omega]; rfl
theorem insK_lo {A : List Aj} (x : Aj) {k j : Nat} (hk : k ≤ A.length) (hj : j < k) : (insK A x k)[j]? = A[j]? := by
  unfold insK
  rw [List.getElem?_append_left (by rw [List.length_take]; omega), List.getElem?_take_of_lt hj]
theorem insK_hi {A : List Aj} (x : Aj) {k j : Nat} (hk : k ≤ A.length) (hj : k < j) : (insK A x k)[j]? = A[j - 1]? := by
  unfold insK
  rw [List.getElem?_append_right (by rw [List.length_take]; omega), List.length_take, show j - min k A.length = (j - 1 - k) + 1 by omega, List.getElem?_cons_succ, List.getElem?_drop, show k + (j - 1 - k) = j - 1 by omega]
theorem insK_swap {A : List Aj} (x : Aj) {k : Nat} (hk : k < A.length) : ((insK A x (k + 1)).set (k + 1) A[k]).set k x = insK A x k := by
  apply List.ext_getElem?
  intro j
  have hl := insK_len x (show k + 1 ≤ A.length from hk)
  rw [List.getElem?_set, List.length_set, List.getElem?_set]
  by_cases h1 : k = j
  · subst h1
    rw [if_pos rfl, if_pos (by omega), insK_at x (by omega)]
  · rw [if_neg h1]
    by_cases h2 : k + 1 = j
    · subst h2
      rw [if_pos rfl, if_pos (by omega), insK_hi x (by omega) (by omega), Nat.add_sub_cancel, List.getElem?_eq_getElem hk]
    · rw [if_neg h2]
      rcases Nat.lt_or_ge j k with g | g
      · rw [insK_lo x (by omega) (by omega), insK_lo x (by omega) g]
      · rw [insK_hi x (by omega) (by omega), insK_hi x (by omega) (by omega)]
theorem insK_perm (A : List Aj) (x : Aj) (k : Nat) : (insK A x k).Perm (x :: A) := by
  unfold insK
  refine List.perm_middle.trans ?_
  rw [List.take_append_drop]
theorem insK_end {A : List Aj} {x : Aj} {k : Nat} (hA : A.Pairwise fun a b => adjL b a = false) (hk : k ≤ A.length) (h1 : ∀ j (h : j < A.length), k ≤ j → adjL x A[j] = true) (h2 : k = 0 ∨ ∃ h : k - 1 < A.length, adjL x A[k - 1] = false) : insK A x k = srtJ (x :: A) := by
  refine srtJ_uniq (insK_perm A x k) ?_
  unfold insK
  rw [List.pairwise_append, List.pairwise_cons]
  refine ⟨hA.sublist (List.take_sublist k A), ⟨fun y hy => ?_, hA.sublist (List.drop_sublist k A)⟩, fun y hy z hz => ?_⟩
  · obtain ⟨i, hi, rfl⟩ := List.getElem_of_mem hy
    rw [List.getElem_drop]
    exact adjL_asym (h1 _ _ (by omega))
  · obtain ⟨i, hi, rfl⟩ := List.getElem_of_mem hy
    rw [List.length_take] at hi
    rw [List.getElem_take]
    rcases List.mem_cons.1 hz with e | hz
    · subst e
      rcases h2 with e | ⟨h, e⟩
      · omega
      · rcases Nat.lt_or_eq_of_le (show i ≤ k - 1 by omega) with g | g
        · exact adj_le_tr (List.pairwise_iff_getElem.1 hA i (k - 1) (by omega) h g) e
        · subst g; exact e
    · obtain ⟨j, hj, rfl⟩ := List.getElem_of_mem hz
      rw [List.length_drop] at hj
      rw [List.getElem_drop]
      exact List.pairwise_iff_getElem.1 hA i (k + j) (by omega) (by omega) (by omega)
theorem insK_init (A : List Aj) (x : Aj) : insK A x A.length = A ++ [x] := by
  unfold insK
  rw [List.take_length, List.drop_length]
theorem srtJ_snoc (l : List Aj) {i : Nat} (h : i < l.length) : srtJ (l.take (i + 1)) = srtJ (l[i] :: srtJ (l.take i)) := by
  rw [take_snoc l h]
  refine srtJ_congr ?_
  refine (List.perm_append_comm).trans ?_
  exact ((srtJ_perm (l.take i)).symm).cons l[i]
theorem aC_set : ∀ (M : List Aj) (j : Nat) (y : Aj), (((aC M).set (j * 3) (.int .i64 y.1)).set (j * 3 + 1) (.int .i64 y.2.1)).set (j * 3 + 2) (.int .i64 y.2.2) = aC (M.set j y)
  | [], j, y => rfl
  | x :: r, 0, y => rfl
  | x :: r, j + 1, y => by
    have h := aC_set r j y
    rw [show (j + 1) * 3 = j * 3 + 1 + 1 + 1 by omega, show j * 3 + 1 + 1 + 1 + 1 = (j * 3 + 1) + 1 + 1 + 1 by omega, show j * 3 + 1 + 1 + 1 + 2 = (j * 3 + 2) + 1 + 1 + 1 by omega]
    show List.set (List.set (List.set (Value.int .i64 x.1 :: Value.int .i64 x.2.1 :: Value.int .i64 x.2.2 :: aC r) _ _) _ _) _ _ = _
    simp only [List.set_cons_succ]
    rw [h]; rfl
/-- An entry stored into a row of a call's own. -/
theorem own_set3 {w : World} {base g cap : Nat} {M : List Aj} (h : w.ownsRow base 42 3 (.slice (some ⟨g, 0, none⟩) M.length cap) M.length (aC M)) (j : Nat) (y : Aj) :
    (((w.setCell ⟨g, j * 3, none⟩ (.int .i64 y.1)).setCell ⟨g, j * 3 + 1, none⟩ (.int .i64 y.2.1)).setCell ⟨g, j * 3 + 2, none⟩ (.int .i64 y.2.2)).ownsRow base 42 3 (.slice (some ⟨g, 0, none⟩) (M.set j y).length cap) (M.set j y).length (aC (M.set j y)) := by
  rw [List.length_set, ← aC_set]
  exact (((h.stored _ _).1.stored _ _).1.stored _ _).1
theorem own_cell3 {w : World} {base g cap n : Nat} {M : List Aj} (h : w.ownsRow base 42 3 (.slice (some ⟨g, 0, none⟩) n cap) n (aC M)) (hn : n = M.length) {j : Nat} {y : Aj} (hj : M[j]? = some y) :
    w.cell? ⟨g, j * 3, none⟩ = some (.int .i64 y.1) ∧ w.cell? ⟨g, j * 3 + 1, none⟩ = some (.int .i64 y.2.1) ∧ w.cell? ⟨g, j * 3 + 2, none⟩ = some (.int .i64 y.2.2) := by
  subst hn
  obtain ⟨hlt, e⟩ := List.getElem?_eq_some_iff.1 hj
  have k : ∀ c, c < 3 → w.cell? ⟨g, j * 3 + c, none⟩ = (aE y)[c]? := fun c hc => by
    rw [h.cellAt (j * 3 + c) (by omega), aC_get M j c hc hlt, e]
  exact ⟨k 0 (by decide), k 1 (by decide), k 2 (by decide)⟩
set_option maxHeartbeats 25600000 in
set_option maxRecDepth 100000 in
theorem rsorted_any (l : List Aj) (ao : Option Addr) (cap : Nat) (w : World) (hs : SlJ w ao l cap) (hl : l.length ≤ 1000000) :
    Calls Tryz.prog 94 #[.slice ao l.length cap] w (RetJ w (srtJ l)) := by
  have HS := Lib.hid hs
  obtain ⟨i0, hi0, hz0, hz1, hz2⟩ := info_parts infoJ
  clear hs
  go_enter Tryz.func94, Tryz.ntmps94
  go_wp2
  go_loopw [3, 4] (fun lv iv wr => ∃ i : Nat, iv = .int .i64 i ∧ i ≤ l.length ∧ Hid (OwnJ w wr lv (srtJ (l.take i))) ∧ Hid (Fuw w wr)) (fun _ iv _ => l.length - (RowKit.intOf iv).toNat)
  case atStart => exact ⟨0, rfl, Nat.zero_le _, Lib.hid (by rw [List.take_zero, show srtJ [] = [] from List.eq_nil_of_length_eq_zero (srtJ_len [])]; exact World.ownsRow_nil _ _ _ _), Lib.hid (Fuw.refl _)⟩
  case round =>
    obtain ⟨i, rfl, hi, HO, hf⟩ := hrel
    by_cases hlt : i < l.length
    · obtain ⟨b, o, rfl, -, -, -, c0, c1, c2⟩ := (slJ_on hf.out HS.out).get hlt
      have HSn := Lib.hid (srtJ_snoc l hlt)
      have HAs := Lib.hid (srtJ_pw (l.take i))
      have HAl := Lib.hid (show (srtJ (l.take i)).length = i by rw [srtJ_len, List.length_take]; omega)
      generalize l[i] = x at *
      generalize srtJ (l.take i) = A at *
      obtain ⟨x0, x1, x2⟩ := x
      simp only at c0 c1 c2
      have ml : A.length ≤ 1000000 := by have := HAl.out; omega
      go_wp2_with (at_builtin; refine wpList_append_own_at _ rfl (.tmp 13) (.tmp 18) 25 rfl w.heap.size 42 i0 (.agg #[.int .i64 0, .int .i64 0, .int .i64 0]) 3 24 Tryz.underlying25 hi0 hz0 hz1 hz2 rfl (by decide) _ A.length (aC A) rfl (own_on HO.out (fuwA _ _)) ⟨wr.heap.size, 0, none⟩ 1 1 (aE (x0, x1, x2)) rfl rfl (World.news_of_block (heap_alloc_new wr _)) (one_adj _) (by unfold maxLen; omega) (by omega) (Nat.le_trans hf.out.size (by simp)) ?_; intro v' w5 hown5 hgrow _ _)
      have HG := Lib.hid (fuw_grown (hf.out.trans (fuwA _ _)) (own_on HO.out (fuwA _ _)) hgrow)
      obtain ⟨g, cap', hv, hgb, hgl⟩ := hown5.form (by omega)
      subst hv
      have HGb := Lib.hid hgb
      have hlm : (insK A (x0, x1, x2) i).length = i + 1 := by rw [insK_len _ (by have := HAl.out; omega), HAl.out]
      have HM := Lib.hid (show OwnJ w w5 (.slice (some ⟨g, 0, none⟩) (i + 1) cap') (insK A (x0, x1, x2) i) from by
        unfold OwnJ
        rw [hlm]
        have := insK_init A (x0, x1, x2)
        rw [HAl.out] at this
        rw [this, aC_app, ← HAl.out]; exact hown5)
      have hA1 : ((A.length : Int) + 1) = (i : Int) + 1 := by have := HAl.out; omega
      have hA2 : A.length + 1 = i + 1 := by have := HAl.out; omega
      rw [hA2]
      clear hown5 hgrow HO hf c0 c1 c2 hA1 hA2 hgb hgl hlm ml
      go_wp2
      go_loopw [5] (fun kv wr => ∃ k : Nat, kv = .int .i64 k ∧ k ≤ i ∧ Hid (∀ j (h : j < A.length), k ≤ j → adjL (x0, x1, x2) A[j] = true) ∧ Hid (OwnJ w wr (.slice (some ⟨g, 0, none⟩) (i + 1) cap') (insK A (x0, x1, x2) k)) ∧ Hid (Fuw w wr)) (fun kv _ => (RowKit.intOf kv).toNat)
      case atStart => exact ⟨i, rfl, Nat.le_refl _, Lib.hid (fun j h hj => absurd h (by have := HAl.out; omega)), HM, HG⟩
      case round =>
        obtain ⟨k, rfl, hk, HX, HO, hf⟩ := hrel
        by_cases hk0 : k = 0
        · have p0 : decide (0 < k) = false := decide_eq_false (by omega)
          have p1 : decide ((0 : Int) < (k : Int)) = false := decide_eq_false (by omega)
          have HR := Lib.hid (insK_end HAs.out (by have := HAl.out; omega) HX.out (.inl hk0))
          have HO2 := Lib.hid (show OwnJ w wr (.slice (some ⟨g, 0, none⟩) (i + 1) cap') (srtJ (l.take (i + 1))) by rw [HSn.out, ← HR.out]; exact HO.out)
          have FD := Lib.hid (hf.out.trans (fuw_dr wr 1))
          clear hk0
          go_upto_region 7 with fail
          go_quiet (fail)
          have HO3 := Lib.hid (own_on HO2.out (fuw_dr wr nq))
          have FD := Lib.hid (hf.out.trans (fuw_dr wr nq))
          clear p0 p1
          go_wp2
          go_roundw
          case rel => exact ⟨i + 1, by go_num, by omega, HO3, FD⟩
          case measure => simp [RowKit.intOf]; omega
        · obtain ⟨m, hm⟩ : ∃ m, k = m + 1 := ⟨k - 1, by omega⟩
          subst hm
          have hmA : m < A.length := by have := HAl.out; omega
          have hkA : m + 1 ≤ A.length := hmA
          have hlen : (insK A (x0, x1, x2) (m + 1)).length = i + 1 := by rw [insK_len _ hkA, HAl.out]
          have HO' := HO.out
          unfold OwnJ at HO'
          rw [hlen] at HO'
          obtain ⟨c0, c1, c2⟩ := own_cell3 HO' hlen.symm (insK_at (x0, x1, x2) hkA)
          have HPv := Lib.hid (show (insK A (x0, x1, x2) (m + 1))[m]? = some A[m] by rw [insK_lo _ hkA (Nat.lt_succ_self m), List.getElem?_eq_getElem hmA])
          obtain ⟨d0, d1, d2⟩ := own_cell3 HO' hlen.symm HPv.out
          have HOw := Lib.hid HO'
          have HC := Lib.hid (fun w' => less12_any (x0, x1, x2) A[m] w')
          have HE1 := Lib.hid (fun h : adjL (x0, x1, x2) A[m] = false => insK_end HAs.out hkA HX.out (.inr ⟨hmA, h⟩))
          have HE2 := Lib.hid (fun h : adjL (x0, x1, x2) A[m] = true => show ∀ j (h : j < A.length), m ≤ j → adjL (x0, x1, x2) A[j] = true from fun j hj hmj => by
            rcases Nat.lt_or_eq_of_le hmj with q | q
            · exact HX.out j hj q
            · subst q; exact h)
          have HE3 := Lib.hid (insK_swap (x0, x1, x2) hmA)
          unfold adv at HC
          generalize A[m] = y at *
          obtain ⟨y0, y1, y2⟩ := y
          simp only at c0 c1 c2 d0 d1 d2 HC
          have p1 : decide ((0 : Int) < (m : Int) + 1) = true := decide_eq_true (by omega)
          have z5 : IntKind.i64.wrap (m : Int) = m := IntWalk.i64_in _ (by omega)
          have z6 : IntKind.i64.wrap ((m : Int) + 1 - 1) = m := by rw [show (m : Int) + 1 - 1 = m by omega]; exact z5
          have e1 : (m : Int) + 1 - 1 = m := by omega
          have e2 : ((m : Int) + 1).toNat = m + 1 := by omega
          have z1 : (m : Int) + 1 < (i : Int) + 1 := by omega
          have z2 : (m : Int) < (i : Int) + 1 := by omega
          have z3 : (0 : Int) < (m : Int) + 1 := by omega
          have z4 : (0 : Int) ≤ (m : Int) + 1 := by omega
          obtain ⟨q, hq⟩ : ∃ q, adjL (x0, x1, x2) (y0, y1, y2) = q := ⟨_, rfl⟩
          rw [hq] at HC
          have HQ := Lib.hid hq
          clear hq hk0 HO'
          go_upto_region 7 with fail
          obtain ⟨S, hS⟩ : ∃ S : World → Prop, S = (fun w8 => w8.cell? ⟨g, (m + 1) * 3, none⟩ = some (.int .i64 x0) ∧ w8.cell? ⟨g, (m + 1) * 3 + 1, none⟩ = some (.int .i64 x1) ∧ w8.cell? ⟨g, (m + 1) * 3 + 2, none⟩ = some (.int .i64 x2) ∧ w8.cell? ⟨g, m * 3, none⟩ = some (.int .i64 y0) ∧ w8.cell? ⟨g, m * 3 + 1, none⟩ = some (.int .i64 y1) ∧ w8.cell? ⟨g, m * 3 + 2, none⟩ = some (.int .i64 y2)) := ⟨_, rfl⟩
          have HS4 := Lib.hid hS
          clear hS
          refine lst_start [12] S (by kernel_rfl) ?_
          have hS0 : S wr.drew := by rw [HS4.out]; exact ⟨c0, c1, c2, d0, d1, d2⟩
          refine takeP (i := 0) (d := some 21) (v := ?_) rfl rfl (by kernel_rfl) (by kernel_rfl) (by kernel_rfl) (by kernel_rfl) (by kernel_rfl) (fun _ _ _ h => h) (Or.inl ⟨by rfl, ?_⟩) (by first | exact Or.inr (by assumption) | exact Or.inl (by kernel_rfl)) ?_
          rotate_left
          · ((intro w8 _; go_simp); try with_reducible rfl)
          try simp only [Act.put]
          try simp only [List.setIfInBounds_toArray]
          try simp only [List.set_cons_succ]
          try simp only [List.set_cons_zero]
          refine takeP (i := 1) (d := some 22) (v := ?_) rfl rfl (by kernel_rfl) (by kernel_rfl) (by kernel_rfl) (by kernel_rfl) (by kernel_rfl) (fun _ _ _ h => h) (Or.inl ⟨by rfl, ?_⟩) (by first | exact Or.inr (by assumption) | exact Or.inl (by kernel_rfl)) ?_
          rotate_left
          · ((intro w8 _; go_simp); try with_reducible rfl)
          try simp only [Act.put]
          try simp only [List.setIfInBounds_toArray]
          try simp only [List.set_cons_succ]
          try simp only [List.set_cons_zero]
          refine takeP (i := 2) (d := some 23) (v := ?_) rfl rfl (by kernel_rfl) (by kernel_rfl) (by kernel_rfl) (by kernel_rfl) (by kernel_rfl) (fun _ _ _ h => h) (Or.inl ⟨by rfl, ?_⟩) (by first | exact Or.inr (by assumption) | exact Or.inl (by kernel_rfl)) ?_
          rotate_left
          · ((intro w8 _; go_simp); try with_reducible rfl)
          try simp only [Act.put]
          try simp only [List.setIfInBounds_toArray]
          try simp only [List.set_cons_succ]
          try simp only [List.set_cons_zero]
          refine takeP (i := 3) (d := some 24) (v := ?_) rfl rfl (by kernel_rfl) (by kernel_rfl) (by kernel_rfl) (by kernel_rfl) (by kernel_rfl) (fun _ _ _ h => h) (Or.inl ⟨by rfl, ?_⟩) (by first | exact Or.inr (by assumption) | exact Or.inl (by kernel_rfl)) ?_
          rotate_left
          · ((intro w8 _; go_simp); try with_reducible rfl)
          try simp only [Act.put]
          try simp only [List.setIfInBounds_toArray]
          try simp only [List.set_cons_succ]
          try simp only [List.set_cons_zero]
          refine takeP (i := 4) (d := some 25) (v := ?_) rfl rfl (by kernel_rfl) (by kernel_rfl) (by kernel_rfl) (by kernel_rfl) (by kernel_rfl) (fun _ _ _ h => h) (Or.inl ⟨by rfl, ?_⟩) (by first | exact Or.inr (by assumption) | exact Or.inl (by kernel_rfl)) ?_
          rotate_left
          · ((intro w8 _; go_simp); try with_reducible rfl)
          try simp only [Act.put]
          try simp only [List.setIfInBounds_toArray]
          try simp only [List.set_cons_succ]
          try simp only [List.set_cons_zero]
          refine takeP (i := 5) (d := some 26) (v := ?_) rfl rfl (by kernel_rfl) (by kernel_rfl) (by kernel_rfl) (by kernel_rfl) (by kernel_rfl) (fun _ _ _ h => h) (Or.inl ⟨by rfl, ?_⟩) (by first | exact Or.inr (by assumption) | exact Or.inl (by kernel_rfl)) ?_
          rotate_left
          · ((intro w8 _; go_simp); try with_reducible rfl)
          try simp only [Act.put]
          try simp only [List.setIfInBounds_toArray]
          try simp only [List.set_cons_succ]
          try simp only [List.set_cons_zero]
          refine takeL (i := 6) (d := some 27) (v := ?_) rfl rfl (by kernel_rfl) (by kernel_rfl) (by kernel_rfl) (by kernel_rfl) (by kernel_rfl) (fun _ _ _ h => h) (Or.inl ⟨by rfl, ?_⟩) (by assumption) ?_
          rotate_left
          · ((intro w8 hSw; rw [HS4.out] at hSw; obtain ⟨h1, h2, h3, h4, h5, h6⟩ := hSw; go_simp); try with_reducible rfl)
          try simp only [Act.put]
          try simp only [List.setIfInBounds_toArray]
          try simp only [List.set_cons_succ]
          try simp only [List.set_cons_zero]
          refine takeP (i := 7) (d := some 28) (v := ?_) rfl rfl (by kernel_rfl) (by kernel_rfl) (by kernel_rfl) (by kernel_rfl) (by kernel_rfl) (fun _ _ _ h => h) (Or.inl ⟨by rfl, ?_⟩) (by first | exact Or.inr (by assumption) | exact Or.inl (by kernel_rfl)) ?_
          rotate_left
          · ((intro w8 _; go_simp); try with_reducible rfl)
          try simp only [Act.put]
          try simp only [List.setIfInBounds_toArray]
          try simp only [List.set_cons_succ]
          try simp only [List.set_cons_zero]
          refine takeP (i := 8) (d := some 29) (v := ?_) rfl rfl (by kernel_rfl) (by kernel_rfl) (by kernel_rfl) (by kernel_rfl) (by kernel_rfl) (fun _ _ _ h => h) (Or.inl ⟨by rfl, ?_⟩) (by first | exact Or.inr (by assumption) | exact Or.inl (by kernel_rfl)) ?_
          rotate_left
          · ((intro w8 _; go_simp); try with_reducible rfl)
          try simp only [Act.put]
          try simp only [List.setIfInBounds_toArray]
          try simp only [List.set_cons_succ]
          try simp only [List.set_cons_zero]
          refine takeP (i := 9) (d := some 30) (v := ?_) rfl rfl (by kernel_rfl) (by kernel_rfl) (by kernel_rfl) (by kernel_rfl) (by kernel_rfl) (fun _ _ _ h => h) (Or.inl ⟨by rfl, ?_⟩) (by first | exact Or.inr (by assumption) | exact Or.inl (by kernel_rfl)) ?_
          rotate_left
          · ((intro w8 _; go_simp); try with_reducible rfl)
          try simp only [Act.put]
          try simp only [List.setIfInBounds_toArray]
          try simp only [List.set_cons_succ]
          try simp only [List.set_cons_zero]
          refine takeP (i := 10) (d := some 31) (v := ?_) rfl rfl (by kernel_rfl) (by kernel_rfl) (by kernel_rfl) (by kernel_rfl) (by kernel_rfl) (fun _ _ _ h => h) (Or.inl ⟨by rfl, ?_⟩) (by first | exact Or.inr (by assumption) | exact Or.inl (by kernel_rfl)) ?_
          rotate_left
          · ((intro w8 _; go_simp); try with_reducible rfl)
          try simp only [Act.put]
          try simp only [List.setIfInBounds_toArray]
          try simp only [List.set_cons_succ]
          try simp only [List.set_cons_zero]
          refine takeL (i := 11) (d := some 32) (v := ?_) rfl rfl (by kernel_rfl) (by kernel_rfl) (by kernel_rfl) (by kernel_rfl) (by kernel_rfl) (fun _ _ _ h => h) (Or.inl ⟨by rfl, ?_⟩) (by assumption) ?_
          rotate_left
          · ((intro w8 hSw; rw [HS4.out] at hSw; obtain ⟨h1, h2, h3, h4, h5, h6⟩ := hSw; go_simp); try with_reducible rfl)
          try simp only [Act.put]
          try simp only [List.setIfInBounds_toArray]
          try simp only [List.set_cons_succ]
          try simp only [List.set_cons_zero]
          refine outL (i := 12) rfl (by kernel_rfl) (by kernel_rfl) (fun K8 hK8 => ?_)
          go_simp
          go_at_call 76; refine (HC.out _).mono ?_; rintro e9 w9 ⟨rfl, f9⟩
          have F9 := Lib.hid ((fuw_dr wr 1).trans f9)
          refine hK8 _ _ ?_
          try simp only [Act.put]
          try simp only [List.setIfInBounds_toArray]
          try simp only [List.set_cons_succ]
          try simp only [List.set_cons_zero]
          refine takeP (i := 13) (d := some 34) (v := ?_) rfl rfl (by kernel_rfl) (by kernel_rfl) (by kernel_rfl) (by kernel_rfl) (by kernel_rfl) (fun _ _ _ h => h) (Or.inl ⟨by rfl, ?_⟩) (by first | exact Or.inr (by assumption) | exact Or.inl (by kernel_rfl)) ?_
          rotate_left
          · ((intro w8 _; go_simp); try with_reducible rfl)
          try simp only [Act.put]
          try simp only [List.setIfInBounds_toArray]
          try simp only [List.set_cons_succ]
          try simp only [List.set_cons_zero]
          refine lst_done (by kernel_rfl) ?_ _
          have HOx := Lib.hid (own_on HOw.out F9.out)
          have FX := Lib.hid (hf.out.trans F9.out)
          clear c0 c1 c2 d0 d1 d2
          cases q with
          | false =>
            have HR := Lib.hid (HE1.out HQ.out)
            have HO2 := Lib.hid (show OwnJ w w9 (.slice (some ⟨g, 0, none⟩) (i + 1) cap') (srtJ (l.take (i + 1))) from by
              rw [HSn.out, ← HR.out]
              unfold OwnJ
              rw [hlen]; exact HOx.out)
            go_wp2
            go_roundw
            case rel => exact ⟨i + 1, by go_num, by omega, HO2, FX⟩
            case measure => simp [RowKit.intOf]; omega
          | true =>
            have HX2 := Lib.hid (HE2.out HQ.out)
            have ho1 := HOx.out
            obtain ⟨c0, c1, c2⟩ := own_cell3 ho1 hlen.symm (insK_at (x0, x1, x2) hkA)
            simp only at c0 c1 c2
            go_upto_region 10 with fail
            obtain ⟨W, hW⟩ : ∃ W, w9.alloc (.cells #[.int .i64 x0, .int .i64 x1, .int .i64 x2] 42) = W := ⟨_, rfl⟩
            have FW := Lib.hid (show Fuw w9 W by rw [← hW]; exact fuwA _ _)
            obtain ⟨C, hC⟩ : ∃ C, C = w9.heap.size := ⟨_, rfl⟩
            have BX := Lib.hid (show Bk W C #[.int .i64 x0, .int .i64 x1, .int .i64 x2] 42 by rw [hC, ← hW]; exact Bk.new _ _ _)
            have HCg := Lib.hid (show C ≠ g by have := (ho1.lt g rfl).2; omega)
            rw [hW]
            rw [← hC]
            clear hW hC c0 c1 c2
            have hoW := own_on ho1 FW.out
            have HOW := Lib.hid hoW
            obtain ⟨c0, c1, c2⟩ := own_cell3 hoW hlen.symm (insK_at (x0, x1, x2) hkA)
            obtain ⟨d0, d1, d2⟩ := own_cell3 hoW hlen.symm HPv.out
            simp only at c0 c1 c2 d0 d1 d2
            have r0 := hoW.frozenAt ((m + 1) * 3)
            have r1 := hoW.frozenAt ((m + 1) * 3 + 1)
            have r2 := hoW.frozenAt ((m + 1) * 3 + 2)
            go_upto_region 11 with fail
            obtain ⟨X1, hX1⟩ : ∃ X1, ((W.setCell ⟨g, (m + 1) * 3, none⟩ (.int .i64 y0)).setCell ⟨g, (m + 1) * 3 + 1, none⟩ (.int .i64 y1)).setCell ⟨g, (m + 1) * 3 + 2, none⟩ (.int .i64 y2) = X1 := ⟨_, rfl⟩
            rw [hX1]
            have hM : W.ownsRow w.heap.size 42 3 (.slice (some ⟨g, 0, none⟩) (insK A (x0, x1, x2) (m + 1)).length cap') (insK A (x0, x1, x2) (m + 1)).length (aC (insK A (x0, x1, x2) (m + 1))) := by rw [hlen]; exact HOW.out
            have hoX := own_set3 hM (m + 1) (y0, y1, y2)
            rw [hX1] at hoX
            have FX1 := Lib.hid (show Fuw w X1 by rw [← hX1]; exact fuwS (fuwS (fuwS (FX.out.trans FW.out) HGb.out) HGb.out) HGb.out)
            have BX1 := Lib.hid (show Bk X1 C #[.int .i64 x0, .int .i64 x1, .int .i64 x2] 42 by rw [← hX1]; exact ((BX.out.far HCg.out _).far HCg.out _).far HCg.out _)
            have HM1 := Lib.hid (show ((insK A (x0, x1, x2) (m + 1)).set (m + 1) (y0, y1, y2))[m]? = some (y0, y1, y2) by rw [List.getElem?_set_ne (by omega)]; exact HPv.out)
            have hl1 : ((insK A (x0, x1, x2) (m + 1)).set (m + 1) (y0, y1, y2)).length = i + 1 := by rw [List.length_set]; exact hlen
            rw [hl1] at hoX
            clear hX1 hM c0 c1 c2 d0 d1 d2 r0 r1 r2
            obtain ⟨d0, d1, d2⟩ := own_cell3 hoX hl1.symm HM1.out
            simp only at d0 d1 d2
            have r0 := hoX.frozenAt (m * 3)
            have r1 := hoX.frozenAt (m * 3 + 1)
            have r2 := hoX.frozenAt (m * 3 + 2)
            have c0 := BX1.out.c 0; have c1 := BX1.out.c 1; have c2 := BX1.out.c 2
            simp only [List.getElem?_toArray, List.getElem?_cons_zero, List.getElem?_cons_succ] at c0 c1 c2
            have HOX := Lib.hid hoX
            clear hoX hoW ho1
            go_upto_region 8 with fail
            obtain ⟨X2, hX2⟩ : ∃ X2, ((X1.setCell ⟨g, m * 3, none⟩ (.int .i64 x0)).setCell ⟨g, m * 3 + 1, none⟩ (.int .i64 x1)).setCell ⟨g, m * 3 + 2, none⟩ (.int .i64 x2) = X2 := ⟨_, rfl⟩
            rw [hX2]
            have hM : X1.ownsRow w.heap.size 42 3 (.slice (some ⟨g, 0, none⟩) ((insK A (x0, x1, x2) (m + 1)).set (m + 1) (y0, y1, y2)).length cap') ((insK A (x0, x1, x2) (m + 1)).set (m + 1) (y0, y1, y2)).length (aC ((insK A (x0, x1, x2) (m + 1)).set (m + 1) (y0, y1, y2))) := by rw [hl1]; exact HOX.out
            have hoX := own_set3 hM m (x0, x1, x2)
            rw [hX2, HE3.out] at hoX
            have FX2 := Lib.hid (show Fuw w X2 by rw [← hX2]; exact fuwS (fuwS (fuwS FX1.out HGb.out) HGb.out) HGb.out)
            have HO2 := Lib.hid (show OwnJ w X2 (.slice (some ⟨g, 0, none⟩) (i + 1) cap') (insK A (x0, x1, x2) m) from by
              have e : (insK A (x0, x1, x2) m).length = i + 1 := by rw [insK_len _ (by omega), HAl.out]
              unfold OwnJ
              rw [e]
              rw [e] at hoX
              exact hoX)
            clear hX2 hM hoX c0 c1 c2 d0 d1 d2 r0 r1 r2
            go_wp2
            go_roundw
            case rel => exact ⟨m, by go_num, by omega, HX2, HO2, FX2⟩
            case measure => simp [RowKit.intOf]
    · have hge : ¬ (i : Int) < (l.length : Int) := by omega
      have HL := Lib.hid (show srtJ (l.take i) = srtJ l by rw [List.take_of_length_le (by omega)])
      go_wp2
      go_ret
      exact ⟨_, rfl, by rw [← HL.out]; exact own_on HO.out (Fuw.refl _), hf.out⟩
end Go.Proofs.YtpjikijfendmhaaGreat
