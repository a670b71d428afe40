/-
  RwA; RwM; RwB: texts of one kind in one file; each part says what it holds.
-/
import Derived.Test.YteonkiajgfkieaaGreatDoorLvH
import Derived.Test.YteonkiajgfkieaaGreatDoorM38
import Derived.Test.YteonkiajgfkieaaGreatDoorValM

/-! Rows of values compared: slices.CompareFunc at rows, OrderRows of the landed package and of the reference. Nothing that was there turns. -/
namespace Go.Proofs.YteonkiajgfkieaaGreatDoor
open Go.RowKit

set_option maxHeartbeats 3200000 in
set_option maxRecDepth 100000 in
theorem lcf_row (l l' : List Vl) (hO : ∀ x, x ∈ l → ∀ y, y ∈ l' → CmpAt 22 x y) (ao bo : Option Addr) (ca cb : Nat) (w : World) (hs : SlV w ao l ca) (hs' : SlV w bo l' cb) :
    Calls Tryz.prog 28 #[.slice ao l.length ca, .slice bo l'.length cb, .func (.func 22) #[] #[]] w (RetI w (ordL l l')) := by
  have HO := Lib.hid hO
  have HS := Lib.hid hs
  have HS' := Lib.hid hs'
  have h1 := hs.le
  have h2 := hs.max
  have h3 := hs'.le
  have h4 := hs'.max
  unfold maxLen at h2 h4
  clear hs hs' hO
  go_enter Tryz.func28, Tryz.ntmps28
  go_wp2
  go_loopw [13] (fun iv wr => ∃ i : Nat, iv = .int .i64 i ∧ i ≤ l.length ∧ i ≤ l'.length ∧ Hid (ordL l l' = ordL (l.drop i) (l'.drop i)) ∧ Fur w wr) (fun iv _ => l.length - (RowKit.intOf iv).toNat)
  case atStart => exact ⟨0, rfl, Nat.zero_le _, Nat.zero_le _, rfl, Fur.refl _⟩
  case round =>
    obtain ⟨i, rfl, hi, hi', HN, hf⟩ := hrel
    by_cases hlt : i < l.length
    · obtain ⟨b, o, rfl, hv⟩ := (HS.out.on hf).get hlt
      by_cases hlt' : i < l'.length
      · obtain ⟨b', o', rfl, hv'⟩ := (HS'.out.on hf).get hlt'
        have hA := ordL_drop l l' i hlt hlt'
        have hm := HO.out l[i] (List.getElem_mem hlt) l'[i] (List.getElem_mem hlt')
        obtain ⟨hy, c0, c1, c2, c3, a1, k1, c4, hs2⟩ := VC_of hv
        obtain ⟨hy', d0, d1, d2, d3, a2, k2, d4, hs2'⟩ := VC_of hv'
        obtain ⟨p0, p1, f0⟩ := bx2' wr l[i] l'[i] a1 a2 k1 k2
        have fx := (bx1 wr l[i] a1 k1).2
        replace d0 := cellOn fx d0; replace d1 := cellOn fx d1; replace d2 := cellOn fx d2; replace d3 := cellOn fx d3; replace d4 := cellOn fx d4
        clear fx
        have HC := Lib.hid (fun w' (hf' : Fur wr w') => hm a1 a2 k1 k2 w' hy hy' (hs2.on hf') (hs2'.on hf'))
        have HE := Lib.hid (HN.out.trans hA)
        unfold vlv at HC
        clear hv hv' hs2 hs2' hy hy' hA hm HN
        generalize l[i] = x at *
        generalize l'[i] = y at *
        generalize ordV x y = r at *
        have m0 := p0.c0; have m1 := p0.c1; have m2 := p0.c2; have m3 := p0.c3; have m4 := p0.c4
        go_wp2_with fail
        go_at_call 22; refine (HC.out _ f0).mono ?_; rintro e1 w1 ⟨rfl, f1⟩
        have ff : Fur wr w1 := f0.trans f1
        by_cases hr : r = 0
        · subst hr
          go_wp2
          go_roundw
          case rel => exact ⟨i + 1, by go_num, by omega, by omega, HE.out, hf.trans ff⟩
          case measure => simp [RowKit.intOf]; omega
        · have hr' : (r != 0) = true := by rw [bne_iff_ne]; exact hr
          have HF := Lib.hid (HE.out.trans (thn_n hr _))
          clear hr
          go_wp2
          go_ret
          exact ⟨ret_int HF.out.symm, hf.trans ff⟩
      · have HE := Lib.hid (HN.out.trans (ordL_more l l' i hlt (by omega)))
        obtain ⟨hy, c0, c1, c2, c3, a1, k1, c4, hs2⟩ := VC_of hv
        obtain ⟨p0, f0⟩ := bx1 wr l[i] a1 k1
        have g : (l'.length : Int) ≤ i := by omega
        clear hv hs2 hy
        generalize l[i] = x at *
        go_wp2
        go_ret
        exact ⟨ret_int HE.out.symm, hf.trans f0⟩
    · by_cases hlt' : i < l'.length
      · have HE := Lib.hid (HN.out.trans (ordL_less l l' i (by omega) hlt'))
        have g : (l.length : Int) < l'.length := by omega
        go_wp2
        go_ret
        exact ⟨ret_int HE.out.symm, hf⟩
      · have HE := Lib.hid (HN.out.trans (ordL_fin l l' i (by omega) (by omega)))
        have g : ¬ (l.length : Int) < l'.length := by omega
        go_wp2
        go_ret
        exact ⟨ret_int HE.out.symm, hf⟩


/-- The landed OrderRows. -/
theorem lrows_any (l l' : List Vl) (ao bo : Option Addr) (ca cb : Nat) (w : World) (hs : SlV w ao l ca) (hs' : SlV w bo l' cb) :
    Calls Tryz.prog 7 #[.slice ao l.length ca, .slice bo l'.length cb] w (RetI w (ordL l l')) := by
  have HC := Lib.hid (lcf_row l l' (fun x _ y _ => lo_all x y) ao bo ca cb w hs hs')
  clear hs hs'
  go_enter Tryz.func7, Tryz.ntmps7
  go_wp2_with fail
  go_at_call 28; refine HC.out.mono ?_; rintro e1 w1 ⟨rfl, f1⟩
  go_wp2
  go_ret
  exact ⟨rfl, f1⟩
/-- The reference's OrderRows. -/
theorem rrows_any (l l' : List Vl) (ao bo : Option Addr) (ca cb : Nat) (w : World) (hs : SlV w ao l ca) (hs' : SlV w bo l' cb) :
    Calls Tryz.prog 8 #[.slice ao l.length ca, .slice bo l'.length cb] w (RwI w (ordL l l')) := by
  have HC := Lib.hid (rlists_any l l' (fun x _ => rorder_all x) ao bo ca cb w hs hs')
  clear hs hs'
  go_enter Tryz.func8, Tryz.ntmps8
  go_wp2_with fail
  go_at_call 29; refine HC.out.mono ?_; rintro e1 w1 ⟨rfl, f1⟩
  go_wp2
  go_ret
  exact ⟨rfl, f1⟩
end Go.Proofs.YteonkiajgfkieaaGreatDoor

/-! Mathematics of rows of values (P4.6): the list sorted by insertion (sortR), sorted lists (SrtR) that hold the same rows are equal, the order of lists of rows (ordRR). Nothing of the program is named here. -/
namespace Go.Proofs.YteonkiajgfkieaaGreatDoor

/-- x set into a list behind all that is not above it. -/
def insR (x : List Vl) : List (List Vl) → List (List Vl)
  | [] => [x]
  | y :: t => if 0 < ordL y x then x :: y :: t else y :: insR x t
def sortR (l : List (List Vl)) : List (List Vl) := l.foldl (fun s x => insR x s) []
def SrtR : List (List Vl) → Prop := List.Pairwise (fun a b => ordL a b ≤ 0)

theorem ordL_flip {a b : List Vl} (h : 0 < ordL a b) : ordL b a ≤ 0 := by rw [ordL_swap]; omega
theorem ordL_tot (a b : List Vl) : ordL a b ≤ 0 ∨ ordL b a ≤ 0 := by rw [ordL_swap b a]; omega
theorem ordL_anti {a b : List Vl} (h : ordL a b ≤ 0) (k : ordL b a ≤ 0) : a = b := by
  apply ordL_eq
  rw [ordL_swap a b] at k
  omega

theorem insR_perm (x : List Vl) : ∀ l, (insR x l).Perm (x :: l)
  | [] => List.Perm.refl _
  | y :: t => by
    unfold insR
    split
    · exact List.Perm.refl _
    · exact ((insR_perm x t).cons y).trans (List.Perm.swap x y t)
theorem insR_srt (x : List Vl) : ∀ l, SrtR l → SrtR (insR x l)
  | [], _ => by simp [insR, SrtR]
  | y :: t, h => by
    have h' : (∀ b ∈ t, ordL y b ≤ 0) ∧ SrtR t := List.pairwise_cons.1 h
    unfold insR
    split
    · rename_i hx
      refine List.pairwise_cons.2 ⟨fun b hb => ?_, h⟩
      rcases List.mem_cons.1 hb with rfl | hb
      · exact ordL_flip hx
      · exact ordL_trans (ordL_flip hx) (h'.1 b hb)
    · rename_i hx
      refine List.pairwise_cons.2 ⟨fun b hb => ?_, insR_srt x t h'.2⟩
      rcases List.mem_cons.1 ((insR_perm x t).mem_iff.1 hb) with rfl | hb
      · omega
      · exact h'.1 b hb
theorem insR_length (x : List Vl) (l : List (List Vl)) : (insR x l).length = l.length + 1 := by simpa using (insR_perm x l).length_eq

/-- Where the reference's inner loop stops. -/
theorem insR_at (x : List Vl) : ∀ (l : List (List Vl)) (k : Nat), k ≤ l.length → (∀ j (h : j < l.length), j < k → ordL l[j] x ≤ 0) → (∀ h : k < l.length, 0 < ordL l[k] x) → insR x l = l.take k ++ x :: l.drop k
  | [], k, hk, _, _ => by
    obtain rfl : k = 0 := by simpa using hk
    rfl
  | y :: t, 0, _, _, ha => by
    have := ha (by simp)
    unfold insR
    rw [if_pos (by simpa using this)]
    rfl
  | y :: t, k + 1, hk, hb, ha => by
    have h0 := hb 0 (by simp) (by omega)
    unfold insR
    rw [if_neg (by simp at h0; omega)]
    rw [insR_at x t k (by simpa using hk) (fun j h hj => hb (j + 1) (by simpa using h) (by omega)) (fun h => ha (by simpa using h))]
    simp

theorem foldR_perm : ∀ (l s : List (List Vl)), (l.foldl (fun s x => insR x s) s).Perm (l ++ s)
  | [], s => List.Perm.refl _
  | x :: l, s => by
    refine (foldR_perm l (insR x s)).trans ?_
    exact ((insR_perm x s).append_left l).trans (List.perm_middle)
theorem foldR_srt : ∀ (l s : List (List Vl)), SrtR s → SrtR (l.foldl (fun s x => insR x s) s)
  | [], _, h => h
  | x :: l, s, h => foldR_srt l (insR x s) (insR_srt x s h)
theorem sortR_perm (l : List (List Vl)) : (sortR l).Perm l := by
  have h := foldR_perm l []
  rw [List.append_nil] at h
  exact h
theorem sortR_srt (l : List (List Vl)) : SrtR (sortR l) := foldR_srt l [] List.Pairwise.nil
theorem sortR_length (l : List (List Vl)) : (sortR l).length = l.length := (sortR_perm l).length_eq
/-- One round of the reference's outer loop. -/
theorem sortR_take (l : List (List Vl)) (i : Nat) (h : i < l.length) : sortR (l.take (i + 1)) = insR l[i] (sortR (l.take i)) := by
  unfold sortR
  rw [List.take_succ_eq_append_getElem h, List.foldl_append]
  rfl

/-- Sorted lists that hold the same rows are equal. -/
theorem srt_perm : ∀ {l m : List (List Vl)}, SrtR l → SrtR m → l.Perm m → l = m
  | [], m, _, _, h => (List.nil_perm.1 h).symm
  | a :: l, [], _, _, h => by cases (List.perm_nil.1 h)
  | a :: l, b :: m, hl, hm, h => by
    have hl' : (∀ c ∈ l, ordL a c ≤ 0) ∧ SrtR l := List.pairwise_cons.1 hl
    have hm' : (∀ c ∈ m, ordL b c ≤ 0) ∧ SrtR m := List.pairwise_cons.1 hm
    have hab : a = b := by
      have ha : a ∈ b :: m := h.mem_iff.1 (List.mem_cons_self ..)
      have hb : b ∈ a :: l := h.mem_iff.2 (List.mem_cons_self ..)
      rcases List.mem_cons.1 ha with e | ha
      · exact e
      · rcases List.mem_cons.1 hb with e | hb
        · exact e.symm
        · exact ordL_anti (hl'.1 b hb) (hm'.1 a ha)
    subst hab
    rw [srt_perm hl'.2 hm'.2 ((List.perm_cons a).1 h)]
/-- Whatever sorts, it gives sortR. -/
theorem sortR_is {l s : List (List Vl)} (hs : SrtR s) (hp : s.Perm l) : s = sortR l := srt_perm hs (sortR_srt l) (hp.trans (sortR_perm l).symm)
theorem sortR_of_perm {l m : List (List Vl)} (h : l.Perm m) : sortR l = sortR m := srt_perm (sortR_srt l) (sortR_srt m) ((sortR_perm l).trans (h.trans (sortR_perm m).symm))
theorem sortR_twice (l : List (List Vl)) : sortR (sortR l) = sortR l := sortR_of_perm (sortR_perm l)
theorem srt_next {l : List (List Vl)} (h : SrtR l) (i : Nat) (hi : i + 1 < l.length) : ordL (l[i]'(by omega)) l[i + 1] ≤ 0 := List.pairwise_iff_getElem.1 h i (i + 1) (by omega) hi (by omega)

/-- The order of two lists of rows. -/
def ordRR : List (List Vl) → List (List Vl) → Int
  | [], [] => 0
  | [], _ :: _ => -1
  | _ :: _, [] => 1
  | a :: l, b :: m => thn (ordL a b) (ordRR l m)
theorem ordRR_z : ∀ {l m : List (List Vl)}, ordRR l m = 0 ↔ l = m
  | [], [] => by simp [ordRR]
  | [], _ :: _ => by simp [ordRR]
  | _ :: _, [] => by simp [ordRR]
  | a :: l, b :: m => by
    unfold ordRR
    rw [thn_z, ordRR_z]
    constructor
    · rintro ⟨h, rfl⟩
      rw [ordL_eq h]
    · intro h
      obtain ⟨rfl, rfl⟩ := List.cons.inj h
      exact ⟨ordL_self a, rfl⟩
theorem ordRR_drop (l m : List (List Vl)) (i : Nat) (h : i < l.length) (h' : i < m.length) : ordRR (l.drop i) (m.drop i) = thn (ordL l[i] m[i]) (ordRR (l.drop (i + 1)) (m.drop (i + 1))) := by
  rw [List.drop_eq_getElem_cons h, List.drop_eq_getElem_cons h']
  rfl
/-- What the statement's SameBag answers. -/
def bagR (l m : List (List Vl)) : Bool := decide (ordRR (sortR l) (sortR m) = 0)
theorem bagR_sort (l : List (List Vl)) : bagR (sortR l) l = true := decide_eq_true (ordRR_z.2 (sortR_twice l))
theorem bagR_is (l m : List (List Vl)) : bagR l m = true ↔ sortR l = sortR m := by unfold bagR; rw [decide_eq_true_iff, ordRR_z]
end Go.Proofs.YteonkiajgfkieaaGreatDoor

/-! Lists of rows in memory; the reference's SameRows and the landed comparison of two lists of rows. Nothing that was there turns. -/
namespace Go.Proofs.YteonkiajgfkieaaGreatDoor
open Go.RowKit

/-- A row at a place: its header and its values. -/
def RAt (w : World) (b o : Nat) (l : List Vl) : Prop := ∃ a c, w.cell? ⟨b, o, none⟩ = some (.slice a l.length c) ∧ SlV w a l c
/-- A slice that holds the rows L. -/
structure SlR (w : World) (ao : Option Addr) (L : List (List Vl)) (cap : Nat) : Prop where
  le : L.length ≤ cap
  max : cap ≤ maxLen
  nil : ao = none → cap = 0
  at_ : 0 < L.length → ∃ b o, ao = some ⟨b, o, none⟩ ∧ b < w.heap.size ∧ ∀ j (h : j < L.length), RAt w b (o + j) L[j]
theorem SlR.onw {w w' : World} {ao : Option Addr} {L : List (List Vl)} {cap : Nat} (h : SlR w ao L cap) (hf : Fuw w w') : SlR w' ao L cap :=
  ⟨h.le, h.max, h.nil, fun hp => by
    obtain ⟨b, o, e, hb, hc⟩ := h.at_ hp
    refine ⟨b, o, e, Nat.lt_of_lt_of_le hb hf.size, fun j hj => ?_⟩
    obtain ⟨a, c, h1, h2⟩ := hc j hj
    exact ⟨a, c, (Below.cell hf (p := ⟨b, o + j, none⟩) hb).trans h1, h2.onw hf⟩⟩
theorem SlR.on {w w' : World} {ao : Option Addr} {L : List (List Vl)} {cap : Nat} (h : SlR w ao L cap) (hf : Fur w w') : SlR w' ao L cap := h.onw hf.b
theorem SlR.get {w : World} {ao : Option Addr} {L : List (List Vl)} {cap : Nat} (h : SlR w ao L cap) {i : Nat} (hi : i < L.length) : ∃ b o a c, ao = some ⟨b, o, none⟩ ∧ w.cell? ⟨b, o + i, none⟩ = some (.slice a L[i].length c) ∧ SlV w a L[i] c := by
  obtain ⟨b, o, e, hb, hc⟩ := h.at_ (by omega)
  obtain ⟨a, c, h1, h2⟩ := hc i hi
  exact ⟨b, o, a, c, e, h1, h2⟩
theorem SlR.empty (w : World) : SlR w none [] 0 := ⟨Nat.le_refl _, Nat.zero_le _, fun _ => rfl, fun h => absurd h (by decide)⟩
theorem ordRR_len : ∀ {l m : List (List Vl)}, l.length ≠ m.length → ordRR l m ≠ 0 := fun h e => h (congrArg List.length (ordRR_z.1 e))
theorem ordRR_fin (l m : List (List Vl)) (i : Nat) (h : l.length ≤ i) (h' : m.length ≤ i) : ordRR (l.drop i) (m.drop i) = 0 := by
  rw [List.drop_of_length_le h', List.drop_of_length_le h]
  rfl

set_option maxHeartbeats 3200000 in
set_option maxRecDepth 100000 in
/-- The reference's SameRows. -/
theorem rsamer_any (L L' : List (List Vl)) (ao bo : Option Addr) (ca cb : Nat) (w : World) (hs : SlR w ao L ca) (hs' : SlR w bo L' cb) :
    Calls Tryz.prog 9 #[.slice ao L.length ca, .slice bo L'.length cb] w (RwB w (decide (ordRR L L' = 0))) := by
  have HS := Lib.hid hs
  have HS' := Lib.hid hs'
  have h1 := hs.le
  have h2 := hs.max
  have h3 := hs'.le
  have h4 := hs'.max
  unfold maxLen at h2 h4
  clear hs hs'
  by_cases hl : L.length = L'.length
  · have hlI : ((L.length : Int) != L'.length) = false := by rw [bne_eq_false_iff_eq]; omega
    have HL := Lib.hid hl
    clear hl
    go_enter Tryz.func9, Tryz.ntmps9
    go_wp2_with fail
    clear hlI
    go_loopw [5] (fun iv wr => ∃ i : Nat, iv = .int .i64 i ∧ i ≤ L.length ∧ Hid (ordRR L L' = ordRR (L.drop i) (L'.drop i)) ∧ Fuw w wr) (fun iv _ => L.length - (RowKit.intOf iv).toNat)
    case atStart => exact ⟨0, rfl, Nat.zero_le _, rfl, Fuw.refl _⟩
    case round =>
      obtain ⟨i, rfl, hi, HN, hf⟩ := hrel
      by_cases hlt : i < L.length
      · have hlt' : i < L'.length := by have := HL.out; omega
        obtain ⟨b, o, a1, k1, rfl, c0, s0⟩ := (HS.out.onw hf).get hlt
        obtain ⟨b', o', a2, k2, rfl, d0, s1⟩ := (HS'.out.onw hf).get hlt'
        have HE := Lib.hid (HN.out.trans (ordRR_drop L L' i hlt hlt'))
        have HC := Lib.hid (fun w' (hf' : Fuw wr w') => rrows_any L[i] L'[i] a1 a2 k1 k2 w' (s0.onw hf') (s1.onw hf'))
        clear HN s0 s1
        generalize L[i] = x at *
        generalize L'[i] = y at *
        generalize ordL x y = r at *
        go_wp2_with fail
        go_region_held3 (fun w' => Fuw wr w' ∧ w'.cell? ⟨b, o + i, none⟩ = some (.slice a1 x.length k1) ∧ w'.cell? ⟨b', o' + i, none⟩ = some (.slice a2 y.length k2))
          (first
            | (refine ⟨Fuw.drew (Fuw.refl _), ?_, ?_⟩ <;> simp [*]; done)
            | (refine ⟨(Fuw.drew (Fuw.refl wr)).trans (by assumption), cellOnw ((Fuw.drew (Fuw.refl wr)).trans (by assumption)) (by assumption), cellOnw ((Fuw.drew (Fuw.refl wr)).trans (by assumption)) (by assumption)⟩)
            | go_keep
            | (refine ⟨Fuw.trans ?_ (by assumption), cellOnw (by assumption) ?_, cellOnw (by assumption) ?_⟩ <;> assumption))
          (first
            | (go_at_call 8; refine (HC.out _ (Fuw.drew (Fuw.refl _))).mono ?_; rintro e1 w1 ⟨rfl, f1⟩))
        have ff : Fuw wr w1 := (Fuw.drew (Fuw.refl wr)).trans f1
        by_cases hr : r = 0
        · subst hr
          go_wp2
          go_roundw
          case rel => exact ⟨i + 1, by go_num, by omega, HE.out, hf.trans ff⟩
          case measure => simp [RowKit.intOf]; omega
        · have hr' : (r != 0) = true := by rw [bne_iff_ne]; exact hr
          have HF := Lib.hid (HE.out.trans (thn_n hr _))
          have HG := Lib.hid hr
          clear hr
          go_wp2
          go_ret
          exact ⟨ret_bool (decide_eq_false (by rw [HF.out]; exact HG.out)).symm, hf.trans ff⟩
      · have HE := Lib.hid (HN.out.trans (ordRR_fin L L' i (by omega) (by have := HL.out; omega)))
        go_wp2
        go_ret
        exact ⟨ret_bool (decide_eq_true HE.out).symm, hf⟩
  · have hlI : ((L.length : Int) != L'.length) = true := by rw [bne_iff_ne]; omega
    have HE := Lib.hid (ordRR_len hl)
    clear hl
    go_enter Tryz.func9, Tryz.ntmps9
    go_wp2_with fail
    go_ret
    exact ⟨ret_bool (decide_eq_false HE.out).symm, Fuw.refl _⟩
end Go.Proofs.YteonkiajgfkieaaGreatDoor
