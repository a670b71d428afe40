/-
  GsF; GsG; GsH: texts of one kind in one file; each part says what it holds.
-/
import Derived.Test.YtcadeijloobbmaaGreatGrK
import Derived.Test.YtcadeijloobbmaaGreatNd
import Derived.Test.YtcadeijloobbmaaGreatGrX

/-! Strings in order, each once: what sorting and dropping repeated neighbours gives, and what putting one after the other in its place gives. No program's function is walked here. -/
namespace Go.Proofs.YtcadeijloobbmaaGreat
open Go.RowKit

theorem bl_irr (a : List UInt8) : Op.bytesLess a a = false := by
  rcases str_less' a a with ⟨-, h1, h2, -⟩ | ⟨-, h1, -, -⟩ | ⟨-, h1, -, -⟩
  · rw [h1] at h2; cases h2
  · exact h1
  · exact h1
theorem bl_asym {a b : List UInt8} (h : Op.bytesLess a b = true) : Op.bytesLess b a = false := by
  rcases str_less' a b with ⟨-, h1, h2, -⟩ | ⟨-, h1, -, -⟩ | ⟨-, h1, -, -⟩
  · exact h2
  · rw [h1] at h; cases h
  · rw [h1] at h; cases h
theorem bl_tri {a b : List UInt8} (h : Op.bytesLess a b = false) (h' : Op.bytesLess b a = false) : a = b := by
  rcases str_less' a b with ⟨-, h1, -, -⟩ | ⟨-, -, -, h3⟩ | ⟨-, -, h2, -⟩
  · rw [h1] at h; cases h
  · simpa using h3
  · rw [h2] at h'; cases h'
theorem bl_eq (x y : List UInt8) : Op.bytesLess x y = decide (x < y) := by
  induction x generalizing y with
  | nil => cases y <;> simp [Op.bytesLess]
  | cons a r ih =>
    cases y with
    | nil => simp [Op.bytesLess]
    | cons b t =>
      show (decide (a < b) || a == b && Op.bytesLess r t) = _
      rw [ih, Bool.eq_iff_iff]
      simp [List.cons_lt_cons_iff]
theorem bl_trans {a b c : List UInt8} (h : Op.bytesLess a b = true) (h' : Op.bytesLess b c = true) : Op.bytesLess a c = true := by
  rw [bl_eq] at h h' ⊢
  exact decide_eq_true (List.lt_trans (of_decide_eq_true h) (of_decide_eq_true h'))
theorem inc_nodup {l : List (List UInt8)} (h : incS l) : l.Nodup := by
  refine List.Pairwise.imp ?_ h
  intro a b hab e
  rw [e, bl_irr] at hab
  cases hab
theorem inc_uniq {l m : List (List UInt8)} (hl : incS l) (hm : incS m) (h : ∀ s, s ∈ l ↔ s ∈ m) : l = m := by
  have hp : l.Perm m := (List.perm_ext_iff_of_nodup (inc_nodup hl) (inc_nodup hm)).2 h
  exact hp.eq_of_pairwise (le := fun a b => Op.bytesLess a b = true) (fun a b _ _ h1 h2 => by rw [bl_asym h1] at h2; cases h2) hl hm

/-! Sorted, and repeated neighbours dropped. -/
theorem cmp_mem (d : Array (List UInt8)) (s : List UInt8) : ∀ m, m ≤ d.size → (s ∈ Lib.compactUpTo d m ↔ ∃ j, j < m ∧ d[j]! = s)
  | 0, _ => by simp [Lib.compactUpTo]
  | m + 1, h => by
    rw [Lib.compactUpTo_succ, List.mem_append, cmp_mem d s m (by omega)]
    constructor
    · rintro (⟨j, hj, e⟩ | hs)
      · exact ⟨j, by omega, e⟩
      · by_cases k : Lib.keeps d m = true
        · rw [if_pos k] at hs
          exact ⟨m, by omega, (List.mem_singleton.1 hs).symm⟩
        · rw [if_neg k] at hs; cases hs
    · rintro ⟨j, hj, e⟩
      by_cases hj' : j < m
      · exact .inl ⟨j, hj', e⟩
      · obtain rfl : j = m := by omega
        by_cases k : Lib.keeps d j = true
        · exact .inr (by rw [if_pos k, e]; simp)
        · have k' : Lib.keeps d j = false := by simpa using k
          have h0 : j ≠ 0 := fun e0 => by subst e0; simp [Lib.keeps] at k'
          have e1 : d[j]! = d[j - 1]! := by
            unfold Lib.keeps at k'
            rw [decide_eq_false_iff_not] at k'
            exact Classical.byContradiction fun c => k' (.inr c)
          exact .inl ⟨j - 1, by omega, by rw [← e1]; exact e⟩
theorem cmp_inc (d : Array (List UInt8)) (hd : ∀ i j, i < j → j < d.size → Op.bytesLess d[j]! d[i]! = false) : ∀ m, m ≤ d.size → incS (Lib.compactUpTo d m)
  | 0, _ => by simp [Lib.compactUpTo, incS]
  | m + 1, h => by
    rw [Lib.compactUpTo_succ]
    unfold incS
    rw [List.pairwise_append]
    refine ⟨cmp_inc d hd m (by omega), ?_, ?_⟩
    · by_cases k : Lib.keeps d m = true
      · rw [if_pos k]; exact List.pairwise_singleton _ _
      · rw [if_neg k]; exact List.Pairwise.nil
    · intro a ha b hb
      by_cases k : Lib.keeps d m = true
      · rw [if_pos k] at hb
        obtain rfl := List.mem_singleton.1 hb
        obtain ⟨j, hj, rfl⟩ := (cmp_mem d a m (by omega)).1 ha
        have k' := k
        unfold Lib.keeps at k'
        rw [decide_eq_true_iff] at k'
        have hne : d[m]! ≠ d[m - 1]! := by
          rcases k' with e | e
          · omega
          · exact e
        -- the last one before m is smaller, and none before that is greater
        have h1 : Op.bytesLess d[m - 1]! d[m]! = true := by
          cases e : Op.bytesLess d[m - 1]! d[m]! with
          | true => rfl
          | false => exact absurd (bl_tri e (hd (m - 1) m (by omega) (by omega))) (Ne.symm hne)
        by_cases hjm : j = m - 1
        · rw [hjm]; exact h1
        · have h2 := hd j (m - 1) (by omega) (by omega)
          cases e : Op.bytesLess d[j]! d[m - 1]! with
          | true => exact bl_trans e h1
          | false => rw [bl_tri e h2]; exact h1
      · rw [if_neg k] at hb; cases hb
def sortS (l : List (List UInt8)) : List (List UInt8) := l.mergeSort fun x y => decide (x ≤ y)
theorem sortS_perm (l : List (List UInt8)) : (sortS l).Perm l := List.mergeSort_perm _ _
theorem le_bl (x y : List UInt8) : decide (x ≤ y) = !Op.bytesLess y x := by
  rw [bl_eq]
  by_cases h : y < x
  · rw [decide_eq_true h, decide_eq_false (List.not_le.2 h)]; rfl
  · rw [decide_eq_false h, decide_eq_true (List.not_lt.1 h)]; rfl
theorem sortS_pw (l : List (List UInt8)) : (sortS l).Pairwise fun a b => Op.bytesLess b a = false := by
  have h := List.pairwise_mergeSort (le := fun a b : List UInt8 => decide (a ≤ b)) (by
    intro a b c h1 h2
    rw [le_bl] at *
    cases e : Op.bytesLess c a with
    | false => rfl
    | true =>
      exfalso
      have h1' : Op.bytesLess b a = false := by simpa using h1
      have h2' : Op.bytesLess c b = false := by simpa using h2
      cases e2 : Op.bytesLess b c with
      | true => rw [bl_trans e2 e] at h1'; cases h1'
      | false =>
        have := bl_tri h2' e2
        rw [this] at e
        rw [e] at h1'; cases h1') (by
    intro a b
    rw [le_bl, le_bl]
    cases h : Op.bytesLess b a
    · rfl
    · rw [bl_asym h]; rfl) l
  refine h.imp ?_
  intro a b h
  rw [le_bl] at h
  simpa using h
def dstV (l : List (List UInt8)) : List (List UInt8) := Lib.compact (sortS l)
theorem dst_inc (l : List (List UInt8)) : incS (dstV l) := by
  unfold dstV Lib.compact
  refine cmp_inc _ (fun i j hij hj => ?_) _ (by simp)
  have hj' : j < (sortS l).length := by simpa using hj
  have k := (List.pairwise_iff_getElem.1 (sortS_pw l)) i j (by omega) hj' hij
  simpa [getElem!_pos, hj', show i < (sortS l).length by omega] using k
theorem dst_mem (l : List (List UInt8)) (s : List UInt8) : s ∈ dstV l ↔ s ∈ l := by
  unfold dstV Lib.compact
  rw [cmp_mem _ _ _ (by simp), ← (sortS_perm l).mem_iff]
  constructor
  · rintro ⟨j, hj, e⟩
    have e' : (sortS l)[j] = s := by simpa [getElem!_pos, hj] using e
    rw [← e']; exact List.getElem_mem hj
  · intro h
    obtain ⟨j, hj, e⟩ := List.getElem_of_mem h
    exact ⟨j, hj, by simpa [getElem!_pos, hj] using e⟩
theorem dst_of {l m : List (List UInt8)} (hm : incS m) (h : ∀ s, s ∈ m ↔ s ∈ l) : m = dstV l := inc_uniq hm (dst_inc l) fun s => (h s).trans (dst_mem l s).symm
theorem dst_len (l : List (List UInt8)) : (dstV l).length ≤ l.length := by
  have h1 := Lib.compact_length_le (sortS l)
  have h2 := (sortS_perm l).length_eq
  unfold dstV
  omega

/-! One put in its place. -/
def atS : List (List UInt8) → List UInt8 → Nat
  | [], _ => 0
  | x :: r, s => if Op.bytesLess x s = true then atS r s + 1 else 0
def putS (l : List (List UInt8)) (s : List UInt8) : List (List UInt8) := l.take (atS l s) ++ (if l[atS l s]? = some s then [] else [s]) ++ l.drop (atS l s)
theorem at_cons (x : List UInt8) (r : List (List UInt8)) (s : List UInt8) : atS (x :: r) s = if Op.bytesLess x s = true then atS r s + 1 else 0 := rfl
theorem put_cons (x : List UInt8) (r : List (List UInt8)) (s : List UInt8) : putS (x :: r) s = if Op.bytesLess x s = true then x :: putS r s else if x = s then x :: r else s :: x :: r := by
  unfold putS
  rw [at_cons]
  by_cases h : Op.bytesLess x s = true
  · rw [if_pos h, if_pos h]
    simp
  · rw [if_neg h, if_neg h]
    by_cases e : x = s
    · simp [e]
    · simp [e]
theorem put_mem (s t : List UInt8) : ∀ l : List (List UInt8), t ∈ putS l s ↔ t = s ∨ t ∈ l
  | [] => by simp [putS, atS]
  | x :: r => by
    rw [put_cons]
    by_cases h : Op.bytesLess x s = true
    · rw [if_pos h, List.mem_cons, put_mem s t r, List.mem_cons]
      constructor
      · rintro (h | h | h)
        · exact .inr (.inl h)
        · exact .inl h
        · exact .inr (.inr h)
      · rintro (h | h | h)
        · exact .inr (.inl h)
        · exact .inl h
        · exact .inr (.inr h)
    · rw [if_neg h]
      by_cases e : x = s
      · rw [if_pos e]
        constructor
        · exact .inr
        · rintro (h | h)
          · rw [h, ← e]; exact List.mem_cons_self
          · exact h
      · rw [if_neg e]; exact List.mem_cons
theorem put_inc (s : List UInt8) : ∀ l : List (List UInt8), incS l → incS (putS l s)
  | [], _ => List.pairwise_singleton _ _
  | x :: r, h => by
    have h' := List.pairwise_cons.1 h
    rw [put_cons]
    by_cases k : Op.bytesLess x s = true
    · rw [if_pos k]
      refine List.pairwise_cons.2 ⟨fun t ht => ?_, put_inc s r h'.2⟩
      rcases (put_mem s t r).1 ht with rfl | ht
      · exact k
      · exact h'.1 t ht
    · rw [if_neg k]
      by_cases e : x = s
      · rw [if_pos e]; exact h
      · rw [if_neg e]
        have k1 : Op.bytesLess s x = true := by
          cases e2 : Op.bytesLess s x with
          | true => rfl
          | false => exact absurd (bl_tri (by simpa using k) e2) e
        refine List.pairwise_cons.2 ⟨fun t ht => ?_, h⟩
        rcases List.mem_cons.1 ht with rfl | ht
        · exact k1
        · exact bl_trans k1 (h'.1 t ht)
theorem put_len (l : List (List UInt8)) (s : List UInt8) : (putS l s).length ≤ l.length + 1 := by
  unfold putS
  rw [List.length_append, List.length_append, List.length_take, List.length_drop]
  by_cases h : l[atS l s]? = some s
  · rw [if_pos h]; simp; omega
  · rw [if_neg h]; simp; omega
theorem at_le : ∀ (l : List (List UInt8)) (s : List UInt8), atS l s ≤ l.length
  | [], _ => Nat.le_refl _
  | x :: r, s => by
    rw [at_cons]
    by_cases h : Op.bytesLess x s = true
    · rw [if_pos h]; have := at_le r s; simp; omega
    · rw [if_neg h]; omega
theorem at_step : ∀ (l : List (List UInt8)) (s : List UInt8) (i : Nat) (h : i < l.length), i ≤ atS l s → (Op.bytesLess l[i] s = true → i + 1 ≤ atS l s) ∧ (Op.bytesLess l[i] s = false → i = atS l s)
  | x :: r, s, 0, _, _ => by
    rw [at_cons]
    constructor
    · intro (h : Op.bytesLess x s = true)
      rw [if_pos h]; omega
    · intro (h : Op.bytesLess x s = false)
      rw [if_neg (by rw [h]; decide)]
  | x :: r, s, i + 1, h, hi => by
    rw [at_cons] at *
    by_cases k : Op.bytesLess x s = true
    · rw [if_pos k] at *
      have ih := at_step r s i (by simpa using h) (by omega)
      refine ⟨fun q => ?_, fun q => ?_⟩
      · have := ih.1 q; omega
      · have := ih.2 q; omega
    · rw [if_neg k] at hi; omega
end Go.Proofs.YtcadeijloobbmaaGreat

/-! Package graph: strings sorted, each once, in a slice that the call has made; its labels and its types. Nothing that was there turns. -/
namespace Go.Proofs.YtcadeijloobbmaaGreat
open Go.RowKit Go.Sort Go.Shelf

theorem heap_put {w : World} {g n : Nat} {os : Array Obj} {cur : Array Value} {e : TypeId} {fr : Nat × Nat} (d : Array (List UInt8)) (hb : w.heap[g]? = some (.cells cur e fr)) :
    (grow (putRow encStr (Sort.ahead w n) g 0 d) os).heap[g]? = some (.cells (putCells encStr 0 d cur) e fr) := by
  have hg : g < w.heap.size := (Array.getElem?_eq_some_iff.1 hb).1
  rw [heap_grow_old _ _ (by simpa using hg)]
  simp [putRow, mapBlock, Sort.ahead, Array.getElem?_modify, hb, onCells]
theorem grown_put {w : World} {g n : Nat} {os : Array Obj} (d : Array (List UInt8)) : w.grownBy (grow (putRow encStr (Sort.ahead w n) g 0 d) os) (some g) := by
  refine ⟨rfl, rfl, rfl, by simp, fun k hk hne => ?_⟩
  rw [heap_grow_old _ _ (by simpa using hk)]
  have : g ≠ k := fun e => hne (by rw [e])
  simp [putRow, mapBlock, Sort.ahead, Array.getElem?_modify, this]
theorem take_putS (cur : Array Value) (d : List (List UInt8)) (h : d.length ≤ cur.size) : (putCells encStr 0 d.toArray cur).toList.take d.length = sC d := by
  apply List.ext_getElem?
  intro j
  by_cases hj : j < d.length
  · rw [List.getElem?_take_of_lt hj, Array.getElem?_toList, sC_get hj]
    simp [putCells, hj, show j < cur.size by omega, encStr, bs]
  · rw [List.getElem?_take_eq_none (by omega), List.getElem?_eq_none (by rw [sC_len]; omega)]
theorem holds_S {w : World} {g : Nat} {cur : Array Value} {e : TypeId} {L : List (List UInt8)} (hh : w.heap[g]? = some (.cells cur e (0, 0))) (h4 : cur.toList.take (L.length * 1) = sC L) : Holds encStr w g 0 L.toArray := by
  intro j hj
  have hj' : j < L.length := by simpa using hj
  refine ⟨?_, by simp [World.frozen?, hh]⟩
  rw [Nat.zero_add, cell_of_row w g j cur _ (0, 0) hh]
  have k : (cur.toList.take (L.length * 1))[j]? = (sC L)[j]? := by rw [h4]
  rw [List.getElem?_take_of_lt (by omega), Array.getElem?_toList, sC_get hj'] at k
  rw [k]
  simp [getElem!_pos, hj', encStr, bs]
theorem dst_nil : dstV [] = [] := List.eq_nil_of_length_eq_zero (by have := dst_len []; simpa using this)
/-- distinct of a slice that the call has made. -/
theorem dst_own {w0 w : World} {base : Nat} {v : Value} {L : List (List UInt8)} (h : w.ownsRow base 9 1 v L.length (sC L)) (hb0 : w0.heap.size ≤ base) (F : Fuw w0 w) (hl : L.length ≤ 1000000) :
    Calls Tryz.prog 28 #[v] w fun e w' => ∃ v', e = .returned v' ∧ w'.ownsRow base 9 1 v' (dstV L).length (sC (dstV L)) ∧ Fuw w0 w' := by
  rcases h.2 with ⟨rfl, h0⟩ | ⟨g, cap, cur, rfl, hb, hh, h1, h2, h3, h4⟩
  · have e := List.length_eq_zero_iff.1 h0
    subst e
    rw [dst_nil]
    go_enter Tryz.func28, Tryz.ntmps28
    go_wp2_with fail
    go_at_call 48; refine (Tryz.slices_Sort_string_none none 0 _).mono ?_; rintro e1 w1 ⟨rfl, rfl⟩
    go_wp2_with fail
    go_at_call 49; refine (Tryz.slices_Compact_string_empty none 0 _).mono ?_; rintro e1 w1 ⟨rfl, rfl⟩
    go_wp2
    go_ret
    exact ⟨_, rfl, World.ownsRow_nil _ _ _ _, F⟩
  · have hg : g < w.heap.size := (Array.getElem?_eq_some_iff.1 hh).1
    have hS := Tryz.slices_Sort_string g 0 cap L w (holds_S hh h4) hg (by omega)
    have hsl : (sortS L).length = L.length := (sortS_perm L).length_eq
    have HS := Lib.hid hS
    clear hS
    go_enter Tryz.func28, Tryz.ntmps28
    go_wp2_with fail
    go_at_call 48; refine HS.out.mono ?_; rintro e1 w1 ⟨rfl, n, os, hw1⟩
    have hh1 : w1.heap[g]? = some (.cells (putCells encStr 0 (sortS L).toArray cur) 9 (0, 0)) := by rw [hw1]; exact heap_put _ hh
    have F1 : Fuw w0 w1 := by rw [hw1]; exact Below.grown F (grown_put _) F.size (fun k hk => by cases hk; omega)
    have ht1 := take_putS cur (sortS L) (by omega)
    have hz1 : (putCells encStr 0 (sortS L).toArray cur).size = cur.size := by simp [putCells]
    generalize putCells encStr 0 (sortS L).toArray cur = cur1 at *
    have hs1 : cur1.toList.take ((sortS L).length * 1) = sC (sortS L) := by rw [Nat.mul_one]; exact ht1
    have hC := Tryz.slices_Compact_string g 0 cap (sortS L) w1 (holds_S hh1 hs1) (by omega) (by omega)
    rw [hsl] at hC
    have HC := Lib.hid hC
    clear hC hw1
    go_wp2_with fail
    go_at_call 49; refine HC.out.mono ?_; rintro e2 w2 ⟨rfl, q, hw2⟩
    have hk : (dstV L).length ≤ L.length := dst_len L
    obtain ⟨Z, hZ⟩ : ∃ Z, Z = dstV L ++ List.replicate (L.length - (dstV L).length) [] := ⟨_, rfl⟩
    have hZl : Z.length = L.length := by rw [hZ, List.length_append, List.length_replicate]; omega
    have hw2' : w2 = grow (putRow encStr (Sort.ahead w1 q) g 0 Z.toArray) #[] := by rw [grow_empty, hw2, hZ]; rfl
    have hh2 : w2.heap[g]? = some (.cells (putCells encStr 0 Z.toArray cur1) 9 (0, 0)) := by rw [hw2']; exact heap_put _ hh1
    have F2 : Fuw w0 w2 := by rw [hw2']; exact Below.grown F1 (grown_put _) F1.size (fun k hk => by cases hk; omega)
    have ht2 := take_putS cur1 Z (by omega)
    have hz2 : (putCells encStr 0 Z.toArray cur1).size = cur1.size := by simp [putCells]
    generalize putCells encStr 0 Z.toArray cur1 = cur2 at *
    have ht3 : cur2.toList.take ((dstV L).length * 1) = sC (dstV L) := by
      have k : (cur2.toList.take Z.length).take (dstV L).length = (sC Z).take (dstV L).length := by rw [ht2]
      rw [List.take_take, Nat.min_eq_left (by omega), hZ, sC_app, List.take_left' (sC_len _)] at k
      rw [Nat.mul_one]; exact k
    have HO := Lib.hid (show w2.ownsRow base 9 1 (.slice (some ⟨g, 0, none⟩) (dstV L).length cap) (dstV L).length (sC (dstV L)) from ⟨by rw [sC_len, Nat.mul_one], .inr ⟨g, cap, cur2, rfl, hb, hh2, by omega, h2, by omega, ht3⟩⟩)
    have F2' := Lib.hid F2
    clear hh1 F1 ht1 hs1 hw2 hw2' hh2 F2 ht2 hz2 ht3 hZ HC HS
    go_wp2
    go_ret
    exact ⟨_, rfl, HO.out, F2'.out⟩
theorem news_S {w : World} {l : List (List UInt8)} {cap : Nat} {ad : Addr} (h : SlS w (some ad) l cap) : ∀ j u, (sC l)[j]? = some u → w.cell? (ad.add j) = some u := by
  intro j u hu
  by_cases hj : j < l.length
  · rw [sC_get hj] at hu
    obtain ⟨b, o, e, -, hc⟩ := h.get hj
    cases e
    rw [Go.WideShapes.add_plain, ← hu, ← hc, Nat.mul_one]
  · rw [List.getElem?_eq_none (by rw [sC_len]; omega)] at hu; cases hu
theorem one_S (l : List (List UInt8)) : ∀ u ∈ sC l, u.oneCell' = true := by
  intro u hu
  unfold sC at hu
  obtain ⟨s, -, rfl⟩ := List.mem_map.1 hu
  rfl
def RetD (w : World) (L : List (List UInt8)) (e : Ending) (w' : World) : Prop := ∃ a c, e = .returned (.slice a L.length c) ∧ SlS w' a L c ∧ Fuw w w'
def tysV (es : List Ed) : List (List UInt8) := es.map Ed.ty
theorem tys_drop (l : List Ed) (i : Nat) (h : i < l.length) : tysV (l.drop i) = [l[i].ty] ++ tysV (l.drop (i + 1)) := by
  unfold tysV
  rw [List.drop_eq_getElem_cons h]; rfl
set_option maxHeartbeats 3200000 in
set_option maxRecDepth 100000 in
theorem types_any (g : Gr) (an ae : Option Addr) (cn ce : Nat) (w : World) (hg : GIn w g an ae cn ce) (hn : g.es.length ≤ 10000) :
    Calls Tryz.prog 12 #[grv g an ae cn ce] w (RetD w (dstV (tysV g.es))) := by
  have f0 := fuwA w (.cells #[.slice an g.ns.length cn, .slice ae g.es.length ce, .int .i64 g.nn, .int .i64 g.ne] 25)
  obtain ⟨U, hU⟩ : ∃ U, U = tysV g.es := ⟨_, rfl⟩
  have HU := Lib.hid (show U = [] ++ tysV (g.es.drop 0) from hU)
  have HM := Lib.hid (show ∀ s ∈ U, s.length ≤ maxLen from fun s h => by
    rw [hU] at h
    unfold tysV at h
    obtain ⟨p, hp, rfl⟩ := List.mem_map.1 h
    obtain ⟨j, hj, rfl⟩ := List.getElem_of_mem hp
    obtain ⟨-, -, -, -, -, -, hz, -⟩ := hg.e.get hj
    exact hz)
  rw [← hU]
  unfold grv
  obtain ⟨w0, hw0⟩ : ∃ w0, w0 = w.alloc (.cells #[.slice an g.ns.length cn, .slice ae g.es.length ce, .int .i64 g.nn, .int .i64 g.ne] 25) := ⟨_, rfl⟩
  rw [← hw0] at f0
  have HW0 := Lib.hid hw0
  have F0 := Lib.hid f0
  have HE := Lib.hid (slE_on f0 hg.e)
  obtain ⟨i0, hi, hz0, hz1, hz2⟩ := info_parts infoS
  clear hw0 f0 hg hU
  go_enter Tryz.func12, Tryz.ntmps12
  go_wp2
  go_loopw [3, 9] (fun lv iv wr => ∃ (i : Nat) (L : List (List UInt8)), iv = .int .i64 i ∧ i ≤ g.es.length ∧ L.length ≤ i ∧ wr.ownsRow w0.heap.size 9 1 lv L.length (sC L) ∧ Hid (U = L ++ tysV (g.es.drop i)) ∧ Hid (Fuw w0 wr)) (fun _ iv _ => g.es.length - (RowKit.intOf iv).toNat)
  case atStart => exact ⟨0, [], rfl, Nat.zero_le _, Nat.le_refl _, World.ownsRow_nil _ _ _ _, HU, by rw [HW0.out]; exact Fuw.refl _⟩
  case round =>
    obtain ⟨i, L, rfl, hii, hL, hown, HQ, hf⟩ := hrel
    by_cases hlt : i < g.es.length
    · obtain ⟨b, o, rfl, -, -, -, -, c0, c1, c2, c3, ap, cp, c4, -⟩ := (slE_on hf.out HE.out).get hlt
      have HZ := Lib.hid (show U = (L ++ [g.es[i].ty]) ++ tysV (g.es.drop (i + 1)) by rw [HQ.out, tys_drop g.es i hlt, List.append_assoc])
      generalize g.es[i] = e at *
      go_upto_region 5 with fail
      obtain ⟨W, hW⟩ : ∃ W, W = wr.alloc (.cells #[.int .i64 e.id, .int .i64 e.fr, .int .i64 e.to, .string (bs e.ty), .slice ap e.ps.length cp] 40) := ⟨_, rfl⟩
      have hfW : Fuw wr W := by rw [hW]; exact fuwA _ _
      have d3 : W.cell? ⟨wr.heap.size, 3, none⟩ = some (.string (bs e.ty)) := by rw [hW]; exact (Bk.new _ _ _).c 3
      rw [← hW]
      have hown' := own_on hown hfW
      have HF := Lib.hid (hf.out.trans hfW)
      clear hW c0 c1 c2 c3 c4 hown hfW
      generalize e.ty = key at *
      go_wp2_with (at_builtin; refine wpList_append_own_at _ rfl (.tmp 13) (.tmp 16) 31 rfl w0.heap.size 9 i0 (.string ⟨#[]⟩) 1 16 Tryz.underlying31 hi hz0 hz1 hz2 rfl (by decide) _ L.length (sC L) rfl (hown'.alloc _) ⟨W.heap.size, 0, none⟩ 1 1 (sC [key]) rfl rfl (World.news_of_block (heap_alloc_new W _)) (one_S _) (by unfold maxLen; omega) (by omega) (by have := HF.out.size; simp; omega) ?_; intro v' w5 hown5 hgrow _ _)
      have F5 := Lib.hid (show Fuw w0 w5 from Below.grown (HF.out.alloc _) hgrow (HF.out.alloc _).size (fun k hk => (hown'.lt k hk).1))
      have hown6 : w5.ownsRow w0.heap.size 9 1 v' (L ++ [key]).length (sC (L ++ [key])) := by
        rw [sC_app, List.length_append]; exact hown5
      have hlen : (L ++ [key]).length ≤ i + 1 := by rw [List.length_append]; simp; omega
      clear hown5 hown' hgrow d3
      generalize L ++ [key] = L2 at *
      go_wp2
      go_roundw
      case rel => exact ⟨i + 1, L2, by go_num, by omega, hlen, hown6, HZ, F5⟩
      case measure => simp [RowKit.intOf]; omega
    · have HZ := Lib.hid (show U = L by rw [HQ.out, List.drop_of_length_le (by omega)]; unfold tysV; simp)
      have HD := Lib.hid (dst_own hown (Nat.le_refl _) hf.out (by omega))
      clear hown
      go_wp2_with fail
      go_at_call 28; refine HD.out.mono ?_; rintro e1 w1 ⟨v', rfl, hown1, f1⟩
      obtain ⟨ao, cap, rfl, -, hS⟩ := slS_of_own hown1 (fun s h => HM.out s (by rw [HZ.out]; exact (dst_mem _ _).1 h))
      have HS1 := Lib.hid hS
      have F1 := Lib.hid f1
      clear hown1 hS f1
      go_wp2
      go_ret
      exact ⟨ao, cap, by rw [HZ.out]; rfl, by rw [HZ.out]; exact HS1.out, F0.out.trans F1.out⟩
end Go.Proofs.YtcadeijloobbmaaGreat

/-! Package graph: its labels. The reference: a string put in its place. Nothing that was there turns. -/
namespace Go.Proofs.YtcadeijloobbmaaGreat
open Go.RowKit

def labsV (ns : List Nd) : List (List UInt8) := ns.flatMap Nd.ls
theorem labs_drop (l : List Nd) (i : Nat) (h : i < l.length) : labsV (l.drop i) = l[i].ls ++ labsV (l.drop (i + 1)) := by
  unfold labsV
  rw [List.drop_eq_getElem_cons h, List.flatMap_cons]
set_option maxHeartbeats 3200000 in
set_option maxRecDepth 100000 in
theorem labels_any (g : Gr) (an ae : Option Addr) (cn ce : Nat) (w : World) (hg : GIn w g an ae cn ce) (hn : (labsV g.ns).length ≤ 100000) :
    Calls Tryz.prog 10 #[grv g an ae cn ce] w (RetD w (dstV (labsV g.ns))) := by
  have l1 := hg.n.len
  have f0 := fuwA w (.cells #[.slice an g.ns.length cn, .slice ae g.es.length ce, .int .i64 g.nn, .int .i64 g.ne] 25)
  obtain ⟨U, hU⟩ : ∃ U, U = labsV g.ns := ⟨_, rfl⟩
  have HU := Lib.hid (show U = [] ++ labsV (g.ns.drop 0) from hU)
  have HM := Lib.hid (show ∀ s ∈ U, s.length ≤ maxLen from fun s h => by
    rw [hU] at h
    unfold labsV at h
    obtain ⟨p, hp, hq⟩ := List.mem_flatMap.1 h
    obtain ⟨j, hj, rfl⟩ := List.getElem_of_mem hp
    obtain ⟨_, _, _, _, _, ⟨_, _, _, hsl⟩, _⟩ := hg.n.get hj
    obtain ⟨k, hk, rfl⟩ := List.getElem_of_mem hq
    obtain ⟨-, -, -, hz, -⟩ := hsl.get hk
    exact hz)
  have HLN := Lib.hid (show U.length ≤ 100000 by rw [hU]; exact hn)
  rw [← hU]
  unfold grv
  obtain ⟨w0, hw0⟩ : ∃ w0, w0 = w.alloc (.cells #[.slice an g.ns.length cn, .slice ae g.es.length ce, .int .i64 g.nn, .int .i64 g.ne] 25) := ⟨_, rfl⟩
  rw [← hw0] at f0
  have HW0 := Lib.hid hw0
  have F0 := Lib.hid f0
  have HE := Lib.hid (slN_on f0 hg.n)
  obtain ⟨i0, hi, hz0, hz1, hz2⟩ := info_parts infoS
  clear hw0 f0 hg hU hn
  go_enter Tryz.func10, Tryz.ntmps10
  go_wp2
  go_loopw [3, 9] (fun lv iv wr => ∃ (i : Nat) (L : List (List UInt8)), iv = .int .i64 i ∧ i ≤ g.ns.length ∧ wr.ownsRow w0.heap.size 9 1 lv L.length (sC L) ∧ Hid (U = L ++ labsV (g.ns.drop i)) ∧ Hid (Fuw w0 wr)) (fun _ iv _ => g.ns.length - (RowKit.intOf iv).toNat)
  case atStart => exact ⟨0, [], rfl, Nat.zero_le _, World.ownsRow_nil _ _ _ _, HU, by rw [HW0.out]; exact Fuw.refl _⟩
  case round =>
    obtain ⟨i, L, rfl, hii, hown, HQ, hf⟩ := hrel
    by_cases hlt : i < g.ns.length
    · obtain ⟨b, o, rfl, -, c0, ⟨al, cl, c1, hsl⟩, ap, cp, c2, -⟩ := (slN_on hf.out HE.out).get hlt
      have HZ := Lib.hid (show U = (L ++ g.ns[i].ls) ++ labsV (g.ns.drop (i + 1)) by rw [HQ.out, labs_drop g.ns i hlt, List.append_assoc])
      generalize g.ns[i] = e at *
      have hLN : L.length + e.ls.length ≤ 100000 := by
        have := HLN.out
        rw [HZ.out, List.length_append, List.length_append] at this
        omega
      go_upto_region 5 with fail
      obtain ⟨W, hW⟩ : ∃ W, W = wr.alloc (.cells #[.int .i64 e.id, .slice al e.ls.length cl, .slice ap e.ps.length cp] 38) := ⟨_, rfl⟩
      have hfW : Fuw wr W := by rw [hW]; exact fuwA _ _
      have d1 : W.cell? ⟨wr.heap.size, 1, none⟩ = some (.slice al e.ls.length cl) := by rw [hW]; exact (Bk.new _ _ _).c 1
      rw [← hW]
      have hown' := own_on hown hfW
      have HF := Lib.hid (hf.out.trans hfW)
      have hsl' := slS_on hfW hsl
      clear hW c0 c1 c2 hown hfW hsl
      generalize e.ls = ks at *
      cases al with
      | none =>
        have z1 : cl = 0 := hsl'.nil rfl
        have z2 : ks = [] := List.eq_nil_of_length_eq_zero (by have := hsl'.le; omega)
        subst z1 z2
        have HZ' := Lib.hid (show U = L ++ labsV (g.ns.drop (i + 1)) by rw [HZ.out, List.append_nil])
        clear HZ hsl'
        go_wp2_with (at_builtin; refine wpList_append_own_none rfl (.tmp 13) (.tmp 15) 31 rfl w0.heap.size 9 i0 1 Tryz.underlying31 hi _ L.length (sC L) rfl hown' rfl ?_)
        clear d1
        go_wp2
        go_roundw
        case rel => exact ⟨i + 1, L, by go_num, by omega, hown', HZ', HF⟩
        case measure => simp [RowKit.intOf]; omega
      | some ad =>
        have HNS := Lib.hid (news_S hsl')
        clear hsl'
        go_wp2_with (at_builtin; refine wpList_append_own_at _ rfl (.tmp 13) (.tmp 15) 31 rfl w0.heap.size 9 i0 (.string ⟨#[]⟩) 1 16 Tryz.underlying31 hi hz0 hz1 hz2 rfl (by decide) _ L.length (sC L) rfl hown' ad ks.length cl (sC ks) rfl (by rw [sC_len, Nat.mul_one]) HNS.out (one_S _) (by unfold maxLen; omega) (by omega) (by have := HF.out.size; omega) ?_; intro v' w5 hown5 hgrow _ _)
        have F5 := Lib.hid (show Fuw w0 w5 from Below.grown HF.out hgrow HF.out.size (fun k hk => (hown'.lt k hk).1))
        have hown6 : w5.ownsRow w0.heap.size 9 1 v' (L ++ ks).length (sC (L ++ ks)) := by
          rw [sC_app, List.length_append]; exact hown5
        clear hown5 hown' hgrow d1 HNS hLN
        generalize L ++ ks = L2 at *
        go_wp2
        go_roundw
        case rel => exact ⟨i + 1, L2, by go_num, by omega, hown6, HZ, F5⟩
        case measure => simp [RowKit.intOf]; omega
    · have HZ := Lib.hid (show U = L by rw [HQ.out, List.drop_of_length_le (by omega)]; unfold labsV; simp)
      have HD := Lib.hid (dst_own hown (Nat.le_refl _) hf.out (by have := HLN.out; rw [HZ.out] at this; omega))
      clear hown
      go_wp2_with fail
      go_at_call 28; refine HD.out.mono ?_; rintro e1 w1 ⟨v', rfl, hown1, f1⟩
      obtain ⟨ao, cap, rfl, -, hS⟩ := slS_of_own hown1 (fun s h => HM.out s (by rw [HZ.out]; exact (dst_mem _ _).1 h))
      have HS1 := Lib.hid hS
      have F1 := Lib.hid f1
      clear hown1 hS f1
      go_wp2
      go_ret
      exact ⟨ao, cap, by rw [HZ.out]; rfl, by rw [HZ.out]; exact HS1.out, F0.out.trans F1.out⟩
theorem news_take {w : World} {l : List (List UInt8)} {cap i : Nat} {ad : Addr} (h : SlS w (some ad) l cap) : ∀ j u, (sC (l.take i))[j]? = some u → w.cell? (ad.add j) = some u := by
  intro j u hu
  refine news_S h j u ?_
  unfold sC at *
  rw [List.map_take, List.getElem?_take] at hu
  split at hu
  · exact hu
  · cases hu
theorem news_drop {w : World} {l : List (List UInt8)} {cap i b o : Nat} (h : SlS w (some ⟨b, o, none⟩) l cap) : ∀ j u, (sC (l.drop i))[j]? = some u → w.cell? ((⟨b, o + i, none⟩ : Addr).add j) = some u := by
  intro j u hu
  unfold sC at hu
  rw [List.map_drop, List.getElem?_drop] at hu
  have k := news_S h (i + j) u hu
  rw [Go.WideShapes.add_plain] at k ⊢
  rw [Nat.add_assoc]; exact k
theorem put_eq {l : List (List UInt8)} {s : List UInt8} {i : Nat} (h : i < l.length) (e : i = atS l s) (k : (l[i] == s) = true) : putS l s = l.take i ++ l.drop i := by
  unfold putS
  rw [← e, List.getElem?_eq_getElem h, if_pos (by rw [eq_of_beq k]), List.append_nil]
theorem put_ne {l : List (List UInt8)} {s : List UInt8} {i : Nat} (h : i < l.length) (e : i = atS l s) (k : (l[i] == s) = false) : putS l s = l.take i ++ [s] ++ l.drop i := by
  unfold putS
  rw [← e, List.getElem?_eq_getElem h, if_neg (by intro c; cases c; simp at k)]
theorem put_all {l : List (List UInt8)} {s : List UInt8} (e : l.length = atS l s) : putS l s = l ++ [s] := by
  unfold putS
  rw [← e, List.getElem?_eq_none (Nat.le_refl _), if_neg (by intro c; cases c), List.take_length, List.drop_length, List.append_nil]
theorem at_end {l : List (List UInt8)} {s : List UInt8} {i : Nat} (h : i ≤ atS l s) (h' : l.length ≤ i) : i = atS l s := by have := at_le l s; omega
set_option maxHeartbeats 3200000 in
set_option maxRecDepth 100000 in
theorem rput_any (l : List (List UInt8)) (ao : Option Addr) (cap : Nat) (s : List UInt8) (w : World) (hs : SlS w ao l cap) (hn : l.length ≤ 200000) (hz : s.length ≤ maxLen) :
    Calls Tryz.prog 29 #[.slice ao l.length cap, .string (bs s)] w (RetD w (putS l s)) := by
  have hl := hs.len
  have hc := hs.cap_
  have hle := hs.le
  have HS := Lib.hid hs
  have HST := Lib.hid (fun (i : Nat) (h : i < l.length) (h' : i ≤ atS l s) => at_step l s i h h')
  have HEN := Lib.hid (fun (i : Nat) (h : i ≤ atS l s) (h' : l.length ≤ i) => at_end h h')
  have HPL := Lib.hid (fun (h : l.length = atS l s) => put_all h)
  have HMX := Lib.hid (show ∀ t ∈ putS l s, t.length ≤ maxLen from fun t ht => by
    rcases (put_mem s t l).1 ht with rfl | ht
    · exact hz
    · obtain ⟨k, hk, rfl⟩ := List.getElem_of_mem ht
      obtain ⟨-, -, -, hz, -⟩ := HS.out.get hk
      exact hz)
  obtain ⟨i0, hi, hz0, hz1, hz2⟩ := info_parts infoS
  clear hs
  go_enter Tryz.func29, Tryz.ntmps29
  go_wp2
  go_loop [6] (fun iv => ∃ i : Nat, iv = .int .i64 i ∧ i ≤ l.length ∧ Hid (i ≤ atS l s)) (fun iv => l.length - (RowKit.intOf iv).toNat)
  case atStart => exact ⟨0, rfl, Nat.zero_le _, Nat.zero_le _⟩
  case round =>
    obtain ⟨i, rfl, hii, HQ⟩ := hrel
    by_cases hlt : i < l.length
    · obtain ⟨b, o, rfl, -, c0⟩ := HS.out.get hlt
      rw [Nat.mul_one] at c0
      have HX := Lib.hid (HST.out i hlt HQ.out)
      cases hb : Op.bytesLess (bs l[i]).toList (bs s).toList with
      | true =>
        have HY := Lib.hid (show i + 1 ≤ atS l s from HX.out.1 (by rw [toL, toL, bs_data, bs_data] at hb; exact hb))
        generalize l[i] = x at *
        go_wp2
        go_round
        case rel => exact ⟨i + 1, by go_num, by omega, HY⟩
        case measure => simp [RowKit.intOf]; omega
      | false =>
        have HY := Lib.hid (show i = atS l s from HX.out.2 (by rw [toL, toL, bs_data, bs_data] at hb; exact hb))
        have HPE := Lib.hid (fun (h : (l[i] == s) = true) => put_eq hlt HY.out h)
        have HPN := Lib.hid (fun (h : (l[i] == s) = false) => put_ne hlt HY.out h)
        have HNT := Lib.hid (fun (w' : World) (hf : Fuw w w') => news_take (i := i) (slS_on hf HS.out))
        have HND := Lib.hid (fun (w' : World) (hf : Fuw w w') => news_drop (i := i) (slS_on hf HS.out))
        have hlt' : (sC (l.take i)).length = i * 1 := by rw [sC_len, List.length_take, Nat.mul_one]; omega
        generalize l[i] = x at *
        go_upto_region 6 with (at_builtin; refine wpList_append_own_at _ rfl (.tmp 21) (.tmp 24) 31 rfl w.heap.size 9 i0 (.string ⟨#[]⟩) 1 16 Tryz.underlying31 hi hz0 hz1 hz2 rfl (by decide) _ 0 ([]) rfl (World.ownsRow_nil _ _ _ _) _ (i) cap (sC (l.take i)) rfl (hlt') (HNT.out _ (Fuw.refl _)) (one_S _) (by unfold maxLen; omega) (by omega) (Nat.le_refl _) ?_; intro v1 w1 hown1 hgrow1 _ _)
        have F1 := Lib.hid (show Fuw w w1 from Below.grown (Fuw.refl _) hgrow1 (Nat.le_refl _) (fun k hk => by cases hk))
        have c0' := cellOnw F1.out c0
        have hne : ((i : Int) == (l.length : Int)) = false := by rw [beq_eq_false_iff_ne]; omega
        have hld : (sC (l.drop i)).length = (l.length - i) * 1 := by rw [sC_len, List.length_drop, Nat.mul_one]
        clear hgrow1 c0
        cases he : ((bs x).toList == (bs s).toList) with
        | true =>
          have HZ := Lib.hid (show putS l s = l.take i ++ l.drop i from by
            rw [bs_eq] at he
            exact HPE.out he)
          have he' : ((bs x).toList != (bs s).toList) = false := by rw [bne, he]; rfl
          go_upto_region 8 with fail
          clear c0' hne he he'
          go_wp2_with (at_builtin; refine wpList_append_own_at _ rfl (.tmp 42) (.tmp 45) 31 rfl w.heap.size 9 i0 (.string ⟨#[]⟩) 1 16 Tryz.underlying31 hi hz0 hz1 hz2 rfl (by decide) _ (0 + i) ([] ++ sC (l.take i)) rfl (hown1) _ (l.length - i) (cap - i) (sC (l.drop i)) rfl (hld) (HND.out _ F1.out) (one_S _) (by unfold maxLen; omega) (by omega) (by have := F1.out.size; omega) ?_; intro v2 w2 hown2 hgrow2 _ _)
          have F2 := Lib.hid (show Fuw w w2 from Below.grown F1.out hgrow2 F1.out.size (fun k hk => (hown1.lt k hk).1))
          rw [show [] ++ sC (l.take i) ++ sC (l.drop i) = sC (putS l s) by rw [HZ.out, sC_app]; rfl] at hown2
          clear hgrow2 hown1 HNT HND hld hlt'
          obtain ⟨a, c, rfl, -, hS⟩ := slS_of_own hown2 HMX.out
          have HSS := Lib.hid hS
          clear hown2 hS
          go_wp2
          go_ret
          exact ⟨a, c, rfl, HSS.out, F2.out⟩
        | false =>
          have HZ := Lib.hid (show putS l s = l.take i ++ [s] ++ l.drop i from by
            rw [bs_eq] at he
            exact HPN.out he)
          have he' : ((bs x).toList != (bs s).toList) = true := by rw [bne, he]; rfl
          go_upto_region 7 with fail
          clear c0' hne he he'
          go_upto_region 8 with (at_builtin; refine wpList_append_own_at _ rfl (.tmp 38) (.tmp 40) 31 rfl w.heap.size 9 i0 (.string ⟨#[]⟩) 1 16 Tryz.underlying31 hi hz0 hz1 hz2 rfl (by decide) _ (0 + i) ([] ++ sC (l.take i)) rfl (hown1.alloc _) ⟨w1.heap.size, 0, none⟩ (1) 1 (sC [s]) rfl (rfl) (World.news_of_block (heap_alloc_new w1 _)) (one_S _) (by unfold maxLen; omega) (by omega) (by have := F1.out.size; simp; omega) ?_; intro v2 w2 hown2 hgrow2 _ _)
          have F2 := Lib.hid (show Fuw w w2 from Below.grown (F1.out.alloc _) hgrow2 (F1.out.alloc _).size (fun k hk => (hown1.lt k hk).1))
          clear hgrow2 hown1
          go_wp2_with (at_builtin; refine wpList_append_own_at _ rfl (.tmp 42) (.tmp 45) 31 rfl w.heap.size 9 i0 (.string ⟨#[]⟩) 1 16 Tryz.underlying31 hi hz0 hz1 hz2 rfl (by decide) _ (0 + i + 1) ([] ++ sC (l.take i) ++ sC [s]) rfl (hown2) _ (l.length - i) (cap - i) (sC (l.drop i)) rfl (hld) (HND.out _ F2.out) (one_S _) (by unfold maxLen; omega) (by omega) (by have := F2.out.size; omega) ?_; intro v3 w3 hown3 hgrow3 _ _)
          have F3 := Lib.hid (show Fuw w w3 from Below.grown F2.out hgrow3 F2.out.size (fun k hk => (hown2.lt k hk).1))
          rw [show [] ++ sC (l.take i) ++ sC [s] ++ sC (l.drop i) = sC (putS l s) by rw [HZ.out, sC_app, sC_app]; rfl] at hown3
          clear hgrow3 hown2 HNT HND hld hlt'
          obtain ⟨a, c, rfl, -, hS⟩ := slS_of_own hown3 HMX.out
          have HSS := Lib.hid hS
          clear hown3 hS
          go_wp2
          go_ret
          exact ⟨a, c, rfl, HSS.out, F3.out⟩
    · have HY := Lib.hid (HEN.out i HQ.out (by omega))
      obtain rfl : i = l.length := by omega
      have HZ := Lib.hid (show putS l s = l ++ [s] from HPL.out HY.out)
      have hne : ((l.length : Int) == (l.length : Int)) = true := by simp
      have hlt' : (sC l).length = l.length * 1 := by rw [sC_len, Nat.mul_one]
      cases ao with
      | none =>
        have z1 : cap = 0 := HS.out.nil rfl
        have z2 : l = [] := List.eq_nil_of_length_eq_zero (by omega)
        subst z1 z2
        clear hlt'
        go_upto_region 6 with (at_builtin; refine wpList_append_own_none rfl (.tmp 21) (.tmp 24) 31 rfl w.heap.size 9 i0 1 Tryz.underlying31 hi _ 0 ([]) rfl (World.ownsRow_nil _ _ _ _) rfl ?_)
        go_upto_region 7 with fail
        go_upto_region 8 with (at_builtin; refine wpList_append_own_at _ rfl (.tmp 38) (.tmp 40) 31 rfl w.heap.size 9 i0 (.string ⟨#[]⟩) 1 16 Tryz.underlying31 hi hz0 hz1 hz2 rfl (by decide) _ 0 ([]) rfl (World.ownsRow_nil _ _ _ _) ⟨w.heap.size, 0, none⟩ (1) 1 (sC [s]) rfl (rfl) (World.news_of_block (heap_alloc_new w _)) (one_S _) (by unfold maxLen; omega) (by omega) (by simp) ?_; intro v2 w2 hown2 hgrow2 _ _)
        have F2 := Lib.hid (show Fuw w w2 from Below.grown ((Fuw.refl w).alloc _) hgrow2 ((Fuw.refl w).alloc _).size (fun k hk => by cases hk))
        clear hgrow2
        go_wp2_with (at_builtin; refine wpList_append_own_none rfl (.tmp 42) (.tmp 45) 31 rfl w.heap.size 9 i0 1 Tryz.underlying31 hi _ _ ([] ++ sC [s]) rfl (hown2) rfl ?_)
        rw [show [] ++ sC [s] = sC (putS [] s) by rw [HZ.out]; rfl] at hown2
        obtain ⟨a, c, rfl, -, hS⟩ := slS_of_own hown2 HMX.out
        have HSS := Lib.hid hS
        clear hown2 hS
        go_wp2
        go_ret
        exact ⟨a, c, rfl, HSS.out, F2.out⟩
      | some ad =>
        have HNA := Lib.hid (news_S HS.out)
        obtain ⟨ad', hAD⟩ : ∃ ad', (if cap = l.length then some ad else some (ad.add l.length)) = some ad' := by split <;> exact ⟨_, rfl⟩
        go_upto_region 6 with (at_builtin; refine wpList_append_own_at _ rfl (.tmp 21) (.tmp 24) 31 rfl w.heap.size 9 i0 (.string ⟨#[]⟩) 1 16 Tryz.underlying31 hi hz0 hz1 hz2 rfl (by decide) _ 0 ([]) rfl (World.ownsRow_nil _ _ _ _) _ (l.length) cap (sC l) rfl (hlt') (HNA.out) (one_S _) (by unfold maxLen; omega) (by omega) (Nat.le_refl _) ?_; intro v1 w1 hown1 hgrow1 _ _)
        have F1 := Lib.hid (show Fuw w w1 from Below.grown (Fuw.refl _) hgrow1 (Nat.le_refl _) (fun k hk => by cases hk))
        clear hgrow1 HNA
        go_upto_region 7 with fail
        clear hne
        go_upto_region 8 with (at_builtin; refine wpList_append_own_at _ rfl (.tmp 38) (.tmp 40) 31 rfl w.heap.size 9 i0 (.string ⟨#[]⟩) 1 16 Tryz.underlying31 hi hz0 hz1 hz2 rfl (by decide) _ (0 + l.length) ([] ++ sC l) rfl (hown1.alloc _) ⟨w1.heap.size, 0, none⟩ (1) 1 (sC [s]) rfl (rfl) (World.news_of_block (heap_alloc_new w1 _)) (one_S _) (by unfold maxLen; omega) (by omega) (by have := F1.out.size; simp; omega) ?_; intro v2 w2 hown2 hgrow2 _ _)
        have F2 := Lib.hid (show Fuw w w2 from Below.grown (F1.out.alloc _) hgrow2 (F1.out.alloc _).size (fun k hk => (hown1.lt k hk).1))
        clear hgrow2 hown1
        go_wp2_with (at_builtin; refine wpList_append_own_at _ rfl (.tmp 42) (.tmp 45) 31 rfl w.heap.size 9 i0 (.string ⟨#[]⟩) 1 16 Tryz.underlying31 hi hz0 hz1 hz2 rfl (by decide) _ (0 + l.length + 1) ([] ++ sC l ++ sC [s]) rfl (hown2) ad' (0) (cap - l.length) ([]) (by first | rfl | (show Value.slice (if cap = l.length then some ad else some (ad.add l.length)) 0 (cap - l.length) = _; rw [hAD])) (rfl) (by intro j u h; simp at h) (by intro u h; cases h) (by unfold maxLen; omega) (by omega) (by have := F2.out.size; omega) ?_; intro v3 w3 hown3 hgrow3 _ _)
        all_goals
          have F3 := Lib.hid (show Fuw w w3 from Below.grown F2.out hgrow3 F2.out.size (fun k hk => (hown2.lt k hk).1))
          rw [show [] ++ sC l ++ sC [s] ++ [] = sC (putS l s) by rw [HZ.out, sC_app, List.append_nil]; rfl] at hown3
          clear hgrow3 hown2 hlt'
          obtain ⟨a, c, rfl, -, hS⟩ := slS_of_own hown3 HMX.out
          have HSS := Lib.hid hS
          clear hown3 hS
          go_wp2
          go_ret
          exact ⟨a, c, rfl, HSS.out, F3.out⟩
end Go.Proofs.YtcadeijloobbmaaGreat
