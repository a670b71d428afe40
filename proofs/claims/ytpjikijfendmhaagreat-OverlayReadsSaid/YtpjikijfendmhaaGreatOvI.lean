/-
  slices.Insert of one element into a row that the call has made, at entries and ints. Nothing else that was there turns.
-/
import Derived.Test.YtpjikijfendmhaaGreatOvD
import Derived.Shelf.Spec.SlicesInsert
import Derived.Lib.Overlaps
import Derived.Laws.Externs
import Derived.Lib.AppendZerosOnto
import Derived.Laws.NewBlocks
namespace Go.Proofs.YtpjikijfendmhaaGreat
open Go.RowKit

def RetIns (w : World) (base : Nat) (e : TypeId) (s : Nat) (v : Value) (n : Nat) (xs : List Value) (x : Ending) (w' : World) : Prop :=
  ∃ v', x = .returned v' ∧ w'.ownsRow base e s v' n xs ∧ w.grownBy w' v.ownBlock ∧ (v'.ownBlock = v.ownBlock ∨ ∀ k, v'.ownBlock = some k → w.heap.size ≤ k)
theorem _root_.Go.World.ownsRow.form' {w : World} {base e s : Nat} {v : Value} {n : Nat} {xs : List Value} (h : w.ownsRow base e s v n xs) : (v = .slice none 0 0 ∧ n = 0) ∨ ∃ g cap, v = .slice (some ⟨g, 0, none⟩) n cap ∧ n ≤ cap ∧ cap ≤ maxLen := by
  rcases h.2 with h0 | ⟨g, cap, cur, hv, -, -, h1, h2, -⟩
  · exact .inl h0
  · exact .inr ⟨g, cap, hv, h1, h2⟩
theorem alloc_old (w : World) (o : Obj) {b : Nat} (hb : b < w.heap.size) : (w.alloc o).heap[b]? = w.heap[b]? := by
  show (w.heap.push o)[b]? = _
  rw [Array.getElem?_push, if_neg (by omega)]
theorem ins_list (cur D news : List Value) (a s : Nat) (ha : a + s ≤ cur.length) (hl : news.length = s) :
    (layC (layC cur (a + s) D) a news).take (a + s + D.length) = cur.take a ++ news ++ D := by
  have e1 : (layC cur (a + s) D).take a = cur.take a := by
    unfold layC
    rw [List.append_assoc, List.take_append_of_le_length (by rw [List.length_take]; omega), List.take_take, Nat.min_eq_left (by omega)]
  have e2 : (layC cur (a + s) D).drop (a + news.length) = D ++ cur.drop (a + s + D.length) := by
    unfold layC
    rw [hl, List.append_assoc, List.drop_append_of_le_length (by rw [List.length_take]; omega), List.drop_of_length_le (by rw [List.length_take]; omega), List.nil_append]
  have e3 : layC (layC cur (a + s) D) a news = (layC cur (a + s) D).take a ++ news ++ (layC cur (a + s) D).drop (a + news.length) := rfl
  rw [e3, e1, e2, ← List.append_assoc, List.take_append_of_le_length (by rw [List.length_append, List.length_append, List.length_take, hl]; omega), List.take_of_length_le (by rw [List.length_append, List.length_append, List.length_take, hl]; omega)]

set_option maxHeartbeats 4000000 in
set_option maxRecDepth 1000000 in
theorem insb_pre {e sl : TypeId} {s : Nat} (hU : Tryz.prog.underlying sl = some (.slice e)) (hsz : (Tryz.prog.info? e).map (·.size) = some s) {w : World} {base g n cap : Nat} {xs : List Value} (h : w.ownsRow base e s (.slice (some ⟨g, 0, none⟩) n cap) n xs) (i : Nat) (hi : i < n) (hroom : n + 1 ≤ cap) {vb : Nat} {news : List Value} (hk : Bk w vb news.toArray e) (hl : news.length = s) (hvb : vb ≠ g) (h1 : ∀ u ∈ xs, u.oneCell' = true) (h2 : ∀ u ∈ news, u.oneCell' = true) :
    ∃ W1 W2 : World, (∀ ty dc sc, (Builtin.copy_ #[sl, sl] ty #[.slice (some ⟨g, (i + 1) * s, none⟩) (n - i) dc, .slice (some ⟨g, i * s, none⟩) (n + 1 - i) sc]).run Tryz.prog w.drew = .ok (goInt ((n - i : Nat) : Int)) W1) ∧
      (∀ ty dc, (Builtin.copy_ #[sl, sl] ty #[.slice (some ⟨g, i * s, none⟩) (n + 1 - i) dc, .slice (some ⟨vb, 0, none⟩) 1 1]).run Tryz.prog W1 = .ok (goInt ((1 : Nat) : Int)) W2) ∧
      RetIns w base e s (.slice (some ⟨g, 0, none⟩) n cap) (n + 1) (xs.take (i * s) ++ news ++ xs.drop (i * s)) (.returned (.slice (some ⟨g, 0, none⟩) (n + 1) cap)) W2 := by
  have m1 : (i + 1) * s = i * s + s := Nat.succ_mul i s
  have m2 : (n + 1) * s = n * s + s := Nat.succ_mul n s
  have m3 : n * s = i * s + (n - i) * s := by rw [← Nat.add_mul, Nat.add_sub_cancel' (Nat.le_of_lt hi)]
  have m5 : (n + 1 - i) * s = (n - i) * s + s := by rw [show n + 1 - i = (n - i) + 1 by omega, Nat.succ_mul]
  have m6 : n * s - i * s = (n - i) * s := by omega
  obtain ⟨cur, hg, hb, hnc, hcm, hcl, htk, hxl⟩ := own_row h
  have hns : (n + 1) * s ≤ cur.length := by rw [hcl]; exact Nat.mul_le_mul_right _ hroom
  have hD : (xs.drop (i * s)).length = (n - i) * s := by rw [List.length_drop, hxl]; omega
  obtain ⟨D, hDD⟩ : ∃ D, D = xs.drop (i * s) := ⟨_, rfl⟩
  rw [← hDD] at hD ⊢
  have hxc : ∀ t u, xs[t]? = some u → w.cell? ⟨g, t, none⟩ = some u := by
    intro t u hu
    have ht := (List.getElem?_eq_some_iff.1 hu).1
    rw [hxl] at ht
    rw [row_cell hg (by omega)]
    rw [← htk, List.getElem?_take_of_lt (by omega), List.getElem?_eq_getElem (by omega)] at hu
    exact hu
  have hcp1 : ∀ ty dc sc, (Builtin.copy_ #[sl, sl] ty #[.slice (some ⟨g, (i + 1) * s, none⟩) (n - i) dc, .slice (some ⟨g, i * s, none⟩) (n + 1 - i) sc]).run Tryz.prog w.drew = .ok (goInt ((n - i : Nat) : Int)) (w.drew.setCells g ((i + 1) * s) D) := fun ty dc sc =>
    run_copy_k w.drew _ _ ty e s g ((i + 1) * s) (n - i) dc ⟨g, i * s, none⟩ (n + 1 - i) sc D hU hsz (n - i) (by simp only [Nat.min_def]; split <;> omega) hD
      (fun t u hu => by
        rw [Addr.add_lit]
        rw [hDD, List.getElem?_drop] at hu
        have := hxc _ u hu
        rw [show i * s + t = i * s + t by omega]
        exact this)
      (fun t ht => by rw [hD] at ht; exact row_some (w := w.drew) hg (by omega)) (fun t _ => row_froz (w := w.drew) hg _) (fun u hu => h1 u (by rw [hDD] at hu; exact List.mem_of_mem_drop hu))
  obtain ⟨W1, hW1⟩ : ∃ W1, W1 = w.drew.setCells g ((i + 1) * s) D := ⟨_, rfl⟩
  have hg1 : W1.heap[g]? = some (.cells (layC cur ((i + 1) * s) D).toArray e (0, 0)) := by
    rw [hW1]
    exact heap_setCells D _ cur w.drew hg (by rw [hD]; omega)
  have hsl : (layC cur ((i + 1) * s) D).length = cur.length := layC_len (by rw [hD]; omega)
  have hcp2 : ∀ ty dc, (Builtin.copy_ #[sl, sl] ty #[.slice (some ⟨g, i * s, none⟩) (n + 1 - i) dc, .slice (some ⟨vb, 0, none⟩) 1 1]).run Tryz.prog W1 = .ok (goInt ((1 : Nat) : Int)) (W1.setCells g (i * s) news) := fun ty dc =>
    run_copy_k W1 _ _ ty e s g (i * s) (n + 1 - i) dc ⟨vb, 0, none⟩ 1 1 news hU hsz 1 (by simp only [Nat.min_def]; split <;> omega) (by rw [hl, Nat.one_mul])
      (fun t u hu => by
        have hkv : W1.heap[vb]? = some (.cells news.toArray e (0, 0)) := by rw [hW1, heap_setCells_other g vb hvb]; exact hk
        exact World.news_of_block hkv t u (by simpa using hu))
      (fun t ht => by rw [hl] at ht; exact row_some hg1 (by rw [hsl]; omega)) (fun t _ => row_froz hg1 _) h2
  have HR := (show RetIns w base e s (.slice (some ⟨g, 0, none⟩) n cap) (n + 1) (xs.take (i * s) ++ news ++ D) (.returned (.slice (some ⟨g, 0, none⟩) (n + 1) cap)) (W1.setCells g (i * s) news) from by
    refine ⟨_, rfl, ?_, ?_, .inl rfl⟩
    · have hg2 := heap_setCells news (i * s) _ W1 hg1 (by rw [hsl, hl]; omega)
      have ho := own_of (n := n + 1) (size := s) hg2 hb hroom hcm (by rw [layC_len (by rw [hsl, hl]; omega), hsl, hcl])
      have e := ins_list cur D news (i * s) s (by omega) hl
      have e2 : (i * s) + s = (i + 1) * s := by omega
      rw [e2] at e
      have e3 : ((i + 1) * s) + D.length = (n + 1) * s := by rw [hD]; omega
      rw [e3] at e
      rw [e] at ho
      have e4 : cur.take (i * s) = xs.take (i * s) := by rw [← htk, List.take_take, Nat.min_eq_left (by omega)]
      rw [e4] at ho
      exact ho
    · rw [hW1]
      exact grown_trans (grown_trans (grown_drew (grown_refl w _)) (grown_setCells _ _ _ _)) (grown_setCells _ _ _ _))
  rw [← hW1] at hcp1
  exact ⟨W1, _, hcp1, hcp2, HR⟩
set_option maxHeartbeats 4000000 in
set_option maxRecDepth 1000000 in
theorem insc_pre {e sl : TypeId} {s y : Nat} {z : Value} {i0 : TypeInfo} (hs : y = 8 ∨ y = 24) (hs0 : 0 < s) (hU : Tryz.prog.underlying sl = some (.slice e)) (hsz : (Tryz.prog.info? e).map (·.size) = some s) (hi0 : Tryz.prog.info? e = some i0) (hz0 : i0.zero = some z) (hzs : i0.size = s) (hzb : i0.bytes = y) (hzz : (Value.cells z).size = s) {w : World} {base g n cap : Nat} {xs : List Value} (h : w.ownsRow base e s (.slice (some ⟨g, 0, none⟩) n cap) n xs) (i : Nat) (hi : i < n) (hn : n ≤ 5000) (hroom : cap < n + 1) (hbs : base ≤ w.heap.size) {vb : Nat} {news : List Value} (hk : Bk w vb news.toArray e) (hl : news.length = s) (h1 : ∀ u ∈ xs, u.oneCell' = true) (h2 : ∀ u ∈ news, u.oneCell' = true) :
    ∃ (G H : Nat) (W1 W2 W3 : World), n + 1 ≤ G ∧ G ≤ 9223372036854775807 ∧
      (∀ ty, (Builtin.append_ #[sl, 3] ty #[.slice (some ⟨g, 0, none⟩) i cap, .int .i64 ((n : Int) + 1 - (i : Int))]).run Tryz.prog w = .ok (.slice (some ⟨H, 0, none⟩) (n + 1) G) W1) ∧
      (∀ ty dc, (Builtin.copy_ #[sl, sl] ty #[.slice (some ⟨H, i * s, none⟩) (n + 1 - i) dc, .slice (some ⟨vb, 0, none⟩) 1 1]).run Tryz.prog W1 = .ok (goInt ((1 : Nat) : Int)) W2) ∧
      (∀ ty dc sc, (Builtin.copy_ #[sl, sl] ty #[.slice (some ⟨H, (i + 1) * s, none⟩) (n - i) dc, .slice (some ⟨g, i * s, none⟩) (n - i) sc]).run Tryz.prog W2.drew = .ok (goInt ((n - i : Nat) : Int)) W3) ∧
      RetIns w base e s (.slice (some ⟨g, 0, none⟩) n cap) (n + 1) (xs.take (i * s) ++ news ++ xs.drop (i * s)) (.returned (.slice (some ⟨H, 0, none⟩) (n + 1) G)) W3 := by
  rcases hs with rfl | rfl
  all_goals
    have m1 : (i + 1) * s = i * s + s := Nat.succ_mul i s
    have m2 : (n + 1) * s = n * s + s := Nat.succ_mul n s
    have m3 : n * s = i * s + (n - i) * s := by rw [← Nat.add_mul, Nat.add_sub_cancel' (Nat.le_of_lt hi)]
    have m5 : (n + 1 - i) * s = (n - i) * s + s := by rw [show n + 1 - i = (n - i) + 1 by omega, Nat.succ_mul]
    have m6 : n * s - i * s = (n - i) * s := by omega
    obtain ⟨cur, hg, hb, hnc, hcm, hcl, htk, hxl⟩ := own_row h
    have hns : n * s ≤ cur.length := by rw [hcl]; exact Nat.mul_le_mul_right _ hnc
    have hD : (xs.drop (i * s)).length = (n - i) * s := by rw [List.length_drop, hxl]; omega
    obtain ⟨D, hDD⟩ : ∃ D, D = xs.drop (i * s) := ⟨_, rfl⟩
    rw [← hDD] at hD ⊢
    obtain ⟨T, hTT⟩ : ∃ T, T = xs.take (i * s) := ⟨_, rfl⟩
    have hT : T.length = i * s := by rw [hTT, List.length_take, hxl]; omega
    rw [← hTT]
    have hxc : ∀ t u, xs[t]? = some u → w.cell? ⟨g, t, none⟩ = some u := by
      intro t u hu
      have ht := (List.getElem?_eq_some_iff.1 hu).1
      rw [hxl] at ht
      rw [row_cell hg (by omega)]
      rw [← htk, List.getElem?_take_of_lt (by omega), List.getElem?_eq_getElem (by omega)] at hu
      exact hu
    have hgw : g < w.heap.size := (h.lt g rfl).2
    have hvw : vb < w.heap.size := hk.lt
    have hold : (Builtin.firstCells i0.size i (.slice (some ⟨g, 0, none⟩) i cap)).run Tryz.prog w.drew = .ok T.toArray w.drew := by
      rw [hzs]
      exact run_firstCells_some w.drew s i ⟨g, 0, none⟩ i cap T hT (fun t u hu => by
        rw [Addr.add_lit, Nat.zero_add]
        rw [hTT, List.getElem?_take] at hu
        split at hu
        · exact hxc t u hu
        · cases hu)
    have hkk : (n : Int) + 1 - (i : Int) = ((n + 1 - i : Nat) : Int) := by omega
    have hik : i + (n + 1 - i) = n + 1 := by omega
    obtain ⟨G, hG⟩ : ∃ G, G = grownCap w (n + 1) cap e := ⟨_, rfl⟩
    obtain ⟨ROW, hROW⟩ : ∃ ROW : List Value, ROW = (T.toArray ++ Builtin.zeroCells (Value.cells z) (n + 1 - i) ++ Builtin.zeroCells (Value.cells z) (G - (n + 1))).toList := ⟨_, rfl⟩
    have hrz : ∀ ty, (Builtin.append_ #[sl, 3] ty #[.slice (some ⟨g, 0, none⟩) i cap, .int .i64 ((n : Int) + 1 - (i : Int))]).run Tryz.prog w =
        .ok (.slice (some ⟨w.heap.size, 0, none⟩) (n + 1) G) (w.drew.alloc (.cells ROW.toArray e)) := fun ty => by
      have h := Lib.run_append_grow_zeros w sl 3 ty e i0 _ .i64 .i64 hU Tryz.underlying3 hi0 hz0 (some ⟨g, 0, none⟩) i cap T hold (n + 1 - i) (by omega) (by omega) (by omega) (by omega) (by rw [hzb]; omega) (by rw [hzb, hik]; exact growslice_fits hroom (by omega))
      rw [hik, ← hG] at h
      rw [hkk, hROW, Array.toArray_toList]
      exact h
    have hGn : n + 1 ≤ G := by rw [hG]; exact grownCap_ge w _ _ _
    have m7 : (G - (n + 1)) * s = G * s - (n + 1) * s := Nat.sub_mul ..
    have m8 : (n + 1) * s ≤ G * s := Nat.mul_le_mul_right _ hGn
    have hGm : G ≤ maxLen := by rw [hG]; exact grownCap_le_maxLen w (n + 1) cap e (by unfold maxLen; omega)
    have hzc : (Value.cells z).size = s := hzz
    have hRl : ROW.length = G * s := by
      rw [hROW]
      simp only [Array.length_toList, Array.size_append, Builtin.zeroCells, Array.size_map, Array.size_range, List.size_toArray, hzc, hT]
      omega
    have hRt : ROW.take (i * s) = T := by
      rw [hROW, Array.toList_append, Array.toList_append, List.append_assoc, List.take_append_of_le_length (by simp [hT]), List.take_of_length_le (by simp [hT])]
    obtain ⟨W1, hW1⟩ : ∃ W1, W1 = w.drew.alloc (.cells ROW.toArray e) := ⟨_, rfl⟩
    have hr1 : W1.heap[w.heap.size]? = some (.cells ROW.toArray e (0, 0)) := by rw [hW1]; exact heap_alloc_new w.drew _
    have hOld : ∀ b, b < w.heap.size → W1.heap[b]? = w.heap[b]? := fun b hb' => by rw [hW1]; exact alloc_old w.drew _ hb'
    have hcpA : ∀ ty dc, (Builtin.copy_ #[sl, sl] ty #[.slice (some ⟨w.heap.size, i * s, none⟩) (n + 1 - i) dc, .slice (some ⟨vb, 0, none⟩) 1 1]).run Tryz.prog W1 = .ok (goInt ((1 : Nat) : Int)) (W1.setCells w.heap.size (i * s) news) := fun ty dc =>
      run_copy_k W1 _ _ ty e s w.heap.size (i * s) (n + 1 - i) dc ⟨vb, 0, none⟩ 1 1 news hU hsz 1 (by simp only [Nat.min_def]; split <;> omega) (by rw [hl, Nat.one_mul])
        (fun t u hu => by
          have hkv : W1.heap[vb]? = some (.cells news.toArray e (0, 0)) := by rw [hOld vb hvw]; exact hk
          exact World.news_of_block hkv t u (by simpa using hu))
        (fun t ht => by rw [hl] at ht; exact row_some hr1 (by rw [hRl]; omega)) (fun t _ => row_froz hr1 _) h2
    obtain ⟨W2, hW2⟩ : ∃ W2, W2 = W1.setCells w.heap.size (i * s) news := ⟨_, rfl⟩
    have hr2 : W2.heap[w.heap.size]? = some (.cells (layC ROW (i * s) news).toArray e (0, 0)) := by
      rw [hW2]
      exact heap_setCells news _ ROW W1 hr1 (by rw [hRl, hl]; omega)
    have hsl2 : (layC ROW (i * s) news).length = ROW.length := layC_len (by rw [hRl, hl]; omega)
    have hgW2 : W2.heap[g]? = some (.cells cur.toArray e (0, 0)) := by rw [hW2, heap_setCells_other _ g (by omega), hOld g hgw]; exact hg
    have hcpB : ∀ ty dc sc, (Builtin.copy_ #[sl, sl] ty #[.slice (some ⟨w.heap.size, (i + 1) * s, none⟩) (n - i) dc, .slice (some ⟨g, i * s, none⟩) (n - i) sc]).run Tryz.prog W2.drew = .ok (goInt ((n - i : Nat) : Int)) (W2.drew.setCells w.heap.size ((i + 1) * s) D) := fun ty dc sc =>
      run_copy_k W2.drew _ _ ty e s w.heap.size ((i + 1) * s) (n - i) dc ⟨g, i * s, none⟩ (n - i) sc D hU hsz (n - i) (by simp only [Nat.min_def]; split <;> omega) hD
        (fun t u hu => by
          rw [Addr.add_lit]
          rw [hDD, List.getElem?_drop] at hu
          have ht := (List.getElem?_eq_some_iff.1 hu).1
          rw [hxl] at ht
          have e := row_cell (w := W2.drew) hgW2 (j := i * s + t) (by omega)
          rw [show i * s + t = i * s + t by omega, e]
          rw [← htk, List.getElem?_take_of_lt (by omega), List.getElem?_eq_getElem (by omega)] at hu
          exact hu)
        (fun t ht => by rw [hD] at ht; exact row_some (w := W2.drew) hr2 (by rw [hsl2, hRl]; omega)) (fun t _ => row_froz (w := W2.drew) hr2 _) (fun u hu => h1 u (by rw [hDD] at hu; exact List.mem_of_mem_drop hu))
    have HR := (show RetIns w base e s (.slice (some ⟨g, 0, none⟩) n cap) (n + 1) (T ++ news ++ D) (.returned (.slice (some ⟨w.heap.size, 0, none⟩) (n + 1) G)) (W2.drew.setCells w.heap.size ((i + 1) * s) D) from by
      refine ⟨_, rfl, ?_, ?_, .inr fun k hk => by cases hk; exact Nat.le_refl _⟩
      · have hr3 := heap_setCells D ((i + 1) * s) _ W2.drew hr2 (by rw [hsl2, hRl, hD]; omega)
        have ho := own_of (n := n + 1) (size := s) hr3 hbs hGn hGm (by rw [layC_len (by rw [hsl2, hRl, hD]; omega), hsl2, hRl])
        have e : (layC (layC ROW (i * s) news) ((i + 1) * s) D).take ((n + 1) * s) = T ++ news ++ D := by
          have e1 : (layC ROW (i * s) news).take ((i + 1) * s) = T ++ news := by
            unfold layC
            rw [List.take_append_of_le_length (by rw [List.length_append, List.length_take, hl, hRl]; omega), List.take_of_length_le (by rw [List.length_append, List.length_take, hl]; omega), show i * s = i * s by omega, hRt]
          have e2 : layC (layC ROW (i * s) news) ((i + 1) * s) D = (layC ROW (i * s) news).take ((i + 1) * s) ++ D ++ (layC ROW (i * s) news).drop ((i + 1) * s + D.length) := rfl
          rw [e2, e1, List.take_append_of_le_length (by rw [List.length_append, List.length_append, hT, hl, hD]; omega), List.take_of_length_le (by rw [List.length_append, List.length_append, hT, hl, hD]; omega)]
        rw [e] at ho
        exact ho
      · have k1 : w.grownBy W1 (some g) := by rw [hW1]; exact ⟨rfl, rfl, rfl, by simp, fun b hb' _ => alloc_old w.drew _ hb'⟩
        have k2 : w.grownBy W2 (some g) := by rw [hW2]; exact grown_new k1 (Nat.le_refl _) (grown_setCells _ _ _ _)
        exact grown_new (grown_drew k2) (Nat.le_refl _) (grown_setCells _ _ _ _))
    rw [← hW2] at hcpA
    have hrz' := hrz
    rw [← hW1] at hrz'
    exact ⟨G, w.heap.size, W1, W2, _, hGn, by unfold maxLen at hGm; omega, hrz', hcpA, hcpB, HR⟩
/-! At entries. -/
set_option maxHeartbeats 4000000 in
set_option maxRecDepth 1000000 in
theorem inse_j {w : World} {base n : Nat} {v : Value} {xs : List Value} (h : w.ownsRow base 42 3 v n xs) (hn : n ≤ 5000) (hbs : base ≤ w.heap.size) {vb : Nat} {news : List Value} (hk : Bk w vb news.toArray 42) (hl : news.length = 3) (h2 : ∀ u ∈ news, u.oneCell' = true) :
    Calls Tryz.prog 54 #[v, .int .i64 (n : Int), .slice (some ⟨vb, 0, none⟩) 1 1] w (RetIns w base 42 3 v (n + 1) (xs ++ news)) := by
  obtain ⟨i0, hi0, hz0, hzs, hzb⟩ := info_parts inf_j
  have HN := Lib.hid hl
  have HNB := Lib.hid (World.news_of_block hk)
  clear hk hl
  rcases h.form' with ⟨rfl, rfl⟩ | ⟨g, cap, rfl, hnc, hcm⟩
  · go_enter Tryz.func54, Tryz.ntmps54
    go_wp2_with (at_builtin; refine wpList_append_own_at _ rfl (.tmp 23) (.tmp 24) 25 rfl base 42 i0 _ 3 24 Tryz.underlying25 hi0 hz0 hzs hzb rfl (by decide) _ 0 xs rfl h ⟨vb, 0, none⟩ 1 1 news rfl HN.out (by simpa using HNB.out) h2 (by unfold maxLen; omega) (by omega) hbs ?_; intro v3 w3 hown3 hgrow _ hat)
    have HR := Lib.hid (show RetIns w base 42 3 (.slice none 0 0) (0 + 1) (xs ++ news) (.returned v3) w3 from ⟨v3, rfl, hown3, hgrow, hat.imp id (fun e k hk => by rw [e] at hk; injection hk with hk; omega)⟩)
    clear hown3 hgrow hat
    go_wp2
    go_ret
    exact HR.out
  · have hcm' : cap ≤ 9223372036854775807 := by unfold maxLen at hcm; omega
    clear hcm
    by_cases hcn : cap = n
    all_goals
      go_enter Tryz.func54, Tryz.ntmps54
      go_wp2_with (at_builtin; refine wpList_append_own_at _ rfl (.tmp 23) (.tmp 24) 25 rfl base 42 i0 _ 3 24 Tryz.underlying25 hi0 hz0 hzs hzb rfl (by decide) _ n xs rfl h ⟨vb, 0, none⟩ 1 1 news rfl HN.out (by simpa using HNB.out) h2 (by unfold maxLen; omega) (by omega) hbs ?_; intro v3 w3 hown3 hgrow _ hat)
      have HR := Lib.hid (show RetIns w base 42 3 (.slice (some ⟨g, 0, none⟩) n cap) (n + 1) (xs ++ news) (.returned v3) w3 from ⟨v3, rfl, hown3, hgrow, hat.imp id (fun e k hk => by rw [e] at hk; injection hk with hk; omega)⟩)
      clear hown3 hgrow hat
      go_wp2
      go_ret
      exact HR.out
set_option maxHeartbeats 4000000 in
set_option maxRecDepth 1000000 in
theorem insb_j {w : World} {base g n cap : Nat} {xs : List Value} (h : w.ownsRow base 42 3 (.slice (some ⟨g, 0, none⟩) n cap) n xs) (i : Nat) (hi : i < n) (hroom : n + 1 ≤ cap) {vb : Nat} {news : List Value} (hk : Bk w vb news.toArray 42) (hl : news.length = 3) (hvb : vb ≠ g) (h1 : ∀ u ∈ xs, u.oneCell' = true) (h2 : ∀ u ∈ news, u.oneCell' = true) :
    Calls Tryz.prog 54 #[.slice (some ⟨g, 0, none⟩) n cap, .int .i64 (i : Int), .slice (some ⟨vb, 0, none⟩) 1 1] w (RetIns w base 42 3 (.slice (some ⟨g, 0, none⟩) n cap) (n + 1) (xs.take (i * 3) ++ news ++ xs.drop (i * 3))) := by
  obtain ⟨cur, hg, -, -, hcm, hcl, -, -⟩ := own_row h
  obtain ⟨i0, hi0, -, hzs, -⟩ := info_parts inf_j
  have hsz : (Tryz.prog.info? 42).map (·.size) = some 3 := by rw [hi0]; simp [hzs]
  have hov : ∀ lb cb, (callFunc 90 #[.slice (some ⟨vb, 0, none⟩) 1 1, .slice (some ⟨g, (i + 1) * 3, none⟩) lb cb]).run Tryz.prog w = .ok (.value (.bool false)) w := fun lb cb => by
    have hsa : w.shape? vb = some (42, 3) := by
      unfold Bk at hk
      simp [World.shape?, hk, hl]
    have hsb : w.shape? g = some (42, cap * 3) := by simp [World.shape?, hg, hcl]
    rw [run_callFunc_extern Tryz.func90 (by kernel_rfl) (by kernel_rfl) (by kernel_rfl) (e := Extern.SlicesOverlaps.overlaps #[25, 25] #[4]) (by kernel_rfl),
      Lib.run_overlaps_apart w 25 4 42 Tryz.underlying25 3 Tryz.sizeOf42 ⟨vb, 0, none⟩ ⟨g, (i + 1) * 3, none⟩ 1 1 lb cb hvb 42 42 3 (cap * 3) hsa hsb (by omega) (hk.f 0) (hk.f 3)]
    rfl
  obtain ⟨W1, W2, hcp1, hcp2, hr⟩ := insb_pre Tryz.underlying25 hsz h i hi hroom hk hl hvb h1 h2
  have HR := Lib.hid hr
  clear h1 h2 hi0 hzs
  have hcm' : cap ≤ 9223372036854775807 := by unfold maxLen at hcm; omega
  have hz2 : ¬ ((i : Int) = (n : Int)) := by omega
  have hw1 : IntKind.i64.wrap ((i : Int) + 1) = (i : Int) + 1 := by rw [IntKind.wrap_i64]; omega
  have hb1 : (0 : Int) ≤ (i : Int) + 1 := by omega
  have hin : i ≤ n := by omega
  have htn : ((i : Int) + 1).toNat = i + 1 := by omega
  have hb2 : ¬ (cap = i + 1) := by omega
  have hb3 : (i : Int) ≤ (n : Int) + 1 := by omega
  have hb4 : ¬ (cap = i) := by omega
  have hb5 : ¬ ((cap : Int) < (n : Int) + 1) := by omega
  have hb6 : (i : Int) + 1 ≤ (n : Int) + 1 := by omega
  clear hg hcl h hcm hk hl hsz hr
  go_enter Tryz.func54, Tryz.ntmps54
  go_wp2_with (simp only [hov])
  go_region_law (refine step_copy_runI rfl _ _ 25 25 rfl _ _ (by simp [Act.eval, Act.put]) (by simp [Act.eval, Act.put]) (hcp1 _ _ _) ?_)
  go_wp2_with (at_builtin; refine wpList_copy_runI _ rfl _ _ 25 25 rfl _ _ rfl rfl (hcp2 _ _) ?_)
  go_ret
  exact HR.out
set_option maxHeartbeats 4000000 in
set_option maxRecDepth 1000000 in
theorem insc_j {w : World} {base g n cap : Nat} {xs : List Value} (h : w.ownsRow base 42 3 (.slice (some ⟨g, 0, none⟩) n cap) n xs) (i : Nat) (hi : i < n) (hn : n ≤ 5000) (hroom : cap < n + 1) (hbs : base ≤ w.heap.size) {vb : Nat} {news : List Value} (hk : Bk w vb news.toArray 42) (hl : news.length = 3) (h1 : ∀ u ∈ xs, u.oneCell' = true) (h2 : ∀ u ∈ news, u.oneCell' = true) :
    Calls Tryz.prog 54 #[.slice (some ⟨g, 0, none⟩) n cap, .int .i64 (i : Int), .slice (some ⟨vb, 0, none⟩) 1 1] w (RetIns w base 42 3 (.slice (some ⟨g, 0, none⟩) n cap) (n + 1) (xs.take (i * 3) ++ news ++ xs.drop (i * 3))) := by
  obtain ⟨-, -, -, hnc, -, -, -, -⟩ := own_row h
  obtain ⟨i0, hi0, hz0, hzs, hzb⟩ := info_parts inf_j
  have hsz : (Tryz.prog.info? 42).map (·.size) = some 3 := by rw [hi0]; simp [hzs]
  obtain ⟨G, H, W1, W2, W3, hGn, hG63, hrz, hcpA, hcpB, hr⟩ := insc_pre (.inr rfl) (by decide) Tryz.underlying25 hsz hi0 hz0 hzs hzb rfl h i hi hn hroom hbs hk hl h1 h2
  have HR := Lib.hid hr
  have HRZ := Lib.hid hrz
  have hz2 : ¬ ((i : Int) = (n : Int)) := by omega
  have hw1 : IntKind.i64.wrap ((i : Int) + 1) = (i : Int) + 1 := by rw [IntKind.wrap_i64]; omega
  have hb1 : (0 : Int) ≤ (i : Int) + 1 := by omega
  have hin : i ≤ n := by omega
  have htn : ((i : Int) + 1).toNat = i + 1 := by omega
  have hGi : ¬ (G = i) := by omega
  have hGim : ¬ (G = i + 1) := by omega
  have hci : ¬ (cap = i) := by omega
  have hz3 : (cap : Int) < (n : Int) + 1 := by omega
  have hb3 : (i : Int) ≤ (n : Int) + 1 := by omega
  have hb6 : (i : Int) + 1 ≤ (n : Int) + 1 := by omega
  clear h hbs hk hl h1 h2 hsz hi0 hz0 hzs hzb hr hrz hn
  go_enter Tryz.func54, Tryz.ntmps54
  go_wp2_with (first
    | (at_builtin; refine Lib.wpList_append_run _ rfl _ _ _ _ rfl _ _ rfl rfl _ _ (HRZ.out _) ?_))
  go_region_law (refine step_copy_runI rfl _ _ 25 25 rfl _ _ (by simp [Act.eval, Act.put]) (by simp [Act.eval, Act.put]) (hcpB _ _ _) ?_)
  go_wp2
  go_ret
  exact HR.out
theorem ins_j {w : World} {base n : Nat} {v : Value} {xs : List Value} (h : w.ownsRow base 42 3 v n xs) (i : Nat) (hi : i ≤ n) (hn : n ≤ 5000) (hbs : base ≤ w.heap.size) {vb : Nat} {news : List Value} (hk : Bk w vb news.toArray 42) (hl : news.length = 3) (hvb : v.ownBlock ≠ some vb) (h1 : ∀ u ∈ xs, u.oneCell' = true) (h2 : ∀ u ∈ news, u.oneCell' = true) :
    Calls Tryz.prog 54 #[v, .int .i64 (i : Int), .slice (some ⟨vb, 0, none⟩) 1 1] w (RetIns w base 42 3 v (n + 1) (xs.take (i * 3) ++ news ++ xs.drop (i * 3))) := by
  rcases Nat.lt_or_eq_of_le hi with g | rfl
  · rcases h.form' with ⟨-, h0⟩ | ⟨g', cap, rfl, -, -⟩
    · omega
    · by_cases hc : n + 1 ≤ cap
      · exact insb_j h i g hc hk hl (fun e => hvb (by rw [e]; rfl)) h1 h2
      · exact insc_j h i g hn (by omega) hbs hk hl h1 h2
  · have hx := h.1
    rw [List.take_of_length_le (by omega), List.drop_of_length_le (by omega), List.append_nil]
    exact inse_j h hn hbs hk hl h2

/-! At ints. -/
set_option maxHeartbeats 4000000 in
set_option maxRecDepth 1000000 in
theorem inse_i {w : World} {base n : Nat} {v : Value} {xs : List Value} (h : w.ownsRow base 3 1 v n xs) (hn : n ≤ 5000) (hbs : base ≤ w.heap.size) {vb : Nat} {news : List Value} (hk : Bk w vb news.toArray 3) (hl : news.length = 1) (h2 : ∀ u ∈ news, u.oneCell' = true) :
    Calls Tryz.prog 58 #[v, .int .i64 (n : Int), .slice (some ⟨vb, 0, none⟩) 1 1] w (RetIns w base 3 1 v (n + 1) (xs ++ news)) := by
  obtain ⟨i0, hi0, hz0, hzs, hzb⟩ := info_parts inf_i
  have HN := Lib.hid hl
  have HNB := Lib.hid (World.news_of_block hk)
  clear hk hl
  rcases h.form' with ⟨rfl, rfl⟩ | ⟨g, cap, rfl, hnc, hcm⟩
  · go_enter Tryz.func58, Tryz.ntmps58
    go_wp2_with (at_builtin; refine wpList_append_own_at _ rfl (.tmp 23) (.tmp 24) 22 rfl base 3 i0 _ 1 8 Tryz.underlying22 hi0 hz0 hzs hzb rfl (by decide) _ 0 xs rfl h ⟨vb, 0, none⟩ 1 1 news rfl HN.out (by simpa using HNB.out) h2 (by unfold maxLen; omega) (by omega) hbs ?_; intro v3 w3 hown3 hgrow _ hat)
    have HR := Lib.hid (show RetIns w base 3 1 (.slice none 0 0) (0 + 1) (xs ++ news) (.returned v3) w3 from ⟨v3, rfl, hown3, hgrow, hat.imp id (fun e k hk => by rw [e] at hk; injection hk with hk; omega)⟩)
    clear hown3 hgrow hat
    go_wp2
    go_ret
    exact HR.out
  · have hcm' : cap ≤ 9223372036854775807 := by unfold maxLen at hcm; omega
    clear hcm
    by_cases hcn : cap = n
    all_goals
      go_enter Tryz.func58, Tryz.ntmps58
      go_wp2_with (at_builtin; refine wpList_append_own_at _ rfl (.tmp 23) (.tmp 24) 22 rfl base 3 i0 _ 1 8 Tryz.underlying22 hi0 hz0 hzs hzb rfl (by decide) _ n xs rfl h ⟨vb, 0, none⟩ 1 1 news rfl HN.out (by simpa using HNB.out) h2 (by unfold maxLen; omega) (by omega) hbs ?_; intro v3 w3 hown3 hgrow _ hat)
      have HR := Lib.hid (show RetIns w base 3 1 (.slice (some ⟨g, 0, none⟩) n cap) (n + 1) (xs ++ news) (.returned v3) w3 from ⟨v3, rfl, hown3, hgrow, hat.imp id (fun e k hk => by rw [e] at hk; injection hk with hk; omega)⟩)
      clear hown3 hgrow hat
      go_wp2
      go_ret
      exact HR.out
set_option maxHeartbeats 4000000 in
set_option maxRecDepth 1000000 in
theorem insb_i {w : World} {base g n cap : Nat} {xs : List Value} (h : w.ownsRow base 3 1 (.slice (some ⟨g, 0, none⟩) n cap) n xs) (i : Nat) (hi : i < n) (hroom : n + 1 ≤ cap) {vb : Nat} {news : List Value} (hk : Bk w vb news.toArray 3) (hl : news.length = 1) (hvb : vb ≠ g) (h1 : ∀ u ∈ xs, u.oneCell' = true) (h2 : ∀ u ∈ news, u.oneCell' = true) :
    Calls Tryz.prog 58 #[.slice (some ⟨g, 0, none⟩) n cap, .int .i64 (i : Int), .slice (some ⟨vb, 0, none⟩) 1 1] w (RetIns w base 3 1 (.slice (some ⟨g, 0, none⟩) n cap) (n + 1) (xs.take (i * 1) ++ news ++ xs.drop (i * 1))) := by
  obtain ⟨cur, hg, hb, hnc, hcm, hcl, htk, hxl⟩ := own_row h
  have hns : (n + 1) * 1 ≤ cur.length := by rw [hcl]; exact Nat.mul_le_mul_right _ hroom
  have hD : (xs.drop (i * 1)).length = (n - i) * 1 := by rw [List.length_drop, hxl]; omega
  obtain ⟨D, hDD⟩ : ∃ D, D = xs.drop (i * 1) := ⟨_, rfl⟩
  rw [← hDD] at hD ⊢
  have hsz : (Tryz.prog.info? 3).map (·.size) = some 1 := by
    obtain ⟨i0, hi0, hz0, hzs, hzb⟩ := info_parts inf_i
    rw [hi0]; simp [hzs]
  have hxc : ∀ t u, xs[t]? = some u → w.cell? ⟨g, t, none⟩ = some u := by
    intro t u hu
    have ht := (List.getElem?_eq_some_iff.1 hu).1
    rw [hxl] at ht
    rw [row_cell hg (by omega)]
    rw [← htk, List.getElem?_take_of_lt (by omega), List.getElem?_eq_getElem (by omega)] at hu
    exact hu
  have hov : ∀ lb cb, (callFunc 92 #[.slice (some ⟨vb, 0, none⟩) 1 1, .slice (some ⟨g, i + 1, none⟩) lb cb]).run Tryz.prog w = .ok (.value (.bool false)) w := fun lb cb => by
    have hsa : w.shape? vb = some (3, 1) := by
      unfold Bk at hk
      simp [World.shape?, hk, hl]
    have hsb : w.shape? g = some (3, cap * 1) := by simp [World.shape?, hg, hcl]
    rw [run_callFunc_extern Tryz.func92 (by kernel_rfl) (by kernel_rfl) (by kernel_rfl) (e := Extern.SlicesOverlaps.overlaps #[22, 22] #[4]) (by kernel_rfl),
      Lib.run_overlaps_apart w 22 4 3 Tryz.underlying22 1 Tryz.sizeOf3 ⟨vb, 0, none⟩ ⟨g, i + 1, none⟩ 1 1 lb cb hvb 3 3 1 (cap * 1) hsa hsb (by omega) (hk.f 0) (hk.f 1)]
    rfl
  have hcp1 : ∀ ty dc sc, (Builtin.copy_ #[22, 22] ty #[.slice (some ⟨g, i + 1, none⟩) (n - i) dc, .slice (some ⟨g, i, none⟩) (n + 1 - i) sc]).run Tryz.prog w.drew = .ok (goInt ((n - i : Nat) : Int)) (w.drew.setCells g (i + 1) D) := fun ty dc sc =>
    run_copy_k w.drew _ _ ty 3 1 g (i + 1) (n - i) dc ⟨g, i, none⟩ (n + 1 - i) sc D Tryz.underlying22 hsz (n - i) (by simp only [Nat.min_def]; split <;> omega) hD
      (fun t u hu => by
        rw [Addr.add_lit]
        rw [hDD, List.getElem?_drop] at hu
        have := hxc _ u hu
        rw [show i + t = i * 1 + t by omega]
        exact this)
      (fun t ht => by rw [hD] at ht; exact row_some (w := w.drew) hg (by omega)) (fun t _ => row_froz (w := w.drew) hg _) (fun u hu => h1 u (by rw [hDD] at hu; exact List.mem_of_mem_drop hu))
  obtain ⟨W1, hW1⟩ : ∃ W1, W1 = w.drew.setCells g (i + 1) D := ⟨_, rfl⟩
  have hg1 : W1.heap[g]? = some (.cells (layC cur (i + 1) D).toArray 3 (0, 0)) := by
    rw [hW1]
    exact heap_setCells D _ cur w.drew hg (by rw [hD]; omega)
  have hsl : (layC cur (i + 1) D).length = cur.length := layC_len (by rw [hD]; omega)
  have hcp2 : ∀ ty dc, (Builtin.copy_ #[22, 22] ty #[.slice (some ⟨g, i, none⟩) (n + 1 - i) dc, .slice (some ⟨vb, 0, none⟩) 1 1]).run Tryz.prog W1 = .ok (goInt ((1 : Nat) : Int)) (W1.setCells g (i) news) := fun ty dc =>
    run_copy_k W1 _ _ ty 3 1 g (i) (n + 1 - i) dc ⟨vb, 0, none⟩ 1 1 news Tryz.underlying22 hsz 1 (by simp only [Nat.min_def]; split <;> omega) (by rw [hl])
      (fun t u hu => by
        have hkv : W1.heap[vb]? = some (.cells news.toArray 3 (0, 0)) := by rw [hW1, heap_setCells_other g vb hvb]; exact hk
        exact World.news_of_block hkv t u (by simpa using hu))
      (fun t ht => by rw [hl] at ht; exact row_some hg1 (by rw [hsl]; omega)) (fun t _ => row_froz hg1 _) h2
  have HR := Lib.hid (show RetIns w base 3 1 (.slice (some ⟨g, 0, none⟩) n cap) (n + 1) (xs.take (i * 1) ++ news ++ D) (.returned (.slice (some ⟨g, 0, none⟩) (n + 1) cap)) (W1.setCells g (i) news) from by
    refine ⟨_, rfl, ?_, ?_, .inl rfl⟩
    · have hg2 := heap_setCells news (i) _ W1 hg1 (by rw [hsl, hl]; omega)
      have ho := own_of (n := n + 1) (size := 1) hg2 hb hroom hcm (by rw [layC_len (by rw [hsl, hl]; omega), hsl, hcl])
      have e := ins_list cur D news (i) 1 (by omega) hl
      have e2 : (i) + 1 = i + 1 := by omega
      rw [e2] at e
      have e3 : (i + 1) + D.length = (n + 1) * 1 := by rw [hD]; omega
      rw [e3] at e
      rw [e] at ho
      have e4 : cur.take (i) = xs.take (i * 1) := by rw [← htk, List.take_take, Nat.min_eq_left (by omega), Nat.mul_one]
      rw [e4] at ho
      exact ho
    · rw [hW1]
      exact grown_trans (grown_trans (grown_drew (grown_refl w _)) (grown_setCells _ _ _ _)) (grown_setCells _ _ _ _))
  rw [← hW1] at hcp1
  have hcm' : cap ≤ 9223372036854775807 := by unfold maxLen at hcm; omega
  have hz2 : ¬ ((i : Int) = (n : Int)) := by omega
  have hw1 : IntKind.i64.wrap ((i : Int) + 1) = (i : Int) + 1 := by rw [IntKind.wrap_i64]; omega
  have hb1 : (0 : Int) ≤ (i : Int) + 1 := by omega
  have hin : i ≤ n := by omega
  have htn : ((i : Int) + 1).toNat = i + 1 := by omega
  have hb2 : ¬ (cap = i + 1) := by omega
  have hb3 : (i : Int) ≤ (n : Int) + 1 := by omega
  have hb4 : ¬ (cap = i) := by omega
  have hb5 : ¬ ((cap : Int) < (n : Int) + 1) := by omega
  have hb6 : (i : Int) + 1 ≤ (n : Int) + 1 := by omega
  clear hW1 hg1 hsl hg hcl htk hxl hns h hcm hb h1 hk hl h2 hxc hD hDD
  go_enter Tryz.func58, Tryz.ntmps58
  go_wp2_with (simp only [hov])
  go_region_law (refine step_copy_runI rfl _ _ 22 22 rfl _ _ (by simp [Act.eval, Act.put]) (by simp [Act.eval, Act.put]) (hcp1 _ _ _) ?_)
  go_wp2_with (at_builtin; refine wpList_copy_runI _ rfl _ _ 22 22 rfl _ _ rfl rfl (hcp2 _ _) ?_)
  go_ret
  exact HR.out
set_option maxHeartbeats 4000000 in
set_option maxRecDepth 1000000 in
theorem insc_i {w : World} {base g n cap : Nat} {xs : List Value} (h : w.ownsRow base 3 1 (.slice (some ⟨g, 0, none⟩) n cap) n xs) (i : Nat) (hi : i < n) (hn : n ≤ 5000) (hroom : cap < n + 1) (hbs : base ≤ w.heap.size) {vb : Nat} {news : List Value} (hk : Bk w vb news.toArray 3) (hl : news.length = 1) (h1 : ∀ u ∈ xs, u.oneCell' = true) (h2 : ∀ u ∈ news, u.oneCell' = true) :
    Calls Tryz.prog 58 #[.slice (some ⟨g, 0, none⟩) n cap, .int .i64 (i : Int), .slice (some ⟨vb, 0, none⟩) 1 1] w (RetIns w base 3 1 (.slice (some ⟨g, 0, none⟩) n cap) (n + 1) (xs.take (i * 1) ++ news ++ xs.drop (i * 1))) := by
  obtain ⟨cur, hg, hb, hnc, hcm, hcl, htk, hxl⟩ := own_row h
  have hns : n * 1 ≤ cur.length := by rw [hcl]; exact Nat.mul_le_mul_right _ hnc
  have hD : (xs.drop (i * 1)).length = (n - i) * 1 := by rw [List.length_drop, hxl]; omega
  obtain ⟨D, hDD⟩ : ∃ D, D = xs.drop (i * 1) := ⟨_, rfl⟩
  rw [← hDD] at hD ⊢
  obtain ⟨T, hTT⟩ : ∃ T, T = xs.take (i * 1) := ⟨_, rfl⟩
  have hT : T.length = i * 1 := by rw [hTT, List.length_take, hxl]; omega
  rw [← hTT]
  obtain ⟨i0, hi0, hz0, hzs, hzb⟩ := info_parts inf_i
  have hsz : (Tryz.prog.info? 3).map (·.size) = some 1 := by rw [hi0]; simp [hzs]
  have hxc : ∀ t u, xs[t]? = some u → w.cell? ⟨g, t, none⟩ = some u := by
    intro t u hu
    have ht := (List.getElem?_eq_some_iff.1 hu).1
    rw [hxl] at ht
    rw [row_cell hg (by omega)]
    rw [← htk, List.getElem?_take_of_lt (by omega), List.getElem?_eq_getElem (by omega)] at hu
    exact hu
  have hgw : g < w.heap.size := (h.lt g rfl).2
  have hvw : vb < w.heap.size := hk.lt
  have hold : (Builtin.firstCells i0.size i (.slice (some ⟨g, 0, none⟩) i cap)).run Tryz.prog w.drew = .ok T.toArray w.drew := by
    rw [hzs]
    exact run_firstCells_some w.drew 1 i ⟨g, 0, none⟩ i cap T hT (fun t u hu => by
      rw [Addr.add_lit, Nat.zero_add]
      rw [hTT, List.getElem?_take] at hu
      split at hu
      · exact hxc t u hu
      · cases hu)
  have hkk : (n : Int) + 1 - (i : Int) = ((n + 1 - i : Nat) : Int) := by omega
  have hik : i + (n + 1 - i) = n + 1 := by omega
  obtain ⟨G, hG⟩ : ∃ G, G = grownCap w (n + 1) cap 3 := ⟨_, rfl⟩
  obtain ⟨ROW, hROW⟩ : ∃ ROW : List Value, ROW = (T.toArray ++ Builtin.zeroCells (Value.cells (.int .i64 0)) (n + 1 - i) ++ Builtin.zeroCells (Value.cells (.int .i64 0)) (G - (n + 1))).toList := ⟨_, rfl⟩
  have hrz : ∀ ty, (Builtin.append_ #[22, 3] ty #[.slice (some ⟨g, 0, none⟩) i cap, .int .i64 ((n : Int) + 1 - (i : Int))]).run Tryz.prog w =
      .ok (.slice (some ⟨w.heap.size, 0, none⟩) (n + 1) G) (w.drew.alloc (.cells ROW.toArray 3)) := fun ty => by
    have h := Lib.run_append_grow_zeros w 22 3 ty 3 i0 _ .i64 .i64 Tryz.underlying22 Tryz.underlying3 hi0 hz0 (some ⟨g, 0, none⟩) i cap T hold (n + 1 - i) (by omega) (by omega) (by omega) (by omega) (by rw [hzb]; omega) (by rw [hzb, hik]; exact growslice_fits hroom (by omega))
    rw [hik, ← hG] at h
    rw [hkk, hROW, Array.toArray_toList]
    exact h
  have hGn : n + 1 ≤ G := by rw [hG]; exact grownCap_ge w _ _ _
  have hGm : G ≤ maxLen := by rw [hG]; exact grownCap_le_maxLen w (n + 1) cap 3 (by unfold maxLen; omega)
  have hzc : (Value.cells (.int .i64 0)).size = 1 := rfl
  have hRl : ROW.length = G * 1 := by
    rw [hROW]
    simp only [Array.length_toList, Array.size_append, Builtin.zeroCells, Array.size_map, Array.size_range, List.size_toArray, hzc, hT]
    omega
  have hRt : ROW.take (i * 1) = T := by
    rw [hROW, Array.toList_append, Array.toList_append, List.append_assoc, List.take_append_of_le_length (by simp [hT]), List.take_of_length_le (by simp [hT])]
  obtain ⟨W1, hW1⟩ : ∃ W1, W1 = w.drew.alloc (.cells ROW.toArray 3) := ⟨_, rfl⟩
  have hr1 : W1.heap[w.heap.size]? = some (.cells ROW.toArray 3 (0, 0)) := by rw [hW1]; exact heap_alloc_new w.drew _
  have hOld : ∀ b, b < w.heap.size → W1.heap[b]? = w.heap[b]? := fun b hb' => by rw [hW1]; exact alloc_old w.drew _ hb'
  have hcpA : ∀ ty dc, (Builtin.copy_ #[22, 22] ty #[.slice (some ⟨w.heap.size, i, none⟩) (n + 1 - i) dc, .slice (some ⟨vb, 0, none⟩) 1 1]).run Tryz.prog W1 = .ok (goInt ((1 : Nat) : Int)) (W1.setCells w.heap.size (i) news) := fun ty dc =>
    run_copy_k W1 _ _ ty 3 1 w.heap.size (i) (n + 1 - i) dc ⟨vb, 0, none⟩ 1 1 news Tryz.underlying22 hsz 1 (by simp only [Nat.min_def]; split <;> omega) (by rw [hl])
      (fun t u hu => by
        have hkv : W1.heap[vb]? = some (.cells news.toArray 3 (0, 0)) := by rw [hOld vb hvw]; exact hk
        exact World.news_of_block hkv t u (by simpa using hu))
      (fun t ht => by rw [hl] at ht; exact row_some hr1 (by rw [hRl]; omega)) (fun t _ => row_froz hr1 _) h2
  obtain ⟨W2, hW2⟩ : ∃ W2, W2 = W1.setCells w.heap.size (i) news := ⟨_, rfl⟩
  have hr2 : W2.heap[w.heap.size]? = some (.cells (layC ROW (i) news).toArray 3 (0, 0)) := by
    rw [hW2]
    exact heap_setCells news _ ROW W1 hr1 (by rw [hRl, hl]; omega)
  have hsl2 : (layC ROW (i) news).length = ROW.length := layC_len (by rw [hRl, hl]; omega)
  have hgW2 : W2.heap[g]? = some (.cells cur.toArray 3 (0, 0)) := by rw [hW2, heap_setCells_other _ g (by omega), hOld g hgw]; exact hg
  have hcpB : ∀ ty dc sc, (Builtin.copy_ #[22, 22] ty #[.slice (some ⟨w.heap.size, i + 1, none⟩) (n - i) dc, .slice (some ⟨g, i, none⟩) (n - i) sc]).run Tryz.prog W2.drew = .ok (goInt ((n - i : Nat) : Int)) (W2.drew.setCells w.heap.size (i + 1) D) := fun ty dc sc =>
    run_copy_k W2.drew _ _ ty 3 1 w.heap.size (i + 1) (n - i) dc ⟨g, i, none⟩ (n - i) sc D Tryz.underlying22 hsz (n - i) (by simp only [Nat.min_def]; split <;> omega) hD
      (fun t u hu => by
        rw [Addr.add_lit]
        rw [hDD, List.getElem?_drop] at hu
        have ht := (List.getElem?_eq_some_iff.1 hu).1
        rw [hxl] at ht
        have e := row_cell (w := W2.drew) hgW2 (j := i * 1 + t) (by omega)
        rw [show i + t = i * 1 + t by omega, e]
        rw [← htk, List.getElem?_take_of_lt (by omega), List.getElem?_eq_getElem (by omega)] at hu
        exact hu)
      (fun t ht => by rw [hD] at ht; exact row_some (w := W2.drew) hr2 (by rw [hsl2, hRl]; omega)) (fun t _ => row_froz (w := W2.drew) hr2 _) (fun u hu => h1 u (by rw [hDD] at hu; exact List.mem_of_mem_drop hu))
  have HR := Lib.hid (show RetIns w base 3 1 (.slice (some ⟨g, 0, none⟩) n cap) (n + 1) (T ++ news ++ D) (.returned (.slice (some ⟨w.heap.size, 0, none⟩) (n + 1) G)) (W2.drew.setCells w.heap.size (i + 1) D) from by
    refine ⟨_, rfl, ?_, ?_, .inr fun k hk => by cases hk; exact Nat.le_refl _⟩
    · have hr3 := heap_setCells D (i + 1) _ W2.drew hr2 (by rw [hsl2, hRl, hD]; omega)
      have ho := own_of (n := n + 1) (size := 1) hr3 hbs hGn hGm (by rw [layC_len (by rw [hsl2, hRl, hD]; omega), hsl2, hRl])
      have e : (layC (layC ROW (i) news) (i + 1) D).take ((n + 1) * 1) = T ++ news ++ D := by
        have e1 : (layC ROW (i) news).take (i + 1) = T ++ news := by
          unfold layC
          rw [List.take_append_of_le_length (by rw [List.length_append, List.length_take, hl, hRl]; omega), List.take_of_length_le (by rw [List.length_append, List.length_take, hl]; omega), show i = i * 1 by omega, hRt]
        have e2 : layC (layC ROW (i) news) (i + 1) D = (layC ROW (i) news).take (i + 1) ++ D ++ (layC ROW (i) news).drop (i + 1 + D.length) := rfl
        rw [e2, e1, List.take_append_of_le_length (by rw [List.length_append, List.length_append, hT, hl, hD]; omega), List.take_of_length_le (by rw [List.length_append, List.length_append, hT, hl, hD]; omega)]
      rw [e] at ho
      exact ho
    · have k1 : w.grownBy W1 (some g) := by rw [hW1]; exact ⟨rfl, rfl, rfl, by simp, fun b hb' _ => alloc_old w.drew _ hb'⟩
      have k2 : w.grownBy W2 (some g) := by rw [hW2]; exact grown_new k1 (Nat.le_refl _) (grown_setCells _ _ _ _)
      exact grown_new (grown_drew k2) (Nat.le_refl _) (grown_setCells _ _ _ _))
  rw [← hW2] at hcpA
  have hrz' := hrz
  rw [← hW1] at hrz'
  have hG63 : G ≤ 9223372036854775807 := by unfold maxLen at hGm; omega
  have hz2 : ¬ ((i : Int) = (n : Int)) := by omega
  have hw1 : IntKind.i64.wrap ((i : Int) + 1) = (i : Int) + 1 := by rw [IntKind.wrap_i64]; omega
  have hb1 : (0 : Int) ≤ (i : Int) + 1 := by omega
  have hin : i ≤ n := by omega
  have htn : ((i : Int) + 1).toNat = i + 1 := by omega
  have hGi : ¬ (G = i) := by omega
  have hGim : ¬ (G = i + 1) := by omega
  have hci : ¬ (cap = i) := by omega
  have hz3 : (cap : Int) < (n : Int) + 1 := by omega
  have hb3 : (i : Int) ≤ (n : Int) + 1 := by omega
  have hb6 : (i : Int) + 1 ≤ (n : Int) + 1 := by omega
  obtain ⟨H, hH⟩ : ∃ H, H = w.heap.size := ⟨_, rfl⟩
  rw [← hH] at hcpA hcpB HR hrz'
  have HRZ := Lib.hid hrz'
  clear hrz hrz' hW1 hW2 hr1 hr2 hsl2 hgW2 hOld hRl hRt hROW hG hkk hik hold hg hcl htk hxl hns h hcm hb h1 hk hl h2 hxc hD hDD hT hTT hgw hvw hH hbs hGm hzc
  go_enter Tryz.func58, Tryz.ntmps58
  go_wp2_with (first
    | (at_builtin; refine Lib.wpList_append_run _ rfl _ _ _ _ rfl _ _ rfl rfl _ _ (HRZ.out _) ?_))
  go_region_law (refine step_copy_runI rfl _ _ 22 22 rfl _ _ (by simp [Act.eval, Act.put]) (by simp [Act.eval, Act.put]) (hcpB _ _ _) ?_)
  go_wp2
  go_ret
  exact HR.out
theorem ins_i {w : World} {base n : Nat} {v : Value} {xs : List Value} (h : w.ownsRow base 3 1 v n xs) (i : Nat) (hi : i ≤ n) (hn : n ≤ 5000) (hbs : base ≤ w.heap.size) {vb : Nat} {news : List Value} (hk : Bk w vb news.toArray 3) (hl : news.length = 1) (hvb : v.ownBlock ≠ some vb) (h1 : ∀ u ∈ xs, u.oneCell' = true) (h2 : ∀ u ∈ news, u.oneCell' = true) :
    Calls Tryz.prog 58 #[v, .int .i64 (i : Int), .slice (some ⟨vb, 0, none⟩) 1 1] w (RetIns w base 3 1 v (n + 1) (xs.take (i * 1) ++ news ++ xs.drop (i * 1))) := by
  rcases Nat.lt_or_eq_of_le hi with g | rfl
  · rcases h.form' with ⟨-, h0⟩ | ⟨g', cap, rfl, -, -⟩
    · omega
    · by_cases hc : n + 1 ≤ cap
      · exact insb_i h i g hc hk hl (fun e => hvb (by rw [e]; rfl)) h1 h2
      · exact insc_i h i g hn (by omega) hbs hk hl h1 h2
  · have hx := h.1
    rw [List.take_of_length_le (by omega), List.drop_of_length_le (by omega), List.append_nil]
    exact inse_i h hn hbs hk hl h2
end Go.Proofs.YtpjikijfendmhaaGreat
