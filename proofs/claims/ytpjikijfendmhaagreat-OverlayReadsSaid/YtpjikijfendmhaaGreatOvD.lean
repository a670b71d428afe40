/-
  slices.Delete of one element of a row that the call has made, at entries and ints. Nothing else that was there turns.
-/
import Derived.Test.YtpjikijfendmhaaGreatOvB
import Derived.Deep.RegionLaw
namespace Go.Proofs.YtpjikijfendmhaaGreat
open Go.RowKit

def RetDel (w : World) (base : Nat) (e : TypeId) (s g cap n : Nat) (xs : List Value) (x : Ending) (w' : World) : Prop :=
  x = .returned (.slice (some ⟨g, 0, none⟩) n cap) ∧ w'.ownsRow base e s (.slice (some ⟨g, 0, none⟩) n cap) n xs ∧ w.grownBy w' (some g)

/-! At entries. -/
theorem inf_j : (Tryz.prog.info? 42).map (fun i => (i.zero, i.size, i.bytes)) = some (some (.agg #[.int .i64 0, .int .i64 0, .int .i64 0]), 3, 24) := by kernel_rfl
theorem zer_j : ∀ w, (zeroValue 42).run Tryz.prog w = .ok (.agg #[.int .i64 0, .int .i64 0, .int .i64 0]) w := fun w => by kernel_rfl
theorem zone_j : ∀ v ∈ (Value.cells (.agg #[.int .i64 0, .int .i64 0, .int .i64 0])).toList, v.oneCell' = true := by
  intro v hv
  simp [Value.cells] at hv
  first
    | (subst hv; rfl)
    | (rcases hv with rfl | rfl | rfl | rfl | rfl | rfl <;> rfl)
    | (rcases hv with rfl | rfl | rfl | rfl | rfl <;> rfl)
    | (rcases hv with rfl | rfl | rfl <;> rfl)
    | (rcases hv with rfl | rfl <;> rfl)
set_option maxHeartbeats 4000000 in
set_option maxRecDepth 1000000 in
theorem delj_j {w : World} {base g n cap : Nat} {xs : List Value} (h : w.ownsRow base 42 3 (.slice (some ⟨g, 0, none⟩) n cap) n xs) (i j : Nat) (hj : j = i + 1) (hi : i < n) (h1 : ∀ u ∈ xs, u.oneCell' = true) :
    Calls Tryz.prog 57 #[.slice (some ⟨g, 0, none⟩) n cap, .int .i64 (i : Int), .int .i64 (j : Int)] w (RetDel w base 42 3 g cap (n - 1) (xs.take (i * 3) ++ xs.drop (j * 3))) := by
  obtain ⟨cur, hg, hb, hnc, hcm, hcl, htk, hxl⟩ := own_row h
  obtain ⟨i0, hi0, hz0, hzs, hzb⟩ := info_parts inf_j
  have hns : n * 3 ≤ cur.length := by rw [hcl]; exact Nat.mul_le_mul_right _ hnc
  obtain ⟨news, hnews⟩ : ∃ news, news = xs.drop (j * 3) := ⟨_, rfl⟩
  have hlen : news.length = (n - j) * 3 := by rw [hnews, List.length_drop, hxl]; omega
  have hget : ∀ t u, news[t]? = some u → w.cell? ⟨g, j * 3 + t, none⟩ = some u := by
    intro t u hu
    rw [hnews, List.getElem?_drop] at hu
    have ht := (List.getElem?_eq_some_iff.1 hu).1
    rw [hxl] at ht
    rw [row_cell hg (by omega)]
    rw [← htk, List.getElem?_take_of_lt (by omega), List.getElem?_eq_getElem (by omega)] at hu
    exact hu
  obtain ⟨Ad, hA, hsrc⟩ : ∃ Ad : Addr, (if cap = j then some (⟨g, 0, none⟩ : Addr) else some ⟨g, j * 3, none⟩) = some Ad ∧ Hid (∀ t u, news[t]? = some u → w.drew.cell? (Ad.add t) = some u) := by
    by_cases hc : cap = j
    · refine ⟨⟨g, 0, none⟩, by simp [hc], fun t u hu => ?_⟩
      have h0 : news.length = 0 := by rw [hlen, show n - j = 0 by omega, Nat.zero_mul]
      rw [List.length_eq_zero_iff.1 h0] at hu
      simp at hu
    · refine ⟨⟨g, j * 3, none⟩, by simp [hc], fun t u hu => ?_⟩
      rw [Addr.add_lit]
      exact hget t u hu
  have s1 : Hid (news.length = (n - j) * 3) := hlen
  have s2 : Hid (∀ u ∈ news, u.oneCell' = true) := fun u hu => h1 u (by rw [hnews] at hu; exact List.mem_of_mem_drop hu)
  have s3 : Hid (∀ t, t < news.length → (w.drew.cell? ⟨g, 0 + i * 3 + t, none⟩).isSome = true ∧ w.drew.frozen? ⟨g, 0 + i * 3 + t, none⟩ = false) := by
    intro t ht
    rw [hlen] at ht
    exact ⟨row_some (w := w.drew) hg (by omega), row_froz (w := w.drew) hg _⟩
  obtain ⟨W1, hW1⟩ : ∃ W1, W1 = w.drew.setCells g (0 + i * 3) news := ⟨_, rfl⟩
  have hg1 : W1.heap[g]? = some (.cells (layC cur (0 + i * 3) news).toArray 42 (0, 0)) := by
    rw [hW1]
    exact heap_setCells news _ cur w.drew hg (by rw [hlen]; omega)
  have hsl : (layC cur (0 + i * 3) news).length = cur.length := layC_len (by rw [hlen]; omega)
  obtain ⟨zs, hzl, hcl2⟩ := (fun ty => (run_clear_k (P := Tryz.prog) W1 25 42 ty (.agg #[.int .i64 0, .int .i64 0, .int .i64 0]) 3 Tryz.underlying25 zer_j rfl zone_j g ((n - 1) * 3) 1 (cap - (n - 1)) (by omega)
    (fun t ht => row_some hg1 (by rw [hsl]; omega)) (fun t ht => row_froz hg1 _)) : ∀ ty, ∃ zs : List Value, zs.length = 1 * 3 ∧ (Builtin.clear_ #[25] ty #[.slice (some ⟨g, (n - 1) * 3, none⟩) 1 (cap - (n - 1))]).run Tryz.prog W1 = .ok (.tuple #[]) (W1.setCells g ((n - 1) * 3) zs)) 0
  have HR := Lib.hid (show RetDel w base 42 3 g cap (n - 1) (xs.take (i * 3) ++ xs.drop (j * 3)) (.returned (.slice (some ⟨g, 0, none⟩) (n - 1) cap)) (W1.setCells g ((n - 1) * 3) zs) from by
    refine ⟨rfl, ?_, ?_⟩
    · have hg2 := heap_setCells zs ((n - 1) * 3) _ W1 hg1 (by rw [hsl, hzl]; omega)
      have ho := own_of (n := n - 1) (size := 3) hg2 hb (by omega) hcm (by rw [layC_len (by rw [hsl, hzl]; omega), hsl, hcl])
      have e : (layC (layC cur (0 + i * 3) news) ((n - 1) * 3) zs).take ((n - 1) * 3) = xs.take (i * 3) ++ xs.drop (j * 3) := by
        unfold layC
        rw [List.append_assoc, List.take_append_of_le_length (by rw [List.length_take, List.length_append, List.length_append, List.length_take, List.length_drop, hlen]; omega), List.take_take, Nat.min_self, Nat.zero_add,
          List.take_append_of_le_length (by rw [List.length_append, List.length_take, hlen]; omega), List.take_of_length_le (by rw [List.length_append, List.length_take, hlen]; omega), hnews, ← htk, List.take_take, Nat.min_eq_left (by omega)]
      rw [e] at ho
      exact ho
    · rw [hW1]
      exact grown_trans (grown_trans (grown_drew (grown_refl w _)) (grown_setCells _ _ _ _)) (grown_setCells _ _ _ _))
  have hW : Hid (W1 = w.drew.setCells g (0 + i * 3) news) := hW1
  have hic : i ≤ cap := by omega
  have hjc : j ≤ cap := by omega
  have hij : i ≤ j := by omega
  have hne : ¬ (i = j) := by omega
  have hjn : j ≤ n := by omega
  have hcm' : cap ≤ 9223372036854775807 := by unfold maxLen at hcm; omega
  have HCL := Lib.hid hcl2
  have e1 : n - (n - 1) = 1 := by omega
  have e3 : ¬ (cap = n - 1) := by omega
  have e4 : n - 1 ≤ n := by omega
  have e5 : ((n : Int) - 1) ≤ n := by omega
  have e2 : i + (n - j) = n - 1 := by omega
  have HJ := Lib.hid hj
  clear hj hW1 hg1 hsl hget hnews hlen hg hcl htk hxl hns h hcm hcl2 hzl hb h1
  go_enter Tryz.func57, Tryz.ntmps57
  go_wp2_with fail
  go_region_law (refine step_append_room rfl (.tmp 22) (.tmp 25) 25 rfl 42 i0 3 Tryz.underlying25 hi0 hzs g 0 i cap (by simp [Act.eval, Act.put]) Ad (n - j) (cap - j) news (by simp [Act.eval, Act.put]) s1.out hsrc.out s2.out (by omega) s3.out ?_; rw [← hW.out])
  have hcl3 := HCL.out
  go_wp2
  go_ret
  have hr := HR.out
  exact hr
theorem del_j {w : World} {base g n cap : Nat} {xs : List Value} (h : w.ownsRow base 42 3 (.slice (some ⟨g, 0, none⟩) n cap) n xs) (i : Nat) (hi : i < n) (h1 : ∀ u ∈ xs, u.oneCell' = true) :
    Calls Tryz.prog 57 #[.slice (some ⟨g, 0, none⟩) n cap, .int .i64 (i : Int), .int .i64 ((i : Int) + 1)] w (RetDel w base 42 3 g cap (n - 1) (xs.take (i * 3) ++ xs.drop ((i + 1) * 3))) := delj_j h i (i + 1) rfl hi h1

/-! At ints. -/
theorem inf_i : (Tryz.prog.info? 3).map (fun i => (i.zero, i.size, i.bytes)) = some (some (.int .i64 0), 1, 8) := by kernel_rfl
theorem zer_i : ∀ w, (zeroValue 3).run Tryz.prog w = .ok (.int .i64 0) w := fun w => by kernel_rfl
theorem zone_i : ∀ v ∈ (Value.cells (.int .i64 0)).toList, v.oneCell' = true := by
  intro v hv
  simp [Value.cells] at hv
  first
    | (subst hv; rfl)
    | (rcases hv with rfl | rfl | rfl | rfl | rfl | rfl <;> rfl)
    | (rcases hv with rfl | rfl | rfl | rfl | rfl <;> rfl)
    | (rcases hv with rfl | rfl | rfl <;> rfl)
    | (rcases hv with rfl | rfl <;> rfl)
set_option maxHeartbeats 4000000 in
set_option maxRecDepth 1000000 in
theorem delj_i {w : World} {base g n cap : Nat} {xs : List Value} (h : w.ownsRow base 3 1 (.slice (some ⟨g, 0, none⟩) n cap) n xs) (i j : Nat) (hj : j = i + 1) (hi : i < n) (h1 : ∀ u ∈ xs, u.oneCell' = true) :
    Calls Tryz.prog 52 #[.slice (some ⟨g, 0, none⟩) n cap, .int .i64 (i : Int), .int .i64 (j : Int)] w (RetDel w base 3 1 g cap (n - 1) (xs.take (i * 1) ++ xs.drop (j * 1))) := by
  obtain ⟨cur, hg, hb, hnc, hcm, hcl, htk, hxl⟩ := own_row h
  obtain ⟨i0, hi0, hz0, hzs, hzb⟩ := info_parts inf_i
  have hns : n * 1 ≤ cur.length := by rw [hcl]; exact Nat.mul_le_mul_right _ hnc
  obtain ⟨news, hnews⟩ : ∃ news, news = xs.drop (j * 1) := ⟨_, rfl⟩
  have hlen : news.length = (n - j) * 1 := by rw [hnews, List.length_drop, hxl]; omega
  have hget : ∀ t u, news[t]? = some u → w.cell? ⟨g, j * 1 + t, none⟩ = some u := by
    intro t u hu
    rw [hnews, List.getElem?_drop] at hu
    have ht := (List.getElem?_eq_some_iff.1 hu).1
    rw [hxl] at ht
    rw [row_cell hg (by omega)]
    rw [← htk, List.getElem?_take_of_lt (by omega), List.getElem?_eq_getElem (by omega)] at hu
    exact hu
  obtain ⟨Ad, hA, hsrc⟩ : ∃ Ad : Addr, (if cap = j then some (⟨g, 0, none⟩ : Addr) else some ⟨g, j * 1, none⟩) = some Ad ∧ Hid (∀ t u, news[t]? = some u → w.drew.cell? (Ad.add t) = some u) := by
    by_cases hc : cap = j
    · refine ⟨⟨g, 0, none⟩, by simp [hc], fun t u hu => ?_⟩
      have h0 : news.length = 0 := by rw [hlen, show n - j = 0 by omega, Nat.zero_mul]
      rw [List.length_eq_zero_iff.1 h0] at hu
      simp at hu
    · refine ⟨⟨g, j * 1, none⟩, by simp [hc], fun t u hu => ?_⟩
      rw [Addr.add_lit]
      exact hget t u hu
  try simp only [Nat.mul_one] at hA
  have s1 : Hid (news.length = (n - j) * 1) := hlen
  have s2 : Hid (∀ u ∈ news, u.oneCell' = true) := fun u hu => h1 u (by rw [hnews] at hu; exact List.mem_of_mem_drop hu)
  have s3 : Hid (∀ t, t < news.length → (w.drew.cell? ⟨g, 0 + i * 1 + t, none⟩).isSome = true ∧ w.drew.frozen? ⟨g, 0 + i * 1 + t, none⟩ = false) := by
    intro t ht
    rw [hlen] at ht
    exact ⟨row_some (w := w.drew) hg (by omega), row_froz (w := w.drew) hg _⟩
  obtain ⟨W1, hW1⟩ : ∃ W1, W1 = w.drew.setCells g (0 + i * 1) news := ⟨_, rfl⟩
  have hg1 : W1.heap[g]? = some (.cells (layC cur (0 + i * 1) news).toArray 3 (0, 0)) := by
    rw [hW1]
    exact heap_setCells news _ cur w.drew hg (by rw [hlen]; omega)
  have hsl : (layC cur (0 + i * 1) news).length = cur.length := layC_len (by rw [hlen]; omega)
  obtain ⟨zs, hzl, hcl2⟩ := (fun ty => (run_clear_k (P := Tryz.prog) W1 22 3 ty (.int .i64 0) 1 Tryz.underlying22 zer_i rfl zone_i g ((n - 1) * 1) 1 (cap - (n - 1)) (by omega)
    (fun t ht => row_some hg1 (by rw [hsl]; omega)) (fun t ht => row_froz hg1 _)) : ∀ ty, ∃ zs : List Value, zs.length = 1 * 1 ∧ (Builtin.clear_ #[22] ty #[.slice (some ⟨g, (n - 1) * 1, none⟩) 1 (cap - (n - 1))]).run Tryz.prog W1 = .ok (.tuple #[]) (W1.setCells g ((n - 1) * 1) zs)) 0
  have HR := Lib.hid (show RetDel w base 3 1 g cap (n - 1) (xs.take (i * 1) ++ xs.drop (j * 1)) (.returned (.slice (some ⟨g, 0, none⟩) (n - 1) cap)) (W1.setCells g ((n - 1) * 1) zs) from by
    refine ⟨rfl, ?_, ?_⟩
    · have hg2 := heap_setCells zs ((n - 1) * 1) _ W1 hg1 (by rw [hsl, hzl]; omega)
      have ho := own_of (n := n - 1) (size := 1) hg2 hb (by omega) hcm (by rw [layC_len (by rw [hsl, hzl]; omega), hsl, hcl])
      have e : (layC (layC cur (0 + i * 1) news) ((n - 1) * 1) zs).take ((n - 1) * 1) = xs.take (i * 1) ++ xs.drop (j * 1) := by
        unfold layC
        rw [List.append_assoc, List.take_append_of_le_length (by rw [List.length_take, List.length_append, List.length_append, List.length_take, List.length_drop, hlen]; omega), List.take_take, Nat.min_self, Nat.zero_add,
          List.take_append_of_le_length (by rw [List.length_append, List.length_take, hlen]; omega), List.take_of_length_le (by rw [List.length_append, List.length_take, hlen]; omega), hnews, ← htk, List.take_take, Nat.min_eq_left (by omega)]
      rw [e] at ho
      exact ho
    · rw [hW1]
      exact grown_trans (grown_trans (grown_drew (grown_refl w _)) (grown_setCells _ _ _ _)) (grown_setCells _ _ _ _))
  have hW : Hid (W1 = w.drew.setCells g (0 + i * 1) news) := hW1
  have hic : i ≤ cap := by omega
  have hjc : j ≤ cap := by omega
  have hij : i ≤ j := by omega
  have hne : ¬ (i = j) := by omega
  have hjn : j ≤ n := by omega
  have hcm' : cap ≤ 9223372036854775807 := by unfold maxLen at hcm; omega
  have HCL := Lib.hid hcl2
  have e1 : n - (n - 1) = 1 := by omega
  have e3 : ¬ (cap = n - 1) := by omega
  have e4 : n - 1 ≤ n := by omega
  have e5 : ((n : Int) - 1) ≤ n := by omega
  have e2 : i + (n - j) = n - 1 := by omega
  have HJ := Lib.hid hj
  clear hj hW1 hg1 hsl hget hnews hlen hg hcl htk hxl hns h hcm hcl2 hzl hb h1
  go_enter Tryz.func52, Tryz.ntmps52
  go_wp2_with fail
  go_region_law (refine step_append_room rfl (.tmp 22) (.tmp 25) 22 rfl 3 i0 1 Tryz.underlying22 hi0 hzs g 0 i cap (by simp [Act.eval, Act.put]) Ad (n - j) (cap - j) news (by simp [Act.eval, Act.put]) s1.out hsrc.out s2.out (by omega) s3.out ?_; rw [← hW.out])
  have hcl3 := HCL.out
  try simp only [Nat.mul_one] at hcl3
  go_wp2
  go_ret
  have hr := HR.out
  try simp only [Nat.mul_one] at hr ⊢
  exact hr
theorem del_i {w : World} {base g n cap : Nat} {xs : List Value} (h : w.ownsRow base 3 1 (.slice (some ⟨g, 0, none⟩) n cap) n xs) (i : Nat) (hi : i < n) (h1 : ∀ u ∈ xs, u.oneCell' = true) :
    Calls Tryz.prog 52 #[.slice (some ⟨g, 0, none⟩) n cap, .int .i64 (i : Int), .int .i64 ((i : Int) + 1)] w (RetDel w base 3 1 g cap (n - 1) (xs.take (i * 1) ++ xs.drop ((i + 1) * 1))) := delj_i h i (i + 1) rfl hi h1
end Go.Proofs.YtpjikijfendmhaaGreat
