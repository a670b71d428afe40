/-
  Rules in rows of the call's own; Go's slices.Grow and slices.Concat of slices of rules. Nothing that was there turns.
-/
import Derived.Test.YtadnaakbhgacgaaDoorScF
import Derived.Laws.AppendOwnNone
import Derived.Lib.AppendZeros
namespace Go.Proofs.YtadnaakbhgacgaaDoor
open Go.RowKit

/-- The cells of rules one behind the other. -/
def csR (l : List Rl) : List Value := l.flatMap fun r => (rlc r).toList
theorem csR_app (a b : List Rl) : csR (a ++ b) = csR a ++ csR b := by unfold csR; rw [List.flatMap_append]
theorem csR_len : ∀ l : List Rl, (csR l).length = l.length * 6
  | [] => rfl
  | r :: t => by
    show ((rlc r).toList ++ csR t).length = _
    rw [List.length_append, csR_len t, List.length_cons, show (rlc r).toList.length = 6 from rfl]; omega
theorem csR_get : ∀ (l : List Rl) (i j : Nat) (h : i < l.length), j < 6 → (csR l)[i * 6 + j]? = (rlc l[i])[j]?
  | r :: t, 0, j, _, hj => by
    show ((rlc r).toList ++ csR t)[0 * 6 + j]? = _
    rw [Nat.zero_mul, Nat.zero_add, List.getElem?_append_left hj, Array.getElem?_toList]; rfl
  | r :: t, i + 1, j, h, hj => by
    show ((rlc r).toList ++ csR t)[(i + 1) * 6 + j]? = _
    rw [List.getElem?_append_right (by show 6 ≤ _; omega), show (i + 1) * 6 + j - (rlc r).toList.length = i * 6 + j from by show (i + 1) * 6 + j - 6 = _; omega, csR_get t i j (by simpa using h) hj]
    rfl
theorem rc_cell {w : World} {r : Rl} {b o : Nat} (h : RC w r b o) : ∀ j, j < 6 → w.cell? ⟨b, o + j, none⟩ = (rlc r)[j]? := fun j hj => by
  match j, hj with
  | 0, _ => exact h.c0
  | 1, _ => exact h.c1
  | 2, _ => exact h.c2
  | 3, _ => exact h.c3
  | 4, _ => exact h.c4
  | 5, _ => exact h.c5
theorem rc_of {w : World} {r : Rl} {b o : Nat} (hi : RIn r) (h : ∀ j, j < 6 → w.cell? ⟨b, o + j, none⟩ = (rlc r)[j]?) : RC w r b o :=
  ⟨hi, h 0 (by decide), h 1 (by decide), h 2 (by decide), h 3 (by decide), h 4 (by decide), h 5 (by decide)⟩
theorem newsR {w : World} {l : List Rl} {cap : Nat} {ad : Addr} (h : SlR w (some ad) l cap) : ∀ j u, (csR l)[j]? = some u → w.cell? (ad.add j) = some u := by
  intro j u hu
  have hj : j < l.length * 6 := by
    have := (List.getElem?_eq_some_iff.1 hu).1
    rwa [csR_len] at this
  have hi : j / 6 < l.length := by omega
  obtain ⟨b, o, e, hc⟩ := h.get hi
  cases e
  have k := rc_cell hc (j % 6) (Nat.mod_lt _ (by decide))
  have k2 := csR_get l (j / 6) (j % 6) hi (Nat.mod_lt _ (by decide))
  rw [Go.WideShapes.add_plain, ← hu, show j = j / 6 * 6 + j % 6 by omega, k2, ← k, Nat.add_assoc]
theorem oneR (l : List Rl) : ∀ u ∈ csR l, u.oneCell' = true := by
  intro u hu
  unfold csR at hu
  obtain ⟨r, -, hr⟩ := List.mem_flatMap.1 hu
  simp [rlc] at hr
  rcases hr with rfl | rfl | rfl | rfl | rfl | rfl <;> rfl
theorem slR_of_own {w : World} {base : Nat} {v : Value} {n : Nat} {l : List Rl} (h : w.ownsRow base 23 6 v n (csR l)) (hi : ∀ r ∈ l, RIn r) : ∃ ao cap, v = .slice ao l.length cap ∧ n = l.length ∧ SlR w ao l cap := by
  have hl := h.1
  rw [csR_len] at hl
  obtain rfl : n = l.length := by omega
  rcases h.2 with ⟨rfl, h0⟩ | ⟨g, cap, cur, rfl, hb, hh, h1, h2, h3, h4⟩
  · have e : l = [] := List.eq_nil_of_length_eq_zero h0
    subst e
    exact ⟨none, 0, rfl, rfl, Sl.empty _⟩
  · refine ⟨_, cap, rfl, rfl, h1, h2, (fun k => by cases k), fun _ => ⟨g, 0, rfl, fun i hi' => rc_of (hi _ (List.getElem_mem hi')) fun j hj => ?_⟩⟩
    rw [Nat.zero_add, h.cellAt (i * 6 + j) (by omega), csR_get l i j hi' hj]
theorem infoR : (Tryd.prog.info? 23).map (fun i => (i.zero, i.size, i.bytes)) = some (some (.agg #[.int .i64 0, .int .i64 0, .string ⟨#[]⟩, .string ⟨#[]⟩, .string ⟨#[]⟩, .string ⟨#[]⟩]), 6, 80) := by kernel_rfl
theorem underL : Tryd.prog.underlying 30 = some (.slice 23) := Tryd.underlying30
theorem underI : Tryd.prog.underlying 3 = some (.int .i64) := Tryd.underlying3
/-- Appending a slice of rules, nil or not, to a row of the call's own. -/
theorem app_rl (w : World) (base : Nat) (v : Value) (o : List Rl) (ao : Option Addr) (a : List Rl) (ca : Nat) (hown : w.ownsRow base 23 6 v o.length (csR o)) (ha : SlR w ao a ca)
    (h1 : o.length + a.length ≤ 1000000) (hb : base ≤ w.heap.size) :
    ∃ v' w', (Builtin.append_ #[30, 30] 30 #[v, .slice ao a.length ca]).run Tryd.prog w = .ok v' w' ∧ w'.ownsRow base 23 6 v' (o ++ a).length (csR (o ++ a)) ∧ w.grownBy w' v.ownBlock := by
  obtain ⟨i0, hi, hz0, hz1, hz2⟩ := info_parts infoR
  rcases ao with _ | ad
  · have h0 := ha.nil rfl
    have hle := ha.le
    have e : a = [] := List.length_eq_zero_iff.1 (by omega)
    subst e
    subst h0
    refine ⟨v, w, run_append_owned_none (P := Tryd.prog) (w := w) base 30 30 23 i0 6 underL hi v o.length (csR o) hown, by rw [List.append_nil]; exact hown, World.grownBy.refl w _⟩
  · obtain ⟨v', w', hr, h2, h3, _⟩ := run_append_own (P := Tryd.prog) w base 30 30 23 i0 _ 6 80 underL hi hz0 hz1 hz2 rfl (by decide) v o.length (csR o) hown ad a.length ca (csR a) (csR_len a) (newsR ha)
      (oneR a) (by unfold maxLen; omega) (by omega) hb
    exact ⟨v', w', hr, by rw [List.length_append, csR_app]; exact h2, h3⟩
theorem zero_size6 (z : Value) (n : Nat) (h : z.cells.size = 6) : (Builtin.zeroCells z.cells n).size = n * 6 := by simp [Builtin.zeroCells, h]
/-- A result is a row of the call's own that holds l; nothing that was there has turned. -/
def RetO (w : World) (l : List Rl) (e : Ending) (w' : World) : Prop := ∃ v, e = .returned v ∧ w'.ownsRow w.heap.size 23 6 v l.length (csR l) ∧ Fuw w w'
set_option maxHeartbeats 1600000 in
theorem grow_nil (n : Nat) (w : World) (hn : n ≤ 1000000) :
    Calls Tryd.prog 57 #[.slice none 0 0, .int .i64 n] w (RetO w []) := by
  obtain ⟨i0, hi, hz0, hz1, hz2⟩ := info_parts infoR
  have hneg : ¬ ((n : Int) < 0) := by omega
  rcases Nat.eq_zero_or_pos n with h0 | h0
  · subst h0
    go_enter Tryd.func57, Tryd.ntmps57
    go_wp2
    go_ret
    exact ⟨_, rfl, World.ownsRow_nil _ _ _ _, Fuw.refl _⟩
  · have hr := Lib.run_append_nil_zeros (P := Tryd.prog) w 30 3 30 23 i0 _ .i64 .i64 underL underI hi hz0 n h0 (by omega) (by omega) (by rw [hz2]; omega)
    have hG := grownCap_ge w n 0 23
    have hM := grownCap_le_maxLen w n 0 23 (by unfold maxLen; omega)
    generalize grownCap w n 0 23 = G at hr hG hM
    obtain ⟨z, hz⟩ : ∃ z : Value, z = .agg #[.int .i64 0, .int .i64 0, .string ⟨#[]⟩, .string ⟨#[]⟩, .string ⟨#[]⟩, .string ⟨#[]⟩] := ⟨_, rfl⟩
    rw [← hz] at hr
    have hz6 : z.cells.size = 6 := by rw [hz]; rfl
    have hO : ∀ W : World, W.heap.size = w.heap.size → (W.alloc (.cells (Builtin.zeroCells z.cells n ++ Builtin.zeroCells z.cells (G - n)) 23)).ownsRow w.heap.size 23 6 (.slice (some ⟨w.heap.size, 0, none⟩) 0 G) 0 (csR []) := fun W hW => by
      have k := World.ownsRow_made (base := w.heap.size) (e := 23) (size := 6) W (Builtin.zeroCells z.cells n ++ Builtin.zeroCells z.cells (G - n)) G (by omega) hM (by rw [Array.size_append, zero_size6 z n hz6, zero_size6 z (G - n) hz6]; omega)
      rw [hW] at k
      exact k
    clear hz hz6 hz0
    generalize Builtin.zeroCells z.cells n ++ Builtin.zeroCells z.cells (G - n) = C at hr hO
    have HR := Lib.hid hr
    have HO := Lib.hid (hO w.drew rfl)
    clear hr hO
    have hG63 : G ≤ 9223372036854775807 := by unfold maxLen at hM; omega
    go_enter Tryd.func57, Tryd.ntmps57
    go_wp2_with (at_builtin; refine Lib.wpList_append_run _ rfl _ _ _ _ rfl _ _ rfl rfl _ _ HR.out ?_)
    go_ret
    exact ⟨_, rfl, HO.out, (Fuw.refl w).drew.alloc _⟩

/-- A part: a slice of rules. -/
abbrev Pt := List Rl × Option Addr × Nat
def AtP (ps : List Pt) (k : Nat) : List Rl := (ps.take k).flatMap Prod.fst
theorem atP_s (ps : List Pt) (k : Nat) (h : k < ps.length) : AtP ps (k + 1) = AtP ps k ++ ps[k].1 := by
  unfold AtP
  rw [List.take_succ_eq_append_getElem h, List.flatMap_append]
  simp
theorem atP_all (ps : List Pt) (k : Nat) (h : ps.length ≤ k) : AtP ps k = ps.flatMap Prod.fst := by unfold AtP; rw [List.take_of_length_le h]
theorem atP_le (ps : List Pt) (hm : ∀ p ∈ ps, p.1.length ≤ 1000) : ∀ k, k ≤ ps.length → (AtP ps k).length ≤ k * 1000
  | 0, _ => by simp [AtP]
  | k + 1, h => by
    have ih := atP_le ps hm k (by omega)
    rw [atP_s ps k (by omega), List.length_append]
    have := hm ps[k] (List.getElem_mem (by omega))
    omega
set_option maxHeartbeats 3200000 in
theorem cat_any (ps : List Pt) (g cap : Nat) (w : World) (hg : g < w.heap.size) (hc : ∀ (i : Nat) (h : i < ps.length), w.cell? ⟨g, i, none⟩ = some (.slice ps[i].2.1 ps[i].1.length ps[i].2.2)) (hs : ∀ (i : Nat) (h : i < ps.length), SlR w ps[i].2.1 ps[i].1 ps[i].2.2) (hm : ∀ p ∈ ps, p.1.length ≤ 1000) (hn : ps.length ≤ 10) :
    Calls Tryd.prog 41 #[.slice (some ⟨g, 0, none⟩) ps.length cap] w (RetO w (ps.flatMap Prod.fst)) := by
  have HC := Lib.hid hc
  have HS := Lib.hid hs
  have HM := Lib.hid hm
  have HG := Lib.hid hg
  clear hc hs hm hg
  go_enter Tryd.func41, Tryd.ntmps41
  go_wp2
  go_loop [3, 11] (fun s i => ∃ k : Nat, k ≤ ps.length ∧ i = .int .i64 k ∧ ∃ n : Nat, s = .int .i64 n ∧ Hid (n = (AtP ps k).length) ∧ n ≤ 10000) (fun _ i => ps.length - (RowKit.intOf i).toNat)
  case atStart => exact ⟨0, by omega, rfl, 0, rfl, Lib.hid rfl, by omega⟩
  case round =>
    obtain ⟨k, hk, rfl, n, rfl, HN, hn2⟩ := hrel
    by_cases hlt : k < ps.length
    · have c0 := HC.out k hlt
      have HL := Lib.hid (atP_s ps k hlt)
      have hl : ps[k].1.length ≤ 1000 := HM.out _ (List.getElem_mem hlt)
      have HT := Lib.hid (atP_le ps HM.out (k + 1) hlt)
      generalize ps[k] = p at *
      have HN2 := Lib.hid (show n + p.1.length = (AtP ps (k + 1)).length by rw [HL.out, List.length_append, HN.out])
      have hn3 : n + p.1.length ≤ 10000 := by have := HN2.out; have := HT.out; omega
      have hneg : ¬ ((n : Int) + (p.1.length : Int) < 0) := by omega
      generalize p.1.length = m at *
      clear HL HN HT
      go_wp2
      go_round
      case rel => exact ⟨k + 1, by omega, by go_num, n + m, by go_num, HN2, by omega⟩
      case measure => simp [RowKit.intOf]; omega
    · obtain rfl : k = ps.length := by omega
      have HA := Lib.hid (grow_nil n w (by omega))
      go_wp2_with fail
      go_at_call 57; refine HA.out.mono ?_; rintro e w1 ⟨v1, rfl, o1, f1⟩
      have HO1 := Lib.hid o1
      have HF1 := Lib.hid f1
      clear o1 f1
      go_wp2
      go_loopw [6, 27] (fun v i wr => ∃ k : Nat, k ≤ ps.length ∧ i = .int .i64 k ∧ Hid (wr.ownsRow w.heap.size 23 6 v (AtP ps k).length (csR (AtP ps k))) ∧ Hid (Fuw w wr)) (fun _ i _ => ps.length - (RowKit.intOf i).toNat)
      case atStart => exact ⟨0, by omega, rfl, HO1, HF1⟩
      case round =>
        obtain ⟨k, hk, rfl, hown, hf⟩ := hrel
        by_cases hlt : k < ps.length
        · have c0 : wr.cell? ⟨g, k, none⟩ = some (.slice ps[k].2.1 ps[k].1.length ps[k].2.2) := cellOnw hf.out (HC.out k hlt)
          have h1 := atP_le ps HM.out k hk
          have h2 := HM.out _ (List.getElem_mem hlt)
          obtain ⟨v', w5, hr, hown2, hgr⟩ := app_rl wr w.heap.size _ (AtP ps k) ps[k].2.1 ps[k].1 ps[k].2.2 hown.out (slR_on hf.out (HS.out k hlt)) (by omega) hf.out.size
          rw [← atP_s ps k hlt] at hown2
          have HR := Lib.hid hr
          have HW := Lib.hid hown2
          have hf2 := Lib.hid (show Fuw w w5 from Below.grown hf.out hgr hf.out.size (fun k hk => (hown.out.lt k hk).1))
          clear hr hgr hown2 h1 h2
          generalize ps[k].2.1 = ao at *
          generalize ps[k].2.2 = ca at *
          generalize ps[k].1.length = m at *
          go_wp2_with (at_builtin; refine Lib.wpList_append_run _ rfl _ _ _ _ rfl _ _ rfl rfl _ _ HR.out ?_)
          go_roundw
          case rel => exact ⟨k + 1, by omega, by go_num, HW, hf2⟩
          case measure => simp [RowKit.intOf]; omega
        · have HE := Lib.hid (atP_all ps k (by omega))
          have HW := Lib.hid (HE.out ▸ hown.out)
          go_wp2
          go_ret
          exact ⟨_, rfl, HW.out, hf.out⟩
end Go.Proofs.YtadnaakbhgacgaaDoor
