/-
  Package intset: Union gives the union of two slices as a new slice, out of the library's Concat, whose text is walked here with Grow's. For slices of at most 400,000 ints; nothing that was there turns.
-/
import Derived.Test.YtmmkcnohicfjeaaIsV
import Derived.Laws.AppendOwnNone
import Derived.Lib.AppendZeros
namespace Go.Proofs.Ytmmkcnohicfjeaa
open Go.RowKit

theorem underI : Try.prog.underlying 3 = some (.int .i64) := Try.underlying3
theorem underS : Try.prog.underlying 22 = some (.slice 3) := Try.underlying22

/-- Appending a slice of ints, nil or not, to a row of the call's own. -/
theorem app_int (w : World) (base : Nat) (v : Value) (o : List Int) (ao : Option Addr) (a : List Int) (ca : Nat) (hown : w.ownsRow base 3 1 v o.length (cs o)) (ha : IsS w ao a ca)
    (h1 : o.length + a.length ≤ 10000000) (hb : base ≤ w.heap.size) :
    ∃ v' w', (Builtin.append_ #[22, 22] 22 #[v, .slice ao a.length ca]).run Try.prog w = .ok v' w' ∧ w'.ownsRow base 3 1 v' (o ++ a).length (cs (o ++ a)) ∧ w.grownBy w' v.ownBlock := by
  obtain ⟨i0, hi, hz0, hz1, hz2⟩ := info_parts infoI
  rcases ao with _ | ad
  · have h0 := ha.nil rfl
    have hle := ha.le
    have e : a = [] := List.length_eq_zero_iff.1 (by omega)
    subst e
    subst h0
    refine ⟨v, w, run_append_owned_none (P := Try.prog) (w := w) base 22 22 3 i0 1 underS hi v o.length (cs o) hown, by rw [List.append_nil]; exact hown, World.grownBy.refl w _⟩
  · have hc : ∀ j u, (cs a)[j]? = some u → w.cell? (ad.add j) = some u := by
      intro j u hj
      have hjl : j < a.length := by
        have := (List.getElem?_eq_some_iff.1 hj).1
        rwa [cs_len] at this
      obtain ⟨b, off, e, _, hc⟩ := ha.at_ (by omega)
      cases e
      rw [Go.WideShapes.add_plain]
      rw [hc j hjl]
      have e2 : (cs a)[j]? = some (.int .i64 (a.getD j 0)) := by simp [cs, hjl]
      rw [← hj, e2]
    obtain ⟨v', w', hr, h2, h3, _⟩ := run_append_own (P := Try.prog) w base 22 22 3 i0 (.int .i64 0) 1 8 underS hi hz0 hz1 hz2 rfl (by decide) v o.length (cs o) hown ad a.length ca (cs a) (by rw [cs_len, Nat.mul_one]) hc
      (by intro u hu; obtain ⟨x, _, rfl⟩ := List.mem_map.1 hu; rfl) (by unfold maxLen; omega) (by omega) hb
    exact ⟨v', w', hr, by rw [List.length_append, cs_app]; exact h2, h3⟩

theorem zero_size (n : Nat) : (Builtin.zeroCells (Value.int .i64 0).cells n).size = n := by simp [Builtin.zeroCells, Value.cells]

set_option maxHeartbeats 1600000 in
theorem grow_nil (n : Nat) (w : World) (hn : n ≤ 10000000) :
    Calls Try.prog 38 #[.slice none 0 0, .int .i64 n] w (RetO w []) := by
  obtain ⟨i0, hi, hz0, hz1, hz2⟩ := info_parts infoI
  have hneg : ¬ ((n : Int) < 0) := by omega
  rcases Nat.eq_zero_or_pos n with h0 | h0
  · subst h0
    go_enter Try.func38, Try.ntmps38
    go_wp2
    go_ret
    exact ⟨_, rfl, World.ownsRow_nil _ _ _ _, Fur.refl _⟩
  · have hr := Lib.run_append_nil_zeros (P := Try.prog) w 22 3 22 3 i0 (.int .i64 0) .i64 .i64 underS underI hi hz0 n h0 (by omega) (by omega) (by rw [hz2]; omega)
    have hG := grownCap_ge w n 0 3
    have hM := grownCap_le_maxLen w n 0 3 (by unfold maxLen; omega)
    generalize grownCap w n 0 3 = G at hr hG hM
    have hO : ∀ W : World, W.heap.size = w.heap.size → (W.alloc (.cells (Builtin.zeroCells (Value.int .i64 0).cells n ++ Builtin.zeroCells (Value.int .i64 0).cells (G - n)) 3)).ownsRow w.heap.size 3 1 (.slice (some ⟨w.heap.size, 0, none⟩) 0 G) 0 (cs []) := fun W hW => by
      have k := World.ownsRow_made (base := w.heap.size) (e := 3) (size := 1) W (Builtin.zeroCells (Value.int .i64 0).cells n ++ Builtin.zeroCells (Value.int .i64 0).cells (G - n)) G (by omega) hM (by rw [Array.size_append, zero_size, zero_size]; omega)
      rw [hW] at k
      exact k
    generalize Builtin.zeroCells (Value.int .i64 0).cells n ++ Builtin.zeroCells (Value.int .i64 0).cells (G - n) = C at hr hO
    have HR := Lib.hid hr
    have HO := Lib.hid (hO w.drew rfl)
    clear hr hO
    have hG63 : G ≤ 9223372036854775807 := by unfold maxLen at hM; omega
    go_enter Try.func38, Try.ntmps38
    go_wp2_with (at_builtin; refine Lib.wpList_append_run _ rfl _ _ _ _ rfl _ _ rfl rfl _ _ HR.out ?_)
    go_ret
    exact ⟨_, rfl, HO.out, (Fur.refl w).drew.alloc _⟩

/-- What Concat has added up, and what it has appended, behind k of two slices. -/
def At2 (a b : List Int) : Nat → List Int
  | 0 => []
  | 1 => a
  | _ => a ++ b

set_option maxHeartbeats 3200000 in
theorem concat_two (g : Nat) (ao bo : Option Addr) (a b : List Int) (ca cb : Nat) (w : World) (hg : g < w.heap.size) (ha : IsS w ao a ca) (hb : IsS w bo b cb)
    (k0 : w.cell? ⟨g, 0, none⟩ = some (.slice ao a.length ca)) (k1 : w.cell? ⟨g, 1, none⟩ = some (.slice bo b.length cb)) (la : a.length ≤ 400000) (lb : b.length ≤ 400000) :
    Calls Try.prog 33 #[.slice (some ⟨g, 0, none⟩) 2 2] w (RetO w (a ++ b)) := by
  go_enter Try.func33, Try.ntmps33
  go_wp2
  go_loop [3, 11] (fun s i => ∃ k : Nat, k ≤ 2 ∧ i = .int .i64 k ∧ s = .int .i64 (At2 a b k).length) (fun _ i => 2 - (RowKit.intOf i).toNat)
  case atStart => exact ⟨0, by omega, rfl, rfl⟩
  case round =>
    obtain ⟨k, hk, rfl, rfl⟩ := hrel
    rcases (show k = 0 ∨ k = 1 ∨ k = 2 by omega) with rfl | rfl | rfl
    · simp only [At2, List.length_nil]
      go_wp2
      go_round
      case rel => exact ⟨1, by omega, rfl, by simp⟩
      case measure => simp [RowKit.intOf]
    · simp only [At2]
      go_wp2
      go_round
      case rel => exact ⟨2, by omega, rfl, by simp⟩
      case measure => simp [RowKit.intOf]
    · have hl : (At2 a b 2).length ≤ 800000 := by simp [At2]; omega
      have HL := Lib.hid (grow_nil (At2 a b 2).length w (by omega))
      generalize (At2 a b 2).length = N at HL hl
      go_wp2_with fail
      go_at_call 38; refine HL.out.mono ?_; rintro e w1 ⟨v1, rfl, o1, f1⟩
      go_wp2
      go_loopw [6, 27] (fun v i wr => ∃ k : Nat, k ≤ 2 ∧ i = .int .i64 k ∧ wr.ownsRow w.heap.size 3 1 v (At2 a b k).length (cs (At2 a b k)) ∧ Fur w wr) (fun _ i _ => 2 - (RowKit.intOf i).toNat)
      case atStart => exact ⟨0, by omega, rfl, o1, f1⟩
      case round =>
        obtain ⟨k, hk, rfl, hown, hf⟩ := hrel
        have c0 : wr.cell? ⟨g, 0, none⟩ = some (.slice ao a.length ca) := (Below.cell hf (p := ⟨g, 0, none⟩) hg).trans k0
        have c1 : wr.cell? ⟨g, 1, none⟩ = some (.slice bo b.length cb) := (Below.cell hf (p := ⟨g, 1, none⟩) hg).trans k1
        rcases (show k = 0 ∨ k = 1 ∨ k = 2 by omega) with rfl | rfl | rfl
        · obtain ⟨v', w5, hr, hown2, hgr⟩ := app_int wr w.heap.size _ [] ao a ca hown (ha.on hf) (by simp; omega) hf.size
          have HR := Lib.hid hr
          have hf2 : Fur w w5 := Below.grown hf hgr hf.size (fun k hk => (hown.lt k hk).1)
          clear hr hgr
          go_wp2_with (at_builtin; refine Lib.wpList_append_run _ rfl _ _ _ _ rfl _ _ rfl rfl _ _ HR.out ?_)
          go_roundw
          case rel => exact ⟨1, by omega, rfl, hown2, hf2⟩
          case measure => simp [RowKit.intOf]
        · obtain ⟨v', w5, hr, hown2, hgr⟩ := app_int wr w.heap.size _ a bo b cb hown (hb.on hf) (by omega) hf.size
          have HR := Lib.hid hr
          have hf2 : Fur w w5 := Below.grown hf hgr hf.size (fun k hk => (hown.lt k hk).1)
          clear hr hgr
          go_wp2_with (at_builtin; refine Lib.wpList_append_run _ rfl _ _ _ _ rfl _ _ rfl rfl _ _ HR.out ?_)
          go_roundw
          case rel => exact ⟨2, by omega, rfl, hown2, hf2⟩
          case measure => simp [RowKit.intOf]
        · go_wp2
          go_ret
          exact ⟨_, rfl, hown, hf⟩

set_option maxHeartbeats 1600000 in
theorem un_any (ao bo : Option Addr) (a b : List Int) (ca cb : Nat) (w : World) (ha : IsS w ao a ca) (hb : IsS w bo b cb) (la : a.length ≤ 400000) (lb : b.length ≤ 400000) :
    Calls Try.prog 18 #[.slice ao a.length ca, .slice bo b.length cb] w (RetS w (unL a b)) := by
  obtain ⟨w0, hw0⟩ : ∃ w0, w.alloc (.cells #[.slice ao a.length ca, .slice bo b.length cb] 22) = w0 := ⟨_, rfl⟩
  have f0 : Fur w w0 := hw0 ▸ (Fur.refl w).alloc _
  have hg : w.heap.size < w0.heap.size := by rw [← hw0]; simp
  have HC := Lib.hid (concat_two w.heap.size ao bo a b ca cb w0 hg (ha.on f0) (hb.on f0) (by rw [← hw0]; simp) (by rw [← hw0]; simp) la lb)
  have hl : (a ++ b).length ≤ 1000000 := by rw [List.length_append]; omega
  have HO := Lib.hid (fun ao ca w1 (h : IsS w1 ao (a ++ b) ca) => of_any ao (a ++ b) ca w1 h hl)
  have HW := Lib.hid hw0
  have HF := Lib.hid f0
  clear hl hw0 f0 hg
  generalize hab : a ++ b = c at HC HO
  have HU := Lib.hid (show ofL c = unL a b by rw [← hab]; rfl)
  clear hab
  go_enter Try.func18, Try.ntmps18
  go_wp2_with fail
  rw [HW.out]
  go_at_call 33; refine HC.out.mono ?_; rintro e w1 ⟨v1, rfl, o1, f1⟩
  obtain ⟨ao1, c1, rfl, _, hI⟩ := IsS.of_own o1
  have HO2 := Lib.hid (HO.out ao1 c1 w1 hI)
  clear HO
  go_wp2_with fail
  go_at_call 16; refine HO2.out.mono ?_; rintro e w2 ⟨ao2, c2, rfl, g2, f2⟩
  go_wp2
  go_ret
  exact rets_of HU.out.symm ⟨ao2, c2, rfl, g2, (HF.out.trans f1).trans f2⟩
end Go.Proofs.Ytmmkcnohicfjeaa
