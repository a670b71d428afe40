/-
  Package codec: the list [null, -1] is read out of its five bytes. Nothing that was there turns.
-/
import Derived.Test.YtehmdeponbhhjaaDoorM16
import Derived.Laws.AppendOwn
namespace Go.Proofs.YtehmdeponbhhjaaDoor
open Go.RowKit

theorem vat_null (ao : Option Addr) (l : List UInt8) (cap : Nat) (a : Nat) (nest : Int) (w : World) (h : IsB w ao l cap) (ha : a < l.length) (h0 : (l.getD a 0).toNat = 0) :
    Calls Tryd.prog 14 #[.slice ao l.length cap, .int .i64 a, .int .i64 nest] w (RetX5 w 0 0 [] ((a : Int) + 1)) :=
  vat_by ao l cap a 0 nest 0 ((a : Int) + 1) [] w h ha h0 (by decide) (.inl (by decide)) ⟨by decide, by decide⟩ (by decide) fun B U hf hB hq => by
    unfold RFat
    refine (rf_null ao l.length cap ((a : Int) + 1) nest B U (bz_cells hq).1).mono fun e w' ⟨he, hw⟩ => ?_
    subst hw
    exact ⟨none, 0, he, hq, fun X hX _ => hX, kp_none _ _⟩
theorem vat_int (ao : Option Addr) (l : List UInt8) (cap : Nat) (a : Nat) (nest n E : Int) (w : World) (h : IsB w ao l cap) (ha : a < l.length) (h0 : (l.getD a 0).toNat = 2) (hn : I64 n) (hok : okX (.mk 2 n 0 [] []) = true) (hv : intV l ((a : Int) + 1) = (n, E, 0)) :
    Calls Tryd.prog 14 #[.slice ao l.length cap, .int .i64 a, .int .i64 nest] w (RetX5 w 2 n [] E) :=
  vat_by ao l cap a 2 nest n E [] w h ha h0 (by decide) (.inl (by decide)) hn hok fun B U hf hB hq => by
    have hl := h.len.1
    obtain ⟨c0, c1, -, -, -, cf, -⟩ := bz_cells hq
    unfold RFat
    refine (rf_int ao l cap ((a : Int) + 1) nest B U (by omega) (by omega) (h.on hf) n E hv c0 c1 (cf 1)).mono fun e w' ⟨he, hw⟩ => ?_
    subst hw
    exact ⟨none, 0, he, bz_set1 hq n, fun X hX hXB => fuw_set hX hXB, kp_none _ _⟩
theorem may_list (w : World) : Calls Tryd.prog 58 #[.int .i64 8, .int .i64 2] w fun e w' => e = .returned (.bool true) ∧ w = w' := by
  go_enter Tryd.func58, Tryd.ntmps58
  go_wp2
  go_ret
  exact ⟨rfl, rfl⟩
/-- The five bytes. -/
def l0 : List UInt8 := [8, 2, 0, 2, 1]
theorem infoV : (Tryd.prog.info? 26).map (fun i => (i.zero, i.size, i.bytes)) = some (some (.agg #[.int .i64 0, .int .i64 0, .int .i64 0, .string ⟨#[]⟩, .slice none 0 0]), 5, 64) := by kernel_rfl
/-- Two values' cells. -/
def v10 (k n : Int) (a : Option Addr) (c : Nat) (k' n' : Int) (a' : Option Addr) (c' : Nat) : Array Value := #[.int .i64 k, .int .i64 n, .int .i64 0, .string ⟨#[]⟩, .slice a 0 c, .int .i64 k', .int .i64 n', .int .i64 0, .string ⟨#[]⟩, .slice a' 0 c']
theorem made_two {w : World} {base g : Nat} (h : w.ownsRow base 26 5 (.slice (some ⟨g, 0, none⟩) 2 2) 2 (madeCells (Value.agg #[.int .i64 0, .int .i64 0, .int .i64 0, .string ⟨#[]⟩, .slice none 0 0]).cells (2 * 5)).toList) : w.heap[g]? = some (.cells (v10 0 0 none 0 0 0 none 0) 26 (0, 0)) := by
  rcases h.2 with ⟨h0, _⟩ | ⟨g', cap, cur, hv, hb, hh, h1, h2, h3, h4⟩
  · cases h0
  · cases hv
    rw [hh]
    congr 2
    have e : cur.toList = (madeCells (Value.agg #[.int .i64 0, .int .i64 0, .int .i64 0, .string ⟨#[]⟩, .slice none 0 0]).cells (2 * 5)).toList := by
      rw [← h4, List.take_of_length_le (by simp [h3])]
    rw [← Array.toList_inj, e]
    simp [madeCells, Value.cells, v10, List.range, List.range.loop]
theorem put_lo {w : World} {g : Nat} {k n k' n' : Int} {a a' : Option Addr} {c c' : Nat} (h : w.heap[g]? = some (.cells (v10 k n a c k' n' a' c') 26 (0, 0))) (b0 b1 : Int) (a2 : Option Addr) (c2 : Nat) :
    (((((w.setCell ⟨g, 0, none⟩ (.int .i64 b0)).setCell ⟨g, 1, none⟩ (.int .i64 b1)).setCell ⟨g, 2, none⟩ (.int .i64 0)).setCell ⟨g, 3, none⟩ (.string ⟨#[]⟩)).setCell ⟨g, 4, none⟩ (.slice a2 0 c2)).heap[g]? = some (.cells (v10 b0 b1 a2 c2 k' n' a' c') 26 (0, 0)) := by
  unfold v10 at *
  simp [World.setCell, Array.getElem?_modify, h]
theorem put_hi {w : World} {g : Nat} {k n k' n' : Int} {a a' : Option Addr} {c c' : Nat} (h : w.heap[g]? = some (.cells (v10 k n a c k' n' a' c') 26 (0, 0))) (b0 b1 : Int) (a2 : Option Addr) (c2 : Nat) :
    (((((w.setCell ⟨g, 5, none⟩ (.int .i64 b0)).setCell ⟨g, 6, none⟩ (.int .i64 b1)).setCell ⟨g, 7, none⟩ (.int .i64 0)).setCell ⟨g, 8, none⟩ (.string ⟨#[]⟩)).setCell ⟨g, 9, none⟩ (.slice a2 0 c2)).heap[g]? = some (.cells (v10 k n a c b0 b1 a2 c2) 26 (0, 0)) := by
  unfold v10 at *
  simp [World.setCell, Array.getElem?_modify, h]
theorem fuw_hi {w W : World} {B : Nat} (hf : Fuw w W) (hB : w.heap.size ≤ B) (b0 b1 b2 b3 b4 : Value) : Fuw w (((((W.setCell ⟨B, 5, none⟩ b0).setCell ⟨B, 6, none⟩ b1).setCell ⟨B, 7, none⟩ b2).setCell ⟨B, 8, none⟩ b3).setCell ⟨B, 9, none⟩ b4) :=
  fuw_set (fuw_set (fuw_set (fuw_set (fuw_set hf hB) hB) hB) hB) hB
theorem v10_cells {w : World} {g : Nat} {k n k' n' : Int} {a a' : Option Addr} {c c' : Nat} (h : w.heap[g]? = some (.cells (v10 k n a c k' n' a' c') 26 (0, 0))) : (∀ j, w.frozen? ⟨g, j, none⟩ = false) ∧
    w.cell? ⟨g, 0, none⟩ = some (.int .i64 k) ∧ w.cell? ⟨g, 1, none⟩ = some (.int .i64 n) ∧ w.cell? ⟨g, 2, none⟩ = some (.int .i64 0) ∧ w.cell? ⟨g, 3, none⟩ = some (.string ⟨#[]⟩) ∧ w.cell? ⟨g, 4, none⟩ = some (.slice a 0 c) ∧
    w.cell? ⟨g, 5, none⟩ = some (.int .i64 k') ∧ w.cell? ⟨g, 6, none⟩ = some (.int .i64 n') ∧ w.cell? ⟨g, 7, none⟩ = some (.int .i64 0) ∧ w.cell? ⟨g, 8, none⟩ = some (.string ⟨#[]⟩) ∧ w.cell? ⟨g, 9, none⟩ = some (.slice a' 0 c') := by
  unfold v10 at h
  refine ⟨fun j => by simp [World.frozen?, h], ?_, ?_, ?_, ?_, ?_, ?_, ?_, ?_, ?_, ?_⟩ <;> simp [World.cell?, h]
/-- A slice without an element. -/
def Ok0 (a : Option Addr) (c : Nat) : Prop := c ≤ maxLen ∧ (a = none → c = 0)
theorem ok0_of {w : World} {a : Option Addr} {c : Nat} (h : SlV w a [] c) : Ok0 a c := ⟨h.max, h.nil⟩
theorem ok0_sl {w : World} {a : Option Addr} {c : Nat} (h : Ok0 a c) : SlV w a [] c := ⟨Nat.zero_le _, h.1, h.2, fun t => absurd t (by decide)⟩
/-- The list [null, -1]. -/
def lv0 : List Vl := [.mk 0 0 0 [] [], .mk 2 (-1) 0 [] []]
theorem sl_two {w : World} {g : Nat} {a a' : Option Addr} {c c' : Nat} (o : Ok0 a c) (o' : Ok0 a' c') (h : w.heap[g]? = some (.cells (v10 0 0 a c 2 (-1) a' c') 26 (0, 0))) : SlV w (some ⟨g, 0, none⟩) lv0 2 := by
  obtain ⟨-, c0, c1, c2, c3, c4, c5, c6, c7, c8, c9⟩ := v10_cells h
  refine ⟨Nat.le_refl _, by decide, (fun e => by cases e), fun _ => ⟨g, 0, rfl, ?_⟩⟩
  unfold lv0 VE VE VE
  exact ⟨VC_mk (vin_flat 0 0 ⟨by decide, by decide⟩ ⟨by decide, by decide⟩ []) c0 c1 c2 c3 c4 (ok0_sl o), VC_mk (vin_flat 2 (-1) ⟨by decide, by decide⟩ ⟨by decide, by decide⟩ []) c5 c6 c7 c8 c9 (ok0_sl o'), trivial⟩
theorem kp_two {lo g : Nat} {w' : World} (hlo : lo < g) {a a' : Option Addr} {c c' : Nat} (o : Ok0 a c) (o' : Ok0 a' c') (h : w'.heap[g]? = some (.cells (v10 0 0 a c 2 (-1) a' c') 26 (0, 0))) : Kp lo w' (fun w2 => SlV w2 (some ⟨g, 0, none⟩) lv0 2) := fun w2 _ hw => by
  have hlt : g < w'.heap.size := by
    rcases Nat.lt_or_ge g w'.heap.size with k | k
    · exact k
    · rw [Array.getElem?_eq_none k] at h; cases h
  exact sl_two o o' (by rw [hw g hlo hlt]; exact h)
set_option maxHeartbeats 8000000 in
set_option maxRecDepth 100000 in
theorem els_two (ao : Option Addr) (cap : Nat) (w : World) (h : IsB w ao l0 cap) :
    Calls Tryd.prog 43 #[.slice ao l0.length cap, .int .i64 1, .int .i64 8, .int .i64 7] w fun e w' =>
      ∃ a2 c2, e = .returned (.tuple #[.slice a2 2 c2, .int .i64 5, .int .i64 0]) ∧ Fuw w w' ∧ ∀ lo, lo < w.heap.size → Kp lo w' (fun w2 => SlV w2 a2 lv0 c2) := by
  obtain ⟨i0, hi, hz0, hz1, hz2⟩ := info_parts infoV
  have HU := Lib.hid (uint_is ao l0 cap 1 (by decide) (by decide) w h 2 2 0 (by decide +kernel))
  have HI := Lib.hid h
  have HN : Hid (∀ w', Fuw w w' → Calls Tryd.prog 14 #[.slice ao l0.length cap, .int .i64 2, .int .i64 7] w' (RetX5 w' 0 0 [] 3)) := Lib.hid (fun w' (hf : Fuw w w') => vat_null ao l0 cap 2 7 w' (h.on hf) (by decide) (by decide))
  have HT : Hid (∀ w', Fuw w w' → Calls Tryd.prog 14 #[.slice ao l0.length cap, .int .i64 3, .int .i64 7] w' (RetX5 w' 2 (-1) [] 5)) := Lib.hid (fun w' (hf : Fuw w w') => vat_int ao l0 cap 3 7 (-1) 5 w' (h.on hf) (by decide) (by decide) ⟨by decide, by decide⟩ (by decide) (by decide +kernel))
  have hl0 : l0.length = 5 := rfl
  have HL := Lib.hid hl0
  rw [hl0] at HU HN HT ⊢
  clear h hl0
  go_enter Tryd.func43, Tryd.ntmps43
  go_wp2_with fail
  go_at_call 8; refine HU.out.mono ?_; rintro e1 w1 ⟨rfl, rfl⟩
  clear HU
  go_wp2_with fail
  go_at_call 58; refine (may_list _).mono ?_; rintro e1 w1 ⟨rfl, rfl⟩
  go_upto_region 7 with (at_make; refine wpList_make_full _ rfl (.tmp 29) (.tmp 29) 24 rfl w.heap.size 26 i0 (.agg #[.int .i64 0, .int .i64 0, .int .i64 0, .string ⟨#[]⟩, .slice none 0 0]) 5 Tryd.underlying24 hi hz0 hz1 .i64 .i64 _ _ 2 rfl rfl (by omega) (by omega) (by rw [hz2]; omega) (by unfold maxLen; omega) (Nat.le_refl _) ?_; intro w2 hown hgrow)
  have hO := made_two hown
  have hf2 : Fuw w w2 := Below.grown (Below.refl _ _) hgrow (Nat.le_refl _) (fun k hk => by cases hk)
  clear hown hgrow hi hz0 hz1 hz2
  generalize hg : w.heap.size = g at *
  have HG := Lib.hid hg
  clear hg
  go_wp2
  go_loopw [1, 33] (fun av iv wr => ∃ i : Nat, iv = .int .i64 i ∧ Fuw w wr ∧ ((i = 0 ∧ av = .int .i64 2 ∧ wr.heap[g]? = some (.cells (v10 0 0 none 0 0 0 none 0) 26 (0, 0))) ∨ (i = 1 ∧ av = .int .i64 3 ∧ ∃ a c, Ok0 a c ∧ wr.heap[g]? = some (.cells (v10 0 0 a c 0 0 none 0) 26 (0, 0))) ∨ (i = 2 ∧ av = .int .i64 5 ∧ ∃ a c a' c', Ok0 a c ∧ Ok0 a' c' ∧ wr.heap[g]? = some (.cells (v10 0 0 a c 2 (-1) a' c') 26 (0, 0))))) (fun _ iv _ => 2 - (RowKit.intOf iv).toNat)
  case atStart => exact ⟨0, rfl, hf2, .inl ⟨rfl, rfl, hO⟩⟩
  case round =>
    obtain ⟨i, rfl, hf, hc⟩ := hrel
    rcases hc with ⟨rfl, rfl, hh⟩ | ⟨rfl, rfl, a, c, oa, hh⟩ | ⟨rfl, rfl, a, c, a', c', oa, ob, hh⟩
    · go_upto_region 10 with fail
      go_region
      go_wp2_with fail
      go_at_call 14; refine (HN.out _ (Fuw.drew hf)).mono ?_; rintro e3 w3 ⟨a2, c2, he3, f3d, hk3⟩
      have f3 : Fuw wr w3 := Fuw.trans (Fuw.drew (Fuw.refl wr)) f3d
      clear f3d
      unfold va at he3
      simp only [List.length_nil] at he3
      subst he3
      have o3 := ok0_of (hk3 w3 (Nat.le_refl _) (fun _ _ _ => rfl))
      have hh3 := bz_on hh f3
      obtain ⟨fz, q0, q1, q2, q3, q4, q5, q6, q7, q8, q9⟩ := v10_cells hh3
      have fz0 := fz 0; have fz1 := fz 1; have fz2 := fz 2; have fz3 := fz 3; have fz4 := fz 4; have fz5 := fz 5; have fz6 := fz 6; have fz7 := fz 7; have fz8 := fz 8; have fz9 := fz 9
      have HH3 := Lib.hid hh3
      clear hh hh3 fz hk3
      go_wp2
      go_roundw
      case rel => exact ⟨1, rfl, fuw_put5 (Fuw.trans hf f3) (Nat.le_of_eq HG.out) _ _ _ _ _, .inr (.inl ⟨rfl, rfl, a2, c2, o3, put_lo HH3.out 0 0 a2 c2⟩)⟩
      case measure => simp [RowKit.intOf]
    · go_upto_region 10 with fail
      go_region
      go_wp2_with fail
      go_at_call 14; refine (HT.out _ (Fuw.drew hf)).mono ?_; rintro e3 w3 ⟨a2, c2, he3, f3d, hk3⟩
      have f3 : Fuw wr w3 := Fuw.trans (Fuw.drew (Fuw.refl wr)) f3d
      clear f3d
      unfold va at he3
      simp only [List.length_nil] at he3
      subst he3
      have o3 := ok0_of (hk3 w3 (Nat.le_refl _) (fun _ _ _ => rfl))
      have hh3 := bz_on hh f3
      obtain ⟨fz, q0, q1, q2, q3, q4, q5, q6, q7, q8, q9⟩ := v10_cells hh3
      have fz0 := fz 0; have fz1 := fz 1; have fz2 := fz 2; have fz3 := fz 3; have fz4 := fz 4; have fz5 := fz 5; have fz6 := fz 6; have fz7 := fz 7; have fz8 := fz 8; have fz9 := fz 9
      have HH3 := Lib.hid hh3
      clear hh hh3 fz hk3
      go_wp2
      go_roundw
      case rel => exact ⟨2, rfl, fuw_hi (Fuw.trans hf f3) (Nat.le_of_eq HG.out) _ _ _ _ _, .inr (.inr ⟨rfl, rfl, a, c, a2, c2, oa, o3, put_hi HH3.out 2 (-1) a2 c2⟩)⟩
      case measure => simp [RowKit.intOf]
    · have HH := Lib.hid hh
      clear hh
      go_wp2
      go_ret3
      exact ⟨_, _, rfl, hf, fun lo hlo => kp_two (by rw [← HG.out]; exact hlo) oa ob HH.out⟩
end Go.Proofs.YtehmdeponbhhjaaDoor
