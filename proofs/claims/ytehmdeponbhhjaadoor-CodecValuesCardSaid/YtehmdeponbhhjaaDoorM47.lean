/-
  CdS; CdL: texts of one kind in one file; each part says what it holds.
-/
import Derived.Test.YtehmdeponbhhjaaDoorCdT
import Derived.Test.YtehmdeponbhhjaaDoorM16
import Derived.Lib.SlBytesConst

/-! Package codec: Value reads the list [null, -1] out of its five bytes. Nothing that was there turns. -/
namespace Go.Proofs.YtehmdeponbhhjaaDoor
open Go.RowKit

set_option maxHeartbeats 8000000 in
set_option maxRecDepth 100000 in
theorem rf_list (ao : Option Addr) (cap : Nat) (B : Nat) (U : World) (h : IsB U ao l0 cap) (hq : U.heap[B]? = some (.cells (va 8 0 none 0 0) 26 (0, 0))) : RFat ao l0 cap 1 8 8 0 lv0 5 B U := by
  obtain ⟨c0, c1, c2, c3, c4, cf, cl⟩ := bz_cells hq
  have HE := Lib.hid (els_two ao cap U h)
  have hl0 : l0.length = 5 := rfl
  have hl2 : lv0.length = 2 := rfl
  unfold RFat
  rw [hl0] at HE ⊢
  rw [hl2]
  have HQ := Lib.hid hq
  clear h hq hl0 hl2 c1 c2 c3 c4
  go_enter Tryd.func29, Tryd.ntmps29
  go_wp2_with fail
  go_at_call 43; refine HE.out.mono ?_; rintro e1 w1 ⟨a2, c2, rfl, f1, hk⟩
  have hq1 := bz_on HQ.out f1
  obtain ⟨x0, x1, x2, x3, x4, xf, xl⟩ := bz_cells hq1
  have xf4 := xf 4
  have HK := Lib.hid (hk B cl)
  have HQ1 := Lib.hid hq1
  clear hk xf hq1 HE
  go_wp2
  go_ret2
  refine ⟨a2, c2, rfl, bz_set4 HQ1.out a2 2 c2, fun X hX hXB => fuw_set (Fuw.trans hX f1) hXB, fun w3 hs hw => HK.out w3 ?_ fun b h1 h2 => ?_⟩
  · simp at hs; omega
  · rw [hw b h1 (by simp; omega), heap_set_other (by omega)]
theorem vat_list (ao : Option Addr) (cap : Nat) (w : World) (h : IsB w ao l0 cap) :
    Calls Tryd.prog 14 #[.slice ao l0.length cap, .int .i64 0, .int .i64 8] w (RetX5 w 8 0 lv0 5) :=
  vat_by ao l0 cap 0 8 8 0 5 lv0 w h (by decide) (by decide) (by decide) (.inr (by decide)) ⟨by decide, by decide⟩ (by decide) fun B U hf hB hq => rf_list ao cap B U (h.on hf) hq
set_option maxHeartbeats 8000000 in
set_option maxRecDepth 100000 in
theorem value_list (ao : Option Addr) (cap : Nat) (w : World) (h : IsB w ao l0 cap) :
    Calls Tryd.prog 5 #[.slice ao l0.length cap, .int .i64 0] w (RetX5 w 8 0 lv0 5) := by
  obtain ⟨z, f0⟩ := bz0 w
  obtain ⟨W, hW⟩ : ∃ W, (w.alloc (.cells #[.int .i64 0, .int .i64 0, .int .i64 0, .string ⟨#[]⟩, .slice none 0 0] 26)) = W := ⟨_, rfl⟩
  rw [hW] at z f0
  have hl0 : l0.length = 5 := rfl
  have HV := Lib.hid (vat_list ao cap W (h.on f0))
  rw [hl0] at HV ⊢
  clear h hl0
  have zz := (bz_cells z).2.2.2.2.2.2
  go_enter Tryd.func5, Tryd.ntmps5
  go_upto_region 1 with fail
  clear hW
  go_wp2_with fail
  go_at_call 14; refine HV.out.mono ?_; rintro e3 w3 ⟨a2, c2, he3, f3, hk3⟩
  rw [show lv0.length = 2 from rfl] at he3
  unfold va at he3
  subst he3
  have h3 := bz_on z f3
  obtain ⟨x0, x1, x2, x3, x4, xf, xl⟩ := bz_cells h3
  have xf0 := xf 0; have xf1 := xf 1; have xf2 := xf 2; have xf3 := xf 3; have xf4 := xf 4
  have HH3 := Lib.hid h3
  have HK := Lib.hid hk3
  have hs3 := f3.size
  clear h3 xf hk3 z HV
  go_wp2
  try simp only [Exit.inBlock, Exit.then]
  refine vx_ret rfl rfl rfl rfl (val_put' w3 _ _ _ _ _ _ _ _ _ _ _ _ _ HH3.out) (fuw_put5 (Fuw.trans f0 f3) (Nat.le_refl _) _ _ _ _ _) ?_
  intro w4 hs4 hw4
  refine HK.out w4 ?_ (fun b h1 h2 => ?_)
  · simp at hs4; omega
  · rw [hw4 b (by omega) (by simp; omega), heap_set_other (by omega), heap_set_other (by omega), heap_set_other (by omega), heap_set_other (by omega), heap_set_other (by omega)]
end Go.Proofs.YtehmdeponbhhjaaDoor

/-! The worked examples of package codec hold: alive of package graphdblaw05 gives true. Condition: the table of halves of a byte reads as its initialiser lays it (Good5). Nothing that was there turns. -/
namespace Go.Proofs.YtehmdeponbhhjaaDoor
open Go.RowKit

theorem putU_300 : putU 300 = [172, 2] := by
  unfold putU
  rw [if_neg (by decide), show (300 : Int).toNat = 300 from rfl, Lib.uvarint_big (by decide), Lib.uvarint_small (by decide)]
  decide
theorem putI_m1 : putI (-1) = [1] := by
  unfold putI
  rw [show Lib.zigzag (-1) = 1 from by decide, Lib.uvarint_small (by decide)]
  decide
theorem putS_ab : putS [97, 98] = [2, 97, 98] := by
  unfold putS
  rw [show ([97, 98] : List UInt8).length = 2 from rfl, Lib.uvarint_small (by decide)]
  decide
theorem frame_0 : frameV [] = [0, 0, 0, 0, 0] := by
  unfold frameV
  rw [show ([] : List UInt8).length = 0 from rfl, Lib.uvarint_small (by decide)]
  decide +kernel
theorem crc_9 : crc [49, 50, 51, 52, 53, 54, 55, 56, 57] = 3421780262 := by decide +kernel
/-- A slice laid out of bytes. -/
theorem IsB.lit {w : World} {g : Nat} {L : List UInt8} {t : TypeId} {f : Nat × Nat} (h : w.heap[g]? = some (.cells (Lib.byteCells L).toArray t f)) (hm : L.length ≤ 100) : IsB w (some ⟨g, 0, none⟩) L L.length := by
  have hlt : g < w.heap.size := by
    rcases Nat.lt_or_ge g w.heap.size with k | k
    · exact k
    · rw [Array.getElem?_eq_none k] at h; cases h
  refine ⟨Nat.le_refl _, by unfold maxLen; omega, (fun e => by cases e), fun _ => ⟨g, 0, rfl, hlt, fun j hj => ?_⟩⟩
  unfold World.cell?
  rw [Nat.zero_add]
  simp only [h]
  have := byteCells_get hj
  simpa using this
theorem lit_new (w : World) (L : List UInt8) (hm : L.length ≤ 100) (t : TypeId) : IsB (w.alloc (.cells (Lib.byteCells L).toArray t)) (some ⟨w.heap.size, 0, none⟩) L L.length :=
  IsB.lit (t := t) (f := (0, 0)) (by show (w.heap.push _)[w.heap.size]? = _; rw [Array.getElem?_push, if_pos rfl]) hm
/-- The nine digits, as the text writes them: the block is marked behind its end. -/
def dig9 : List UInt8 := [49, 50, 51, 52, 53, 54, 55, 56, 57]
theorem conv_nine (w : World) : ∃ W, (∀ c, (convert 22 22 (.slice (some ⟨w.heap.size, 0, none⟩) 9 c)).run Tryd.prog (w.alloc (.cells #[.int .u8 49, .int .u8 50, .int .u8 51, .int .u8 52, .int .u8 53, .int .u8 54, .int .u8 55, .int .u8 56, .int .u8 57] 5)) = .ok (.slice (some ⟨w.heap.size, 0, none⟩) 9 c) W) ∧ IsB W (some ⟨w.heap.size, 0, none⟩) dig9 9 ∧ ∀ X, Fuw X w → Fuw X W := by
  refine ⟨w.alloc (.cells (Lib.byteCells dig9).toArray 5 (9, 10)), fun c => ?_, ?_, fun X hX => hX.alloc _⟩
  · exact Lib.run_convert_bytes_const w 22 5 (Lib.byteCells dig9).toArray 9 c Tryd.underlying22 Tryd.underlying5
  · exact IsB.lit (t := 5) (f := (9, 10)) (by show (w.heap.push _)[w.heap.size]? = _; rw [Array.getElem?_push, if_pos rfl]) (by decide)
set_option maxHeartbeats 16000000 in
set_option maxRecDepth 4000000 in
theorem live_any : Alive5 := fun w G => by
  have HG := Lib.hid G
  clear G
  have i1 : IsB (w.alloc (.cells #[.int .u8 172, .int .u8 2] 5)) (some ⟨w.heap.size, 0, none⟩) [172, 2] 2 := lit_new w [172, 2] (by decide) _
  have f1 : Fuw w (w.alloc (.cells #[.int .u8 172, .int .u8 2] 5)) := (Fuw.refl w).alloc _
  obtain ⟨W1, hW1⟩ : ∃ W1, (w.alloc (.cells #[.int .u8 172, .int .u8 2] 5)) = W1 := ⟨_, rfl⟩
  rw [hW1] at i1 f1
  have H1 : Hid (Calls Tryd.prog 8 #[.slice (some ⟨w.heap.size, 0, none⟩) 2 2, .int .i64 0] W1 (Ret3 W1 .i64 300 2 0)) := Lib.hid (uint_is _ [172, 2] 2 0 (by decide) (by decide) W1 i1 300 2 0 (by decide +kernel))
  clear i1
  go_enter Tryd.func4, Tryd.ntmps4
  go_wp2_with fail
  go_at_call 8; refine H1.out.mono ?_; rintro e1 w1 ⟨rfl, rfl⟩
  clear H1 hW1
  have i2 : IsB (W1.alloc (.cells #[.int .u8 128, .int .u8 0] 5)) (some ⟨W1.heap.size, 0, none⟩) [128, 0] 2 := lit_new W1 [128, 0] (by decide) _
  have f2 : Fuw w (W1.alloc (.cells #[.int .u8 128, .int .u8 0] 5)) := f1.alloc _
  obtain ⟨W2, hW2⟩ : ∃ W2, (W1.alloc (.cells #[.int .u8 128, .int .u8 0] 5)) = W2 := ⟨_, rfl⟩
  rw [hW2] at i2 f2
  have H2 : Hid (Calls Tryd.prog 8 #[.slice (some ⟨W1.heap.size, 0, none⟩) 2 2, .int .i64 0] W2 (Ret3 W2 .i64 0 0 2)) := Lib.hid (uint_is _ [128, 0] 2 0 (by decide) (by decide) W2 i2 0 0 2 (by decide +kernel))
  clear i2 f1
  go_wp2_with fail
  go_at_call 8; refine H2.out.mono ?_; rintro e1 w1 ⟨rfl, rfl⟩
  clear H2 hW2
  have i3 : IsB (W2.alloc (.cells #[.int .u8 8, .int .u8 2, .int .u8 0, .int .u8 2, .int .u8 1] 5)) (some ⟨W2.heap.size, 0, none⟩) l0 5 := lit_new W2 l0 (by decide) _
  have f3 : Fuw w (W2.alloc (.cells #[.int .u8 8, .int .u8 2, .int .u8 0, .int .u8 2, .int .u8 1] 5)) := f2.alloc _
  obtain ⟨W3, hW3⟩ : ∃ W3, (W2.alloc (.cells #[.int .u8 8, .int .u8 2, .int .u8 0, .int .u8 2, .int .u8 1] 5)) = W3 := ⟨_, rfl⟩
  rw [hW3] at i3 f3
  have H3 : Hid (Calls Tryd.prog 5 #[.slice (some ⟨W2.heap.size, 0, none⟩) 5 5, .int .i64 0] W3 (RetX5 W3 8 0 lv0 5)) := Lib.hid (value_list _ 5 W3 i3)
  clear i3 f2
  go_wp2_with fail
  go_at_call 5; refine H3.out.mono ?_; rintro e1 w1 ⟨a2, c2, he1, g1, hk⟩
  rw [show lv0.length = 2 from rfl] at he1
  unfold va at he1
  subst he1
  have hsl := hk w1 (Nat.le_refl _) (fun _ _ _ => rfl)
  obtain ⟨b, o, rfl, hve⟩ := hsl.at_ (by decide)
  unfold lv0 VE VE at hve
  have hc := (VC_of hve.2.1).2.2.1
  clear hW3 H3 hk hsl hve
  have f4 := Fuw.trans f3 g1
  clear f3 g1
  obtain ⟨z1, fz⟩ := bz0 w1
  obtain ⟨V, hV⟩ : ∃ V, (w1.alloc (.cells #[.int .i64 0, .int .i64 0, .int .i64 0, .string ⟨#[]⟩, .slice none 0 0] 26)) = V := ⟨_, rfl⟩
  rw [hV] at z1 fz
  obtain ⟨v0, v1, v2, v3, v4, vf, vl⟩ := bz_cells z1
  have vf0 := vf 0; have vf1 := vf 1; have vf2 := vf 2; have vf3 := vf 3; have vf4 := vf 4
  go_upto_region 4 with fail
  have hbl : b < w1.heap.size := World.block_lt_of_cell? w1 _ hc
  have q := val_put' V w1.heap.size _ _ _ _ _ (.int .i64 8) (.int .i64 0) (.int .i64 0) (.string ⟨#[]⟩) (.slice (some ⟨b, o, none⟩) 2 c2) _ _ z1
  have g := fuw_put5 fz (Nat.le_refl _) (.int .i64 8) (.int .i64 0) (.int .i64 0) (.string ⟨#[]⟩) (.slice (some ⟨b, o, none⟩) 2 c2)
  clear hV v0 v1 v2 v3 v4 vf vl vf0 vf1 vf2 vf3 vf4 z1 fz
  generalize (((((V.setCell ⟨w1.heap.size, 0, none⟩ (.int .i64 8)).setCell ⟨w1.heap.size, 1, none⟩ (.int .i64 0)).setCell ⟨w1.heap.size, 2, none⟩ (.int .i64 0)).setCell ⟨w1.heap.size, 3, none⟩ (.string ⟨#[]⟩)).setCell ⟨w1.heap.size, 4, none⟩ (.slice (some ⟨b, o, none⟩) 2 c2)) = U at *
  have hc1 : U.cell? ⟨b, o + 5 + 1, none⟩ = some (.int .i64 (-1)) := (Below.cell g (p := ⟨b, o + 5 + 1, none⟩) hbl).trans hc
  have f5 := Fuw.trans f4 g
  generalize w1.heap.size = B at *
  have hq : U.heap[B]? = some (.cells (va 8 0 (some ⟨b, o, none⟩) 2 c2) 26 (0, 0)) := q
  clear q hc g f4
  have HF := Lib.hid (frame_is none [] 0 U (IsB.empty U) (HG.out.on f5) (by decide))
  rw [frame_0] at HF
  go_wp2_with fail
  go_at_call 9; refine HF.out.mono ?_; rintro e2 w2 ⟨a6, c6, rfl, i6, f6⟩
  clear HF
  have hblU : b < U.heap.size := World.block_lt_of_cell? U _ hc1
  have hc2 : w2.cell? ⟨b, o + 5 + 1, none⟩ = some (.int .i64 (-1)) := (Below.cell f6 (p := ⟨b, o + 5 + 1, none⟩) hblU).trans hc1
  have hq2 := bz_on hq f6
  have f7 := Fuw.trans f5 f6
  have HI6 := Lib.hid i6
  clear hq hc1 f5 f6 hblU i6
  go_upto_region 5 with fail
  simp only [List.append_eq, List.cons_append, List.nil_append]
  have hb2 : b < w2.heap.size := World.block_lt_of_cell? w2 _ hc2
  have ff : Fuw w2 w2 := Fuw.refl w2
  have HQ2 := Lib.hid hq2
  have HC2 := Lib.hid hc2
  have HB2 := Lib.hid hb2
  have F7 := Lib.hid f7
  clear hq2 hc2 hb2 f7 hbl
  go_wp2_with (first
    | (go_at_call 10; refine (put_uint 300 (by decide) (by decide) _).mono ?_; rintro e7 w7 ⟨a7, c7, he7, i7, g7⟩; rw [putU_300] at he7 i7; subst he7; replace ff := Fuw.trans ff g7; have hcv7 : (convert 22 9 (.slice a7 2 c7)).run Tryd.prog w7 = .ok (.string ⟨#[172, 2]⟩) w7 := conv_bytes i7; clear i7 g7)
    | (go_at_call 11; refine (put_int (-1) (by decide) (by decide) _).mono ?_; rintro e8 w8 ⟨a8, c8, he8, i8, g8⟩; rw [putI_m1] at he8 i8; subst he8; replace ff := Fuw.trans ff g8; have hcv8 : (convert 22 9 (.slice a8 1 c8)).run Tryd.prog w8 = .ok (.string ⟨#[1]⟩) w8 := conv_bytes i8; clear i8 g8)
    | (go_at_call 12; refine (put_str ⟨#[97, 98]⟩ (by decide) _).mono ?_; rintro e9 w9 ⟨a9, c9, he9, i9, g9⟩; rw [show (⟨#[97, 98]⟩ : ByteArray).data.toList = [97, 98] from rfl, putS_ab] at he9 i9; subst he9; replace ff := Fuw.trans ff g9; have hcv9 : (convert 22 9 (.slice a9 3 c9)).run Tryd.prog w9 = .ok (.string ⟨#[2, 97, 98]⟩) w9 := conv_bytes i9; obtain ⟨x0, x1, x2, x3, x4, -, -⟩ := bz_cells (bz_on HQ2.out ff); obtain ⟨WN, hcn, iN, fN⟩ := conv_nine w9; replace hcn := hcn 9; have hc9 := (Below.cell ff (p := ⟨b, o + 5 + 1, none⟩) HB2.out).trans HC2.out; clear i9 g9)
    | (go_at_call 13; refine (sum_is _ dig9 9 _ iN (HG.out.on (fN _ (Fuw.trans F7.out ff)))).mono ?_; rintro e5 w5 ⟨he5, hw5⟩; rw [show crc dig9 = 3421780262 from crc_9] at he5; subst he5; subst hw5; have hcv10 : (convert 22 9 (.slice a6 5 c6)).run Tryd.prog WN = .ok (.string ⟨#[0, 0, 0, 0, 0]⟩) WN := conv_bytes (HI6.out.on (fN _ ff))))
  go_wp2
  go_ret
  exact ⟨rfl, fN _ (Fuw.trans F7.out ff)⟩
end Go.Proofs.YtehmdeponbhhjaaDoor
