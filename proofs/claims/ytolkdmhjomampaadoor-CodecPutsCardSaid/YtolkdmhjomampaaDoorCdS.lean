/-
  Package codec: Value reads the list [null, -1] out of its five bytes. Nothing that was there turns.
-/
import Derived.Test.YtolkdmhjomampaaDoorCdT
namespace Go.Proofs.YtolkdmhjomampaaDoor
open Go.RowKit

set_option maxHeartbeats 8000000 in
set_option maxRecDepth 100000 in
theorem rf_list (ao : Option Addr) (cap : Nat) (B : Nat) (U : World) (h : IsB U ao l0 cap) (hq : U.heap[B]? = some (.cells (va 8 0 none 0 0) 24 (0, 0))) : RFat ao l0 cap 1 8 8 0 lv0 5 B U := by
  obtain ⟨c0, c1, c2, c3, c4, cf, cl⟩ := bz_cells hq
  have HE := Lib.hid (els_two ao cap U h)
  have hl0 : l0.length = 5 := rfl
  have hl2 : lv0.length = 2 := rfl
  unfold RFat
  rw [hl0] at HE ⊢
  rw [hl2]
  have HQ := Lib.hid hq
  clear h hq hl0 hl2 c1 c2 c3 c4
  go_enter Tryd.func55, Tryd.ntmps55
  go_wp2_with fail
  go_at_call 77; refine HE.out.mono ?_; rintro e1 w1 ⟨a2, c2, rfl, f1, hk⟩
  have hq1 := bz_on HQ.out f1
  obtain ⟨x0, x1, x2, x3, x4, xf, xl⟩ := bz_cells hq1
  have xf4 := xf 4
  have HK := Lib.hid (hk B cl)
  have HQ1 := Lib.hid hq1
  clear hk xf hq1 HE
  go_wp2
  go_ret2
  refine ⟨a2, c2, rfl, bz_set4 HQ1.out a2 2 c2, fun X hX hXB => fuw_set (Fuw.trans hX f1) hXB, fun w3 hs hw => HK.out w3 ?_ fun b h1 h2 => ?_⟩
  · simp at hs; omega
  · rw [hw b h1 (by simp; omega), heap_set_other (by omega)]
theorem vat_list (ao : Option Addr) (cap : Nat) (w : World) (h : IsB w ao l0 cap) :
    Calls Tryd.prog 40 #[.slice ao l0.length cap, .int .i64 0, .int .i64 8] w (RetX5 w 8 0 lv0 5) :=
  vat_by ao l0 cap 0 8 8 0 5 lv0 w h (by decide) (by decide) (by decide) (.inr (by decide)) ⟨by decide, by decide⟩ (by decide) fun B U hf hB hq => rf_list ao cap B U (h.on hf) hq
set_option maxHeartbeats 8000000 in
set_option maxRecDepth 100000 in
theorem value_list (ao : Option Addr) (cap : Nat) (w : World) (h : IsB w ao l0 cap) :
    Calls Tryd.prog 18 #[.slice ao l0.length cap, .int .i64 0] w (RetX5 w 8 0 lv0 5) := by
  obtain ⟨z, f0⟩ := bz0 w
  obtain ⟨W, hW⟩ : ∃ W, (w.alloc (.cells #[.int .i64 0, .int .i64 0, .int .i64 0, .string ⟨#[]⟩, .slice none 0 0] 24)) = W := ⟨_, rfl⟩
  rw [hW] at z f0
  have hl0 : l0.length = 5 := rfl
  have HV := Lib.hid (vat_list ao cap W (h.on f0))
  rw [hl0] at HV ⊢
  clear h hl0
  have zz := (bz_cells z).2.2.2.2.2.2
  go_enter Tryd.func18, Tryd.ntmps18
  go_upto_region 1 with fail
  clear hW
  go_wp2_with fail
  go_at_call 40; refine HV.out.mono ?_; rintro e3 w3 ⟨a2, c2, he3, f3, hk3⟩
  rw [show lv0.length = 2 from rfl] at he3
  unfold va at he3
  subst he3
  have h3 := bz_on z f3
  obtain ⟨x0, x1, x2, x3, x4, xf, xl⟩ := bz_cells h3
  have xf0 := xf 0; have xf1 := xf 1; have xf2 := xf 2; have xf3 := xf 3; have xf4 := xf 4
  have HH3 := Lib.hid h3
  have HK := Lib.hid hk3
  have hs3 := f3.size
  clear h3 xf hk3 z HV
  go_wp2
  try simp only [Exit.inBlock, Exit.then]
  refine vx_ret rfl rfl rfl rfl (val_put' w3 _ _ _ _ _ _ _ _ _ _ _ _ _ HH3.out) (fuw_put5 (Fuw.trans f0 f3) (Nat.le_refl _) _ _ _ _ _) ?_
  intro w4 hs4 hw4
  refine HK.out w4 ?_ (fun b h1 h2 => ?_)
  · simp at hs4; omega
  · rw [hw4 b (by omega) (by simp; omega), heap_set_other (by omega), heap_set_other (by omega), heap_set_other (by omega), heap_set_other (by omega), heap_set_other (by omega)]
end Go.Proofs.YtolkdmhjomampaaDoor
