/-
  The reference of package codec: a value inside lists (nested), out of what follows the byte of its kind. Nothing that was there turns.
-/
import Derived.Test.YtehmdeponbhhjaaDoorRnA
import Derived.Test.YtehmdeponbhhjaaDoorM31
namespace Go.Proofs.YtehmdeponbhhjaaDoor
open Go.RowKit

set_option maxHeartbeats 6400000 in
set_option maxRecDepth 100000 in
theorem nest_end (ao : Option Addr) (l : List UInt8) (cap : Nat) (lists path : Int) (w : World) : Calls Tryd.prog 15 #[.slice ao l.length cap, .int .i64 (l.length : Int), .int .i64 lists, .int .i64 path] w (RetG w (.er 3)) := by
  have hl0 : (0 : Int) ≤ l.length := by omega
  obtain ⟨W, hW⟩ : ∃ W, w.alloc (.cells #[.int .i64 0, .int .i64 0, .int .i64 0, .string ⟨#[]⟩, .slice none 0 0] 26) = W := ⟨_, rfl⟩
  obtain ⟨hR, hF⟩ : W.heap[w.heap.size]? = some (.cells (vc v0 none 0) 26 (0, 0)) ∧ Fuw w W := by rw [← hW]; exact bz0 w
  have HR := Lib.hid hR
  have HF := Lib.hid hF
  have HZ := Lib.hid (vc_cells hR).2.2.2.2.2.2
  clear hR hF
  go_enter Tryd.func15, Tryd.ntmps15
  go_upto_region 1 with fail
  clear hW
  obtain ⟨y0, y1, y2, y3, y4, yf, yl⟩ := vc_cells HR.out
  have yf0 := yf 0; have yf1 := yf 1; have yf2 := yf 2; have yf3 := yf 3; have yf4 := yf 4
  clear yf
  go_wp2
  all_goals
    try simp only [Exit.inBlock, Exit.then]
    exact vg_ret (x := v0) (B := w.heap.size) (cap := 0) (ao := none) rfl rfl rfl rfl (val_put' _ w.heap.size _ _ _ _ _ _ _ _ _ _ _ _ HR.out) ⟨fuw_put5 HF.out (Nat.le_refl _) _ _ _ _ _, rfl, by decide⟩
set_option maxHeartbeats 6400000 in
set_option maxRecDepth 100000 in
theorem nest_bad (ao : Option Addr) (l : List UInt8) (cap : Nat) (a k : Nat) (lists path : Int) (w : World) (h : IsB w ao l cap) (ha : a < l.length) (h0 : (l.getD a 0).toNat = k) (hk : k < 256)
    (hbad : 8 < (k : Int) ∨ ((k : Int) = 8 ∧ 8 ≤ lists) ∨ (0 ≤ path ∧ path % 2 = 0 ∧ ¬ (k : Int) = 5) ∨ (0 ≤ path ∧ path % 2 = 1 ∧ ¬ (k : Int) = 6)) : Calls Tryd.prog 15 #[.slice ao l.length cap, .int .i64 a, .int .i64 lists, .int .i64 path] w (RetG w (.er 2)) := by
  have hlen := h.len.1
  obtain ⟨b, off, rfl, hb, hc⟩ := h.at_ (by omega)
  have hck := hc a ha
  rw [h0] at hck
  clear hc
  have hai : (a : Int) < l.length := by omega
  have hai2 : ¬ (l.length : Int) < (a : Int) := by omega
  have haw : ((a : Int) == (l.length : Int)) = false := by rw [beq_eq_false_iff_ne]; omega
  have haN : a < l.length := ha
  obtain ⟨W, hW⟩ : ∃ W, w.alloc (.cells #[.int .i64 0, .int .i64 0, .int .i64 0, .string ⟨#[]⟩, .slice none 0 0] 26) = W := ⟨_, rfl⟩
  obtain ⟨hR, hF⟩ : W.heap[w.heap.size]? = some (.cells (vc v0 none 0) 26 (0, 0)) ∧ Fuw w W := by rw [← hW]; exact bz0 w
  have HR := Lib.hid hR
  have HF := Lib.hid hF
  have HZ := Lib.hid (vc_cells hR).2.2.2.2.2.2
  clear hR hF
  have hck1 := (Below.cell HF.out (p := ⟨b, off + a, none⟩) hb).trans hck
  have hkI : (k : Int) < 256 := by omega
  have hk0 : (0 : Int) ≤ k := by omega
  clear h h0 hck hk ha
  generalize (k : Int) = K at *
  go_enter Tryd.func15, Tryd.ntmps15
  go_upto_region 6 with fail
  clear hW
  obtain ⟨y0, y1, y2, y3, y4, yf, yl⟩ := vc_cells HR.out
  have yf0 := yf 0; have yf1 := yf 1; have yf2 := yf 2; have yf3 := yf 3; have yf4 := yf 4
  clear yf
  by_cases g1 : 8 < K
  · clear hbad
    go_wp2
    all_goals
      try simp only [Exit.inBlock, Exit.then]
      exact vg_ret (x := v0) (B := w.heap.size) (cap := 0) (ao := none) rfl rfl rfl rfl (val_put' _ w.heap.size _ _ _ _ _ _ _ _ _ _ _ _ HR.out) ⟨fuw_put5 HF.out (Nat.le_refl _) _ _ _ _ _, rfl, by decide⟩
  have g1' : K ≤ 8 := by omega
  by_cases g2 : K = 8
  · subst g2
    by_cases g3 : 8 ≤ lists
    · clear hbad
      go_wp2
      all_goals
        try simp only [Exit.inBlock, Exit.then]
        exact vg_ret (x := v0) (B := w.heap.size) (cap := 0) (ao := none) rfl rfl rfl rfl (val_put' _ w.heap.size _ _ _ _ _ _ _ _ _ _ _ _ HR.out) ⟨fuw_put5 HF.out (Nat.le_refl _) _ _ _ _ _, rfl, by decide⟩
    · rcases hbad with q | q | ⟨q1, q2, q3⟩ | ⟨q1, q2, q3⟩
      · exfalso; omega
      · exfalso; omega
      · have q2' : (path % 2 == 0) = true := by rw [q2]; rfl
        clear q2 q3
        go_wp2
        all_goals
          try simp only [Exit.inBlock, Exit.then]
          exact vg_ret (x := v0) (B := w.heap.size) (cap := 0) (ao := none) rfl rfl rfl rfl (val_put' _ w.heap.size _ _ _ _ _ _ _ _ _ _ _ _ HR.out) ⟨fuw_put5 HF.out (Nat.le_refl _) _ _ _ _ _, rfl, by decide⟩
      · have q2' : (path % 2 == 1) = true := by rw [q2]; rfl
        have q4' : (path % 2 == 0) = false := by rw [q2]; rfl
        clear q2 q3
        go_wp2
        all_goals
          try simp only [Exit.inBlock, Exit.then]
          exact vg_ret (x := v0) (B := w.heap.size) (cap := 0) (ao := none) rfl rfl rfl rfl (val_put' _ w.heap.size _ _ _ _ _ _ _ _ _ _ _ _ HR.out) ⟨fuw_put5 HF.out (Nat.le_refl _) _ _ _ _ _, rfl, by decide⟩
  have g2' : (K == 8) = false := by rw [beq_eq_false_iff_ne]; exact g2
  rcases hbad with q | q | ⟨q1, q2, q3⟩ | ⟨q1, q2, q3⟩
  · exfalso; omega
  · exfalso; omega
  · have q2' : (path % 2 == 0) = true := by rw [q2]; rfl
    have q3' : (K != 5) = true := by rw [bne_iff_ne]; exact q3
    clear q2 q3 g2
    go_wp2
    all_goals
      try simp only [Exit.inBlock, Exit.then]
      exact vg_ret (x := v0) (B := w.heap.size) (cap := 0) (ao := none) rfl rfl rfl rfl (val_put' _ w.heap.size _ _ _ _ _ _ _ _ _ _ _ _ HR.out) ⟨fuw_put5 HF.out (Nat.le_refl _) _ _ _ _ _, rfl, by decide⟩
  · have q2' : (path % 2 == 1) = true := by rw [q2]; rfl
    have q4' : (path % 2 == 0) = false := by rw [q2]; rfl
    have q3' : (K != 6) = true := by rw [bne_iff_ne]; exact q3
    clear q2 q3 g2
    go_wp2
    all_goals
      try simp only [Exit.inBlock, Exit.then]
      exact vg_ret (x := v0) (B := w.heap.size) (cap := 0) (ao := none) rfl rfl rfl rfl (val_put' _ w.heap.size _ _ _ _ _ _ _ _ _ _ _ _ HR.out) ⟨fuw_put5 HF.out (Nat.le_refl _) _ _ _ _ _, rfl, by decide⟩
set_option maxHeartbeats 6400000 in
set_option maxRecDepth 100000 in
theorem nest_err (ao : Option Addr) (l : List UInt8) (cap : Nat) (a k : Nat) (lists path : Int) (w : World) (h : IsB w ao l cap) (ha : a < l.length) (h0 : (l.getD a 0).toNat = k) (hk8 : k ≤ 8) (hnest : ¬ (k : Int) = 8 ∨ lists < 8) (hpath : path < 0 ∨ (0 ≤ path ∧ path % 2 = 0 ∧ k = 5) ∨ (0 ≤ path ∧ path % 2 = 1 ∧ k = 6)) (c : Int) (HC : ∀ U, Fuw w U → Calls Tryd.prog 31 #[.slice ao l.length cap, .int .i64 ((a : Int) + 1), .int .i64 (k : Int), .int .i64 lists] U (RetC U (.er c))) : Calls Tryd.prog 15 #[.slice ao l.length cap, .int .i64 a, .int .i64 lists, .int .i64 path] w (RetG w (.er c)) := by
  have hlen := h.len.1
  obtain ⟨b, off, rfl, hb, hc⟩ := h.at_ (by omega)
  have hck := hc a ha
  rw [h0] at hck
  clear hc
  have hai : (a : Int) < l.length := by omega
  have hai2 : ¬ (l.length : Int) < (a : Int) := by omega
  have haw : ((a : Int) == (l.length : Int)) = false := by rw [beq_eq_false_iff_ne]; omega
  have haN : a < l.length := ha
  obtain ⟨W, hW⟩ : ∃ W, w.alloc (.cells #[.int .i64 0, .int .i64 0, .int .i64 0, .string ⟨#[]⟩, .slice none 0 0] 26) = W := ⟨_, rfl⟩
  obtain ⟨hR, hF⟩ : W.heap[w.heap.size]? = some (.cells (vc v0 none 0) 26 (0, 0)) ∧ Fuw w W := by rw [← hW]; exact bz0 w
  have HR := Lib.hid hR
  have HF := Lib.hid hF
  have HZ := Lib.hid (vc_cells hR).2.2.2.2.2.2
  clear hR hF
  have HCC := Lib.hid (HC W HF.out)
  have hck1 := (Below.cell HF.out (p := ⟨b, off + a, none⟩) hb).trans hck
  have hkI : (k : Int) ≤ 8 := by omega
  have hkI' : ¬ 8 < (k : Int) := by omega
  have hk0 : (0 : Int) ≤ k := by omega
  have hp5 : path < 0 ∨ (0 ≤ path ∧ path % 2 = 0 ∧ (k : Int) = 5) ∨ (0 ≤ path ∧ path % 2 = 1 ∧ (k : Int) = 6) := by omega
  clear h h0 hck ha hk8 hpath HC
  unfold RetC at HCC
  generalize (k : Int) = K at *
  go_enter Tryd.func15, Tryd.ntmps15
  go_upto_region 6 with fail
  clear hW
  rcases hp5 with p1 | ⟨p1, p2, p3⟩ | ⟨p1, p2, p3⟩
  · have p1' : ¬ 0 ≤ path := by omega
    by_cases g2 : K = 8
    · subst g2
      have g3 : ¬ 8 ≤ lists := by omega
      clear hnest
      go_wp2_with fail
      go_at_call 31; refine HCC.out.mono ?_; rintro e1 w1 ⟨f1, y, a2, c2, E, he1, hc0⟩
      unfold vc at he1
      subst he1
      have HK := Lib.hid (bz_on HR.out f1)
      have HF1 := Lib.hid (Fuw.trans HF.out f1)
      have hc1 : (c != 0) = true := by rw [bne_iff_ne]; exact hc0
      have HC0 := Lib.hid hc0
      clear hc0 f1
      go_upto_region 9 with fail
      generalize hV : w1.alloc _ = V1
      have HR1 := Lib.hid (show V1.heap[w.heap.size]? = some (.cells (vc v0 none 0) 26 (0, 0)) from by rw [← hV]; exact bz_on HK.out ((Fuw.refl w1).alloc _))
      have HF2 := Lib.hid (show Fuw w V1 from by rw [← hV]; exact (HF1.out).alloc _)
      clear hV
      obtain ⟨y0, y1, y2, y3, y4, yf, yl⟩ := vc_cells HR1.out
      have yf0 := yf 0; have yf1 := yf 1; have yf2 := yf 2; have yf3 := yf 3; have yf4 := yf 4
      clear yf
      go_wp2
      try simp only [Exit.inBlock, Exit.then]
      exact vg_ret (x := v0) (B := w.heap.size) (cap := 0) (ao := none) rfl rfl rfl rfl (val_put' _ w.heap.size _ _ _ _ _ _ _ _ _ _ _ _ HR1.out) ⟨fuw_put5 HF2.out (Nat.le_refl _) _ _ _ _ _, rfl, HC0.out⟩
    · have g2' : (K == 8) = false := by rw [beq_eq_false_iff_ne]; exact g2
      clear hnest g2
      go_wp2_with fail
      go_at_call 31; refine HCC.out.mono ?_; rintro e1 w1 ⟨f1, y, a2, c2, E, he1, hc0⟩
      unfold vc at he1
      subst he1
      have HK := Lib.hid (bz_on HR.out f1)
      have HF1 := Lib.hid (Fuw.trans HF.out f1)
      have hc1 : (c != 0) = true := by rw [bne_iff_ne]; exact hc0
      have HC0 := Lib.hid hc0
      clear hc0 f1
      go_upto_region 9 with fail
      generalize hV : w1.alloc _ = V1
      have HR1 := Lib.hid (show V1.heap[w.heap.size]? = some (.cells (vc v0 none 0) 26 (0, 0)) from by rw [← hV]; exact bz_on HK.out ((Fuw.refl w1).alloc _))
      have HF2 := Lib.hid (show Fuw w V1 from by rw [← hV]; exact (HF1.out).alloc _)
      clear hV
      obtain ⟨y0, y1, y2, y3, y4, yf, yl⟩ := vc_cells HR1.out
      have yf0 := yf 0; have yf1 := yf 1; have yf2 := yf 2; have yf3 := yf 3; have yf4 := yf 4
      clear yf
      go_wp2
      try simp only [Exit.inBlock, Exit.then]
      exact vg_ret (x := v0) (B := w.heap.size) (cap := 0) (ao := none) rfl rfl rfl rfl (val_put' _ w.heap.size _ _ _ _ _ _ _ _ _ _ _ _ HR1.out) ⟨fuw_put5 HF2.out (Nat.le_refl _) _ _ _ _ _, rfl, HC0.out⟩
  · subst p3
    have p2' : (path % 2 == 0) = true := by rw [p2]; rfl
    have p4' : (path % 2 == 1) = false := by rw [p2]; rfl
    clear hnest p2
    go_wp2_with fail
    go_at_call 31; refine HCC.out.mono ?_; rintro e1 w1 ⟨f1, y, a2, c2, E, he1, hc0⟩
    unfold vc at he1
    subst he1
    have HK := Lib.hid (bz_on HR.out f1)
    have HF1 := Lib.hid (Fuw.trans HF.out f1)
    have hc1 : (c != 0) = true := by rw [bne_iff_ne]; exact hc0
    have HC0 := Lib.hid hc0
    clear hc0 f1
    go_upto_region 9 with fail
    generalize hV : w1.alloc _ = V1
    have HR1 := Lib.hid (show V1.heap[w.heap.size]? = some (.cells (vc v0 none 0) 26 (0, 0)) from by rw [← hV]; exact bz_on HK.out ((Fuw.refl w1).alloc _))
    have HF2 := Lib.hid (show Fuw w V1 from by rw [← hV]; exact (HF1.out).alloc _)
    clear hV
    obtain ⟨y0, y1, y2, y3, y4, yf, yl⟩ := vc_cells HR1.out
    have yf0 := yf 0; have yf1 := yf 1; have yf2 := yf 2; have yf3 := yf 3; have yf4 := yf 4
    clear yf
    go_wp2
    try simp only [Exit.inBlock, Exit.then]
    exact vg_ret (x := v0) (B := w.heap.size) (cap := 0) (ao := none) rfl rfl rfl rfl (val_put' _ w.heap.size _ _ _ _ _ _ _ _ _ _ _ _ HR1.out) ⟨fuw_put5 HF2.out (Nat.le_refl _) _ _ _ _ _, rfl, HC0.out⟩
  · subst p3
    have p2' : (path % 2 == 1) = true := by rw [p2]; rfl
    have p4' : (path % 2 == 0) = false := by rw [p2]; rfl
    clear hnest p2
    go_wp2_with fail
    go_at_call 31; refine HCC.out.mono ?_; rintro e1 w1 ⟨f1, y, a2, c2, E, he1, hc0⟩
    unfold vc at he1
    subst he1
    have HK := Lib.hid (bz_on HR.out f1)
    have HF1 := Lib.hid (Fuw.trans HF.out f1)
    have hc1 : (c != 0) = true := by rw [bne_iff_ne]; exact hc0
    have HC0 := Lib.hid hc0
    clear hc0 f1
    go_upto_region 9 with fail
    generalize hV : w1.alloc _ = V1
    have HR1 := Lib.hid (show V1.heap[w.heap.size]? = some (.cells (vc v0 none 0) 26 (0, 0)) from by rw [← hV]; exact bz_on HK.out ((Fuw.refl w1).alloc _))
    have HF2 := Lib.hid (show Fuw w V1 from by rw [← hV]; exact (HF1.out).alloc _)
    clear hV
    obtain ⟨y0, y1, y2, y3, y4, yf, yl⟩ := vc_cells HR1.out
    have yf0 := yf 0; have yf1 := yf 1; have yf2 := yf 2; have yf3 := yf 3; have yf4 := yf 4
    clear yf
    go_wp2
    try simp only [Exit.inBlock, Exit.then]
    exact vg_ret (x := v0) (B := w.heap.size) (cap := 0) (ao := none) rfl rfl rfl rfl (val_put' _ w.heap.size _ _ _ _ _ _ _ _ _ _ _ _ HR1.out) ⟨fuw_put5 HF2.out (Nat.le_refl _) _ _ _ _ _, rfl, HC0.out⟩
theorem rokV_w (x : Vl) (hi : Vin x) (ao : Option Addr) (cap : Nat) (w : World) (hs : SlV w ao x.ll cap) :
    Calls Tryd.prog 16 #[.agg #[.int .i64 x.kd, .int .i64 x.nn, .int .i64 x.dd, .string (bs x.ss), .slice ao x.ll.length cap]] w (fun e w' => e = .returned (.bool (okX x)) ∧ Fuw w w') :=
  (rokV_any x ao cap w hi hs).mono fun _ _ h => ⟨h.1, h.2.w⟩
set_option maxHeartbeats 6400000 in
set_option maxRecDepth 100000 in
theorem nest_inv (ao : Option Addr) (l : List UInt8) (cap : Nat) (a k : Nat) (lists path : Int) (w : World) (h : IsB w ao l cap) (ha : a < l.length) (h0 : (l.getD a 0).toNat = k) (hk8 : k ≤ 8) (hnest : ¬ (k : Int) = 8 ∨ lists < 8) (hpath : path < 0 ∨ (0 ≤ path ∧ path % 2 = 0 ∧ k = 5) ∨ (0 ≤ path ∧ path % 2 = 1 ∧ k = 6)) (x : Vl) (E : Int) (hx : Vin x) (hok : okX x = false) (HC : ∀ U, Fuw w U → Calls Tryd.prog 31 #[.slice ao l.length cap, .int .i64 ((a : Int) + 1), .int .i64 (k : Int), .int .i64 lists] U (RetC U (.ok x E))) : Calls Tryd.prog 15 #[.slice ao l.length cap, .int .i64 a, .int .i64 lists, .int .i64 path] w (RetG w (.er 2)) := by
  have hlen := h.len.1
  obtain ⟨b, off, rfl, hb, hc⟩ := h.at_ (by omega)
  have hck := hc a ha
  rw [h0] at hck
  clear hc
  have hai : (a : Int) < l.length := by omega
  have hai2 : ¬ (l.length : Int) < (a : Int) := by omega
  have haw : ((a : Int) == (l.length : Int)) = false := by rw [beq_eq_false_iff_ne]; omega
  have haN : a < l.length := ha
  obtain ⟨W, hW⟩ : ∃ W, w.alloc (.cells #[.int .i64 0, .int .i64 0, .int .i64 0, .string ⟨#[]⟩, .slice none 0 0] 26) = W := ⟨_, rfl⟩
  obtain ⟨hR, hF⟩ : W.heap[w.heap.size]? = some (.cells (vc v0 none 0) 26 (0, 0)) ∧ Fuw w W := by rw [← hW]; exact bz0 w
  have HR := Lib.hid hR
  have HF := Lib.hid hF
  have HZ := Lib.hid (vc_cells hR).2.2.2.2.2.2
  clear hR hF
  have HCC := Lib.hid (HC W HF.out)
  have hck1 := (Below.cell HF.out (p := ⟨b, off + a, none⟩) hb).trans hck
  have hkI : (k : Int) ≤ 8 := by omega
  have hkI' : ¬ 8 < (k : Int) := by omega
  have hk0 : (0 : Int) ≤ k := by omega
  have hp5 : path < 0 ∨ (0 ≤ path ∧ path % 2 = 0 ∧ (k : Int) = 5) ∨ (0 ≤ path ∧ path % 2 = 1 ∧ (k : Int) = 6) := by omega
  clear h h0 hck ha hk8 hpath HC
  unfold RetC at HCC
  generalize (k : Int) = K at *
  go_enter Tryd.func15, Tryd.ntmps15
  go_upto_region 6 with fail
  clear hW
  rcases hp5 with p1 | ⟨p1, p2, p3⟩ | ⟨p1, p2, p3⟩
  · have p1' : ¬ 0 ≤ path := by omega
    by_cases g2 : K = 8
    · subst g2
      have g3 : ¬ 8 ≤ lists := by omega
      clear hnest
      go_wp2_with fail
      go_at_call 31; refine HCC.out.mono ?_; rintro e1 w1 ⟨f1, a2, c2, he1, hkp⟩
      unfold vc at he1
      subst he1
      have HK := Lib.hid (bz_on HR.out f1)
      have HF1 := Lib.hid (Fuw.trans HF.out f1)
      have HKP := Lib.hid hkp
      have HS := Lib.hid (HKP.out w1 (Nat.le_refl _) (fun _ _ _ => rfl))
      clear hkp
      go_upto_region 9 with fail
      obtain ⟨V1, hV⟩ : ∃ V, w1.alloc (.cells #[.int .i64 x.kd, .int .i64 x.nn, .int .i64 x.dd, .string (bs x.ss), .slice a2 x.ll.length c2] 26) = V := ⟨_, rfl⟩
      have HR1 := Lib.hid (show V1.heap[w.heap.size]? = some (.cells (vc v0 none 0) 26 (0, 0)) from by rw [← hV]; exact bz_on HK.out ((Fuw.refl w1).alloc _))
      have HB1 := Lib.hid (show V1.heap[w1.heap.size]? = some (.cells (vc x a2 c2) 26 (0, 0)) from by
        rw [← hV]
        show (w1.heap.push _)[w1.heap.size]? = _
        rw [Array.getElem?_push, if_pos rfl]; rfl)
      have HF2 := Lib.hid (show Fuw w V1 from by rw [← hV]; exact (HF1.out).alloc _)
      have HV1 := Lib.hid (show Fuw w1 V1 from by rw [← hV]; exact (Fuw.refl w1).alloc _)
      have HVL := Lib.hid (rokV_w x hx a2 c2 V1 (HS.out.onw HV1.out))
      rw [hV]
      clear hV
      rw [hok] at HVL
      have hs1 := f1.size
      clear f1
      obtain ⟨x0, x1, x2, x3, x4, xf, xl⟩ := vc_cells HB1.out
      clear xf
      go_wp2_with fail
      go_at_call 16; refine HVL.out.mono ?_; rintro e2 w2 ⟨rfl, f2⟩
      clear HVL x0 x1 x2 x3 x4 xl
      have HR2 := Lib.hid (bz_on HR1.out f2)
      have HB2 := Lib.hid (bz_on HB1.out f2)
      have HF3 := Lib.hid (Fuw.trans HF2.out f2)
      have HV2 := Lib.hid (Fuw.trans HV1.out f2)
      clear f2
      obtain ⟨x0, x1, x2, x3, x4, xf, xl⟩ := vc_cells HB2.out
      obtain ⟨y0, y1, y2, y3, y4, yf, yl⟩ := vc_cells HR2.out
      have yf0 := yf 0; have yf1 := yf 1; have yf2 := yf 2; have yf3 := yf 3; have yf4 := yf 4
      clear xf yf
      go_wp2
      try simp only [Exit.inBlock, Exit.then]
      exact vg_ret (x := v0) (B := w.heap.size) (cap := 0) (ao := none) rfl rfl rfl rfl (val_put' _ w.heap.size _ _ _ _ _ _ _ _ _ _ _ _ HR2.out) ⟨fuw_put5 HF3.out (Nat.le_refl _) _ _ _ _ _, rfl, by decide⟩
    · have g2' : (K == 8) = false := by rw [beq_eq_false_iff_ne]; exact g2
      clear hnest g2
      go_wp2_with fail
      go_at_call 31; refine HCC.out.mono ?_; rintro e1 w1 ⟨f1, a2, c2, he1, hkp⟩
      unfold vc at he1
      subst he1
      have HK := Lib.hid (bz_on HR.out f1)
      have HF1 := Lib.hid (Fuw.trans HF.out f1)
      have HKP := Lib.hid hkp
      have HS := Lib.hid (HKP.out w1 (Nat.le_refl _) (fun _ _ _ => rfl))
      clear hkp
      go_upto_region 9 with fail
      obtain ⟨V1, hV⟩ : ∃ V, w1.alloc (.cells #[.int .i64 x.kd, .int .i64 x.nn, .int .i64 x.dd, .string (bs x.ss), .slice a2 x.ll.length c2] 26) = V := ⟨_, rfl⟩
      have HR1 := Lib.hid (show V1.heap[w.heap.size]? = some (.cells (vc v0 none 0) 26 (0, 0)) from by rw [← hV]; exact bz_on HK.out ((Fuw.refl w1).alloc _))
      have HB1 := Lib.hid (show V1.heap[w1.heap.size]? = some (.cells (vc x a2 c2) 26 (0, 0)) from by
        rw [← hV]
        show (w1.heap.push _)[w1.heap.size]? = _
        rw [Array.getElem?_push, if_pos rfl]; rfl)
      have HF2 := Lib.hid (show Fuw w V1 from by rw [← hV]; exact (HF1.out).alloc _)
      have HV1 := Lib.hid (show Fuw w1 V1 from by rw [← hV]; exact (Fuw.refl w1).alloc _)
      have HVL := Lib.hid (rokV_w x hx a2 c2 V1 (HS.out.onw HV1.out))
      rw [hV]
      clear hV
      rw [hok] at HVL
      have hs1 := f1.size
      clear f1
      obtain ⟨x0, x1, x2, x3, x4, xf, xl⟩ := vc_cells HB1.out
      clear xf
      go_wp2_with fail
      go_at_call 16; refine HVL.out.mono ?_; rintro e2 w2 ⟨rfl, f2⟩
      clear HVL x0 x1 x2 x3 x4 xl
      have HR2 := Lib.hid (bz_on HR1.out f2)
      have HB2 := Lib.hid (bz_on HB1.out f2)
      have HF3 := Lib.hid (Fuw.trans HF2.out f2)
      have HV2 := Lib.hid (Fuw.trans HV1.out f2)
      clear f2
      obtain ⟨x0, x1, x2, x3, x4, xf, xl⟩ := vc_cells HB2.out
      obtain ⟨y0, y1, y2, y3, y4, yf, yl⟩ := vc_cells HR2.out
      have yf0 := yf 0; have yf1 := yf 1; have yf2 := yf 2; have yf3 := yf 3; have yf4 := yf 4
      clear xf yf
      go_wp2
      try simp only [Exit.inBlock, Exit.then]
      exact vg_ret (x := v0) (B := w.heap.size) (cap := 0) (ao := none) rfl rfl rfl rfl (val_put' _ w.heap.size _ _ _ _ _ _ _ _ _ _ _ _ HR2.out) ⟨fuw_put5 HF3.out (Nat.le_refl _) _ _ _ _ _, rfl, by decide⟩
  · subst p3
    have p2' : (path % 2 == 0) = true := by rw [p2]; rfl
    have p4' : (path % 2 == 1) = false := by rw [p2]; rfl
    clear hnest p2
    go_wp2_with fail
    go_at_call 31; refine HCC.out.mono ?_; rintro e1 w1 ⟨f1, a2, c2, he1, hkp⟩
    unfold vc at he1
    subst he1
    have HK := Lib.hid (bz_on HR.out f1)
    have HF1 := Lib.hid (Fuw.trans HF.out f1)
    have HKP := Lib.hid hkp
    have HS := Lib.hid (HKP.out w1 (Nat.le_refl _) (fun _ _ _ => rfl))
    clear hkp
    go_upto_region 9 with fail
    obtain ⟨V1, hV⟩ : ∃ V, w1.alloc (.cells #[.int .i64 x.kd, .int .i64 x.nn, .int .i64 x.dd, .string (bs x.ss), .slice a2 x.ll.length c2] 26) = V := ⟨_, rfl⟩
    have HR1 := Lib.hid (show V1.heap[w.heap.size]? = some (.cells (vc v0 none 0) 26 (0, 0)) from by rw [← hV]; exact bz_on HK.out ((Fuw.refl w1).alloc _))
    have HB1 := Lib.hid (show V1.heap[w1.heap.size]? = some (.cells (vc x a2 c2) 26 (0, 0)) from by
      rw [← hV]
      show (w1.heap.push _)[w1.heap.size]? = _
      rw [Array.getElem?_push, if_pos rfl]; rfl)
    have HF2 := Lib.hid (show Fuw w V1 from by rw [← hV]; exact (HF1.out).alloc _)
    have HV1 := Lib.hid (show Fuw w1 V1 from by rw [← hV]; exact (Fuw.refl w1).alloc _)
    have HVL := Lib.hid (rokV_w x hx a2 c2 V1 (HS.out.onw HV1.out))
    rw [hV]
    clear hV
    rw [hok] at HVL
    have hs1 := f1.size
    clear f1
    obtain ⟨x0, x1, x2, x3, x4, xf, xl⟩ := vc_cells HB1.out
    clear xf
    go_wp2_with fail
    go_at_call 16; refine HVL.out.mono ?_; rintro e2 w2 ⟨rfl, f2⟩
    clear HVL x0 x1 x2 x3 x4 xl
    have HR2 := Lib.hid (bz_on HR1.out f2)
    have HB2 := Lib.hid (bz_on HB1.out f2)
    have HF3 := Lib.hid (Fuw.trans HF2.out f2)
    have HV2 := Lib.hid (Fuw.trans HV1.out f2)
    clear f2
    obtain ⟨x0, x1, x2, x3, x4, xf, xl⟩ := vc_cells HB2.out
    obtain ⟨y0, y1, y2, y3, y4, yf, yl⟩ := vc_cells HR2.out
    have yf0 := yf 0; have yf1 := yf 1; have yf2 := yf 2; have yf3 := yf 3; have yf4 := yf 4
    clear xf yf
    go_wp2
    try simp only [Exit.inBlock, Exit.then]
    exact vg_ret (x := v0) (B := w.heap.size) (cap := 0) (ao := none) rfl rfl rfl rfl (val_put' _ w.heap.size _ _ _ _ _ _ _ _ _ _ _ _ HR2.out) ⟨fuw_put5 HF3.out (Nat.le_refl _) _ _ _ _ _, rfl, by decide⟩
  · subst p3
    have p2' : (path % 2 == 1) = true := by rw [p2]; rfl
    have p4' : (path % 2 == 0) = false := by rw [p2]; rfl
    clear hnest p2
    go_wp2_with fail
    go_at_call 31; refine HCC.out.mono ?_; rintro e1 w1 ⟨f1, a2, c2, he1, hkp⟩
    unfold vc at he1
    subst he1
    have HK := Lib.hid (bz_on HR.out f1)
    have HF1 := Lib.hid (Fuw.trans HF.out f1)
    have HKP := Lib.hid hkp
    have HS := Lib.hid (HKP.out w1 (Nat.le_refl _) (fun _ _ _ => rfl))
    clear hkp
    go_upto_region 9 with fail
    obtain ⟨V1, hV⟩ : ∃ V, w1.alloc (.cells #[.int .i64 x.kd, .int .i64 x.nn, .int .i64 x.dd, .string (bs x.ss), .slice a2 x.ll.length c2] 26) = V := ⟨_, rfl⟩
    have HR1 := Lib.hid (show V1.heap[w.heap.size]? = some (.cells (vc v0 none 0) 26 (0, 0)) from by rw [← hV]; exact bz_on HK.out ((Fuw.refl w1).alloc _))
    have HB1 := Lib.hid (show V1.heap[w1.heap.size]? = some (.cells (vc x a2 c2) 26 (0, 0)) from by
      rw [← hV]
      show (w1.heap.push _)[w1.heap.size]? = _
      rw [Array.getElem?_push, if_pos rfl]; rfl)
    have HF2 := Lib.hid (show Fuw w V1 from by rw [← hV]; exact (HF1.out).alloc _)
    have HV1 := Lib.hid (show Fuw w1 V1 from by rw [← hV]; exact (Fuw.refl w1).alloc _)
    have HVL := Lib.hid (rokV_w x hx a2 c2 V1 (HS.out.onw HV1.out))
    rw [hV]
    clear hV
    rw [hok] at HVL
    have hs1 := f1.size
    clear f1
    obtain ⟨x0, x1, x2, x3, x4, xf, xl⟩ := vc_cells HB1.out
    clear xf
    go_wp2_with fail
    go_at_call 16; refine HVL.out.mono ?_; rintro e2 w2 ⟨rfl, f2⟩
    clear HVL x0 x1 x2 x3 x4 xl
    have HR2 := Lib.hid (bz_on HR1.out f2)
    have HB2 := Lib.hid (bz_on HB1.out f2)
    have HF3 := Lib.hid (Fuw.trans HF2.out f2)
    have HV2 := Lib.hid (Fuw.trans HV1.out f2)
    clear f2
    obtain ⟨x0, x1, x2, x3, x4, xf, xl⟩ := vc_cells HB2.out
    obtain ⟨y0, y1, y2, y3, y4, yf, yl⟩ := vc_cells HR2.out
    have yf0 := yf 0; have yf1 := yf 1; have yf2 := yf 2; have yf3 := yf 3; have yf4 := yf 4
    clear xf yf
    go_wp2
    try simp only [Exit.inBlock, Exit.then]
    exact vg_ret (x := v0) (B := w.heap.size) (cap := 0) (ao := none) rfl rfl rfl rfl (val_put' _ w.heap.size _ _ _ _ _ _ _ _ _ _ _ _ HR2.out) ⟨fuw_put5 HF3.out (Nat.le_refl _) _ _ _ _ _, rfl, by decide⟩
set_option maxHeartbeats 6400000 in
set_option maxRecDepth 100000 in
theorem nest_ok (ao : Option Addr) (l : List UInt8) (cap : Nat) (a k : Nat) (lists path : Int) (w : World) (h : IsB w ao l cap) (ha : a < l.length) (h0 : (l.getD a 0).toNat = k) (hk8 : k ≤ 8) (hnest : ¬ (k : Int) = 8 ∨ lists < 8) (hpath : path < 0 ∨ (0 ≤ path ∧ path % 2 = 0 ∧ k = 5) ∨ (0 ≤ path ∧ path % 2 = 1 ∧ k = 6)) (x : Vl) (E : Int) (hx : Vin x) (hok : okX x = true) (HC : ∀ U, Fuw w U → Calls Tryd.prog 31 #[.slice ao l.length cap, .int .i64 ((a : Int) + 1), .int .i64 (k : Int), .int .i64 lists] U (RetC U (.ok x E))) : Calls Tryd.prog 15 #[.slice ao l.length cap, .int .i64 a, .int .i64 lists, .int .i64 path] w (RetG w (.ok x E)) := by
  have hlen := h.len.1
  obtain ⟨b, off, rfl, hb, hc⟩ := h.at_ (by omega)
  have hck := hc a ha
  rw [h0] at hck
  clear hc
  have hai : (a : Int) < l.length := by omega
  have hai2 : ¬ (l.length : Int) < (a : Int) := by omega
  have haw : ((a : Int) == (l.length : Int)) = false := by rw [beq_eq_false_iff_ne]; omega
  have haN : a < l.length := ha
  obtain ⟨W, hW⟩ : ∃ W, w.alloc (.cells #[.int .i64 0, .int .i64 0, .int .i64 0, .string ⟨#[]⟩, .slice none 0 0] 26) = W := ⟨_, rfl⟩
  obtain ⟨hR, hF⟩ : W.heap[w.heap.size]? = some (.cells (vc v0 none 0) 26 (0, 0)) ∧ Fuw w W := by rw [← hW]; exact bz0 w
  have HR := Lib.hid hR
  have HF := Lib.hid hF
  have HZ := Lib.hid (vc_cells hR).2.2.2.2.2.2
  clear hR hF
  have HCC := Lib.hid (HC W HF.out)
  have hck1 := (Below.cell HF.out (p := ⟨b, off + a, none⟩) hb).trans hck
  have hkI : (k : Int) ≤ 8 := by omega
  have hkI' : ¬ 8 < (k : Int) := by omega
  have hk0 : (0 : Int) ≤ k := by omega
  have hp5 : path < 0 ∨ (0 ≤ path ∧ path % 2 = 0 ∧ (k : Int) = 5) ∨ (0 ≤ path ∧ path % 2 = 1 ∧ (k : Int) = 6) := by omega
  clear h h0 hck ha hk8 hpath HC
  unfold RetC at HCC
  generalize (k : Int) = K at *
  go_enter Tryd.func15, Tryd.ntmps15
  go_upto_region 6 with fail
  clear hW
  rcases hp5 with p1 | ⟨p1, p2, p3⟩ | ⟨p1, p2, p3⟩
  · have p1' : ¬ 0 ≤ path := by omega
    by_cases g2 : K = 8
    · subst g2
      have g3 : ¬ 8 ≤ lists := by omega
      clear hnest
      go_wp2_with fail
      go_at_call 31; refine HCC.out.mono ?_; rintro e1 w1 ⟨f1, a2, c2, he1, hkp⟩
      unfold vc at he1
      subst he1
      have HK := Lib.hid (bz_on HR.out f1)
      have HF1 := Lib.hid (Fuw.trans HF.out f1)
      have HKP := Lib.hid hkp
      have HS := Lib.hid (HKP.out w1 (Nat.le_refl _) (fun _ _ _ => rfl))
      clear hkp
      go_upto_region 9 with fail
      obtain ⟨V1, hV⟩ : ∃ V, w1.alloc (.cells #[.int .i64 x.kd, .int .i64 x.nn, .int .i64 x.dd, .string (bs x.ss), .slice a2 x.ll.length c2] 26) = V := ⟨_, rfl⟩
      have HR1 := Lib.hid (show V1.heap[w.heap.size]? = some (.cells (vc v0 none 0) 26 (0, 0)) from by rw [← hV]; exact bz_on HK.out ((Fuw.refl w1).alloc _))
      have HB1 := Lib.hid (show V1.heap[w1.heap.size]? = some (.cells (vc x a2 c2) 26 (0, 0)) from by
        rw [← hV]
        show (w1.heap.push _)[w1.heap.size]? = _
        rw [Array.getElem?_push, if_pos rfl]; rfl)
      have HF2 := Lib.hid (show Fuw w V1 from by rw [← hV]; exact (HF1.out).alloc _)
      have HV1 := Lib.hid (show Fuw w1 V1 from by rw [← hV]; exact (Fuw.refl w1).alloc _)
      have HVL := Lib.hid (rokV_w x hx a2 c2 V1 (HS.out.onw HV1.out))
      rw [hV]
      clear hV
      rw [hok] at HVL
      have hs1 := f1.size
      clear f1
      obtain ⟨x0, x1, x2, x3, x4, xf, xl⟩ := vc_cells HB1.out
      clear xf
      go_wp2_with fail
      go_at_call 16; refine HVL.out.mono ?_; rintro e2 w2 ⟨rfl, f2⟩
      clear HVL x0 x1 x2 x3 x4 xl
      have HR2 := Lib.hid (bz_on HR1.out f2)
      have HB2 := Lib.hid (bz_on HB1.out f2)
      have HF3 := Lib.hid (Fuw.trans HF2.out f2)
      have HV2 := Lib.hid (Fuw.trans HV1.out f2)
      clear f2
      obtain ⟨x0, x1, x2, x3, x4, xf, xl⟩ := vc_cells HB2.out
      obtain ⟨y0, y1, y2, y3, y4, yf, yl⟩ := vc_cells HR2.out
      have yf0 := yf 0; have yf1 := yf 1; have yf2 := yf 2; have yf3 := yf 3; have yf4 := yf 4
      clear xf yf
      go_wp2
      try simp only [Exit.inBlock, Exit.then]
      refine vg_ret (x := x) rfl rfl rfl rfl (val_put' w2 w.heap.size _ _ _ _ _ _ _ _ _ _ _ _ HR2.out) ⟨fuw_put5 HF3.out (Nat.le_refl _) _ _ _ _ _, a2, c2, rfl, ?_⟩
      intro w3 hs3 hw3
      have hz := HZ.out
      refine HKP.out w3 ?_ (fun b h1 h2 => ?_)
      · have := HV2.out.size; simp at hs3; omega
      · have e := hw3 b (by omega) (by have := HV2.out.size; simp; omega)
        rw [e, heap_set_other (by omega), heap_set_other (by omega), heap_set_other (by omega), heap_set_other (by omega), heap_set_other (by omega)]
        exact Below.block HV2.out b h2
    · have g2' : (K == 8) = false := by rw [beq_eq_false_iff_ne]; exact g2
      clear hnest g2
      go_wp2_with fail
      go_at_call 31; refine HCC.out.mono ?_; rintro e1 w1 ⟨f1, a2, c2, he1, hkp⟩
      unfold vc at he1
      subst he1
      have HK := Lib.hid (bz_on HR.out f1)
      have HF1 := Lib.hid (Fuw.trans HF.out f1)
      have HKP := Lib.hid hkp
      have HS := Lib.hid (HKP.out w1 (Nat.le_refl _) (fun _ _ _ => rfl))
      clear hkp
      go_upto_region 9 with fail
      obtain ⟨V1, hV⟩ : ∃ V, w1.alloc (.cells #[.int .i64 x.kd, .int .i64 x.nn, .int .i64 x.dd, .string (bs x.ss), .slice a2 x.ll.length c2] 26) = V := ⟨_, rfl⟩
      have HR1 := Lib.hid (show V1.heap[w.heap.size]? = some (.cells (vc v0 none 0) 26 (0, 0)) from by rw [← hV]; exact bz_on HK.out ((Fuw.refl w1).alloc _))
      have HB1 := Lib.hid (show V1.heap[w1.heap.size]? = some (.cells (vc x a2 c2) 26 (0, 0)) from by
        rw [← hV]
        show (w1.heap.push _)[w1.heap.size]? = _
        rw [Array.getElem?_push, if_pos rfl]; rfl)
      have HF2 := Lib.hid (show Fuw w V1 from by rw [← hV]; exact (HF1.out).alloc _)
      have HV1 := Lib.hid (show Fuw w1 V1 from by rw [← hV]; exact (Fuw.refl w1).alloc _)
      have HVL := Lib.hid (rokV_w x hx a2 c2 V1 (HS.out.onw HV1.out))
      rw [hV]
      clear hV
      rw [hok] at HVL
      have hs1 := f1.size
      clear f1
      obtain ⟨x0, x1, x2, x3, x4, xf, xl⟩ := vc_cells HB1.out
      clear xf
      go_wp2_with fail
      go_at_call 16; refine HVL.out.mono ?_; rintro e2 w2 ⟨rfl, f2⟩
      clear HVL x0 x1 x2 x3 x4 xl
      have HR2 := Lib.hid (bz_on HR1.out f2)
      have HB2 := Lib.hid (bz_on HB1.out f2)
      have HF3 := Lib.hid (Fuw.trans HF2.out f2)
      have HV2 := Lib.hid (Fuw.trans HV1.out f2)
      clear f2
      obtain ⟨x0, x1, x2, x3, x4, xf, xl⟩ := vc_cells HB2.out
      obtain ⟨y0, y1, y2, y3, y4, yf, yl⟩ := vc_cells HR2.out
      have yf0 := yf 0; have yf1 := yf 1; have yf2 := yf 2; have yf3 := yf 3; have yf4 := yf 4
      clear xf yf
      go_wp2
      try simp only [Exit.inBlock, Exit.then]
      refine vg_ret (x := x) rfl rfl rfl rfl (val_put' w2 w.heap.size _ _ _ _ _ _ _ _ _ _ _ _ HR2.out) ⟨fuw_put5 HF3.out (Nat.le_refl _) _ _ _ _ _, a2, c2, rfl, ?_⟩
      intro w3 hs3 hw3
      have hz := HZ.out
      refine HKP.out w3 ?_ (fun b h1 h2 => ?_)
      · have := HV2.out.size; simp at hs3; omega
      · have e := hw3 b (by omega) (by have := HV2.out.size; simp; omega)
        rw [e, heap_set_other (by omega), heap_set_other (by omega), heap_set_other (by omega), heap_set_other (by omega), heap_set_other (by omega)]
        exact Below.block HV2.out b h2
  · subst p3
    have p2' : (path % 2 == 0) = true := by rw [p2]; rfl
    have p4' : (path % 2 == 1) = false := by rw [p2]; rfl
    clear hnest p2
    go_wp2_with fail
    go_at_call 31; refine HCC.out.mono ?_; rintro e1 w1 ⟨f1, a2, c2, he1, hkp⟩
    unfold vc at he1
    subst he1
    have HK := Lib.hid (bz_on HR.out f1)
    have HF1 := Lib.hid (Fuw.trans HF.out f1)
    have HKP := Lib.hid hkp
    have HS := Lib.hid (HKP.out w1 (Nat.le_refl _) (fun _ _ _ => rfl))
    clear hkp
    go_upto_region 9 with fail
    obtain ⟨V1, hV⟩ : ∃ V, w1.alloc (.cells #[.int .i64 x.kd, .int .i64 x.nn, .int .i64 x.dd, .string (bs x.ss), .slice a2 x.ll.length c2] 26) = V := ⟨_, rfl⟩
    have HR1 := Lib.hid (show V1.heap[w.heap.size]? = some (.cells (vc v0 none 0) 26 (0, 0)) from by rw [← hV]; exact bz_on HK.out ((Fuw.refl w1).alloc _))
    have HB1 := Lib.hid (show V1.heap[w1.heap.size]? = some (.cells (vc x a2 c2) 26 (0, 0)) from by
      rw [← hV]
      show (w1.heap.push _)[w1.heap.size]? = _
      rw [Array.getElem?_push, if_pos rfl]; rfl)
    have HF2 := Lib.hid (show Fuw w V1 from by rw [← hV]; exact (HF1.out).alloc _)
    have HV1 := Lib.hid (show Fuw w1 V1 from by rw [← hV]; exact (Fuw.refl w1).alloc _)
    have HVL := Lib.hid (rokV_w x hx a2 c2 V1 (HS.out.onw HV1.out))
    rw [hV]
    clear hV
    rw [hok] at HVL
    have hs1 := f1.size
    clear f1
    obtain ⟨x0, x1, x2, x3, x4, xf, xl⟩ := vc_cells HB1.out
    clear xf
    go_wp2_with fail
    go_at_call 16; refine HVL.out.mono ?_; rintro e2 w2 ⟨rfl, f2⟩
    clear HVL x0 x1 x2 x3 x4 xl
    have HR2 := Lib.hid (bz_on HR1.out f2)
    have HB2 := Lib.hid (bz_on HB1.out f2)
    have HF3 := Lib.hid (Fuw.trans HF2.out f2)
    have HV2 := Lib.hid (Fuw.trans HV1.out f2)
    clear f2
    obtain ⟨x0, x1, x2, x3, x4, xf, xl⟩ := vc_cells HB2.out
    obtain ⟨y0, y1, y2, y3, y4, yf, yl⟩ := vc_cells HR2.out
    have yf0 := yf 0; have yf1 := yf 1; have yf2 := yf 2; have yf3 := yf 3; have yf4 := yf 4
    clear xf yf
    go_wp2
    try simp only [Exit.inBlock, Exit.then]
    refine vg_ret (x := x) rfl rfl rfl rfl (val_put' w2 w.heap.size _ _ _ _ _ _ _ _ _ _ _ _ HR2.out) ⟨fuw_put5 HF3.out (Nat.le_refl _) _ _ _ _ _, a2, c2, rfl, ?_⟩
    intro w3 hs3 hw3
    have hz := HZ.out
    refine HKP.out w3 ?_ (fun b h1 h2 => ?_)
    · have := HV2.out.size; simp at hs3; omega
    · have e := hw3 b (by omega) (by have := HV2.out.size; simp; omega)
      rw [e, heap_set_other (by omega), heap_set_other (by omega), heap_set_other (by omega), heap_set_other (by omega), heap_set_other (by omega)]
      exact Below.block HV2.out b h2
  · subst p3
    have p2' : (path % 2 == 1) = true := by rw [p2]; rfl
    have p4' : (path % 2 == 0) = false := by rw [p2]; rfl
    clear hnest p2
    go_wp2_with fail
    go_at_call 31; refine HCC.out.mono ?_; rintro e1 w1 ⟨f1, a2, c2, he1, hkp⟩
    unfold vc at he1
    subst he1
    have HK := Lib.hid (bz_on HR.out f1)
    have HF1 := Lib.hid (Fuw.trans HF.out f1)
    have HKP := Lib.hid hkp
    have HS := Lib.hid (HKP.out w1 (Nat.le_refl _) (fun _ _ _ => rfl))
    clear hkp
    go_upto_region 9 with fail
    obtain ⟨V1, hV⟩ : ∃ V, w1.alloc (.cells #[.int .i64 x.kd, .int .i64 x.nn, .int .i64 x.dd, .string (bs x.ss), .slice a2 x.ll.length c2] 26) = V := ⟨_, rfl⟩
    have HR1 := Lib.hid (show V1.heap[w.heap.size]? = some (.cells (vc v0 none 0) 26 (0, 0)) from by rw [← hV]; exact bz_on HK.out ((Fuw.refl w1).alloc _))
    have HB1 := Lib.hid (show V1.heap[w1.heap.size]? = some (.cells (vc x a2 c2) 26 (0, 0)) from by
      rw [← hV]
      show (w1.heap.push _)[w1.heap.size]? = _
      rw [Array.getElem?_push, if_pos rfl]; rfl)
    have HF2 := Lib.hid (show Fuw w V1 from by rw [← hV]; exact (HF1.out).alloc _)
    have HV1 := Lib.hid (show Fuw w1 V1 from by rw [← hV]; exact (Fuw.refl w1).alloc _)
    have HVL := Lib.hid (rokV_w x hx a2 c2 V1 (HS.out.onw HV1.out))
    rw [hV]
    clear hV
    rw [hok] at HVL
    have hs1 := f1.size
    clear f1
    obtain ⟨x0, x1, x2, x3, x4, xf, xl⟩ := vc_cells HB1.out
    clear xf
    go_wp2_with fail
    go_at_call 16; refine HVL.out.mono ?_; rintro e2 w2 ⟨rfl, f2⟩
    clear HVL x0 x1 x2 x3 x4 xl
    have HR2 := Lib.hid (bz_on HR1.out f2)
    have HB2 := Lib.hid (bz_on HB1.out f2)
    have HF3 := Lib.hid (Fuw.trans HF2.out f2)
    have HV2 := Lib.hid (Fuw.trans HV1.out f2)
    clear f2
    obtain ⟨x0, x1, x2, x3, x4, xf, xl⟩ := vc_cells HB2.out
    obtain ⟨y0, y1, y2, y3, y4, yf, yl⟩ := vc_cells HR2.out
    have yf0 := yf 0; have yf1 := yf 1; have yf2 := yf 2; have yf3 := yf 3; have yf4 := yf 4
    clear xf yf
    go_wp2
    try simp only [Exit.inBlock, Exit.then]
    refine vg_ret (x := x) rfl rfl rfl rfl (val_put' w2 w.heap.size _ _ _ _ _ _ _ _ _ _ _ _ HR2.out) ⟨fuw_put5 HF3.out (Nat.le_refl _) _ _ _ _ _, a2, c2, rfl, ?_⟩
    intro w3 hs3 hw3
    have hz := HZ.out
    refine HKP.out w3 ?_ (fun b h1 h2 => ?_)
    · have := HV2.out.size; simp at hs3; omega
    · have e := hw3 b (by omega) (by have := HV2.out.size; simp; omega)
      rw [e, heap_set_other (by omega), heap_set_other (by omega), heap_set_other (by omega), heap_set_other (by omega), heap_set_other (by omega)]
      exact Below.block HV2.out b h2
end Go.Proofs.YtehmdeponbhhjaaDoor
