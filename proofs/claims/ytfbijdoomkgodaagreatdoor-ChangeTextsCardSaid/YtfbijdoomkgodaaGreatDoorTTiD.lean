/-
  The laws of package change: ChangeTexts, walked.
-/
import Derived.Test.YtfbijdoomkgodaaGreatDoorTTiC
import Derived.Test.YtfbijdoomkgodaaGreatDoorTK27
import Derived.Test.YtfbijdoomkgodaaGreatDoorTTiB
import Derived.Test.YtfbijdoomkgodaaGreatDoorTK38
import Derived.Test.YtfbijdoomkgodaaGreatDoorTK39
namespace Go.Proofs.YtfbijdoomkgodaaGreatDoor
open Go.RowKit

set_option maxHeartbeats 3200000 in
set_option maxRecDepth 100000 in
theorem rtextc_bad (c : Ch) (a : Option Addr) (k : Nat) (w : World) (h : ChIn w c a k) (hq : ¬ chkC c = 0) : Calls Tryz.prog 23 #[.agg (chC c a k)] w (RwT w []) := by
  obtain ⟨W, hW⟩ : ∃ W, W = w.alloc (.cells (chC c a k) 30) := ⟨_, rfl⟩
  have fW : Fuw w W := by rw [hW]; exact fuwA _ _
  have bW : Bk W w.heap.size (chC c a k) 30 := by rw [hW]; exact Bk.new _ _ _
  obtain ⟨q, hqq⟩ : ∃ q, q = chkC c := ⟨_, rfl⟩
  have HCK := Lib.hid (show Calls Tryz.prog 13 #[.agg (chC c a k)] W (FwI W q) from by rw [hqq]; exact rchk8_any c a k W (h.on fW))
  rw [← hqq] at hq
  have HFW := Lib.hid fW
  have HBW := Lib.hid bW
  unfold chC at *
  have d0 := bW.c 0; have d1 := bW.c 1; have d2 := bW.c 2; have d3 := bW.c 3; have d4 := bW.c 4; have d5 := bW.c 5; have d6 := bW.c 6; have d7 := bW.c 7; have d8 := bW.c 8; have d9 := bW.c 9
  clear h hqq fW bW
  go_enter Tryz.func23, Tryz.ntmps23
  go_upto_region 1 with fail
  rw [← hW]
  clear hW
  go_wp2_with fail
  go_at_call 13; refine HCK.out.mono ?_; rintro e1 w1 ⟨rfl, f1⟩
  have HF1 := Lib.hid (HFW.out.trans f1)
  clear d0 d1 d2 d3 d4 d5 d6 d7 d8 d9 f1 HFW HBW HCK
  go_wp2
  go_ret
  exact ⟨rfl, HF1.out⟩
theorem rtextc_any (c : Ch) (a : Option Addr) (k : Nat) (w : World) (h : ChIn w c a k) : Calls Tryz.prog 23 #[.agg (chC c a k)] w (RwT w (texC c)) := by
  unfold texC
  by_cases q : chkC c = 0
  · rw [if_pos q]; exact rtextc_raw c a k w h q
  · rw [if_neg q]; exact rtextc_bad c a k w h q
theorem slC_two {w0 w : World} {B : Nat} {c d : Ch} {a b : Option Addr} {k l : Nat} {t : TypeId} (h : Bk w B #[.int .i64 c.op, .int .i64 c.id, .int .i64 c.fr, .int .i64 c.tt, .string (bs c.nm), .int .i64 c.v.kd, .int .i64 c.v.nn, .int .i64 c.v.dd, .string (bs c.v.ss), .slice a c.v.ll.length k, .int .i64 d.op, .int .i64 d.id, .int .i64 d.fr, .int .i64 d.tt, .string (bs d.nm), .int .i64 d.v.kd, .int .i64 d.v.nn, .int .i64 d.v.dd, .string (bs d.v.ss), .slice b d.v.ll.length l] t) (hc : ChIn w0 c a k) (hd : ChIn w0 d b l) (hf : Fuw w0 w) : Sl 10 (CCz w0) w (some ⟨B, 0, none⟩) [c, d] 2 :=
  ⟨Nat.le_refl _, by unfold maxLen; decide, (fun e => by cases e), fun _ => ⟨B, 0, rfl, fun i hi' => by
    have e : i = 0 ∨ i = 1 := by simp at hi'; omega
    rcases e with rfl | rfl
    · exact ⟨a, k, hc, hc.on hf, h.c 0, h.c 1, h.c 2, h.c 3, h.c 4, h.c 5, h.c 6, h.c 7, h.c 8, h.c 9⟩
    · exact ⟨b, l, hd, hd.on hf, h.c 10, h.c 11, h.c 12, h.c 13, h.c 14, h.c 15, h.c 16, h.c 17, h.c 18, h.c 19⟩⟩⟩
set_option maxHeartbeats 12800000 in
set_option maxRecDepth 100000 in
theorem texts_walk (x y : Ch) (a b : Option Addr) (k l : Nat) (w : World) (hx : ChIn w x a k) (hy : ChIn w y b l) (hGd : Good w) :
    Calls Tryz.prog 7 #[.agg (chC x a k), .agg (chC y b l)] w (FwB w true) := by
  obtain ⟨W, hW⟩ : ∃ W, W = (w.alloc (.cells (chC x a k) 30)).alloc (.cells (chC y b l) 30) := ⟨_, rfl⟩
  have fW : Fuw w W := by rw [hW]; exact (fuwA _ _).trans (fuwA _ _)
  have HX := Lib.hid (show Bk W w.heap.size (chC x a k) 30 from by rw [hW]; exact (Bk.new _ _ _).on (fuwA _ _))
  have HY := Lib.hid (show Bk W (w.heap.size + 1) (chC y b l) 30 from by
    rw [hW]
    have := Bk.new (w.alloc (.cells (chC x a k) 30)) (chC y b l) 30
    simpa using this)
  have HF := Lib.hid fW
  have HAL := Lib.hid (fun (w' : World) (hf : Fuw w w') => alivec_any w' (hGd.onw hf))
  have HLX := Lib.hid (fun (w' : World) (hf : Fuw w w') => textc_any x a k w' (hx.on hf) (hGd.onw hf))
  have HLY := Lib.hid (fun (w' : World) (hf : Fuw w w') => textc_any y b l w' (hy.on hf) (hGd.onw hf))
  have HRX := Lib.hid (fun (w' : World) (hf : Fuw w w') => rtextc_any x a k w' (hx.on hf))
  have HS1 := Lib.hid (fun (w' : World) (hf : Fuw w w') => lsame8_any x y a b k l w' (hx.on hf) (hy.on hf))
  have HS2 := Lib.hid (fun (w' : World) (hf : Fuw w w') => rsame8_any x y a b k l w' (hx.on hf) (hy.on hf))
  have HS3 := Lib.hid (fun (w' : World) (hf : Fuw w w') => show Calls Tryz.prog 24 #[.agg (chC x a k), .agg (chC x a k)] w' (FwB w' true) from by
    have := lsame8_any x x a a k k w' (hx.on hf) (hx.on hf)
    rwa [samC_self] at this)
  have HFW2 := Lib.hid (fun (t : TypeId) => show Calls Tryz.prog 21 #[.slice (some ⟨W.heap.size, 0, none⟩) 2 2, .int .i64 2] (W.alloc (.cells #[.int .i64 x.op, .int .i64 x.id, .int .i64 x.fr, .int .i64 x.tt, .string (bs x.nm), .int .i64 x.v.kd, .int .i64 x.v.nn, .int .i64 x.v.dd, .string (bs x.v.ss), .slice a x.v.ll.length k, .int .i64 y.op, .int .i64 y.id, .int .i64 y.fr, .int .i64 y.tt, .string (bs y.nm), .int .i64 y.v.kd, .int .i64 y.v.nn, .int .i64 y.v.dd, .string (bs y.v.ss), .slice b y.v.ll.length l] t)) (FwB _ (fewV [x, y] 2)) from
    few_any [x, y] _ 2 2 w _ (by decide) (slC_two (Bk.new W _ t) hx hy (fW.trans (fuwA _ _))))
  have HM := Lib.hid (@texts_maths x y)
  have c0 := HX.out.c 0; have c1 := HX.out.c 1; have c2 := HX.out.c 2; have c3 := HX.out.c 3; have c4 := HX.out.c 4; have c5 := HX.out.c 5; have c6 := HX.out.c 6; have c7 := HX.out.c 7; have c8 := HX.out.c 8; have c9 := HX.out.c 9
  have d0 := HY.out.c 0; have d1 := HY.out.c 1; have d2 := HY.out.c 2; have d3 := HY.out.c 3; have d4 := HY.out.c 4; have d5 := HY.out.c 5; have d6 := HY.out.c 6; have d7 := HY.out.c 7; have d8 := HY.out.c 8; have d9 := HY.out.c 9
  unfold chC at *
  generalize fewV [x, y] 2 = sm at *
  generalize samC x y = S at *
  obtain ⟨t1, ht1⟩ : ∃ t, t = texC x := ⟨_, rfl⟩
  obtain ⟨t2, ht2⟩ : ∃ t, t = texC y := ⟨_, rfl⟩
  rw [← ht1] at HM HLX HRX
  rw [← ht2] at HM HLY
  clear fW hx hy hGd ht1 ht2
  go_enter Tryz.func7, Tryz.ntmps7
  go_upto_region 1 with fail
  rw [← hW]
  clear hW
  go_wp2_with fail
  go_at_call 21; refine (HFW2.out _).mono ?_; rintro e0 w0 ⟨rfl, f0⟩
  replace HF := Lib.hid ((HF.out.trans (fuwA _ _)).trans f0); replace HX := Lib.hid ((HX.out.on (fuwA _ _)).on f0); replace HY := Lib.hid ((HY.out.on (fuwA _ _)).on f0)
  clear f0 HFW2
  clear c0 c1 c2 c3 c4 c5 c6 c7 c8 c9 d0 d1 d2 d3 d4 d5 d6 d7 d8 d9
  have c0 := HX.out.c 0; have c1 := HX.out.c 1; have c2 := HX.out.c 2; have c3 := HX.out.c 3; have c4 := HX.out.c 4; have c5 := HX.out.c 5; have c6 := HX.out.c 6; have c7 := HX.out.c 7; have c8 := HX.out.c 8; have c9 := HX.out.c 9
  have d0 := HY.out.c 0; have d1 := HY.out.c 1; have d2 := HY.out.c 2; have d3 := HY.out.c 3; have d4 := HY.out.c 4; have d5 := HY.out.c 5; have d6 := HY.out.c 6; have d7 := HY.out.c 7; have d8 := HY.out.c 8; have d9 := HY.out.c 9
  cases sm with
  | false =>
    go_wp2_with fail
    go_at_call 9; refine (HAL.out _ HF.out).mono ?_; rintro e2 w2 ⟨rfl, f2⟩
    have HF2 := Lib.hid (HF.out.trans f2)
    clear f2
    go_wp2
    go_ret
    exact ⟨rfl, HF2.out⟩
  | true =>
    go_upto_region 3 with fail
    clear c0 c1 c2 c3 c4 c5 c6 c7 c8 c9 d0 d1 d2 d3 d4 d5 d6 d7 d8 d9
    replace HF := Lib.hid (HF.out.trans (Fuw.drew (Fuw.refl w0))); replace HX := Lib.hid (HX.out.on (Fuw.drew (Fuw.refl w0))); replace HY := Lib.hid (HY.out.on (Fuw.drew (Fuw.refl w0)))
    obtain ⟨S, hS⟩ : ∃ S : World → Prop, S = (fun w8 => w8.cell? ⟨w.heap.size, 0, none⟩ = some (.int .i64 x.op) ∧ w8.cell? ⟨w.heap.size, 1, none⟩ = some (.int .i64 x.id) ∧ w8.cell? ⟨w.heap.size, 2, none⟩ = some (.int .i64 x.fr) ∧ w8.cell? ⟨w.heap.size, 3, none⟩ = some (.int .i64 x.tt) ∧ w8.cell? ⟨w.heap.size, 4, none⟩ = some (.string (bs x.nm)) ∧ w8.cell? ⟨w.heap.size, 5, none⟩ = some (.int .i64 x.v.kd) ∧ w8.cell? ⟨w.heap.size, 6, none⟩ = some (.int .i64 x.v.nn) ∧ w8.cell? ⟨w.heap.size, 7, none⟩ = some (.int .i64 x.v.dd) ∧ w8.cell? ⟨w.heap.size, 8, none⟩ = some (.string (bs x.v.ss)) ∧ w8.cell? ⟨w.heap.size, 9, none⟩ = some (.slice a x.v.ll.length k) ∧ w8.cell? ⟨w.heap.size + 1, 0, none⟩ = some (.int .i64 y.op) ∧ w8.cell? ⟨w.heap.size + 1, 1, none⟩ = some (.int .i64 y.id) ∧ w8.cell? ⟨w.heap.size + 1, 2, none⟩ = some (.int .i64 y.fr) ∧ w8.cell? ⟨w.heap.size + 1, 3, none⟩ = some (.int .i64 y.tt) ∧ w8.cell? ⟨w.heap.size + 1, 4, none⟩ = some (.string (bs y.nm)) ∧ w8.cell? ⟨w.heap.size + 1, 5, none⟩ = some (.int .i64 y.v.kd) ∧ w8.cell? ⟨w.heap.size + 1, 6, none⟩ = some (.int .i64 y.v.nn) ∧ w8.cell? ⟨w.heap.size + 1, 7, none⟩ = some (.int .i64 y.v.dd) ∧ w8.cell? ⟨w.heap.size + 1, 8, none⟩ = some (.string (bs y.v.ss)) ∧ w8.cell? ⟨w.heap.size + 1, 9, none⟩ = some (.slice b y.v.ll.length l)) := ⟨_, rfl⟩
    have HSS := Lib.hid hS
    clear hS
    refine lst_start [19] S (by kernel_rfl) ?_
    have hS0 : S w0.drew := by rw [HSS.out]; exact ⟨HX.out.c 0, HX.out.c 1, HX.out.c 2, HX.out.c 3, HX.out.c 4, HX.out.c 5, HX.out.c 6, HX.out.c 7, HX.out.c 8, HX.out.c 9, HY.out.c 0, HY.out.c 1, HY.out.c 2, HY.out.c 3, HY.out.c 4, HY.out.c 5, HY.out.c 6, HY.out.c 7, HY.out.c 8, HY.out.c 9⟩
    refine takeL (i := 0) (d := some 11) (v := ?_) rfl rfl (by kernel_rfl) (by kernel_rfl) (by kernel_rfl) (by kernel_rfl) (by kernel_rfl) (fun _ _ _ h => h) (Or.inl ⟨by rfl, ?_⟩) (by assumption) ?_
    rotate_left
    · ((intro w8 hSw; rw [HSS.out] at hSw; obtain ⟨s0, s1, s2, s3, s4, s5, s6, s7, s8, s9, r0, r1, r2, r3, r4, r5, r6, r7, r8, r9⟩ := hSw; go_simp); try with_reducible rfl)
    try simp only [Act.put]
    try simp only [List.setIfInBounds_toArray]
    try simp only [List.set_cons_succ]
    try simp only [List.set_cons_zero]
    refine takeL (i := 2) (d := some 13) (v := ?_) rfl rfl (by kernel_rfl) (by kernel_rfl) (by kernel_rfl) (by kernel_rfl) (by kernel_rfl) (fun _ _ _ h => h) (Or.inl ⟨by rfl, ?_⟩) (by assumption) ?_
    rotate_left
    · ((intro w8 hSw; rw [HSS.out] at hSw; obtain ⟨s0, s1, s2, s3, s4, s5, s6, s7, s8, s9, r0, r1, r2, r3, r4, r5, r6, r7, r8, r9⟩ := hSw; go_simp); try with_reducible rfl)
    try simp only [Act.put]
    try simp only [List.setIfInBounds_toArray]
    try simp only [List.set_cons_succ]
    try simp only [List.set_cons_zero]
    refine oneL (i := 1) rfl (by kernel_rfl) (fun K8 hK8 => ?_)
    go_simp
    go_at_call 22; refine (HLX.out _ HF.out).mono ?_; rintro e11 w11 ⟨rfl, f11⟩
    replace HF := Lib.hid (HF.out.trans f11); replace HX := Lib.hid (HX.out.on f11); replace HY := Lib.hid (HY.out.on f11)
    have hS11 : S w11 := by rw [HSS.out]; exact ⟨HX.out.c 0, HX.out.c 1, HX.out.c 2, HX.out.c 3, HX.out.c 4, HX.out.c 5, HX.out.c 6, HX.out.c 7, HX.out.c 8, HX.out.c 9, HY.out.c 0, HY.out.c 1, HY.out.c 2, HY.out.c 3, HY.out.c 4, HY.out.c 5, HY.out.c 6, HY.out.c 7, HY.out.c 8, HY.out.c 9⟩
    clear f11
    refine hK8 _ _ hS11 ?_
    try simp only [Act.put]
    try simp only [List.setIfInBounds_toArray]
    try simp only [List.set_cons_succ]
    try simp only [List.set_cons_zero]
    refine oneL (i := 3) rfl (by kernel_rfl) (fun K8 hK8 => ?_)
    go_simp
    go_at_call 23; refine (HRX.out _ HF.out).mono ?_; rintro e12 w12 ⟨rfl, f12⟩
    replace HF := Lib.hid (HF.out.trans f12); replace HX := Lib.hid (HX.out.on f12); replace HY := Lib.hid (HY.out.on f12)
    have hS12 : S w12 := by rw [HSS.out]; exact ⟨HX.out.c 0, HX.out.c 1, HX.out.c 2, HX.out.c 3, HX.out.c 4, HX.out.c 5, HX.out.c 6, HX.out.c 7, HX.out.c 8, HX.out.c 9, HY.out.c 0, HY.out.c 1, HY.out.c 2, HY.out.c 3, HY.out.c 4, HY.out.c 5, HY.out.c 6, HY.out.c 7, HY.out.c 8, HY.out.c 9⟩
    clear f12
    refine hK8 _ _ hS12 ?_
    try simp only [Act.put]
    try simp only [List.setIfInBounds_toArray]
    try simp only [List.set_cons_succ]
    try simp only [List.set_cons_zero]
    refine takeP (i := 4) (d := some 15) (v := ?_) rfl rfl (by kernel_rfl) (by kernel_rfl) (by kernel_rfl) (by kernel_rfl) (by kernel_rfl) (fun _ _ _ h => h) (Or.inl ⟨by rfl, ?_⟩) (by first | exact Or.inr (by assumption) | exact Or.inl (by kernel_rfl)) ?_
    rotate_left
    · ((intro w8 _; go_simp); try with_reducible rfl)
    try simp only [Act.put]
    try simp only [List.setIfInBounds_toArray]
    try simp only [List.set_cons_succ]
    try simp only [List.set_cons_zero]
    refine takeP (i := 5) (d := some 16) (v := ?_) rfl rfl (by kernel_rfl) (by kernel_rfl) (by kernel_rfl) (by kernel_rfl) (by kernel_rfl) (fun _ _ _ h => h) (Or.inl ⟨by rfl, ?_⟩) (by first | exact Or.inr (by assumption) | exact Or.inl (by kernel_rfl)) ?_
    rotate_left
    · ((intro w8 _; go_simp); try with_reducible rfl)
    try simp only [Act.put]
    try simp only [List.setIfInBounds_toArray]
    try simp only [List.set_cons_succ]
    try simp only [List.set_cons_zero]
    refine takeL (i := 6) (d := some 17) (v := ?_) rfl rfl (by kernel_rfl) (by kernel_rfl) (by kernel_rfl) (by kernel_rfl) (by kernel_rfl) (fun _ _ _ h => h) (Or.inl ⟨by rfl, ?_⟩) (by assumption) ?_
    rotate_left
    · ((intro w8 hSw; rw [HSS.out] at hSw; obtain ⟨s0, s1, s2, s3, s4, s5, s6, s7, s8, s9, r0, r1, r2, r3, r4, r5, r6, r7, r8, r9⟩ := hSw; go_simp); try with_reducible rfl)
    try simp only [Act.put]
    try simp only [List.setIfInBounds_toArray]
    try simp only [List.set_cons_succ]
    try simp only [List.set_cons_zero]
    refine takeL (i := 7) (d := some 18) (v := ?_) rfl rfl (by kernel_rfl) (by kernel_rfl) (by kernel_rfl) (by kernel_rfl) (by kernel_rfl) (fun _ _ _ h => h) (Or.inl ⟨by rfl, ?_⟩) (by assumption) ?_
    rotate_left
    · ((intro w8 hSw; rw [HSS.out] at hSw; obtain ⟨s0, s1, s2, s3, s4, s5, s6, s7, s8, s9, r0, r1, r2, r3, r4, r5, r6, r7, r8, r9⟩ := hSw; go_simp); try with_reducible rfl)
    try simp only [Act.put]
    try simp only [List.setIfInBounds_toArray]
    try simp only [List.set_cons_succ]
    try simp only [List.set_cons_zero]
    refine takeL (i := 9) (d := some 20) (v := ?_) rfl rfl (by kernel_rfl) (by kernel_rfl) (by kernel_rfl) (by kernel_rfl) (by kernel_rfl) (fun _ _ _ h => h) (Or.inl ⟨by rfl, ?_⟩) (by assumption) ?_
    rotate_left
    · ((intro w8 hSw; rw [HSS.out] at hSw; obtain ⟨s0, s1, s2, s3, s4, s5, s6, s7, s8, s9, r0, r1, r2, r3, r4, r5, r6, r7, r8, r9⟩ := hSw; go_simp); try with_reducible rfl)
    try simp only [Act.put]
    try simp only [List.setIfInBounds_toArray]
    try simp only [List.set_cons_succ]
    try simp only [List.set_cons_zero]
    refine takeL (i := 10) (d := some 21) (v := ?_) rfl rfl (by kernel_rfl) (by kernel_rfl) (by kernel_rfl) (by kernel_rfl) (by kernel_rfl) (fun _ _ _ h => h) (Or.inl ⟨by rfl, ?_⟩) (by assumption) ?_
    rotate_left
    · ((intro w8 hSw; rw [HSS.out] at hSw; obtain ⟨s0, s1, s2, s3, s4, s5, s6, s7, s8, s9, r0, r1, r2, r3, r4, r5, r6, r7, r8, r9⟩ := hSw; go_simp); try with_reducible rfl)
    try simp only [Act.put]
    try simp only [List.setIfInBounds_toArray]
    try simp only [List.set_cons_succ]
    try simp only [List.set_cons_zero]
    refine oneL (i := 8) rfl (by kernel_rfl) (fun K8 hK8 => ?_)
    go_simp
    go_at_call 24; refine (HS1.out _ HF.out).mono ?_; rintro e13 w13 ⟨rfl, f13⟩
    replace HF := Lib.hid (HF.out.trans f13); replace HX := Lib.hid (HX.out.on f13); replace HY := Lib.hid (HY.out.on f13)
    have hS13 : S w13 := by rw [HSS.out]; exact ⟨HX.out.c 0, HX.out.c 1, HX.out.c 2, HX.out.c 3, HX.out.c 4, HX.out.c 5, HX.out.c 6, HX.out.c 7, HX.out.c 8, HX.out.c 9, HY.out.c 0, HY.out.c 1, HY.out.c 2, HY.out.c 3, HY.out.c 4, HY.out.c 5, HY.out.c 6, HY.out.c 7, HY.out.c 8, HY.out.c 9⟩
    clear f13
    refine hK8 _ _ hS13 ?_
    try simp only [Act.put]
    try simp only [List.setIfInBounds_toArray]
    try simp only [List.set_cons_succ]
    try simp only [List.set_cons_zero]
    refine oneL (i := 11) rfl (by kernel_rfl) (fun K8 hK8 => ?_)
    go_simp
    go_at_call 25; refine (HS2.out _ HF.out).mono ?_; rintro e14 w14 ⟨rfl, f14⟩
    replace HF := Lib.hid (HF.out.trans f14); replace HX := Lib.hid (HX.out.on f14); replace HY := Lib.hid (HY.out.on f14)
    have hS14 : S w14 := by rw [HSS.out]; exact ⟨HX.out.c 0, HX.out.c 1, HX.out.c 2, HX.out.c 3, HX.out.c 4, HX.out.c 5, HX.out.c 6, HX.out.c 7, HX.out.c 8, HX.out.c 9, HY.out.c 0, HY.out.c 1, HY.out.c 2, HY.out.c 3, HY.out.c 4, HY.out.c 5, HY.out.c 6, HY.out.c 7, HY.out.c 8, HY.out.c 9⟩
    clear f14
    refine hK8 _ _ hS14 ?_
    try simp only [Act.put]
    try simp only [List.setIfInBounds_toArray]
    try simp only [List.set_cons_succ]
    try simp only [List.set_cons_zero]
    refine takeP (i := 12) (d := some 23) (v := ?_) rfl rfl (by kernel_rfl) (by kernel_rfl) (by kernel_rfl) (by kernel_rfl) (by kernel_rfl) (fun _ _ _ h => h) (Or.inl ⟨by rfl, ?_⟩) (by first | exact Or.inr (by assumption) | exact Or.inl (by kernel_rfl)) ?_
    rotate_left
    · ((intro w8 _; go_simp); try with_reducible rfl)
    try simp only [Act.put]
    try simp only [List.setIfInBounds_toArray]
    try simp only [List.set_cons_succ]
    try simp only [List.set_cons_zero]
    refine takeP (i := 13) (d := some 24) (v := ?_) rfl rfl (by kernel_rfl) (by kernel_rfl) (by kernel_rfl) (by kernel_rfl) (by kernel_rfl) (fun _ _ _ h => h) (Or.inl ⟨by rfl, ?_⟩) (by first | exact Or.inr (by assumption) | exact Or.inl (by kernel_rfl)) ?_
    rotate_left
    · ((intro w8 _; go_simp); try with_reducible rfl)
    try simp only [Act.put]
    try simp only [List.setIfInBounds_toArray]
    try simp only [List.set_cons_succ]
    try simp only [List.set_cons_zero]
    refine takeP (i := 14) (d := some 25) (v := ?_) rfl rfl (by kernel_rfl) (by kernel_rfl) (by kernel_rfl) (by kernel_rfl) (by kernel_rfl) (fun _ _ _ h => h) (Or.inl ⟨by rfl, ?_⟩) (by first | exact Or.inr (by assumption) | exact Or.inl (by kernel_rfl)) ?_
    rotate_left
    · ((intro w8 _; go_simp); try with_reducible rfl)
    try simp only [Act.put]
    try simp only [List.setIfInBounds_toArray]
    try simp only [List.set_cons_succ]
    try simp only [List.set_cons_zero]
    refine takeL (i := 15) (d := some 26) (v := ?_) rfl rfl (by kernel_rfl) (by kernel_rfl) (by kernel_rfl) (by kernel_rfl) (by kernel_rfl) (fun _ _ _ h => h) (Or.inl ⟨by rfl, ?_⟩) (by assumption) ?_
    rotate_left
    · ((intro w8 hSw; rw [HSS.out] at hSw; obtain ⟨s0, s1, s2, s3, s4, s5, s6, s7, s8, s9, r0, r1, r2, r3, r4, r5, r6, r7, r8, r9⟩ := hSw; go_simp); try with_reducible rfl)
    try simp only [Act.put]
    try simp only [List.setIfInBounds_toArray]
    try simp only [List.set_cons_succ]
    try simp only [List.set_cons_zero]
    refine takeL (i := 16) (d := some 27) (v := ?_) rfl rfl (by kernel_rfl) (by kernel_rfl) (by kernel_rfl) (by kernel_rfl) (by kernel_rfl) (fun _ _ _ h => h) (Or.inl ⟨by rfl, ?_⟩) (by assumption) ?_
    rotate_left
    · ((intro w8 hSw; rw [HSS.out] at hSw; obtain ⟨s0, s1, s2, s3, s4, s5, s6, s7, s8, s9, r0, r1, r2, r3, r4, r5, r6, r7, r8, r9⟩ := hSw; go_simp); try with_reducible rfl)
    try simp only [Act.put]
    try simp only [List.setIfInBounds_toArray]
    try simp only [List.set_cons_succ]
    try simp only [List.set_cons_zero]
    refine oneL (i := 17) rfl (by kernel_rfl) (fun K8 hK8 => ?_)
    go_simp
    go_at_call 24; refine (HS3.out _ HF.out).mono ?_; rintro e15 w15 ⟨rfl, f15⟩
    replace HF := Lib.hid (HF.out.trans f15); replace HX := Lib.hid (HX.out.on f15); replace HY := Lib.hid (HY.out.on f15)
    have hS15 : S w15 := by rw [HSS.out]; exact ⟨HX.out.c 0, HX.out.c 1, HX.out.c 2, HX.out.c 3, HX.out.c 4, HX.out.c 5, HX.out.c 6, HX.out.c 7, HX.out.c 8, HX.out.c 9, HY.out.c 0, HY.out.c 1, HY.out.c 2, HY.out.c 3, HY.out.c 4, HY.out.c 5, HY.out.c 6, HY.out.c 7, HY.out.c 8, HY.out.c 9⟩
    clear f15
    refine hK8 _ _ hS15 ?_
    try simp only [Act.put]
    try simp only [List.setIfInBounds_toArray]
    try simp only [List.set_cons_succ]
    try simp only [List.set_cons_zero]
    refine takeP (i := 18) (d := some 29) (v := ?_) rfl rfl (by kernel_rfl) (by kernel_rfl) (by kernel_rfl) (by kernel_rfl) (by kernel_rfl) (fun _ _ _ h => h) (Or.inl ⟨by rfl, ?_⟩) (by first | exact Or.inr (by assumption) | exact Or.inl (by kernel_rfl)) ?_
    rotate_left
    · ((intro w8 _; go_simp); try with_reducible rfl)
    try simp only [Act.put]
    try simp only [List.setIfInBounds_toArray]
    try simp only [List.set_cons_succ]
    try simp only [List.set_cons_zero]
    refine outL (i := 19) rfl (by kernel_rfl) (by kernel_rfl) (fun K8 hK8 => ?_)
    go_simp
    
    refine hK8 _ _ ?_
    try simp only [Act.put]
    try simp only [List.setIfInBounds_toArray]
    try simp only [List.set_cons_succ]
    try simp only [List.set_cons_zero]
    refine lst_done (by kernel_rfl) ?_ _
    by_cases ht : t1 = []
    · subst ht
      have hz : ((bs ([] : List UInt8)).toList == []) = true := by rw [bs_list]; rfl
      have hz2 : (bs ([] : List UInt8)).toList = [] := bs_list _
      go_upto_region 5 with fail
      clear hS0
      replace HF := Lib.hid (HF.out.trans (Fuw.drew (Fuw.refl w15))); replace HX := Lib.hid (HX.out.on (Fuw.drew (Fuw.refl w15))); replace HY := Lib.hid (HY.out.on (Fuw.drew (Fuw.refl w15)))
      obtain ⟨S, hS⟩ : ∃ S : World → Prop, S = (fun w8 => w8.cell? ⟨w.heap.size, 0, none⟩ = some (.int .i64 x.op) ∧ w8.cell? ⟨w.heap.size, 1, none⟩ = some (.int .i64 x.id) ∧ w8.cell? ⟨w.heap.size, 2, none⟩ = some (.int .i64 x.fr) ∧ w8.cell? ⟨w.heap.size, 3, none⟩ = some (.int .i64 x.tt) ∧ w8.cell? ⟨w.heap.size, 4, none⟩ = some (.string (bs x.nm)) ∧ w8.cell? ⟨w.heap.size, 5, none⟩ = some (.int .i64 x.v.kd) ∧ w8.cell? ⟨w.heap.size, 6, none⟩ = some (.int .i64 x.v.nn) ∧ w8.cell? ⟨w.heap.size, 7, none⟩ = some (.int .i64 x.v.dd) ∧ w8.cell? ⟨w.heap.size, 8, none⟩ = some (.string (bs x.v.ss)) ∧ w8.cell? ⟨w.heap.size, 9, none⟩ = some (.slice a x.v.ll.length k) ∧ w8.cell? ⟨w.heap.size + 1, 0, none⟩ = some (.int .i64 y.op) ∧ w8.cell? ⟨w.heap.size + 1, 1, none⟩ = some (.int .i64 y.id) ∧ w8.cell? ⟨w.heap.size + 1, 2, none⟩ = some (.int .i64 y.fr) ∧ w8.cell? ⟨w.heap.size + 1, 3, none⟩ = some (.int .i64 y.tt) ∧ w8.cell? ⟨w.heap.size + 1, 4, none⟩ = some (.string (bs y.nm)) ∧ w8.cell? ⟨w.heap.size + 1, 5, none⟩ = some (.int .i64 y.v.kd) ∧ w8.cell? ⟨w.heap.size + 1, 6, none⟩ = some (.int .i64 y.v.nn) ∧ w8.cell? ⟨w.heap.size + 1, 7, none⟩ = some (.int .i64 y.v.dd) ∧ w8.cell? ⟨w.heap.size + 1, 8, none⟩ = some (.string (bs y.v.ss)) ∧ w8.cell? ⟨w.heap.size + 1, 9, none⟩ = some (.slice b y.v.ll.length l)) := ⟨_, rfl⟩
      have HSU := Lib.hid hS
      clear hS
      refine lst_start [18] S (by kernel_rfl) ?_
      have hS0 : S w15.drew := by rw [HSU.out]; exact ⟨HX.out.c 0, HX.out.c 1, HX.out.c 2, HX.out.c 3, HX.out.c 4, HX.out.c 5, HX.out.c 6, HX.out.c 7, HX.out.c 8, HX.out.c 9, HY.out.c 0, HY.out.c 1, HY.out.c 2, HY.out.c 3, HY.out.c 4, HY.out.c 5, HY.out.c 6, HY.out.c 7, HY.out.c 8, HY.out.c 9⟩
      refine takeL (i := 0) (d := some 31) (v := ?_) rfl rfl (by kernel_rfl) (by kernel_rfl) (by kernel_rfl) (by kernel_rfl) (by kernel_rfl) (fun _ _ _ h => h) (Or.inl ⟨by rfl, ?_⟩) (by assumption) ?_
      rotate_left
      · ((intro w8 hSw; rw [HSU.out] at hSw; obtain ⟨s0, s1, s2, s3, s4, s5, s6, s7, s8, s9, r0, r1, r2, r3, r4, r5, r6, r7, r8, r9⟩ := hSw; go_simp); try with_reducible rfl)
      try simp only [Act.put]
      try simp only [List.setIfInBounds_toArray]
      try simp only [List.set_cons_succ]
      try simp only [List.set_cons_zero]
      refine oneL (i := 1) rfl (by kernel_rfl) (fun K8 hK8 => ?_)
      go_simp
      go_at_call 22; refine (HLX.out _ HF.out).mono ?_; rintro e16 w16 ⟨rfl, f16⟩
      replace HF := Lib.hid (HF.out.trans f16); replace HX := Lib.hid (HX.out.on f16); replace HY := Lib.hid (HY.out.on f16)
      have hS16 : S w16 := by rw [HSU.out]; exact ⟨HX.out.c 0, HX.out.c 1, HX.out.c 2, HX.out.c 3, HX.out.c 4, HX.out.c 5, HX.out.c 6, HX.out.c 7, HX.out.c 8, HX.out.c 9, HY.out.c 0, HY.out.c 1, HY.out.c 2, HY.out.c 3, HY.out.c 4, HY.out.c 5, HY.out.c 6, HY.out.c 7, HY.out.c 8, HY.out.c 9⟩
      clear f16
      refine hK8 _ _ hS16 ?_
      try simp only [Act.put]
      try simp only [List.setIfInBounds_toArray]
      try simp only [List.set_cons_succ]
      try simp only [List.set_cons_zero]
      refine takeP (i := 2) (d := some 33) (v := ?_) rfl rfl (by kernel_rfl) (by kernel_rfl) (by kernel_rfl) (by kernel_rfl) (by kernel_rfl) (fun _ _ _ h => h) (Or.inl ⟨by rfl, ?_⟩) (by first | exact Or.inr (by assumption) | exact Or.inl (by kernel_rfl)) ?_
      rotate_left
      · ((intro w8 _; go_simp); try with_reducible rfl)
      try simp only [Act.put]
      try simp only [List.setIfInBounds_toArray]
      try simp only [List.set_cons_succ]
      try simp only [List.set_cons_zero]
      refine takeP (i := 3) (d := some 34) (v := ?_) rfl rfl (by kernel_rfl) (by kernel_rfl) (by kernel_rfl) (by kernel_rfl) (by kernel_rfl) (fun _ _ _ h => h) (Or.inl ⟨by rfl, ?_⟩) (by first | exact Or.inr (by assumption) | exact Or.inl (by kernel_rfl)) ?_
      rotate_left
      · ((intro w8 _; go_simp); try with_reducible rfl)
      try simp only [Act.put]
      try simp only [List.setIfInBounds_toArray]
      try simp only [List.set_cons_succ]
      try simp only [List.set_cons_zero]
      refine takeP (i := 4) (d := some 35) (v := undef) rfl rfl (by kernel_rfl) (by kernel_rfl) (by kernel_rfl) (by kernel_rfl) (by kernel_rfl) (fun _ _ _ h => h) (Or.inr ⟨by rfl, rfl⟩) (by first | exact Or.inr (by assumption) | exact Or.inl (by kernel_rfl)) ?_
      try simp only [Act.put]
      try simp only [List.setIfInBounds_toArray]
      try simp only [List.set_cons_succ]
      try simp only [List.set_cons_zero]
      refine takeP (i := 6) (d := some 37) (v := undef) rfl rfl (by kernel_rfl) (by kernel_rfl) (by kernel_rfl) (by kernel_rfl) (by kernel_rfl) (fun _ _ _ h => h) (Or.inr ⟨by rfl, rfl⟩) (by first | exact Or.inr (by assumption) | exact Or.inl (by kernel_rfl)) ?_
      try simp only [Act.put]
      try simp only [List.setIfInBounds_toArray]
      try simp only [List.set_cons_succ]
      try simp only [List.set_cons_zero]
      refine takeP (i := 5) (d := some 36) (v := undef) rfl rfl (by kernel_rfl) (by kernel_rfl) (by kernel_rfl) (by kernel_rfl) (by kernel_rfl) (fun _ _ _ h => h) (Or.inr ⟨by rfl, rfl⟩) (by first | exact Or.inr (by assumption) | exact Or.inl (by kernel_rfl)) ?_
      try simp only [Act.put]
      try simp only [List.setIfInBounds_toArray]
      try simp only [List.set_cons_succ]
      try simp only [List.set_cons_zero]
      refine takeP (i := 7) (d := some 38) (v := undef) rfl rfl (by kernel_rfl) (by kernel_rfl) (by kernel_rfl) (by kernel_rfl) (by kernel_rfl) (fun _ _ _ h => h) (Or.inr ⟨by rfl, rfl⟩) (by first | exact Or.inr (by assumption) | exact Or.inl (by kernel_rfl)) ?_
      try simp only [Act.put]
      try simp only [List.setIfInBounds_toArray]
      try simp only [List.set_cons_succ]
      try simp only [List.set_cons_zero]
      refine takeP (i := 8) (d := some 39) (v := undef) rfl rfl (by kernel_rfl) (by kernel_rfl) (by kernel_rfl) (by kernel_rfl) (by kernel_rfl) (fun _ _ _ h => h) (Or.inr ⟨by rfl, rfl⟩) (by first | exact Or.inr (by assumption) | exact Or.inl (by kernel_rfl)) ?_
      try simp only [Act.put]
      try simp only [List.setIfInBounds_toArray]
      try simp only [List.set_cons_succ]
      try simp only [List.set_cons_zero]
      refine takeP (i := 9) (d := some 40) (v := ?_) rfl rfl (by kernel_rfl) (by kernel_rfl) (by kernel_rfl) (by kernel_rfl) (by kernel_rfl) (fun _ _ _ h => h) (Or.inl ⟨by rfl, ?_⟩) (by first | exact Or.inr (by assumption) | exact Or.inl (by kernel_rfl)) ?_
      rotate_left
      · ((intro w8 _; go_simp); try with_reducible rfl)
      try simp only [Act.put]
      try simp only [List.setIfInBounds_toArray]
      try simp only [List.set_cons_succ]
      try simp only [List.set_cons_zero]
      refine takeP (i := 10) (d := some 41) (v := ?_) rfl rfl (by kernel_rfl) (by kernel_rfl) (by kernel_rfl) (by kernel_rfl) (by kernel_rfl) (fun _ _ _ h => h) (Or.inl ⟨by rfl, ?_⟩) (by first | exact Or.inr (by assumption) | exact Or.inl (by kernel_rfl)) ?_
      rotate_left
      · ((intro w8 _; go_simp); try with_reducible rfl)
      try simp only [Act.put]
      try simp only [List.setIfInBounds_toArray]
      try simp only [List.set_cons_succ]
      try simp only [List.set_cons_zero]
      refine takeP (i := 11) (d := some 42) (v := undef) rfl rfl (by kernel_rfl) (by kernel_rfl) (by kernel_rfl) (by kernel_rfl) (by kernel_rfl) (fun _ _ _ h => h) (Or.inr ⟨by rfl, rfl⟩) (by first | exact Or.inr (by assumption) | exact Or.inl (by kernel_rfl)) ?_
      try simp only [Act.put]
      try simp only [List.setIfInBounds_toArray]
      try simp only [List.set_cons_succ]
      try simp only [List.set_cons_zero]
      refine takeP (i := 12) (d := some 43) (v := undef) rfl rfl (by kernel_rfl) (by kernel_rfl) (by kernel_rfl) (by kernel_rfl) (by kernel_rfl) (fun _ _ _ h => h) (Or.inr ⟨by rfl, rfl⟩) (by first | exact Or.inr (by assumption) | exact Or.inl (by kernel_rfl)) ?_
      try simp only [Act.put]
      try simp only [List.setIfInBounds_toArray]
      try simp only [List.set_cons_succ]
      try simp only [List.set_cons_zero]
      refine takeP (i := 13) (d := some 44) (v := undef) rfl rfl (by kernel_rfl) (by kernel_rfl) (by kernel_rfl) (by kernel_rfl) (by kernel_rfl) (fun _ _ _ h => h) (Or.inr ⟨by rfl, rfl⟩) (by first | exact Or.inr (by assumption) | exact Or.inl (by kernel_rfl)) ?_
      try simp only [Act.put]
      try simp only [List.setIfInBounds_toArray]
      try simp only [List.set_cons_succ]
      try simp only [List.set_cons_zero]
      refine takeP (i := 14) (d := some 45) (v := ?_) rfl rfl (by kernel_rfl) (by kernel_rfl) (by kernel_rfl) (by kernel_rfl) (by kernel_rfl) (fun _ _ _ h => h) (Or.inl ⟨by rfl, ?_⟩) (by first | exact Or.inr (by assumption) | exact Or.inl (by kernel_rfl)) ?_
      rotate_left
      · ((intro w8 _; go_simp); try with_reducible rfl)
      try simp only [Act.put]
      try simp only [List.setIfInBounds_toArray]
      try simp only [List.set_cons_succ]
      try simp only [List.set_cons_zero]
      refine takeP (i := 15) (d := some 46) (v := ?_) rfl rfl (by kernel_rfl) (by kernel_rfl) (by kernel_rfl) (by kernel_rfl) (by kernel_rfl) (fun _ _ _ h => h) (Or.inl ⟨by rfl, ?_⟩) (by first | exact Or.inr (by assumption) | exact Or.inl (by kernel_rfl)) ?_
      rotate_left
      · ((intro w8 _; go_simp); try with_reducible rfl)
      try simp only [Act.put]
      try simp only [List.setIfInBounds_toArray]
      try simp only [List.set_cons_succ]
      try simp only [List.set_cons_zero]
      refine oneL (i := 16) rfl (by kernel_rfl) (fun K8 hK8 => ?_)
      go_simp
      go_at_call 9; refine (HAL.out _ HF.out).mono ?_; rintro e17 w17 ⟨rfl, f17⟩
      replace HF := Lib.hid (HF.out.trans f17); replace HX := Lib.hid (HX.out.on f17); replace HY := Lib.hid (HY.out.on f17)
      have hS17 : S w17 := by rw [HSU.out]; exact ⟨HX.out.c 0, HX.out.c 1, HX.out.c 2, HX.out.c 3, HX.out.c 4, HX.out.c 5, HX.out.c 6, HX.out.c 7, HX.out.c 8, HX.out.c 9, HY.out.c 0, HY.out.c 1, HY.out.c 2, HY.out.c 3, HY.out.c 4, HY.out.c 5, HY.out.c 6, HY.out.c 7, HY.out.c 8, HY.out.c 9⟩
      clear f17
      refine hK8 _ _ hS17 ?_
      try simp only [Act.put]
      try simp only [List.setIfInBounds_toArray]
      try simp only [List.set_cons_succ]
      try simp only [List.set_cons_zero]
      refine takeP (i := 17) (d := some 48) (v := ?_) rfl rfl (by kernel_rfl) (by kernel_rfl) (by kernel_rfl) (by kernel_rfl) (by kernel_rfl) (fun _ _ _ h => h) (Or.inl ⟨by rfl, ?_⟩) (by first | exact Or.inr (by assumption) | exact Or.inl (by kernel_rfl)) ?_
      rotate_left
      · ((intro w8 _; go_simp); try with_reducible rfl)
      try simp only [Act.put]
      try simp only [List.setIfInBounds_toArray]
      try simp only [List.set_cons_succ]
      try simp only [List.set_cons_zero]
      refine outL (i := 18) rfl (by kernel_rfl) (by kernel_rfl) (fun K8 hK8 => ?_)
      go_simp
      
      refine hK8 _ _ ?_
      try simp only [Act.put]
      try simp only [List.setIfInBounds_toArray]
      try simp only [List.set_cons_succ]
      try simp only [List.set_cons_zero]
      refine lst_done (by kernel_rfl) ?_ _
      go_wp2
      go_ret
      exact ⟨rfl, HF.out⟩
    · have ht' : ((bs t1).toList == []) = false := by rw [bs_list]; exact beq_eq_false_iff_ne.2 ht
      have ht0 : ¬ (bs t1).toList = [] := by rw [bs_list]; exact ht
      have ht'' : (bs t1).toList.isEmpty = false := by rw [bs_list]; cases t1 with | nil => exact absurd rfl ht | cons _ _ => rfl
      by_cases he : t1 = t2
      · have hS := HM.out ht he
        subst he
        subst hS
        go_upto_region 5 with fail
        clear hS0
        replace HF := Lib.hid (HF.out.trans (Fuw.drew (Fuw.refl w15))); replace HX := Lib.hid (HX.out.on (Fuw.drew (Fuw.refl w15))); replace HY := Lib.hid (HY.out.on (Fuw.drew (Fuw.refl w15)))
        obtain ⟨S, hS⟩ : ∃ S : World → Prop, S = (fun w8 => w8.cell? ⟨w.heap.size, 0, none⟩ = some (.int .i64 x.op) ∧ w8.cell? ⟨w.heap.size, 1, none⟩ = some (.int .i64 x.id) ∧ w8.cell? ⟨w.heap.size, 2, none⟩ = some (.int .i64 x.fr) ∧ w8.cell? ⟨w.heap.size, 3, none⟩ = some (.int .i64 x.tt) ∧ w8.cell? ⟨w.heap.size, 4, none⟩ = some (.string (bs x.nm)) ∧ w8.cell? ⟨w.heap.size, 5, none⟩ = some (.int .i64 x.v.kd) ∧ w8.cell? ⟨w.heap.size, 6, none⟩ = some (.int .i64 x.v.nn) ∧ w8.cell? ⟨w.heap.size, 7, none⟩ = some (.int .i64 x.v.dd) ∧ w8.cell? ⟨w.heap.size, 8, none⟩ = some (.string (bs x.v.ss)) ∧ w8.cell? ⟨w.heap.size, 9, none⟩ = some (.slice a x.v.ll.length k) ∧ w8.cell? ⟨w.heap.size + 1, 0, none⟩ = some (.int .i64 y.op) ∧ w8.cell? ⟨w.heap.size + 1, 1, none⟩ = some (.int .i64 y.id) ∧ w8.cell? ⟨w.heap.size + 1, 2, none⟩ = some (.int .i64 y.fr) ∧ w8.cell? ⟨w.heap.size + 1, 3, none⟩ = some (.int .i64 y.tt) ∧ w8.cell? ⟨w.heap.size + 1, 4, none⟩ = some (.string (bs y.nm)) ∧ w8.cell? ⟨w.heap.size + 1, 5, none⟩ = some (.int .i64 y.v.kd) ∧ w8.cell? ⟨w.heap.size + 1, 6, none⟩ = some (.int .i64 y.v.nn) ∧ w8.cell? ⟨w.heap.size + 1, 7, none⟩ = some (.int .i64 y.v.dd) ∧ w8.cell? ⟨w.heap.size + 1, 8, none⟩ = some (.string (bs y.v.ss)) ∧ w8.cell? ⟨w.heap.size + 1, 9, none⟩ = some (.slice b y.v.ll.length l)) := ⟨_, rfl⟩
        have HSU := Lib.hid hS
        clear hS
        refine lst_start [18] S (by kernel_rfl) ?_
        have hS0 : S w15.drew := by rw [HSU.out]; exact ⟨HX.out.c 0, HX.out.c 1, HX.out.c 2, HX.out.c 3, HX.out.c 4, HX.out.c 5, HX.out.c 6, HX.out.c 7, HX.out.c 8, HX.out.c 9, HY.out.c 0, HY.out.c 1, HY.out.c 2, HY.out.c 3, HY.out.c 4, HY.out.c 5, HY.out.c 6, HY.out.c 7, HY.out.c 8, HY.out.c 9⟩
        refine takeL (i := 0) (d := some 31) (v := ?_) rfl rfl (by kernel_rfl) (by kernel_rfl) (by kernel_rfl) (by kernel_rfl) (by kernel_rfl) (fun _ _ _ h => h) (Or.inl ⟨by rfl, ?_⟩) (by assumption) ?_
        rotate_left
        · ((intro w8 hSw; rw [HSU.out] at hSw; obtain ⟨s0, s1, s2, s3, s4, s5, s6, s7, s8, s9, r0, r1, r2, r3, r4, r5, r6, r7, r8, r9⟩ := hSw; go_simp); try with_reducible rfl)
        try simp only [Act.put]
        try simp only [List.setIfInBounds_toArray]
        try simp only [List.set_cons_succ]
        try simp only [List.set_cons_zero]
        refine oneL (i := 1) rfl (by kernel_rfl) (fun K8 hK8 => ?_)
        go_simp
        go_at_call 22; refine (HLX.out _ HF.out).mono ?_; rintro e16 w16 ⟨rfl, f16⟩
        replace HF := Lib.hid (HF.out.trans f16); replace HX := Lib.hid (HX.out.on f16); replace HY := Lib.hid (HY.out.on f16)
        have hS16 : S w16 := by rw [HSU.out]; exact ⟨HX.out.c 0, HX.out.c 1, HX.out.c 2, HX.out.c 3, HX.out.c 4, HX.out.c 5, HX.out.c 6, HX.out.c 7, HX.out.c 8, HX.out.c 9, HY.out.c 0, HY.out.c 1, HY.out.c 2, HY.out.c 3, HY.out.c 4, HY.out.c 5, HY.out.c 6, HY.out.c 7, HY.out.c 8, HY.out.c 9⟩
        clear f16
        refine hK8 _ _ hS16 ?_
        try simp only [Act.put]
        try simp only [List.setIfInBounds_toArray]
        try simp only [List.set_cons_succ]
        try simp only [List.set_cons_zero]
        refine takeP (i := 2) (d := some 33) (v := ?_) rfl rfl (by kernel_rfl) (by kernel_rfl) (by kernel_rfl) (by kernel_rfl) (by kernel_rfl) (fun _ _ _ h => h) (Or.inl ⟨by rfl, ?_⟩) (by first | exact Or.inr (by assumption) | exact Or.inl (by kernel_rfl)) ?_
        rotate_left
        · ((intro w8 _; go_simp); try with_reducible rfl)
        try simp only [Act.put]
        try simp only [List.setIfInBounds_toArray]
        try simp only [List.set_cons_succ]
        try simp only [List.set_cons_zero]
        refine takeP (i := 3) (d := some 34) (v := ?_) rfl rfl (by kernel_rfl) (by kernel_rfl) (by kernel_rfl) (by kernel_rfl) (by kernel_rfl) (fun _ _ _ h => h) (Or.inl ⟨by rfl, ?_⟩) (by first | exact Or.inr (by assumption) | exact Or.inl (by kernel_rfl)) ?_
        rotate_left
        · ((intro w8 _; go_simp); try with_reducible rfl)
        try simp only [Act.put]
        try simp only [List.setIfInBounds_toArray]
        try simp only [List.set_cons_succ]
        try simp only [List.set_cons_zero]
        refine takeL (i := 4) (d := some 35) (v := ?_) rfl rfl (by kernel_rfl) (by kernel_rfl) (by kernel_rfl) (by kernel_rfl) (by kernel_rfl) (fun _ _ _ h => h) (Or.inl ⟨by rfl, ?_⟩) (by assumption) ?_
        rotate_left
        · ((intro w8 hSw; rw [HSU.out] at hSw; obtain ⟨s0, s1, s2, s3, s4, s5, s6, s7, s8, s9, r0, r1, r2, r3, r4, r5, r6, r7, r8, r9⟩ := hSw; go_simp); try with_reducible rfl)
        try simp only [Act.put]
        try simp only [List.setIfInBounds_toArray]
        try simp only [List.set_cons_succ]
        try simp only [List.set_cons_zero]
        refine takeL (i := 6) (d := some 37) (v := ?_) rfl rfl (by kernel_rfl) (by kernel_rfl) (by kernel_rfl) (by kernel_rfl) (by kernel_rfl) (fun _ _ _ h => h) (Or.inl ⟨by rfl, ?_⟩) (by assumption) ?_
        rotate_left
        · ((intro w8 hSw; rw [HSU.out] at hSw; obtain ⟨s0, s1, s2, s3, s4, s5, s6, s7, s8, s9, r0, r1, r2, r3, r4, r5, r6, r7, r8, r9⟩ := hSw; go_simp); try with_reducible rfl)
        try simp only [Act.put]
        try simp only [List.setIfInBounds_toArray]
        try simp only [List.set_cons_succ]
        try simp only [List.set_cons_zero]
        refine oneL (i := 5) rfl (by kernel_rfl) (fun K8 hK8 => ?_)
        go_simp
        go_at_call 22; refine (HLX.out _ HF.out).mono ?_; rintro e18 w18 ⟨rfl, f18⟩
        replace HF := Lib.hid (HF.out.trans f18); replace HX := Lib.hid (HX.out.on f18); replace HY := Lib.hid (HY.out.on f18)
        have hS18 : S w18 := by rw [HSU.out]; exact ⟨HX.out.c 0, HX.out.c 1, HX.out.c 2, HX.out.c 3, HX.out.c 4, HX.out.c 5, HX.out.c 6, HX.out.c 7, HX.out.c 8, HX.out.c 9, HY.out.c 0, HY.out.c 1, HY.out.c 2, HY.out.c 3, HY.out.c 4, HY.out.c 5, HY.out.c 6, HY.out.c 7, HY.out.c 8, HY.out.c 9⟩
        clear f18
        refine hK8 _ _ hS18 ?_
        try simp only [Act.put]
        try simp only [List.setIfInBounds_toArray]
        try simp only [List.set_cons_succ]
        try simp only [List.set_cons_zero]
        refine oneL (i := 7) rfl (by kernel_rfl) (fun K8 hK8 => ?_)
        go_simp
        go_at_call 22; refine (HLY.out _ HF.out).mono ?_; rintro e19 w19 ⟨rfl, f19⟩
        replace HF := Lib.hid (HF.out.trans f19); replace HX := Lib.hid (HX.out.on f19); replace HY := Lib.hid (HY.out.on f19)
        have hS19 : S w19 := by rw [HSU.out]; exact ⟨HX.out.c 0, HX.out.c 1, HX.out.c 2, HX.out.c 3, HX.out.c 4, HX.out.c 5, HX.out.c 6, HX.out.c 7, HX.out.c 8, HX.out.c 9, HY.out.c 0, HY.out.c 1, HY.out.c 2, HY.out.c 3, HY.out.c 4, HY.out.c 5, HY.out.c 6, HY.out.c 7, HY.out.c 8, HY.out.c 9⟩
        clear f19
        refine hK8 _ _ hS19 ?_
        try simp only [Act.put]
        try simp only [List.setIfInBounds_toArray]
        try simp only [List.set_cons_succ]
        try simp only [List.set_cons_zero]
        refine takeP (i := 8) (d := some 39) (v := ?_) rfl rfl (by kernel_rfl) (by kernel_rfl) (by kernel_rfl) (by kernel_rfl) (by kernel_rfl) (fun _ _ _ h => h) (Or.inl ⟨by rfl, ?_⟩) (by first | exact Or.inr (by assumption) | exact Or.inl (by kernel_rfl)) ?_
        rotate_left
        · ((intro w8 _; go_simp); try with_reducible rfl)
        try simp only [Act.put]
        try simp only [List.setIfInBounds_toArray]
        try simp only [List.set_cons_succ]
        try simp only [List.set_cons_zero]
        refine takeP (i := 9) (d := some 40) (v := ?_) rfl rfl (by kernel_rfl) (by kernel_rfl) (by kernel_rfl) (by kernel_rfl) (by kernel_rfl) (fun _ _ _ h => h) (Or.inl ⟨by rfl, ?_⟩) (by first | exact Or.inr (by assumption) | exact Or.inl (by kernel_rfl)) ?_
        rotate_left
        · ((intro w8 _; go_simp); try with_reducible rfl)
        try simp only [Act.put]
        try simp only [List.setIfInBounds_toArray]
        try simp only [List.set_cons_succ]
        try simp only [List.set_cons_zero]
        refine takeP (i := 10) (d := some 41) (v := ?_) rfl rfl (by kernel_rfl) (by kernel_rfl) (by kernel_rfl) (by kernel_rfl) (by kernel_rfl) (fun _ _ _ h => h) (Or.inl ⟨by rfl, ?_⟩) (by first | exact Or.inr (by assumption) | exact Or.inl (by kernel_rfl)) ?_
        rotate_left
        · ((intro w8 _; go_simp); try with_reducible rfl)
        try simp only [Act.put]
        try simp only [List.setIfInBounds_toArray]
        try simp only [List.set_cons_succ]
        try simp only [List.set_cons_zero]
        refine takeL (i := 11) (d := some 42) (v := ?_) rfl rfl (by kernel_rfl) (by kernel_rfl) (by kernel_rfl) (by kernel_rfl) (by kernel_rfl) (fun _ _ _ h => h) (Or.inl ⟨by rfl, ?_⟩) (by assumption) ?_
        rotate_left
        · ((intro w8 hSw; rw [HSU.out] at hSw; obtain ⟨s0, s1, s2, s3, s4, s5, s6, s7, s8, s9, r0, r1, r2, r3, r4, r5, r6, r7, r8, r9⟩ := hSw; go_simp); try with_reducible rfl)
        try simp only [Act.put]
        try simp only [List.setIfInBounds_toArray]
        try simp only [List.set_cons_succ]
        try simp only [List.set_cons_zero]
        refine takeL (i := 12) (d := some 43) (v := ?_) rfl rfl (by kernel_rfl) (by kernel_rfl) (by kernel_rfl) (by kernel_rfl) (by kernel_rfl) (fun _ _ _ h => h) (Or.inl ⟨by rfl, ?_⟩) (by assumption) ?_
        rotate_left
        · ((intro w8 hSw; rw [HSU.out] at hSw; obtain ⟨s0, s1, s2, s3, s4, s5, s6, s7, s8, s9, r0, r1, r2, r3, r4, r5, r6, r7, r8, r9⟩ := hSw; go_simp); try with_reducible rfl)
        try simp only [Act.put]
        try simp only [List.setIfInBounds_toArray]
        try simp only [List.set_cons_succ]
        try simp only [List.set_cons_zero]
        refine oneL (i := 13) rfl (by kernel_rfl) (fun K8 hK8 => ?_)
        go_simp
        go_at_call 24; refine (HS1.out _ HF.out).mono ?_; rintro e20 w20 ⟨rfl, f20⟩
        replace HF := Lib.hid (HF.out.trans f20); replace HX := Lib.hid (HX.out.on f20); replace HY := Lib.hid (HY.out.on f20)
        have hS20 : S w20 := by rw [HSU.out]; exact ⟨HX.out.c 0, HX.out.c 1, HX.out.c 2, HX.out.c 3, HX.out.c 4, HX.out.c 5, HX.out.c 6, HX.out.c 7, HX.out.c 8, HX.out.c 9, HY.out.c 0, HY.out.c 1, HY.out.c 2, HY.out.c 3, HY.out.c 4, HY.out.c 5, HY.out.c 6, HY.out.c 7, HY.out.c 8, HY.out.c 9⟩
        clear f20
        refine hK8 _ _ hS20 ?_
        try simp only [Act.put]
        try simp only [List.setIfInBounds_toArray]
        try simp only [List.set_cons_succ]
        try simp only [List.set_cons_zero]
        refine takeP (i := 14) (d := some 45) (v := ?_) rfl rfl (by kernel_rfl) (by kernel_rfl) (by kernel_rfl) (by kernel_rfl) (by kernel_rfl) (fun _ _ _ h => h) (Or.inl ⟨by rfl, ?_⟩) (by first | exact Or.inr (by assumption) | exact Or.inl (by kernel_rfl)) ?_
        rotate_left
        · ((intro w8 _; go_simp); try with_reducible rfl)
        try simp only [Act.put]
        try simp only [List.setIfInBounds_toArray]
        try simp only [List.set_cons_succ]
        try simp only [List.set_cons_zero]
        refine takeP (i := 15) (d := some 46) (v := ?_) rfl rfl (by kernel_rfl) (by kernel_rfl) (by kernel_rfl) (by kernel_rfl) (by kernel_rfl) (fun _ _ _ h => h) (Or.inl ⟨by rfl, ?_⟩) (by first | exact Or.inr (by assumption) | exact Or.inl (by kernel_rfl)) ?_
        rotate_left
        · ((intro w8 _; go_simp); try with_reducible rfl)
        try simp only [Act.put]
        try simp only [List.setIfInBounds_toArray]
        try simp only [List.set_cons_succ]
        try simp only [List.set_cons_zero]
        refine oneL (i := 16) rfl (by kernel_rfl) (fun K8 hK8 => ?_)
        go_simp
        go_at_call 9; refine (HAL.out _ HF.out).mono ?_; rintro e21 w21 ⟨rfl, f21⟩
        replace HF := Lib.hid (HF.out.trans f21); replace HX := Lib.hid (HX.out.on f21); replace HY := Lib.hid (HY.out.on f21)
        have hS21 : S w21 := by rw [HSU.out]; exact ⟨HX.out.c 0, HX.out.c 1, HX.out.c 2, HX.out.c 3, HX.out.c 4, HX.out.c 5, HX.out.c 6, HX.out.c 7, HX.out.c 8, HX.out.c 9, HY.out.c 0, HY.out.c 1, HY.out.c 2, HY.out.c 3, HY.out.c 4, HY.out.c 5, HY.out.c 6, HY.out.c 7, HY.out.c 8, HY.out.c 9⟩
        clear f21
        refine hK8 _ _ hS21 ?_
        try simp only [Act.put]
        try simp only [List.setIfInBounds_toArray]
        try simp only [List.set_cons_succ]
        try simp only [List.set_cons_zero]
        refine takeP (i := 17) (d := some 48) (v := ?_) rfl rfl (by kernel_rfl) (by kernel_rfl) (by kernel_rfl) (by kernel_rfl) (by kernel_rfl) (fun _ _ _ h => h) (Or.inl ⟨by rfl, ?_⟩) (by first | exact Or.inr (by assumption) | exact Or.inl (by kernel_rfl)) ?_
        rotate_left
        · ((intro w8 _; go_simp); try with_reducible rfl)
        try simp only [Act.put]
        try simp only [List.setIfInBounds_toArray]
        try simp only [List.set_cons_succ]
        try simp only [List.set_cons_zero]
        refine outL (i := 18) rfl (by kernel_rfl) (by kernel_rfl) (fun K8 hK8 => ?_)
        go_simp
        
        refine hK8 _ _ ?_
        try simp only [Act.put]
        try simp only [List.setIfInBounds_toArray]
        try simp only [List.set_cons_succ]
        try simp only [List.set_cons_zero]
        refine lst_done (by kernel_rfl) ?_ _
        go_wp2
        go_ret
        exact ⟨rfl, HF.out⟩
      · have he1 : ((bs t1).toList == (bs t2).toList) = false := by rw [bs_list, bs_list]; exact beq_eq_false_iff_ne.2 he
        have he0 : ¬ (bs t1).toList = (bs t2).toList := by rw [bs_list, bs_list]; exact he
        go_upto_region 5 with fail
        clear hS0
        replace HF := Lib.hid (HF.out.trans (Fuw.drew (Fuw.refl w15))); replace HX := Lib.hid (HX.out.on (Fuw.drew (Fuw.refl w15))); replace HY := Lib.hid (HY.out.on (Fuw.drew (Fuw.refl w15)))
        obtain ⟨S, hS⟩ : ∃ S : World → Prop, S = (fun w8 => w8.cell? ⟨w.heap.size, 0, none⟩ = some (.int .i64 x.op) ∧ w8.cell? ⟨w.heap.size, 1, none⟩ = some (.int .i64 x.id) ∧ w8.cell? ⟨w.heap.size, 2, none⟩ = some (.int .i64 x.fr) ∧ w8.cell? ⟨w.heap.size, 3, none⟩ = some (.int .i64 x.tt) ∧ w8.cell? ⟨w.heap.size, 4, none⟩ = some (.string (bs x.nm)) ∧ w8.cell? ⟨w.heap.size, 5, none⟩ = some (.int .i64 x.v.kd) ∧ w8.cell? ⟨w.heap.size, 6, none⟩ = some (.int .i64 x.v.nn) ∧ w8.cell? ⟨w.heap.size, 7, none⟩ = some (.int .i64 x.v.dd) ∧ w8.cell? ⟨w.heap.size, 8, none⟩ = some (.string (bs x.v.ss)) ∧ w8.cell? ⟨w.heap.size, 9, none⟩ = some (.slice a x.v.ll.length k) ∧ w8.cell? ⟨w.heap.size + 1, 0, none⟩ = some (.int .i64 y.op) ∧ w8.cell? ⟨w.heap.size + 1, 1, none⟩ = some (.int .i64 y.id) ∧ w8.cell? ⟨w.heap.size + 1, 2, none⟩ = some (.int .i64 y.fr) ∧ w8.cell? ⟨w.heap.size + 1, 3, none⟩ = some (.int .i64 y.tt) ∧ w8.cell? ⟨w.heap.size + 1, 4, none⟩ = some (.string (bs y.nm)) ∧ w8.cell? ⟨w.heap.size + 1, 5, none⟩ = some (.int .i64 y.v.kd) ∧ w8.cell? ⟨w.heap.size + 1, 6, none⟩ = some (.int .i64 y.v.nn) ∧ w8.cell? ⟨w.heap.size + 1, 7, none⟩ = some (.int .i64 y.v.dd) ∧ w8.cell? ⟨w.heap.size + 1, 8, none⟩ = some (.string (bs y.v.ss)) ∧ w8.cell? ⟨w.heap.size + 1, 9, none⟩ = some (.slice b y.v.ll.length l)) := ⟨_, rfl⟩
        have HSU := Lib.hid hS
        clear hS
        refine lst_start [18] S (by kernel_rfl) ?_
        have hS0 : S w15.drew := by rw [HSU.out]; exact ⟨HX.out.c 0, HX.out.c 1, HX.out.c 2, HX.out.c 3, HX.out.c 4, HX.out.c 5, HX.out.c 6, HX.out.c 7, HX.out.c 8, HX.out.c 9, HY.out.c 0, HY.out.c 1, HY.out.c 2, HY.out.c 3, HY.out.c 4, HY.out.c 5, HY.out.c 6, HY.out.c 7, HY.out.c 8, HY.out.c 9⟩
        refine takeL (i := 0) (d := some 31) (v := ?_) rfl rfl (by kernel_rfl) (by kernel_rfl) (by kernel_rfl) (by kernel_rfl) (by kernel_rfl) (fun _ _ _ h => h) (Or.inl ⟨by rfl, ?_⟩) (by assumption) ?_
        rotate_left
        · ((intro w8 hSw; rw [HSU.out] at hSw; obtain ⟨s0, s1, s2, s3, s4, s5, s6, s7, s8, s9, r0, r1, r2, r3, r4, r5, r6, r7, r8, r9⟩ := hSw; go_simp); try with_reducible rfl)
        try simp only [Act.put]
        try simp only [List.setIfInBounds_toArray]
        try simp only [List.set_cons_succ]
        try simp only [List.set_cons_zero]
        refine oneL (i := 1) rfl (by kernel_rfl) (fun K8 hK8 => ?_)
        go_simp
        go_at_call 22; refine (HLX.out _ HF.out).mono ?_; rintro e16 w16 ⟨rfl, f16⟩
        replace HF := Lib.hid (HF.out.trans f16); replace HX := Lib.hid (HX.out.on f16); replace HY := Lib.hid (HY.out.on f16)
        have hS16 : S w16 := by rw [HSU.out]; exact ⟨HX.out.c 0, HX.out.c 1, HX.out.c 2, HX.out.c 3, HX.out.c 4, HX.out.c 5, HX.out.c 6, HX.out.c 7, HX.out.c 8, HX.out.c 9, HY.out.c 0, HY.out.c 1, HY.out.c 2, HY.out.c 3, HY.out.c 4, HY.out.c 5, HY.out.c 6, HY.out.c 7, HY.out.c 8, HY.out.c 9⟩
        clear f16
        refine hK8 _ _ hS16 ?_
        try simp only [Act.put]
        try simp only [List.setIfInBounds_toArray]
        try simp only [List.set_cons_succ]
        try simp only [List.set_cons_zero]
        refine takeP (i := 2) (d := some 33) (v := ?_) rfl rfl (by kernel_rfl) (by kernel_rfl) (by kernel_rfl) (by kernel_rfl) (by kernel_rfl) (fun _ _ _ h => h) (Or.inl ⟨by rfl, ?_⟩) (by first | exact Or.inr (by assumption) | exact Or.inl (by kernel_rfl)) ?_
        rotate_left
        · ((intro w8 _; go_simp); try with_reducible rfl)
        try simp only [Act.put]
        try simp only [List.setIfInBounds_toArray]
        try simp only [List.set_cons_succ]
        try simp only [List.set_cons_zero]
        refine takeP (i := 3) (d := some 34) (v := ?_) rfl rfl (by kernel_rfl) (by kernel_rfl) (by kernel_rfl) (by kernel_rfl) (by kernel_rfl) (fun _ _ _ h => h) (Or.inl ⟨by rfl, ?_⟩) (by first | exact Or.inr (by assumption) | exact Or.inl (by kernel_rfl)) ?_
        rotate_left
        · ((intro w8 _; go_simp); try with_reducible rfl)
        try simp only [Act.put]
        try simp only [List.setIfInBounds_toArray]
        try simp only [List.set_cons_succ]
        try simp only [List.set_cons_zero]
        refine takeL (i := 4) (d := some 35) (v := ?_) rfl rfl (by kernel_rfl) (by kernel_rfl) (by kernel_rfl) (by kernel_rfl) (by kernel_rfl) (fun _ _ _ h => h) (Or.inl ⟨by rfl, ?_⟩) (by assumption) ?_
        rotate_left
        · ((intro w8 hSw; rw [HSU.out] at hSw; obtain ⟨s0, s1, s2, s3, s4, s5, s6, s7, s8, s9, r0, r1, r2, r3, r4, r5, r6, r7, r8, r9⟩ := hSw; go_simp); try with_reducible rfl)
        try simp only [Act.put]
        try simp only [List.setIfInBounds_toArray]
        try simp only [List.set_cons_succ]
        try simp only [List.set_cons_zero]
        refine takeL (i := 6) (d := some 37) (v := ?_) rfl rfl (by kernel_rfl) (by kernel_rfl) (by kernel_rfl) (by kernel_rfl) (by kernel_rfl) (fun _ _ _ h => h) (Or.inl ⟨by rfl, ?_⟩) (by assumption) ?_
        rotate_left
        · ((intro w8 hSw; rw [HSU.out] at hSw; obtain ⟨s0, s1, s2, s3, s4, s5, s6, s7, s8, s9, r0, r1, r2, r3, r4, r5, r6, r7, r8, r9⟩ := hSw; go_simp); try with_reducible rfl)
        try simp only [Act.put]
        try simp only [List.setIfInBounds_toArray]
        try simp only [List.set_cons_succ]
        try simp only [List.set_cons_zero]
        refine oneL (i := 5) rfl (by kernel_rfl) (fun K8 hK8 => ?_)
        go_simp
        go_at_call 22; refine (HLX.out _ HF.out).mono ?_; rintro e18 w18 ⟨rfl, f18⟩
        replace HF := Lib.hid (HF.out.trans f18); replace HX := Lib.hid (HX.out.on f18); replace HY := Lib.hid (HY.out.on f18)
        have hS18 : S w18 := by rw [HSU.out]; exact ⟨HX.out.c 0, HX.out.c 1, HX.out.c 2, HX.out.c 3, HX.out.c 4, HX.out.c 5, HX.out.c 6, HX.out.c 7, HX.out.c 8, HX.out.c 9, HY.out.c 0, HY.out.c 1, HY.out.c 2, HY.out.c 3, HY.out.c 4, HY.out.c 5, HY.out.c 6, HY.out.c 7, HY.out.c 8, HY.out.c 9⟩
        clear f18
        refine hK8 _ _ hS18 ?_
        try simp only [Act.put]
        try simp only [List.setIfInBounds_toArray]
        try simp only [List.set_cons_succ]
        try simp only [List.set_cons_zero]
        refine oneL (i := 7) rfl (by kernel_rfl) (fun K8 hK8 => ?_)
        go_simp
        go_at_call 22; refine (HLY.out _ HF.out).mono ?_; rintro e19 w19 ⟨rfl, f19⟩
        replace HF := Lib.hid (HF.out.trans f19); replace HX := Lib.hid (HX.out.on f19); replace HY := Lib.hid (HY.out.on f19)
        have hS19 : S w19 := by rw [HSU.out]; exact ⟨HX.out.c 0, HX.out.c 1, HX.out.c 2, HX.out.c 3, HX.out.c 4, HX.out.c 5, HX.out.c 6, HX.out.c 7, HX.out.c 8, HX.out.c 9, HY.out.c 0, HY.out.c 1, HY.out.c 2, HY.out.c 3, HY.out.c 4, HY.out.c 5, HY.out.c 6, HY.out.c 7, HY.out.c 8, HY.out.c 9⟩
        clear f19
        refine hK8 _ _ hS19 ?_
        try simp only [Act.put]
        try simp only [List.setIfInBounds_toArray]
        try simp only [List.set_cons_succ]
        try simp only [List.set_cons_zero]
        refine takeP (i := 8) (d := some 39) (v := ?_) rfl rfl (by kernel_rfl) (by kernel_rfl) (by kernel_rfl) (by kernel_rfl) (by kernel_rfl) (fun _ _ _ h => h) (Or.inl ⟨by rfl, ?_⟩) (by first | exact Or.inr (by assumption) | exact Or.inl (by kernel_rfl)) ?_
        rotate_left
        · ((intro w8 _; go_simp); try with_reducible rfl)
        try simp only [Act.put]
        try simp only [List.setIfInBounds_toArray]
        try simp only [List.set_cons_succ]
        try simp only [List.set_cons_zero]
        refine takeP (i := 9) (d := some 40) (v := ?_) rfl rfl (by kernel_rfl) (by kernel_rfl) (by kernel_rfl) (by kernel_rfl) (by kernel_rfl) (fun _ _ _ h => h) (Or.inl ⟨by rfl, ?_⟩) (by first | exact Or.inr (by assumption) | exact Or.inl (by kernel_rfl)) ?_
        rotate_left
        · ((intro w8 _; go_simp); try with_reducible rfl)
        try simp only [Act.put]
        try simp only [List.setIfInBounds_toArray]
        try simp only [List.set_cons_succ]
        try simp only [List.set_cons_zero]
        refine takeP (i := 10) (d := some 41) (v := ?_) rfl rfl (by kernel_rfl) (by kernel_rfl) (by kernel_rfl) (by kernel_rfl) (by kernel_rfl) (fun _ _ _ h => h) (Or.inl ⟨by rfl, ?_⟩) (by first | exact Or.inr (by assumption) | exact Or.inl (by kernel_rfl)) ?_
        rotate_left
        · ((intro w8 _; go_simp); try with_reducible rfl)
        try simp only [Act.put]
        try simp only [List.setIfInBounds_toArray]
        try simp only [List.set_cons_succ]
        try simp only [List.set_cons_zero]
        refine takeP (i := 11) (d := some 42) (v := undef) rfl rfl (by kernel_rfl) (by kernel_rfl) (by kernel_rfl) (by kernel_rfl) (by kernel_rfl) (fun _ _ _ h => h) (Or.inr ⟨by rfl, rfl⟩) (by first | exact Or.inr (by assumption) | exact Or.inl (by kernel_rfl)) ?_
        try simp only [Act.put]
        try simp only [List.setIfInBounds_toArray]
        try simp only [List.set_cons_succ]
        try simp only [List.set_cons_zero]
        refine takeP (i := 12) (d := some 43) (v := undef) rfl rfl (by kernel_rfl) (by kernel_rfl) (by kernel_rfl) (by kernel_rfl) (by kernel_rfl) (fun _ _ _ h => h) (Or.inr ⟨by rfl, rfl⟩) (by first | exact Or.inr (by assumption) | exact Or.inl (by kernel_rfl)) ?_
        try simp only [Act.put]
        try simp only [List.setIfInBounds_toArray]
        try simp only [List.set_cons_succ]
        try simp only [List.set_cons_zero]
        refine takeP (i := 13) (d := some 44) (v := undef) rfl rfl (by kernel_rfl) (by kernel_rfl) (by kernel_rfl) (by kernel_rfl) (by kernel_rfl) (fun _ _ _ h => h) (Or.inr ⟨by rfl, rfl⟩) (by first | exact Or.inr (by assumption) | exact Or.inl (by kernel_rfl)) ?_
        try simp only [Act.put]
        try simp only [List.setIfInBounds_toArray]
        try simp only [List.set_cons_succ]
        try simp only [List.set_cons_zero]
        refine takeP (i := 14) (d := some 45) (v := ?_) rfl rfl (by kernel_rfl) (by kernel_rfl) (by kernel_rfl) (by kernel_rfl) (by kernel_rfl) (fun _ _ _ h => h) (Or.inl ⟨by rfl, ?_⟩) (by first | exact Or.inr (by assumption) | exact Or.inl (by kernel_rfl)) ?_
        rotate_left
        · ((intro w8 _; go_simp); try with_reducible rfl)
        try simp only [Act.put]
        try simp only [List.setIfInBounds_toArray]
        try simp only [List.set_cons_succ]
        try simp only [List.set_cons_zero]
        refine takeP (i := 15) (d := some 46) (v := ?_) rfl rfl (by kernel_rfl) (by kernel_rfl) (by kernel_rfl) (by kernel_rfl) (by kernel_rfl) (fun _ _ _ h => h) (Or.inl ⟨by rfl, ?_⟩) (by first | exact Or.inr (by assumption) | exact Or.inl (by kernel_rfl)) ?_
        rotate_left
        · ((intro w8 _; go_simp); try with_reducible rfl)
        try simp only [Act.put]
        try simp only [List.setIfInBounds_toArray]
        try simp only [List.set_cons_succ]
        try simp only [List.set_cons_zero]
        refine oneL (i := 16) rfl (by kernel_rfl) (fun K8 hK8 => ?_)
        go_simp
        go_at_call 9; refine (HAL.out _ HF.out).mono ?_; rintro e22 w22 ⟨rfl, f22⟩
        replace HF := Lib.hid (HF.out.trans f22); replace HX := Lib.hid (HX.out.on f22); replace HY := Lib.hid (HY.out.on f22)
        have hS22 : S w22 := by rw [HSU.out]; exact ⟨HX.out.c 0, HX.out.c 1, HX.out.c 2, HX.out.c 3, HX.out.c 4, HX.out.c 5, HX.out.c 6, HX.out.c 7, HX.out.c 8, HX.out.c 9, HY.out.c 0, HY.out.c 1, HY.out.c 2, HY.out.c 3, HY.out.c 4, HY.out.c 5, HY.out.c 6, HY.out.c 7, HY.out.c 8, HY.out.c 9⟩
        clear f22
        refine hK8 _ _ hS22 ?_
        try simp only [Act.put]
        try simp only [List.setIfInBounds_toArray]
        try simp only [List.set_cons_succ]
        try simp only [List.set_cons_zero]
        refine takeP (i := 17) (d := some 48) (v := ?_) rfl rfl (by kernel_rfl) (by kernel_rfl) (by kernel_rfl) (by kernel_rfl) (by kernel_rfl) (fun _ _ _ h => h) (Or.inl ⟨by rfl, ?_⟩) (by first | exact Or.inr (by assumption) | exact Or.inl (by kernel_rfl)) ?_
        rotate_left
        · ((intro w8 _; go_simp); try with_reducible rfl)
        try simp only [Act.put]
        try simp only [List.setIfInBounds_toArray]
        try simp only [List.set_cons_succ]
        try simp only [List.set_cons_zero]
        refine outL (i := 18) rfl (by kernel_rfl) (by kernel_rfl) (fun K8 hK8 => ?_)
        go_simp
        
        refine hK8 _ _ ?_
        try simp only [Act.put]
        try simp only [List.setIfInBounds_toArray]
        try simp only [List.set_cons_succ]
        try simp only [List.set_cons_zero]
        refine lst_done (by kernel_rfl) ?_ _
        go_wp2
        go_ret
        exact ⟨rfl, HF.out⟩
end Go.Proofs.YtfbijdoomkgodaaGreatDoor
