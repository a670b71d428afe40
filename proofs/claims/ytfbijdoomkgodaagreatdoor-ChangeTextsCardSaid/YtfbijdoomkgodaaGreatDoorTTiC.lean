/-
  The reference of package change: Text.
-/
import Derived.Test.YtfbijdoomkgodaaGreatDoorTK39
import Derived.Test.YtfbijdoomkgodaaGreatDoorTK41
import Derived.Test.YtfbijdoomkgodaaGreatDoorTK42
namespace Go.Proofs.YtfbijdoomkgodaaGreatDoor
open Go.RowKit

theorem ret_bs {A : ByteArray} {L : List UInt8} (h : A.data.toList = L) : Ending.returned (.string A) = .returned (.string (bs L)) := by
  rw [bs_of A, h]
set_option maxHeartbeats 12800000 in
set_option maxRecDepth 100000 in
theorem rtextc_raw (c : Ch) (a : Option Addr) (k : Nat) (w : World) (h : ChIn w c a k) (hok : chkC c = 0) : Calls Tryz.prog 23 #[.agg (chC c a k)] w (RwT w (Lib.join (wordsC c) [32])) := by
  obtain ⟨ho, hids, hz, hnm, hpl⟩ := chkC_ok hok
  obtain ⟨W, hW⟩ : ∃ W, W = w.alloc (.cells (chC c a k) 30) := ⟨_, rfl⟩
  have fW : Fuw w W := by rw [hW]; exact fuwA _ _
  have bW : Bk W w.heap.size (chC c a k) 30 := by rw [hW]; exact Bk.new _ _ _
  have HCK := Lib.hid (show Calls Tryz.prog 13 #[.agg (chC c a k)] W (FwI W 0) from by rw [← hok]; exact rchk8_any c a k W (h.on fW))
  have HT1 := Lib.hid (fun (w' : World) => rt_w c.id h.i w')
  have HT2 := Lib.hid (fun (w' : World) => rt_w c.fr h.f w')
  have HT3 := Lib.hid (fun (w' : World) => rt_w c.tt h.t w')
  have HTX := Lib.hid (fun (w' : World) (hf : Fuw w w') => rtxt_all c.v a k w' h.v (h.s.onw hf) (Nat.le_trans (tex_short hpl) (by decide)))
  have l1 := itoa_le c.id h.i
  have l2 := itoa_le c.fr h.f
  have l3 := itoa_le c.tt h.t
  have l4 : nmd c.op = true → c.nm.length ≤ 20 := fun q => name_20 (hnm q)
  have l5 := tex_short hpl
  have hT : Lib.join (wordsC c) [32] = wrdC c.op ++ 32 :: (Lib.itoa c.id ++ tlC c) := words_tex c
  have HB := Lib.hid bW
  have HF := Lib.hid fW
  unfold tlC at hT
  obtain ⟨op, id, fr, tt, nm, v⟩ := c
  unfold vlv at HTX
  unfold chC at *
  simp only at *
  generalize Lib.join (wordsC ⟨op, id, fr, tt, nm, v⟩) [32] = T at *
  obtain ⟨s1, e1⟩ : ∃ s1, s1 = Lib.itoa id := ⟨_, rfl⟩
  obtain ⟨s2, e2⟩ : ∃ s2, s2 = Lib.itoa fr := ⟨_, rfl⟩
  obtain ⟨s3, e3⟩ : ∃ s3, s3 = Lib.itoa tt := ⟨_, rfl⟩
  obtain ⟨s4, e4⟩ : ∃ s4, s4 = texX v := ⟨_, rfl⟩
  rw [← e1] at hT HT1 l1
  rw [← e2] at hT HT2 l2
  rw [← e3] at hT HT3 l3
  rw [← e4] at hT HTX l5
  clear e1 e2 e3 e4 hok hids hz hnm hpl h fW bW
  have z1 := bs_size s1
  have z4 := bs_size nm
  have z5 := bs_size s4
  have y1 : ((⟨#[32]⟩ : ByteArray) ++ bs s1).size = 1 + s1.length := by rw [ByteArray.size_append, z1]; rfl
  rcases op_cases ho with rfl | rfl | rfl | rfl | rfl | rfl | rfl | rfl
  · simp [wrdC, nmd, vld, Lib.joinTail] at hT l4
    go_enter Tryz.func23, Tryz.ntmps23
    go_upto_region 1 with fail
    rw [← hW]
    clear hW
    have c0 := HB.out.c 0; have c1 := HB.out.c 1; have c2 := HB.out.c 2; have c3 := HB.out.c 3; have c4 := HB.out.c 4; have c5 := HB.out.c 5; have c6 := HB.out.c 6; have c7 := HB.out.c 7; have c8 := HB.out.c 8; have c9 := HB.out.c 9
    go_wp2_with fail
    go_at_call 13; refine HCK.out.mono ?_; rintro e1 w1 ⟨rfl, f1⟩
    replace HF := Lib.hid (HF.out.trans f1); replace HB := Lib.hid (HB.out.on f1)
    clear f1 c0 c1 c2 c3 c4 c5 c6 c7 c8 c9 HCK
    have c0 := HB.out.c 0; have c1 := HB.out.c 1; have c2 := HB.out.c 2; have c3 := HB.out.c 3; have c4 := HB.out.c 4; have c5 := HB.out.c 5; have c6 := HB.out.c 6; have c7 := HB.out.c 7; have c8 := HB.out.c 8; have c9 := HB.out.c 9
    go_wp2_with fail
    go_at_call 57; refine (HT1.out _).mono ?_; rintro e2 w2 ⟨rfl, f2⟩
    replace HF := Lib.hid (HF.out.trans f2); replace HB := Lib.hid (HB.out.on f2)
    clear f2 c0 c1 c2 c3 c4 c5 c6 c7 c8 c9
    have c0 := HB.out.c 0; have c1 := HB.out.c 1; have c2 := HB.out.c 2; have c3 := HB.out.c 3; have c4 := HB.out.c 4; have c5 := HB.out.c 5; have c6 := HB.out.c 6; have c7 := HB.out.c 7; have c8 := HB.out.c 8; have c9 := HB.out.c 9
    go_wp2
    go_ret
    exact ⟨ret_bs (by rw [hT]; simp [ByteArray.data_append, bs_data]), HF.out⟩
  · simp [wrdC, nmd, vld, Lib.joinTail] at hT l4
    go_enter Tryz.func23, Tryz.ntmps23
    go_upto_region 1 with fail
    rw [← hW]
    clear hW
    have c0 := HB.out.c 0; have c1 := HB.out.c 1; have c2 := HB.out.c 2; have c3 := HB.out.c 3; have c4 := HB.out.c 4; have c5 := HB.out.c 5; have c6 := HB.out.c 6; have c7 := HB.out.c 7; have c8 := HB.out.c 8; have c9 := HB.out.c 9
    go_wp2_with fail
    go_at_call 13; refine HCK.out.mono ?_; rintro e1 w1 ⟨rfl, f1⟩
    replace HF := Lib.hid (HF.out.trans f1); replace HB := Lib.hid (HB.out.on f1)
    clear f1 c0 c1 c2 c3 c4 c5 c6 c7 c8 c9 HCK
    have c0 := HB.out.c 0; have c1 := HB.out.c 1; have c2 := HB.out.c 2; have c3 := HB.out.c 3; have c4 := HB.out.c 4; have c5 := HB.out.c 5; have c6 := HB.out.c 6; have c7 := HB.out.c 7; have c8 := HB.out.c 8; have c9 := HB.out.c 9
    go_wp2_with fail
    go_at_call 57; refine (HT1.out _).mono ?_; rintro e2 w2 ⟨rfl, f2⟩
    replace HF := Lib.hid (HF.out.trans f2); replace HB := Lib.hid (HB.out.on f2)
    clear f2 c0 c1 c2 c3 c4 c5 c6 c7 c8 c9
    have c0 := HB.out.c 0; have c1 := HB.out.c 1; have c2 := HB.out.c 2; have c3 := HB.out.c 3; have c4 := HB.out.c 4; have c5 := HB.out.c 5; have c6 := HB.out.c 6; have c7 := HB.out.c 7; have c8 := HB.out.c 8; have c9 := HB.out.c 9
    go_wp2
    go_ret
    exact ⟨ret_bs (by rw [hT]; simp [ByteArray.data_append, bs_data]), HF.out⟩
  · simp [wrdC, nmd, vld, Lib.joinTail] at hT l4
    go_enter Tryz.func23, Tryz.ntmps23
    go_upto_region 1 with fail
    rw [← hW]
    clear hW
    have c0 := HB.out.c 0; have c1 := HB.out.c 1; have c2 := HB.out.c 2; have c3 := HB.out.c 3; have c4 := HB.out.c 4; have c5 := HB.out.c 5; have c6 := HB.out.c 6; have c7 := HB.out.c 7; have c8 := HB.out.c 8; have c9 := HB.out.c 9
    go_wp2_with fail
    go_at_call 13; refine HCK.out.mono ?_; rintro e1 w1 ⟨rfl, f1⟩
    replace HF := Lib.hid (HF.out.trans f1); replace HB := Lib.hid (HB.out.on f1)
    clear f1 c0 c1 c2 c3 c4 c5 c6 c7 c8 c9 HCK
    have c0 := HB.out.c 0; have c1 := HB.out.c 1; have c2 := HB.out.c 2; have c3 := HB.out.c 3; have c4 := HB.out.c 4; have c5 := HB.out.c 5; have c6 := HB.out.c 6; have c7 := HB.out.c 7; have c8 := HB.out.c 8; have c9 := HB.out.c 9
    go_wp2_with fail
    go_at_call 57; refine (HT1.out _).mono ?_; rintro e2 w2 ⟨rfl, f2⟩
    replace HF := Lib.hid (HF.out.trans f2); replace HB := Lib.hid (HB.out.on f2)
    clear f2 c0 c1 c2 c3 c4 c5 c6 c7 c8 c9
    have c0 := HB.out.c 0; have c1 := HB.out.c 1; have c2 := HB.out.c 2; have c3 := HB.out.c 3; have c4 := HB.out.c 4; have c5 := HB.out.c 5; have c6 := HB.out.c 6; have c7 := HB.out.c 7; have c8 := HB.out.c 8; have c9 := HB.out.c 9
    have y2 : (⟨#[43, 108, 97, 98, 101, 108]⟩ ++ ((⟨#[32]⟩ : ByteArray) ++ bs s1)).size = 7 + s1.length := by rw [ByteArray.size_append, y1]; first | done | (show 6 + _ = _; omega)
    have y3 : (⟨#[43, 108, 97, 98, 101, 108]⟩ ++ ((⟨#[32]⟩ : ByteArray) ++ bs s1) ++ ⟨#[32]⟩).size = 8 + s1.length := by rw [ByteArray.size_append, y2]; first | done | (show _ + 1 = _; omega)
    go_wp2
    go_ret
    exact ⟨ret_bs (by rw [hT]; simp [ByteArray.data_append, bs_data]), HF.out⟩
  · simp [wrdC, nmd, vld, Lib.joinTail] at hT l4
    go_enter Tryz.func23, Tryz.ntmps23
    go_upto_region 1 with fail
    rw [← hW]
    clear hW
    have c0 := HB.out.c 0; have c1 := HB.out.c 1; have c2 := HB.out.c 2; have c3 := HB.out.c 3; have c4 := HB.out.c 4; have c5 := HB.out.c 5; have c6 := HB.out.c 6; have c7 := HB.out.c 7; have c8 := HB.out.c 8; have c9 := HB.out.c 9
    go_wp2_with fail
    go_at_call 13; refine HCK.out.mono ?_; rintro e1 w1 ⟨rfl, f1⟩
    replace HF := Lib.hid (HF.out.trans f1); replace HB := Lib.hid (HB.out.on f1)
    clear f1 c0 c1 c2 c3 c4 c5 c6 c7 c8 c9 HCK
    have c0 := HB.out.c 0; have c1 := HB.out.c 1; have c2 := HB.out.c 2; have c3 := HB.out.c 3; have c4 := HB.out.c 4; have c5 := HB.out.c 5; have c6 := HB.out.c 6; have c7 := HB.out.c 7; have c8 := HB.out.c 8; have c9 := HB.out.c 9
    go_wp2_with fail
    go_at_call 57; refine (HT1.out _).mono ?_; rintro e2 w2 ⟨rfl, f2⟩
    replace HF := Lib.hid (HF.out.trans f2); replace HB := Lib.hid (HB.out.on f2)
    clear f2 c0 c1 c2 c3 c4 c5 c6 c7 c8 c9
    have c0 := HB.out.c 0; have c1 := HB.out.c 1; have c2 := HB.out.c 2; have c3 := HB.out.c 3; have c4 := HB.out.c 4; have c5 := HB.out.c 5; have c6 := HB.out.c 6; have c7 := HB.out.c 7; have c8 := HB.out.c 8; have c9 := HB.out.c 9
    have y2 : (⟨#[45, 108, 97, 98, 101, 108]⟩ ++ ((⟨#[32]⟩ : ByteArray) ++ bs s1)).size = 7 + s1.length := by rw [ByteArray.size_append, y1]; first | done | (show 6 + _ = _; omega)
    have y3 : (⟨#[45, 108, 97, 98, 101, 108]⟩ ++ ((⟨#[32]⟩ : ByteArray) ++ bs s1) ++ ⟨#[32]⟩).size = 8 + s1.length := by rw [ByteArray.size_append, y2]; first | done | (show _ + 1 = _; omega)
    go_wp2
    go_ret
    exact ⟨ret_bs (by rw [hT]; simp [ByteArray.data_append, bs_data]), HF.out⟩
  · simp [wrdC, nmd, vld, Lib.joinTail] at hT l4
    go_enter Tryz.func23, Tryz.ntmps23
    go_upto_region 1 with fail
    rw [← hW]
    clear hW
    have c0 := HB.out.c 0; have c1 := HB.out.c 1; have c2 := HB.out.c 2; have c3 := HB.out.c 3; have c4 := HB.out.c 4; have c5 := HB.out.c 5; have c6 := HB.out.c 6; have c7 := HB.out.c 7; have c8 := HB.out.c 8; have c9 := HB.out.c 9
    go_wp2_with fail
    go_at_call 13; refine HCK.out.mono ?_; rintro e1 w1 ⟨rfl, f1⟩
    replace HF := Lib.hid (HF.out.trans f1); replace HB := Lib.hid (HB.out.on f1)
    clear f1 c0 c1 c2 c3 c4 c5 c6 c7 c8 c9 HCK
    have c0 := HB.out.c 0; have c1 := HB.out.c 1; have c2 := HB.out.c 2; have c3 := HB.out.c 3; have c4 := HB.out.c 4; have c5 := HB.out.c 5; have c6 := HB.out.c 6; have c7 := HB.out.c 7; have c8 := HB.out.c 8; have c9 := HB.out.c 9
    go_wp2_with fail
    go_at_call 57; refine (HT1.out _).mono ?_; rintro e2 w2 ⟨rfl, f2⟩
    replace HF := Lib.hid (HF.out.trans f2); replace HB := Lib.hid (HB.out.on f2)
    clear f2 c0 c1 c2 c3 c4 c5 c6 c7 c8 c9
    have c0 := HB.out.c 0; have c1 := HB.out.c 1; have c2 := HB.out.c 2; have c3 := HB.out.c 3; have c4 := HB.out.c 4; have c5 := HB.out.c 5; have c6 := HB.out.c 6; have c7 := HB.out.c 7; have c8 := HB.out.c 8; have c9 := HB.out.c 9
    have y2 : (⟨#[115, 101, 116]⟩ ++ ((⟨#[32]⟩ : ByteArray) ++ bs s1)).size = 4 + s1.length := by rw [ByteArray.size_append, y1]; first | done | (show 3 + _ = _; omega)
    have y3 : (⟨#[115, 101, 116]⟩ ++ ((⟨#[32]⟩ : ByteArray) ++ bs s1) ++ ⟨#[32]⟩).size = 5 + s1.length := by rw [ByteArray.size_append, y2]; first | done | (show _ + 1 = _; omega)
    have y4 : (⟨#[115, 101, 116]⟩ ++ ((⟨#[32]⟩ : ByteArray) ++ bs s1) ++ ⟨#[32]⟩ ++ bs nm).size = 5 + s1.length + nm.length := by rw [ByteArray.size_append, y3, z4]; first | done | omega
    have y5 : (⟨#[115, 101, 116]⟩ ++ ((⟨#[32]⟩ : ByteArray) ++ bs s1) ++ ⟨#[32]⟩ ++ bs nm ++ ⟨#[32]⟩).size = 6 + s1.length + nm.length := by rw [ByteArray.size_append, y4]; first | done | (show _ + 1 = _; omega)
    go_upto_region 14 with fail
    obtain ⟨S, hS⟩ : ∃ S : World → Prop, S = (fun w8 => w8.cell? ⟨w.heap.size, 4, none⟩ = some (.string (bs nm)) ∧ w8.cell? ⟨w.heap.size, 5, none⟩ = some (.int .i64 v.kd) ∧ w8.cell? ⟨w.heap.size, 6, none⟩ = some (.int .i64 v.nn) ∧ w8.cell? ⟨w.heap.size, 7, none⟩ = some (.int .i64 v.dd) ∧ w8.cell? ⟨w.heap.size, 8, none⟩ = some (.string (bs v.ss)) ∧ w8.cell? ⟨w.heap.size, 9, none⟩ = some (.slice a v.ll.length k)) := ⟨_, rfl⟩
    have HSS := Lib.hid hS
    clear hS
    refine lst_start [11] S (by kernel_rfl) ?_
    have hS0 : S w2.drew := by rw [HSS.out]; exact ⟨c4, c5, c6, c7, c8, c9⟩
    refine takeP (i := 0) (d := some 39) (v := ?_) rfl rfl (by kernel_rfl) (by kernel_rfl) (by kernel_rfl) (by kernel_rfl) (by kernel_rfl) (fun _ _ _ h => h) (Or.inl ⟨by rfl, ?_⟩) (by first | exact Or.inr (by assumption) | exact Or.inl (by kernel_rfl)) ?_
    rotate_left
    · ((intro w8 _; go_simp); first | done | with_reducible rfl | (rw [if_neg (by omega)]))
    try simp only [Act.put]
    try simp only [List.setIfInBounds_toArray]
    try simp only [List.set_cons_succ]
    try simp only [List.set_cons_zero]
    refine takeP (i := 1) (d := some 40) (v := ?_) rfl rfl (by kernel_rfl) (by kernel_rfl) (by kernel_rfl) (by kernel_rfl) (by kernel_rfl) (fun _ _ _ h => h) (Or.inl ⟨by rfl, ?_⟩) (by first | exact Or.inr (by assumption) | exact Or.inl (by kernel_rfl)) ?_
    rotate_left
    · ((intro w8 _; go_simp); first | done | with_reducible rfl | (rw [if_neg (by omega)]))
    try simp only [Act.put]
    try simp only [List.setIfInBounds_toArray]
    try simp only [List.set_cons_succ]
    try simp only [List.set_cons_zero]
    refine takeP (i := 2) (d := some 41) (v := ?_) rfl rfl (by kernel_rfl) (by kernel_rfl) (by kernel_rfl) (by kernel_rfl) (by kernel_rfl) (fun _ _ _ h => h) (Or.inl ⟨by rfl, ?_⟩) (by first | exact Or.inr (by assumption) | exact Or.inl (by kernel_rfl)) ?_
    rotate_left
    · ((intro w8 _; go_simp); first | done | with_reducible rfl | (rw [if_neg (by omega)]))
    try simp only [Act.put]
    try simp only [List.setIfInBounds_toArray]
    try simp only [List.set_cons_succ]
    try simp only [List.set_cons_zero]
    refine takeP (i := 3) (d := some 42) (v := ?_) rfl rfl (by kernel_rfl) (by kernel_rfl) (by kernel_rfl) (by kernel_rfl) (by kernel_rfl) (fun _ _ _ h => h) (Or.inl ⟨by rfl, ?_⟩) (by first | exact Or.inr (by assumption) | exact Or.inl (by kernel_rfl)) ?_
    rotate_left
    · ((intro w8 _; go_simp); first | done | with_reducible rfl | (rw [if_neg (by omega)]))
    try simp only [Act.put]
    try simp only [List.setIfInBounds_toArray]
    try simp only [List.set_cons_succ]
    try simp only [List.set_cons_zero]
    refine takeL (i := 4) (d := some 43) (v := ?_) rfl rfl (by kernel_rfl) (by kernel_rfl) (by kernel_rfl) (by kernel_rfl) (by kernel_rfl) (fun _ _ _ h => h) (Or.inl ⟨by rfl, ?_⟩) (by assumption) ?_
    rotate_left
    · ((intro w8 hSw; rw [HSS.out] at hSw; obtain ⟨t4, t5, t6, t7, t8, t9⟩ := hSw; go_simp); try with_reducible rfl)
    try simp only [Act.put]
    try simp only [List.setIfInBounds_toArray]
    try simp only [List.set_cons_succ]
    try simp only [List.set_cons_zero]
    refine takeP (i := 5) (d := some 44) (v := ?_) rfl rfl (by kernel_rfl) (by kernel_rfl) (by kernel_rfl) (by kernel_rfl) (by kernel_rfl) (fun _ _ _ h => h) (Or.inl ⟨by rfl, ?_⟩) (by first | exact Or.inr (by assumption) | exact Or.inl (by kernel_rfl)) ?_
    rotate_left
    · ((intro w8 _; go_simp); first | done | with_reducible rfl | (rw [if_neg (by omega)]))
    try simp only [Act.put]
    try simp only [List.setIfInBounds_toArray]
    try simp only [List.set_cons_succ]
    try simp only [List.set_cons_zero]
    refine takeP (i := 6) (d := some 45) (v := ?_) rfl rfl (by kernel_rfl) (by kernel_rfl) (by kernel_rfl) (by kernel_rfl) (by kernel_rfl) (fun _ _ _ h => h) (Or.inl ⟨by rfl, ?_⟩) (by first | exact Or.inr (by assumption) | exact Or.inl (by kernel_rfl)) ?_
    rotate_left
    · ((intro w8 _; go_simp); first | done | with_reducible rfl | (rw [if_neg (by omega)]))
    try simp only [Act.put]
    try simp only [List.setIfInBounds_toArray]
    try simp only [List.set_cons_succ]
    try simp only [List.set_cons_zero]
    refine takeP (i := 7) (d := some 46) (v := ?_) rfl rfl (by kernel_rfl) (by kernel_rfl) (by kernel_rfl) (by kernel_rfl) (by kernel_rfl) (fun _ _ _ h => h) (Or.inl ⟨by rfl, ?_⟩) (by first | exact Or.inr (by assumption) | exact Or.inl (by kernel_rfl)) ?_
    rotate_left
    · ((intro w8 _; go_simp); first | done | with_reducible rfl | (rw [if_neg (by omega)]))
    try simp only [Act.put]
    try simp only [List.setIfInBounds_toArray]
    try simp only [List.set_cons_succ]
    try simp only [List.set_cons_zero]
    refine takeL (i := 8) (d := some 47) (v := ?_) rfl rfl (by kernel_rfl) (by kernel_rfl) (by kernel_rfl) (by kernel_rfl) (by kernel_rfl) (fun _ _ _ h => h) (Or.inl ⟨by rfl, ?_⟩) (by assumption) ?_
    rotate_left
    · ((intro w8 hSw; rw [HSS.out] at hSw; obtain ⟨t4, t5, t6, t7, t8, t9⟩ := hSw; go_simp); try with_reducible rfl)
    try simp only [Act.put]
    try simp only [List.setIfInBounds_toArray]
    try simp only [List.set_cons_succ]
    try simp only [List.set_cons_zero]
    refine oneL (i := 9) rfl (by kernel_rfl) (fun K8 hK8 => ?_)
    go_simp
    go_at_call 58; refine (HTX.out _ (HF.out.trans (Fuw.drew (Fuw.refl _)))).mono ?_; rintro e3 w3 ⟨rfl, f3⟩
    have f3' := (Fuw.drew (Fuw.refl w2)).trans f3
    replace HF := Lib.hid (HF.out.trans f3'); replace HB := Lib.hid (HB.out.on f3')
    have hS3 : S w3 := by rw [HSS.out]; exact ⟨HB.out.c 4, HB.out.c 5, HB.out.c 6, HB.out.c 7, HB.out.c 8, HB.out.c 9⟩
    clear f3 f3'
    refine hK8 _ _ hS3 ?_
    try simp only [Act.put]
    try simp only [List.setIfInBounds_toArray]
    try simp only [List.set_cons_succ]
    try simp only [List.set_cons_zero]
    refine takeP (i := 10) (d := some 49) (v := ?_) rfl rfl (by kernel_rfl) (by kernel_rfl) (by kernel_rfl) (by kernel_rfl) (by kernel_rfl) (fun _ _ _ h => h) (Or.inl ⟨by rfl, ?_⟩) (by first | exact Or.inr (by assumption) | exact Or.inl (by kernel_rfl)) ?_
    rotate_left
    · ((intro w8 _; go_simp); first | done | with_reducible rfl | (rw [if_neg (by omega)]))
    try simp only [Act.put]
    try simp only [List.setIfInBounds_toArray]
    try simp only [List.set_cons_succ]
    try simp only [List.set_cons_zero]
    refine outL (i := 11) rfl (by kernel_rfl) (by kernel_rfl) (fun K8 hK8 => ?_)
    go_simp
    
    refine hK8 _ _ ?_
    try simp only [Act.put]
    try simp only [List.setIfInBounds_toArray]
    try simp only [List.set_cons_succ]
    try simp only [List.set_cons_zero]
    refine lst_done (by kernel_rfl) ?_ _
    go_wp2
    go_ret
    exact ⟨ret_bs (by rw [hT]; simp [ByteArray.data_append, bs_data]), HF.out⟩
  · simp [wrdC, nmd, vld, Lib.joinTail] at hT l4
    go_enter Tryz.func23, Tryz.ntmps23
    go_upto_region 1 with fail
    rw [← hW]
    clear hW
    have c0 := HB.out.c 0; have c1 := HB.out.c 1; have c2 := HB.out.c 2; have c3 := HB.out.c 3; have c4 := HB.out.c 4; have c5 := HB.out.c 5; have c6 := HB.out.c 6; have c7 := HB.out.c 7; have c8 := HB.out.c 8; have c9 := HB.out.c 9
    go_wp2_with fail
    go_at_call 13; refine HCK.out.mono ?_; rintro e1 w1 ⟨rfl, f1⟩
    replace HF := Lib.hid (HF.out.trans f1); replace HB := Lib.hid (HB.out.on f1)
    clear f1 c0 c1 c2 c3 c4 c5 c6 c7 c8 c9 HCK
    have c0 := HB.out.c 0; have c1 := HB.out.c 1; have c2 := HB.out.c 2; have c3 := HB.out.c 3; have c4 := HB.out.c 4; have c5 := HB.out.c 5; have c6 := HB.out.c 6; have c7 := HB.out.c 7; have c8 := HB.out.c 8; have c9 := HB.out.c 9
    go_wp2_with fail
    go_at_call 57; refine (HT1.out _).mono ?_; rintro e2 w2 ⟨rfl, f2⟩
    replace HF := Lib.hid (HF.out.trans f2); replace HB := Lib.hid (HB.out.on f2)
    clear f2 c0 c1 c2 c3 c4 c5 c6 c7 c8 c9
    have c0 := HB.out.c 0; have c1 := HB.out.c 1; have c2 := HB.out.c 2; have c3 := HB.out.c 3; have c4 := HB.out.c 4; have c5 := HB.out.c 5; have c6 := HB.out.c 6; have c7 := HB.out.c 7; have c8 := HB.out.c 8; have c9 := HB.out.c 9
    have y2 : (⟨#[43, 101, 100, 103, 101]⟩ ++ ((⟨#[32]⟩ : ByteArray) ++ bs s1)).size = 6 + s1.length := by rw [ByteArray.size_append, y1]; first | done | (show 5 + _ = _; omega)
    have y3 : (⟨#[43, 101, 100, 103, 101]⟩ ++ ((⟨#[32]⟩ : ByteArray) ++ bs s1) ++ ⟨#[32]⟩).size = 7 + s1.length := by rw [ByteArray.size_append, y2]; first | done | (show _ + 1 = _; omega)
    have z2 := bs_size s2
    have z3 := bs_size s3
    have y4 : (⟨#[43, 101, 100, 103, 101]⟩ ++ ((⟨#[32]⟩ : ByteArray) ++ bs s1) ++ ⟨#[32]⟩ ++ bs s2).size = 7 + s1.length + s2.length := by rw [ByteArray.size_append, y3, z2]; first | done | omega
    have y5 : (⟨#[43, 101, 100, 103, 101]⟩ ++ ((⟨#[32]⟩ : ByteArray) ++ bs s1) ++ ⟨#[32]⟩ ++ bs s2 ++ ⟨#[32]⟩).size = 8 + s1.length + s2.length := by rw [ByteArray.size_append, y4]; first | done | (show _ + 1 = _; omega)
    have y6 : (⟨#[43, 101, 100, 103, 101]⟩ ++ ((⟨#[32]⟩ : ByteArray) ++ bs s1) ++ ⟨#[32]⟩ ++ bs s2 ++ ⟨#[32]⟩ ++ bs s3).size = 8 + s1.length + s2.length + s3.length := by rw [ByteArray.size_append, y5, z3]; first | done | omega
    have y7 : (⟨#[43, 101, 100, 103, 101]⟩ ++ ((⟨#[32]⟩ : ByteArray) ++ bs s1) ++ ⟨#[32]⟩ ++ bs s2 ++ ⟨#[32]⟩ ++ bs s3 ++ ⟨#[32]⟩).size = 9 + s1.length + s2.length + s3.length := by rw [ByteArray.size_append, y6]; first | done | (show _ + 1 = _; omega)
    go_upto_region 16 with fail
    obtain ⟨S, hS⟩ : ∃ S : World → Prop, S = (fun w8 => w8.cell? ⟨w.heap.size, 2, none⟩ = some (.int .i64 fr) ∧ w8.cell? ⟨w.heap.size, 3, none⟩ = some (.int .i64 tt) ∧ w8.cell? ⟨w.heap.size, 4, none⟩ = some (.string (bs nm))) := ⟨_, rfl⟩
    have HSS := Lib.hid hS
    clear hS
    refine lst_start [16] S (by kernel_rfl) ?_
    have hS0 : S w2.drew := by rw [HSS.out]; exact ⟨c2, c3, c4⟩
    refine takeP (i := 0) (d := some 52) (v := ?_) rfl rfl (by kernel_rfl) (by kernel_rfl) (by kernel_rfl) (by kernel_rfl) (by kernel_rfl) (fun _ _ _ h => h) (Or.inl ⟨by rfl, ?_⟩) (by first | exact Or.inr (by assumption) | exact Or.inl (by kernel_rfl)) ?_
    rotate_left
    · ((intro w8 _; go_simp); first | done | with_reducible rfl | (rw [if_neg (by omega)]))
    try simp only [Act.put]
    try simp only [List.setIfInBounds_toArray]
    try simp only [List.set_cons_succ]
    try simp only [List.set_cons_zero]
    refine takeP (i := 1) (d := some 53) (v := ?_) rfl rfl (by kernel_rfl) (by kernel_rfl) (by kernel_rfl) (by kernel_rfl) (by kernel_rfl) (fun _ _ _ h => h) (Or.inl ⟨by rfl, ?_⟩) (by first | exact Or.inr (by assumption) | exact Or.inl (by kernel_rfl)) ?_
    rotate_left
    · ((intro w8 _; go_simp); first | done | with_reducible rfl | (rw [if_neg (by omega)]))
    try simp only [Act.put]
    try simp only [List.setIfInBounds_toArray]
    try simp only [List.set_cons_succ]
    try simp only [List.set_cons_zero]
    refine takeP (i := 2) (d := some 54) (v := ?_) rfl rfl (by kernel_rfl) (by kernel_rfl) (by kernel_rfl) (by kernel_rfl) (by kernel_rfl) (fun _ _ _ h => h) (Or.inl ⟨by rfl, ?_⟩) (by first | exact Or.inr (by assumption) | exact Or.inl (by kernel_rfl)) ?_
    rotate_left
    · ((intro w8 _; go_simp); first | done | with_reducible rfl | (rw [if_neg (by omega)]))
    try simp only [Act.put]
    try simp only [List.setIfInBounds_toArray]
    try simp only [List.set_cons_succ]
    try simp only [List.set_cons_zero]
    refine takeP (i := 3) (d := some 55) (v := ?_) rfl rfl (by kernel_rfl) (by kernel_rfl) (by kernel_rfl) (by kernel_rfl) (by kernel_rfl) (fun _ _ _ h => h) (Or.inl ⟨by rfl, ?_⟩) (by first | exact Or.inr (by assumption) | exact Or.inl (by kernel_rfl)) ?_
    rotate_left
    · ((intro w8 _; go_simp); first | done | with_reducible rfl | (rw [if_neg (by omega)]))
    try simp only [Act.put]
    try simp only [List.setIfInBounds_toArray]
    try simp only [List.set_cons_succ]
    try simp only [List.set_cons_zero]
    refine takeL (i := 4) (d := some 56) (v := ?_) rfl rfl (by kernel_rfl) (by kernel_rfl) (by kernel_rfl) (by kernel_rfl) (by kernel_rfl) (fun _ _ _ h => h) (Or.inl ⟨by rfl, ?_⟩) (by assumption) ?_
    rotate_left
    · ((intro w8 hSw; rw [HSS.out] at hSw; obtain ⟨t2, t3, t4⟩ := hSw; go_simp); try with_reducible rfl)
    try simp only [Act.put]
    try simp only [List.setIfInBounds_toArray]
    try simp only [List.set_cons_succ]
    try simp only [List.set_cons_zero]
    refine takeP (i := 8) (d := some 60) (v := ?_) rfl rfl (by kernel_rfl) (by kernel_rfl) (by kernel_rfl) (by kernel_rfl) (by kernel_rfl) (fun _ _ _ h => h) (Or.inl ⟨by rfl, ?_⟩) (by first | exact Or.inr (by assumption) | exact Or.inl (by kernel_rfl)) ?_
    rotate_left
    · ((intro w8 _; go_simp); first | done | with_reducible rfl | (rw [if_neg (by omega)]))
    try simp only [Act.put]
    try simp only [List.setIfInBounds_toArray]
    try simp only [List.set_cons_succ]
    try simp only [List.set_cons_zero]
    refine takeL (i := 9) (d := some 61) (v := ?_) rfl rfl (by kernel_rfl) (by kernel_rfl) (by kernel_rfl) (by kernel_rfl) (by kernel_rfl) (fun _ _ _ h => h) (Or.inl ⟨by rfl, ?_⟩) (by assumption) ?_
    rotate_left
    · ((intro w8 hSw; rw [HSS.out] at hSw; obtain ⟨t2, t3, t4⟩ := hSw; go_simp); try with_reducible rfl)
    try simp only [Act.put]
    try simp only [List.setIfInBounds_toArray]
    try simp only [List.set_cons_succ]
    try simp only [List.set_cons_zero]
    refine takeP (i := 13) (d := some 65) (v := ?_) rfl rfl (by kernel_rfl) (by kernel_rfl) (by kernel_rfl) (by kernel_rfl) (by kernel_rfl) (fun _ _ _ h => h) (Or.inl ⟨by rfl, ?_⟩) (by first | exact Or.inr (by assumption) | exact Or.inl (by kernel_rfl)) ?_
    rotate_left
    · ((intro w8 _; go_simp); first | done | with_reducible rfl | (rw [if_neg (by omega)]))
    try simp only [Act.put]
    try simp only [List.setIfInBounds_toArray]
    try simp only [List.set_cons_succ]
    try simp only [List.set_cons_zero]
    refine takeL (i := 14) (d := some 66) (v := ?_) rfl rfl (by kernel_rfl) (by kernel_rfl) (by kernel_rfl) (by kernel_rfl) (by kernel_rfl) (fun _ _ _ h => h) (Or.inl ⟨by rfl, ?_⟩) (by assumption) ?_
    rotate_left
    · ((intro w8 hSw; rw [HSS.out] at hSw; obtain ⟨t2, t3, t4⟩ := hSw; go_simp); try with_reducible rfl)
    try simp only [Act.put]
    try simp only [List.setIfInBounds_toArray]
    try simp only [List.set_cons_succ]
    try simp only [List.set_cons_zero]
    refine oneL (i := 5) rfl (by kernel_rfl) (fun K8 hK8 => ?_)
    go_simp
    go_at_call 57; refine (HT2.out _).mono ?_; rintro e3 w3 ⟨rfl, f3⟩
    have f3' := (Fuw.drew (Fuw.refl w2)).trans f3
    replace HF := Lib.hid (HF.out.trans f3'); replace HB := Lib.hid (HB.out.on f3')
    have hS3 : S w3 := by rw [HSS.out]; exact ⟨HB.out.c 2, HB.out.c 3, HB.out.c 4⟩
    clear f3 f3'
    refine hK8 _ _ hS3 ?_
    try simp only [Act.put]
    try simp only [List.setIfInBounds_toArray]
    try simp only [List.set_cons_succ]
    try simp only [List.set_cons_zero]
    refine takeP (i := 6) (d := some 58) (v := ?_) rfl rfl (by kernel_rfl) (by kernel_rfl) (by kernel_rfl) (by kernel_rfl) (by kernel_rfl) (fun _ _ _ h => h) (Or.inl ⟨by rfl, ?_⟩) (by first | exact Or.inr (by assumption) | exact Or.inl (by kernel_rfl)) ?_
    rotate_left
    · ((intro w8 _; go_simp); first | done | with_reducible rfl | (rw [if_neg (by omega)]))
    try simp only [Act.put]
    try simp only [List.setIfInBounds_toArray]
    try simp only [List.set_cons_succ]
    try simp only [List.set_cons_zero]
    refine takeP (i := 7) (d := some 59) (v := ?_) rfl rfl (by kernel_rfl) (by kernel_rfl) (by kernel_rfl) (by kernel_rfl) (by kernel_rfl) (fun _ _ _ h => h) (Or.inl ⟨by rfl, ?_⟩) (by first | exact Or.inr (by assumption) | exact Or.inl (by kernel_rfl)) ?_
    rotate_left
    · ((intro w8 _; go_simp); first | done | with_reducible rfl | (rw [if_neg (by omega)]))
    try simp only [Act.put]
    try simp only [List.setIfInBounds_toArray]
    try simp only [List.set_cons_succ]
    try simp only [List.set_cons_zero]
    refine oneL (i := 10) rfl (by kernel_rfl) (fun K8 hK8 => ?_)
    go_simp
    go_at_call 57; refine (HT3.out _).mono ?_; rintro e3 w4 ⟨rfl, f3⟩
    have f3' := (Fuw.refl w3).trans f3
    replace HF := Lib.hid (HF.out.trans f3'); replace HB := Lib.hid (HB.out.on f3')
    have hS4 : S w4 := by rw [HSS.out]; exact ⟨HB.out.c 2, HB.out.c 3, HB.out.c 4⟩
    clear f3 f3'
    refine hK8 _ _ hS4 ?_
    try simp only [Act.put]
    try simp only [List.setIfInBounds_toArray]
    try simp only [List.set_cons_succ]
    try simp only [List.set_cons_zero]
    refine takeP (i := 11) (d := some 63) (v := ?_) rfl rfl (by kernel_rfl) (by kernel_rfl) (by kernel_rfl) (by kernel_rfl) (by kernel_rfl) (fun _ _ _ h => h) (Or.inl ⟨by rfl, ?_⟩) (by first | exact Or.inr (by assumption) | exact Or.inl (by kernel_rfl)) ?_
    rotate_left
    · ((intro w8 _; go_simp); first | done | with_reducible rfl | (rw [if_neg (by omega)]))
    try simp only [Act.put]
    try simp only [List.setIfInBounds_toArray]
    try simp only [List.set_cons_succ]
    try simp only [List.set_cons_zero]
    refine takeP (i := 12) (d := some 64) (v := ?_) rfl rfl (by kernel_rfl) (by kernel_rfl) (by kernel_rfl) (by kernel_rfl) (by kernel_rfl) (fun _ _ _ h => h) (Or.inl ⟨by rfl, ?_⟩) (by first | exact Or.inr (by assumption) | exact Or.inl (by kernel_rfl)) ?_
    rotate_left
    · ((intro w8 _; go_simp); first | done | with_reducible rfl | (rw [if_neg (by omega)]))
    try simp only [Act.put]
    try simp only [List.setIfInBounds_toArray]
    try simp only [List.set_cons_succ]
    try simp only [List.set_cons_zero]
    refine takeP (i := 15) (d := some 67) (v := ?_) rfl rfl (by kernel_rfl) (by kernel_rfl) (by kernel_rfl) (by kernel_rfl) (by kernel_rfl) (fun _ _ _ h => h) (Or.inl ⟨by rfl, ?_⟩) (by first | exact Or.inr (by assumption) | exact Or.inl (by kernel_rfl)) ?_
    rotate_left
    · ((intro w8 _; go_simp); first | done | with_reducible rfl | (rw [if_neg (by omega)]))
    try simp only [Act.put]
    try simp only [List.setIfInBounds_toArray]
    try simp only [List.set_cons_succ]
    try simp only [List.set_cons_zero]
    refine outL (i := 16) rfl (by kernel_rfl) (by kernel_rfl) (fun K8 hK8 => ?_)
    go_simp
    
    refine hK8 _ _ ?_
    try simp only [Act.put]
    try simp only [List.setIfInBounds_toArray]
    try simp only [List.set_cons_succ]
    try simp only [List.set_cons_zero]
    refine lst_done (by kernel_rfl) ?_ _
    go_wp2
    go_ret
    exact ⟨ret_bs (by rw [hT]; simp [ByteArray.data_append, bs_data]), HF.out⟩
  · simp [wrdC, nmd, vld, Lib.joinTail] at hT l4
    go_enter Tryz.func23, Tryz.ntmps23
    go_upto_region 1 with fail
    rw [← hW]
    clear hW
    have c0 := HB.out.c 0; have c1 := HB.out.c 1; have c2 := HB.out.c 2; have c3 := HB.out.c 3; have c4 := HB.out.c 4; have c5 := HB.out.c 5; have c6 := HB.out.c 6; have c7 := HB.out.c 7; have c8 := HB.out.c 8; have c9 := HB.out.c 9
    go_wp2_with fail
    go_at_call 13; refine HCK.out.mono ?_; rintro e1 w1 ⟨rfl, f1⟩
    replace HF := Lib.hid (HF.out.trans f1); replace HB := Lib.hid (HB.out.on f1)
    clear f1 c0 c1 c2 c3 c4 c5 c6 c7 c8 c9 HCK
    have c0 := HB.out.c 0; have c1 := HB.out.c 1; have c2 := HB.out.c 2; have c3 := HB.out.c 3; have c4 := HB.out.c 4; have c5 := HB.out.c 5; have c6 := HB.out.c 6; have c7 := HB.out.c 7; have c8 := HB.out.c 8; have c9 := HB.out.c 9
    go_wp2_with fail
    go_at_call 57; refine (HT1.out _).mono ?_; rintro e2 w2 ⟨rfl, f2⟩
    replace HF := Lib.hid (HF.out.trans f2); replace HB := Lib.hid (HB.out.on f2)
    clear f2 c0 c1 c2 c3 c4 c5 c6 c7 c8 c9
    have c0 := HB.out.c 0; have c1 := HB.out.c 1; have c2 := HB.out.c 2; have c3 := HB.out.c 3; have c4 := HB.out.c 4; have c5 := HB.out.c 5; have c6 := HB.out.c 6; have c7 := HB.out.c 7; have c8 := HB.out.c 8; have c9 := HB.out.c 9
    go_wp2
    go_ret
    exact ⟨ret_bs (by rw [hT]; simp [ByteArray.data_append, bs_data]), HF.out⟩
  · simp [wrdC, nmd, vld, Lib.joinTail] at hT l4
    go_enter Tryz.func23, Tryz.ntmps23
    go_upto_region 1 with fail
    rw [← hW]
    clear hW
    have c0 := HB.out.c 0; have c1 := HB.out.c 1; have c2 := HB.out.c 2; have c3 := HB.out.c 3; have c4 := HB.out.c 4; have c5 := HB.out.c 5; have c6 := HB.out.c 6; have c7 := HB.out.c 7; have c8 := HB.out.c 8; have c9 := HB.out.c 9
    go_wp2_with fail
    go_at_call 13; refine HCK.out.mono ?_; rintro e1 w1 ⟨rfl, f1⟩
    replace HF := Lib.hid (HF.out.trans f1); replace HB := Lib.hid (HB.out.on f1)
    clear f1 c0 c1 c2 c3 c4 c5 c6 c7 c8 c9 HCK
    have c0 := HB.out.c 0; have c1 := HB.out.c 1; have c2 := HB.out.c 2; have c3 := HB.out.c 3; have c4 := HB.out.c 4; have c5 := HB.out.c 5; have c6 := HB.out.c 6; have c7 := HB.out.c 7; have c8 := HB.out.c 8; have c9 := HB.out.c 9
    go_wp2_with fail
    go_at_call 57; refine (HT1.out _).mono ?_; rintro e2 w2 ⟨rfl, f2⟩
    replace HF := Lib.hid (HF.out.trans f2); replace HB := Lib.hid (HB.out.on f2)
    clear f2 c0 c1 c2 c3 c4 c5 c6 c7 c8 c9
    have c0 := HB.out.c 0; have c1 := HB.out.c 1; have c2 := HB.out.c 2; have c3 := HB.out.c 3; have c4 := HB.out.c 4; have c5 := HB.out.c 5; have c6 := HB.out.c 6; have c7 := HB.out.c 7; have c8 := HB.out.c 8; have c9 := HB.out.c 9
    have y2 : (⟨#[101, 115, 101, 116]⟩ ++ ((⟨#[32]⟩ : ByteArray) ++ bs s1)).size = 5 + s1.length := by rw [ByteArray.size_append, y1]; first | done | (show 4 + _ = _; omega)
    have y3 : (⟨#[101, 115, 101, 116]⟩ ++ ((⟨#[32]⟩ : ByteArray) ++ bs s1) ++ ⟨#[32]⟩).size = 6 + s1.length := by rw [ByteArray.size_append, y2]; first | done | (show _ + 1 = _; omega)
    have y4 : (⟨#[101, 115, 101, 116]⟩ ++ ((⟨#[32]⟩ : ByteArray) ++ bs s1) ++ ⟨#[32]⟩ ++ bs nm).size = 6 + s1.length + nm.length := by rw [ByteArray.size_append, y3, z4]; first | done | omega
    have y5 : (⟨#[101, 115, 101, 116]⟩ ++ ((⟨#[32]⟩ : ByteArray) ++ bs s1) ++ ⟨#[32]⟩ ++ bs nm ++ ⟨#[32]⟩).size = 7 + s1.length + nm.length := by rw [ByteArray.size_append, y4]; first | done | (show _ + 1 = _; omega)
    go_upto_region 19 with fail
    obtain ⟨S, hS⟩ : ∃ S : World → Prop, S = (fun w8 => w8.cell? ⟨w.heap.size, 4, none⟩ = some (.string (bs nm)) ∧ w8.cell? ⟨w.heap.size, 5, none⟩ = some (.int .i64 v.kd) ∧ w8.cell? ⟨w.heap.size, 6, none⟩ = some (.int .i64 v.nn) ∧ w8.cell? ⟨w.heap.size, 7, none⟩ = some (.int .i64 v.dd) ∧ w8.cell? ⟨w.heap.size, 8, none⟩ = some (.string (bs v.ss)) ∧ w8.cell? ⟨w.heap.size, 9, none⟩ = some (.slice a v.ll.length k)) := ⟨_, rfl⟩
    have HSS := Lib.hid hS
    clear hS
    refine lst_start [11] S (by kernel_rfl) ?_
    have hS0 : S w2.drew := by rw [HSS.out]; exact ⟨c4, c5, c6, c7, c8, c9⟩
    refine takeP (i := 0) (d := some 72) (v := ?_) rfl rfl (by kernel_rfl) (by kernel_rfl) (by kernel_rfl) (by kernel_rfl) (by kernel_rfl) (fun _ _ _ h => h) (Or.inl ⟨by rfl, ?_⟩) (by first | exact Or.inr (by assumption) | exact Or.inl (by kernel_rfl)) ?_
    rotate_left
    · ((intro w8 _; go_simp); first | done | with_reducible rfl | (rw [if_neg (by omega)]))
    try simp only [Act.put]
    try simp only [List.setIfInBounds_toArray]
    try simp only [List.set_cons_succ]
    try simp only [List.set_cons_zero]
    refine takeP (i := 1) (d := some 73) (v := ?_) rfl rfl (by kernel_rfl) (by kernel_rfl) (by kernel_rfl) (by kernel_rfl) (by kernel_rfl) (fun _ _ _ h => h) (Or.inl ⟨by rfl, ?_⟩) (by first | exact Or.inr (by assumption) | exact Or.inl (by kernel_rfl)) ?_
    rotate_left
    · ((intro w8 _; go_simp); first | done | with_reducible rfl | (rw [if_neg (by omega)]))
    try simp only [Act.put]
    try simp only [List.setIfInBounds_toArray]
    try simp only [List.set_cons_succ]
    try simp only [List.set_cons_zero]
    refine takeP (i := 2) (d := some 74) (v := ?_) rfl rfl (by kernel_rfl) (by kernel_rfl) (by kernel_rfl) (by kernel_rfl) (by kernel_rfl) (fun _ _ _ h => h) (Or.inl ⟨by rfl, ?_⟩) (by first | exact Or.inr (by assumption) | exact Or.inl (by kernel_rfl)) ?_
    rotate_left
    · ((intro w8 _; go_simp); first | done | with_reducible rfl | (rw [if_neg (by omega)]))
    try simp only [Act.put]
    try simp only [List.setIfInBounds_toArray]
    try simp only [List.set_cons_succ]
    try simp only [List.set_cons_zero]
    refine takeP (i := 3) (d := some 75) (v := ?_) rfl rfl (by kernel_rfl) (by kernel_rfl) (by kernel_rfl) (by kernel_rfl) (by kernel_rfl) (fun _ _ _ h => h) (Or.inl ⟨by rfl, ?_⟩) (by first | exact Or.inr (by assumption) | exact Or.inl (by kernel_rfl)) ?_
    rotate_left
    · ((intro w8 _; go_simp); first | done | with_reducible rfl | (rw [if_neg (by omega)]))
    try simp only [Act.put]
    try simp only [List.setIfInBounds_toArray]
    try simp only [List.set_cons_succ]
    try simp only [List.set_cons_zero]
    refine takeL (i := 4) (d := some 76) (v := ?_) rfl rfl (by kernel_rfl) (by kernel_rfl) (by kernel_rfl) (by kernel_rfl) (by kernel_rfl) (fun _ _ _ h => h) (Or.inl ⟨by rfl, ?_⟩) (by assumption) ?_
    rotate_left
    · ((intro w8 hSw; rw [HSS.out] at hSw; obtain ⟨t4, t5, t6, t7, t8, t9⟩ := hSw; go_simp); try with_reducible rfl)
    try simp only [Act.put]
    try simp only [List.setIfInBounds_toArray]
    try simp only [List.set_cons_succ]
    try simp only [List.set_cons_zero]
    refine takeP (i := 5) (d := some 77) (v := ?_) rfl rfl (by kernel_rfl) (by kernel_rfl) (by kernel_rfl) (by kernel_rfl) (by kernel_rfl) (fun _ _ _ h => h) (Or.inl ⟨by rfl, ?_⟩) (by first | exact Or.inr (by assumption) | exact Or.inl (by kernel_rfl)) ?_
    rotate_left
    · ((intro w8 _; go_simp); first | done | with_reducible rfl | (rw [if_neg (by omega)]))
    try simp only [Act.put]
    try simp only [List.setIfInBounds_toArray]
    try simp only [List.set_cons_succ]
    try simp only [List.set_cons_zero]
    refine takeP (i := 6) (d := some 78) (v := ?_) rfl rfl (by kernel_rfl) (by kernel_rfl) (by kernel_rfl) (by kernel_rfl) (by kernel_rfl) (fun _ _ _ h => h) (Or.inl ⟨by rfl, ?_⟩) (by first | exact Or.inr (by assumption) | exact Or.inl (by kernel_rfl)) ?_
    rotate_left
    · ((intro w8 _; go_simp); first | done | with_reducible rfl | (rw [if_neg (by omega)]))
    try simp only [Act.put]
    try simp only [List.setIfInBounds_toArray]
    try simp only [List.set_cons_succ]
    try simp only [List.set_cons_zero]
    refine takeP (i := 7) (d := some 79) (v := ?_) rfl rfl (by kernel_rfl) (by kernel_rfl) (by kernel_rfl) (by kernel_rfl) (by kernel_rfl) (fun _ _ _ h => h) (Or.inl ⟨by rfl, ?_⟩) (by first | exact Or.inr (by assumption) | exact Or.inl (by kernel_rfl)) ?_
    rotate_left
    · ((intro w8 _; go_simp); first | done | with_reducible rfl | (rw [if_neg (by omega)]))
    try simp only [Act.put]
    try simp only [List.setIfInBounds_toArray]
    try simp only [List.set_cons_succ]
    try simp only [List.set_cons_zero]
    refine takeL (i := 8) (d := some 80) (v := ?_) rfl rfl (by kernel_rfl) (by kernel_rfl) (by kernel_rfl) (by kernel_rfl) (by kernel_rfl) (fun _ _ _ h => h) (Or.inl ⟨by rfl, ?_⟩) (by assumption) ?_
    rotate_left
    · ((intro w8 hSw; rw [HSS.out] at hSw; obtain ⟨t4, t5, t6, t7, t8, t9⟩ := hSw; go_simp); try with_reducible rfl)
    try simp only [Act.put]
    try simp only [List.setIfInBounds_toArray]
    try simp only [List.set_cons_succ]
    try simp only [List.set_cons_zero]
    refine oneL (i := 9) rfl (by kernel_rfl) (fun K8 hK8 => ?_)
    go_simp
    go_at_call 58; refine (HTX.out _ (HF.out.trans (Fuw.drew (Fuw.refl _)))).mono ?_; rintro e3 w3 ⟨rfl, f3⟩
    have f3' := (Fuw.drew (Fuw.refl w2)).trans f3
    replace HF := Lib.hid (HF.out.trans f3'); replace HB := Lib.hid (HB.out.on f3')
    have hS3 : S w3 := by rw [HSS.out]; exact ⟨HB.out.c 4, HB.out.c 5, HB.out.c 6, HB.out.c 7, HB.out.c 8, HB.out.c 9⟩
    clear f3 f3'
    refine hK8 _ _ hS3 ?_
    try simp only [Act.put]
    try simp only [List.setIfInBounds_toArray]
    try simp only [List.set_cons_succ]
    try simp only [List.set_cons_zero]
    refine takeP (i := 10) (d := some 82) (v := ?_) rfl rfl (by kernel_rfl) (by kernel_rfl) (by kernel_rfl) (by kernel_rfl) (by kernel_rfl) (fun _ _ _ h => h) (Or.inl ⟨by rfl, ?_⟩) (by first | exact Or.inr (by assumption) | exact Or.inl (by kernel_rfl)) ?_
    rotate_left
    · ((intro w8 _; go_simp); first | done | with_reducible rfl | (rw [if_neg (by omega)]))
    try simp only [Act.put]
    try simp only [List.setIfInBounds_toArray]
    try simp only [List.set_cons_succ]
    try simp only [List.set_cons_zero]
    refine outL (i := 11) rfl (by kernel_rfl) (by kernel_rfl) (fun K8 hK8 => ?_)
    go_simp
    
    refine hK8 _ _ ?_
    try simp only [Act.put]
    try simp only [List.setIfInBounds_toArray]
    try simp only [List.set_cons_succ]
    try simp only [List.set_cons_zero]
    refine lst_done (by kernel_rfl) ?_ _
    go_wp2
    go_ret
    exact ⟨ret_bs (by rw [hT]; simp [ByteArray.data_append, bs_data]), HF.out⟩
end Go.Proofs.YtfbijdoomkgodaaGreatDoor
