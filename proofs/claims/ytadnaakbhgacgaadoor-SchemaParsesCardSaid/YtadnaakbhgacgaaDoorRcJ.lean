/-
  The reference of package schema: the text of a rule (Text). Nothing that was there turns.
-/
import Derived.Test.YtadnaakbhgacgaaDoorRcB
import Derived.Test.YtadnaakbhgacgaaDoorRcH
import Derived.Test.YtadnaakbhgacgaaDoorRcI
namespace Go.Proofs.YtadnaakbhgacgaaDoor
open Go.RowKit
open Go.Lib (itoa join)

theorem bs_cat (a b : List UInt8) : bs a ++ bs b = bs (a ++ b) := by
  apply ByteArray.ext
  simp [bs]
set_option maxHeartbeats 6400000 in
set_option maxRecDepth 100000 in
theorem rtxt_1 (r : Rl) (hr : RIn r) (hc : chkR r = 0) (hk : r.kd = 1) (w : World) : Calls Tryd.prog 11 #[.agg #[.int .i64 r.kd, .int .i64 r.nn, .string (bs r.nm), .string (bs r.ky), .string (bs r.fr), .string (bs r.tt)]] w (FwT w (bs (txtR r))) := by
  obtain ⟨h1, h2, h3, h4⟩ := chk_0 hc
  unfold numR at h3
  unfold nmsR at h4
  simp only [Bool.and_eq_true] at h4
  obtain ⟨h5, h6, h7, h8⟩ := h4
  rw [hk] at h3 h6
  have z0 : (bs r.nm).size ≤ 20 := by rw [bs_size]; exact name_len h5
  have z1 : (bs r.ky).size ≤ 20 := by rw [bs_size]; exact name_len (by simpa [keyK] using h6)
  have HE := Lib.hid (show (({ data := #[117, 110, 105, 113, 117, 101, 32] } : ByteArray) ++ bs (r.nm)) ++ { data := #[32] } ++ bs (r.ky) = bs (txtR r) from by
    show ((bs [117, 110, 105, 113, 117, 101, 32]) ++ bs (r.nm)) ++ bs [32] ++ bs (r.ky) = _
    rw [bs_cat, bs_cat, bs_cat]
    congr 1
    unfold txtR wrdR
    rw [if_pos hc, hk]
    rw [if_pos (show keyK 1 = true from rfl), if_neg (show ¬ kindK 1 = true by decide), join2]
    rw [show hdW 1 = [117, 110, 105, 113, 117, 101] from by decide]
    simp)
  have C := Lib.hid (fun w' => by have q := rchk r hr w'; rw [hc] at q; exact q)
  generalize txtR r = tx at *
  clear h1 h2 h3 h5 h6 h7 h8
  obtain ⟨W, hW⟩ : ∃ W, w.alloc (.cells #[.int .i64 r.kd, .int .i64 r.nn, .string (bs r.nm), .string (bs r.ky), .string (bs r.fr), .string (bs r.tt)] 23) = W := ⟨_, rfl⟩
  have PB := Lib.hid (show Bk W w.heap.size #[.int .i64 r.kd, .int .i64 r.nn, .string (bs r.nm), .string (bs r.ky), .string (bs r.fr), .string (bs r.tt)] 23 from by rw [← hW]; exact Bk.new w _ _)
  have F := Lib.hid (show Fuw w W from by rw [← hW]; exact fuwA _ _)
  have HK := Lib.hid hk
  clear hr hc hk
  go_enter Tryd.func11, Tryd.ntmps11
  go_upto_region 1 with fail
  clear hW
  have c0 := PB.out.c 0; have c1 := PB.out.c 1; have c2 := PB.out.c 2; have c3 := PB.out.c 3; have c4 := PB.out.c 4; have c5 := PB.out.c 5
  go_wp2_with fail
  go_at_call 9; refine (C.out _).mono ?_; rintro g0 w1 ⟨rfl, f1⟩
  have PB := Lib.hid (PB.out.on f1); have F := Lib.hid (F.out.trans f1)
  clear f1 c0 c1 c2 c3 c4 c5
  have c0 : w1.cell? ⟨w.heap.size, 0, none⟩ = some (.int .i64 1) := by rw [← HK.out]; exact PB.out.c 0
  have c1 := PB.out.c 1; have c2 := PB.out.c 2; have c3 := PB.out.c 3; have c4 := PB.out.c 4; have c5 := PB.out.c 5
  go_wp2
  go_ret
  exact ⟨ret_str HE.out, F.out⟩
set_option maxHeartbeats 6400000 in
set_option maxRecDepth 100000 in
theorem rtxt_2 (r : Rl) (hr : RIn r) (hc : chkR r = 0) (hk : r.kd = 2) (w : World) : Calls Tryd.prog 11 #[.agg #[.int .i64 r.kd, .int .i64 r.nn, .string (bs r.nm), .string (bs r.ky), .string (bs r.fr), .string (bs r.tt)]] w (FwT w (bs (txtR r))) := by
  obtain ⟨h1, h2, h3, h4⟩ := chk_0 hc
  unfold numR at h3
  unfold nmsR at h4
  simp only [Bool.and_eq_true] at h4
  obtain ⟨h5, h6, h7, h8⟩ := h4
  rw [hk] at h3 h6
  have z0 : (bs r.nm).size ≤ 20 := by rw [bs_size]; exact name_len h5
  have z1 : (bs r.ky).size ≤ 20 := by rw [bs_size]; exact name_len (by simpa [keyK] using h6)
  have HE := Lib.hid (show (({ data := #[101, 120, 105, 115, 116, 115, 32] } : ByteArray) ++ bs (r.nm)) ++ { data := #[32] } ++ bs (r.ky) = bs (txtR r) from by
    show ((bs [101, 120, 105, 115, 116, 115, 32]) ++ bs (r.nm)) ++ bs [32] ++ bs (r.ky) = _
    rw [bs_cat, bs_cat, bs_cat]
    congr 1
    unfold txtR wrdR
    rw [if_pos hc, hk]
    rw [if_pos (show keyK 2 = true from rfl), if_neg (show ¬ kindK 2 = true by decide), join2]
    rw [show hdW 2 = [101, 120, 105, 115, 116, 115] from by decide]
    simp)
  have C := Lib.hid (fun w' => by have q := rchk r hr w'; rw [hc] at q; exact q)
  generalize txtR r = tx at *
  clear h1 h2 h3 h5 h6 h7 h8
  obtain ⟨W, hW⟩ : ∃ W, w.alloc (.cells #[.int .i64 r.kd, .int .i64 r.nn, .string (bs r.nm), .string (bs r.ky), .string (bs r.fr), .string (bs r.tt)] 23) = W := ⟨_, rfl⟩
  have PB := Lib.hid (show Bk W w.heap.size #[.int .i64 r.kd, .int .i64 r.nn, .string (bs r.nm), .string (bs r.ky), .string (bs r.fr), .string (bs r.tt)] 23 from by rw [← hW]; exact Bk.new w _ _)
  have F := Lib.hid (show Fuw w W from by rw [← hW]; exact fuwA _ _)
  have HK := Lib.hid hk
  clear hr hc hk
  go_enter Tryd.func11, Tryd.ntmps11
  go_upto_region 1 with fail
  clear hW
  have c0 := PB.out.c 0; have c1 := PB.out.c 1; have c2 := PB.out.c 2; have c3 := PB.out.c 3; have c4 := PB.out.c 4; have c5 := PB.out.c 5
  go_wp2_with fail
  go_at_call 9; refine (C.out _).mono ?_; rintro g0 w1 ⟨rfl, f1⟩
  have PB := Lib.hid (PB.out.on f1); have F := Lib.hid (F.out.trans f1)
  clear f1 c0 c1 c2 c3 c4 c5
  have c0 : w1.cell? ⟨w.heap.size, 0, none⟩ = some (.int .i64 2) := by rw [← HK.out]; exact PB.out.c 0
  have c1 := PB.out.c 1; have c2 := PB.out.c 2; have c3 := PB.out.c 3; have c4 := PB.out.c 4; have c5 := PB.out.c 5
  go_wp2
  go_ret
  exact ⟨ret_str HE.out, F.out⟩
set_option maxHeartbeats 6400000 in
set_option maxRecDepth 100000 in
theorem rtxt_3 (r : Rl) (hr : RIn r) (hc : chkR r = 0) (hk : r.kd = 3) (w : World) : Calls Tryd.prog 11 #[.agg #[.int .i64 r.kd, .int .i64 r.nn, .string (bs r.nm), .string (bs r.ky), .string (bs r.fr), .string (bs r.tt)]] w (FwT w (bs (txtR r))) := by
  obtain ⟨h1, h2, h3, h4⟩ := chk_0 hc
  unfold numR at h3
  unfold nmsR at h4
  simp only [Bool.and_eq_true] at h4
  obtain ⟨h5, h6, h7, h8⟩ := h4
  rw [hk] at h3 h6
  have hkw : kwV r.nn = true := by simpa [kindK] using h3
  have z0 : (bs r.nm).size ≤ 20 := by rw [bs_size]; exact name_len h5
  have z1 : (bs r.ky).size ≤ 20 := by rw [bs_size]; exact name_len (by simpa [keyK] using h6)
  have z2 : (bs (kwW r.nn)).size ≤ 4 := by rw [bs_size]; exact kw_len r.nn
  have HE := Lib.hid (show ((({ data := #[107, 105, 110, 100, 32] } : ByteArray) ++ bs (r.nm)) ++ { data := #[32] } ++ bs (r.ky)) ++ { data := #[32] } ++ bs (kwW r.nn) = bs (txtR r) from by
    show (((bs [107, 105, 110, 100, 32]) ++ bs (r.nm)) ++ bs [32] ++ bs (r.ky)) ++ bs [32] ++ bs (kwW r.nn) = _
    rw [bs_cat, bs_cat, bs_cat, bs_cat, bs_cat]
    congr 1
    unfold txtR wrdR
    rw [if_pos hc, hk]
    rw [if_pos (show keyK 3 = true from rfl), if_pos (show kindK 3 = true from rfl), join3]
    rw [show hdW 3 = [107, 105, 110, 100] from by decide]
    simp)
  have HW := Lib.hid (fun w' => rword r.nn hkw w')
  have C := Lib.hid (fun w' => by have q := rchk r hr w'; rw [hc] at q; exact q)
  generalize txtR r = tx at *
  clear h1 h2 h3 h5 h6 h7 h8 hkw
  obtain ⟨W, hW⟩ : ∃ W, w.alloc (.cells #[.int .i64 r.kd, .int .i64 r.nn, .string (bs r.nm), .string (bs r.ky), .string (bs r.fr), .string (bs r.tt)] 23) = W := ⟨_, rfl⟩
  have PB := Lib.hid (show Bk W w.heap.size #[.int .i64 r.kd, .int .i64 r.nn, .string (bs r.nm), .string (bs r.ky), .string (bs r.fr), .string (bs r.tt)] 23 from by rw [← hW]; exact Bk.new w _ _)
  have F := Lib.hid (show Fuw w W from by rw [← hW]; exact fuwA _ _)
  have HK := Lib.hid hk
  clear hr hc hk
  go_enter Tryd.func11, Tryd.ntmps11
  go_upto_region 1 with fail
  clear hW
  have c0 := PB.out.c 0; have c1 := PB.out.c 1; have c2 := PB.out.c 2; have c3 := PB.out.c 3; have c4 := PB.out.c 4; have c5 := PB.out.c 5
  go_wp2_with fail
  go_at_call 9; refine (C.out _).mono ?_; rintro g0 w1 ⟨rfl, f1⟩
  have PB := Lib.hid (PB.out.on f1); have F := Lib.hid (F.out.trans f1)
  clear f1 c0 c1 c2 c3 c4 c5
  have c0 : w1.cell? ⟨w.heap.size, 0, none⟩ = some (.int .i64 3) := by rw [← HK.out]; exact PB.out.c 0
  go_upto_region 9 with fail
  clear c0
  have y0 : ¬ (9223372036854775807 < 5 + (bs (r.nm)).size) := by omega
  have y1 : ¬ (9223372036854775807 < 5 + (bs (r.nm)).size + 1) := by omega
  have y2 : ¬ (9223372036854775807 < 5 + (bs (r.nm)).size + 1 + (bs (r.ky)).size) := by omega
  have y3 : ¬ (9223372036854775807 < 5 + (bs (r.nm)).size + 1 + (bs (r.ky)).size + 1) := by omega
  have y4 : ¬ (9223372036854775807 < 5 + (bs (r.nm)).size + 1 + (bs (r.ky)).size + 1 + (bs (kwW r.nn)).size) := by omega
  clear z0 z1 z2
  have HSS := Lib.hid (fun w' (ff : Fuw w1 w') => (show (w'.cell? ⟨w.heap.size, 0, none⟩ = some (.int .i64 r.kd) ∧ w'.cell? ⟨w.heap.size, 1, none⟩ = some (.int .i64 r.nn) ∧ w'.cell? ⟨w.heap.size, 2, none⟩ = some (.string (bs r.nm)) ∧ w'.cell? ⟨w.heap.size, 3, none⟩ = some (.string (bs r.ky)) ∧ w'.cell? ⟨w.heap.size, 4, none⟩ = some (.string (bs r.fr)) ∧ w'.cell? ⟨w.heap.size, 5, none⟩ = some (.string (bs r.tt))) from ⟨((PB.out.on ff)).c 0, ((PB.out.on ff)).c 1, ((PB.out.on ff)).c 2, ((PB.out.on ff)).c 3, ((PB.out.on ff)).c 4, ((PB.out.on ff)).c 5⟩))
  have ff : Fuw w1 w1.drew := Fuw.drew (Fuw.refl w1)
  go_region_held3 (fun w' => (w'.cell? ⟨w.heap.size, 0, none⟩ = some (.int .i64 r.kd) ∧ w'.cell? ⟨w.heap.size, 1, none⟩ = some (.int .i64 r.nn) ∧ w'.cell? ⟨w.heap.size, 2, none⟩ = some (.string (bs r.nm)) ∧ w'.cell? ⟨w.heap.size, 3, none⟩ = some (.string (bs r.ky)) ∧ w'.cell? ⟨w.heap.size, 4, none⟩ = some (.string (bs r.fr)) ∧ w'.cell? ⟨w.heap.size, 5, none⟩ = some (.string (bs r.tt))))
    (first | (with_reducible exact HSS.out _ ff))
    (first | (go_at_call 36; refine (HW.out _).mono ?_; rintro g1 v1 ⟨rfl, rfl⟩))
  all_goals
    rename_i hH
    clear hH HSS
    have G := Lib.hid (F.out.trans ff)
    clear ff
    go_wp2
    go_ret
    exact ⟨ret_str HE.out, G.out⟩
set_option maxHeartbeats 6400000 in
set_option maxRecDepth 100000 in
theorem rtxt_4 (r : Rl) (hr : RIn r) (hc : chkR r = 0) (hk : r.kd = 4) (w : World) : Calls Tryd.prog 11 #[.agg #[.int .i64 r.kd, .int .i64 r.nn, .string (bs r.nm), .string (bs r.ky), .string (bs r.fr), .string (bs r.tt)]] w (FwT w (bs (txtR r))) := by
  obtain ⟨h1, h2, h3, h4⟩ := chk_0 hc
  unfold numR at h3
  unfold nmsR at h4
  simp only [Bool.and_eq_true] at h4
  obtain ⟨h5, h6, h7, h8⟩ := h4
  rw [hk] at h3 h6
  have z0 : (bs r.nm).size ≤ 20 := by rw [bs_size]; exact name_len h5
  have z1 : (bs r.ky).size ≤ 20 := by rw [bs_size]; exact name_len (by simpa [keyK] using h6)
  have HE := Lib.hid (show (({ data := #[101, 100, 103, 101, 32, 101, 120, 105, 115, 116, 115, 32] } : ByteArray) ++ bs (r.nm)) ++ { data := #[32] } ++ bs (r.ky) = bs (txtR r) from by
    show ((bs [101, 100, 103, 101, 32, 101, 120, 105, 115, 116, 115, 32]) ++ bs (r.nm)) ++ bs [32] ++ bs (r.ky) = _
    rw [bs_cat, bs_cat, bs_cat]
    congr 1
    unfold txtR wrdR
    rw [if_pos hc, hk]
    rw [if_pos (show keyK 4 = true from rfl), if_neg (show ¬ kindK 4 = true by decide), join2]
    rw [show hdW 4 = [101, 100, 103, 101, 32, 101, 120, 105, 115, 116, 115] from by decide]
    simp)
  have C := Lib.hid (fun w' => by have q := rchk r hr w'; rw [hc] at q; exact q)
  generalize txtR r = tx at *
  clear h1 h2 h3 h5 h6 h7 h8
  obtain ⟨W, hW⟩ : ∃ W, w.alloc (.cells #[.int .i64 r.kd, .int .i64 r.nn, .string (bs r.nm), .string (bs r.ky), .string (bs r.fr), .string (bs r.tt)] 23) = W := ⟨_, rfl⟩
  have PB := Lib.hid (show Bk W w.heap.size #[.int .i64 r.kd, .int .i64 r.nn, .string (bs r.nm), .string (bs r.ky), .string (bs r.fr), .string (bs r.tt)] 23 from by rw [← hW]; exact Bk.new w _ _)
  have F := Lib.hid (show Fuw w W from by rw [← hW]; exact fuwA _ _)
  have HK := Lib.hid hk
  clear hr hc hk
  go_enter Tryd.func11, Tryd.ntmps11
  go_upto_region 1 with fail
  clear hW
  have c0 := PB.out.c 0; have c1 := PB.out.c 1; have c2 := PB.out.c 2; have c3 := PB.out.c 3; have c4 := PB.out.c 4; have c5 := PB.out.c 5
  go_wp2_with fail
  go_at_call 9; refine (C.out _).mono ?_; rintro g0 w1 ⟨rfl, f1⟩
  have PB := Lib.hid (PB.out.on f1); have F := Lib.hid (F.out.trans f1)
  clear f1 c0 c1 c2 c3 c4 c5
  have c0 : w1.cell? ⟨w.heap.size, 0, none⟩ = some (.int .i64 4) := by rw [← HK.out]; exact PB.out.c 0
  have c1 := PB.out.c 1; have c2 := PB.out.c 2; have c3 := PB.out.c 3; have c4 := PB.out.c 4; have c5 := PB.out.c 5
  go_wp2
  go_ret
  exact ⟨ret_str HE.out, F.out⟩
set_option maxHeartbeats 6400000 in
set_option maxRecDepth 100000 in
theorem rtxt_5 (r : Rl) (hr : RIn r) (hc : chkR r = 0) (hk : r.kd = 5) (w : World) : Calls Tryd.prog 11 #[.agg #[.int .i64 r.kd, .int .i64 r.nn, .string (bs r.nm), .string (bs r.ky), .string (bs r.fr), .string (bs r.tt)]] w (FwT w (bs (txtR r))) := by
  obtain ⟨h1, h2, h3, h4⟩ := chk_0 hc
  unfold numR at h3
  unfold nmsR at h4
  simp only [Bool.and_eq_true] at h4
  obtain ⟨h5, h6, h7, h8⟩ := h4
  rw [hk] at h3 h6
  have hkw : kwV r.nn = true := by simpa [kindK] using h3
  have z0 : (bs r.nm).size ≤ 20 := by rw [bs_size]; exact name_len h5
  have z1 : (bs r.ky).size ≤ 20 := by rw [bs_size]; exact name_len (by simpa [keyK] using h6)
  have z2 : (bs (kwW r.nn)).size ≤ 4 := by rw [bs_size]; exact kw_len r.nn
  have HE := Lib.hid (show ((({ data := #[101, 100, 103, 101, 32, 107, 105, 110, 100, 32] } : ByteArray) ++ bs (r.nm)) ++ { data := #[32] } ++ bs (r.ky)) ++ { data := #[32] } ++ bs (kwW r.nn) = bs (txtR r) from by
    show (((bs [101, 100, 103, 101, 32, 107, 105, 110, 100, 32]) ++ bs (r.nm)) ++ bs [32] ++ bs (r.ky)) ++ bs [32] ++ bs (kwW r.nn) = _
    rw [bs_cat, bs_cat, bs_cat, bs_cat, bs_cat]
    congr 1
    unfold txtR wrdR
    rw [if_pos hc, hk]
    rw [if_pos (show keyK 5 = true from rfl), if_pos (show kindK 5 = true from rfl), join3]
    rw [show hdW 5 = [101, 100, 103, 101, 32, 107, 105, 110, 100] from by decide]
    simp)
  have HW := Lib.hid (fun w' => rword r.nn hkw w')
  have C := Lib.hid (fun w' => by have q := rchk r hr w'; rw [hc] at q; exact q)
  generalize txtR r = tx at *
  clear h1 h2 h3 h5 h6 h7 h8 hkw
  obtain ⟨W, hW⟩ : ∃ W, w.alloc (.cells #[.int .i64 r.kd, .int .i64 r.nn, .string (bs r.nm), .string (bs r.ky), .string (bs r.fr), .string (bs r.tt)] 23) = W := ⟨_, rfl⟩
  have PB := Lib.hid (show Bk W w.heap.size #[.int .i64 r.kd, .int .i64 r.nn, .string (bs r.nm), .string (bs r.ky), .string (bs r.fr), .string (bs r.tt)] 23 from by rw [← hW]; exact Bk.new w _ _)
  have F := Lib.hid (show Fuw w W from by rw [← hW]; exact fuwA _ _)
  have HK := Lib.hid hk
  clear hr hc hk
  go_enter Tryd.func11, Tryd.ntmps11
  go_upto_region 1 with fail
  clear hW
  have c0 := PB.out.c 0; have c1 := PB.out.c 1; have c2 := PB.out.c 2; have c3 := PB.out.c 3; have c4 := PB.out.c 4; have c5 := PB.out.c 5
  go_wp2_with fail
  go_at_call 9; refine (C.out _).mono ?_; rintro g0 w1 ⟨rfl, f1⟩
  have PB := Lib.hid (PB.out.on f1); have F := Lib.hid (F.out.trans f1)
  clear f1 c0 c1 c2 c3 c4 c5
  have c0 : w1.cell? ⟨w.heap.size, 0, none⟩ = some (.int .i64 5) := by rw [← HK.out]; exact PB.out.c 0
  go_upto_region 13 with fail
  clear c0
  have y0 : ¬ (9223372036854775807 < 10 + (bs (r.nm)).size) := by omega
  have y1 : ¬ (9223372036854775807 < 10 + (bs (r.nm)).size + 1) := by omega
  have y2 : ¬ (9223372036854775807 < 10 + (bs (r.nm)).size + 1 + (bs (r.ky)).size) := by omega
  have y3 : ¬ (9223372036854775807 < 10 + (bs (r.nm)).size + 1 + (bs (r.ky)).size + 1) := by omega
  have y4 : ¬ (9223372036854775807 < 10 + (bs (r.nm)).size + 1 + (bs (r.ky)).size + 1 + (bs (kwW r.nn)).size) := by omega
  clear z0 z1 z2
  have HSS := Lib.hid (fun w' (ff : Fuw w1 w') => (show (w'.cell? ⟨w.heap.size, 0, none⟩ = some (.int .i64 r.kd) ∧ w'.cell? ⟨w.heap.size, 1, none⟩ = some (.int .i64 r.nn) ∧ w'.cell? ⟨w.heap.size, 2, none⟩ = some (.string (bs r.nm)) ∧ w'.cell? ⟨w.heap.size, 3, none⟩ = some (.string (bs r.ky)) ∧ w'.cell? ⟨w.heap.size, 4, none⟩ = some (.string (bs r.fr)) ∧ w'.cell? ⟨w.heap.size, 5, none⟩ = some (.string (bs r.tt))) from ⟨((PB.out.on ff)).c 0, ((PB.out.on ff)).c 1, ((PB.out.on ff)).c 2, ((PB.out.on ff)).c 3, ((PB.out.on ff)).c 4, ((PB.out.on ff)).c 5⟩))
  have ff : Fuw w1 w1.drew := Fuw.drew (Fuw.refl w1)
  go_region_held3 (fun w' => (w'.cell? ⟨w.heap.size, 0, none⟩ = some (.int .i64 r.kd) ∧ w'.cell? ⟨w.heap.size, 1, none⟩ = some (.int .i64 r.nn) ∧ w'.cell? ⟨w.heap.size, 2, none⟩ = some (.string (bs r.nm)) ∧ w'.cell? ⟨w.heap.size, 3, none⟩ = some (.string (bs r.ky)) ∧ w'.cell? ⟨w.heap.size, 4, none⟩ = some (.string (bs r.fr)) ∧ w'.cell? ⟨w.heap.size, 5, none⟩ = some (.string (bs r.tt))))
    (first | (with_reducible exact HSS.out _ ff))
    (first | (go_at_call 36; refine (HW.out _).mono ?_; rintro g1 v1 ⟨rfl, rfl⟩))
  all_goals
    rename_i hH
    clear hH HSS
    have G := Lib.hid (F.out.trans ff)
    clear ff
    go_wp2
    go_ret
    exact ⟨ret_str HE.out, G.out⟩
set_option maxHeartbeats 6400000 in
set_option maxRecDepth 100000 in
theorem rtxt_6 (r : Rl) (hr : RIn r) (hc : chkR r = 0) (hk : r.kd = 6) (w : World) : Calls Tryd.prog 11 #[.agg #[.int .i64 r.kd, .int .i64 r.nn, .string (bs r.nm), .string (bs r.ky), .string (bs r.fr), .string (bs r.tt)]] w (FwT w (bs (txtR r))) := by
  obtain ⟨h1, h2, h3, h4⟩ := chk_0 hc
  unfold numR at h3
  unfold nmsR at h4
  simp only [Bool.and_eq_true] at h4
  obtain ⟨h5, h6, h7, h8⟩ := h4
  rw [hk] at h3 h6
  have z0 : (bs r.nm).size ≤ 20 := by rw [bs_size]; exact name_len h5
  have z3 : (bs (endW r.fr)).size ≤ 20 := by rw [bs_size]; exact endW_len h7
  have z4 : (bs (endW r.tt)).size ≤ 20 := by rw [bs_size]; exact endW_len h8
  have HE := Lib.hid (show ((({ data := #[101, 110, 100, 115, 32] } : ByteArray) ++ bs (r.nm)) ++ { data := #[32] } ++ bs (endW r.fr)) ++ { data := #[32] } ++ bs (endW r.tt) = bs (txtR r) from by
    show (((bs [101, 110, 100, 115, 32]) ++ bs (r.nm)) ++ bs [32] ++ bs (endW r.fr)) ++ bs [32] ++ bs (endW r.tt) = _
    rw [bs_cat, bs_cat, bs_cat, bs_cat, bs_cat]
    congr 1
    unfold txtR wrdR
    rw [if_pos hc, hk]
    rw [if_neg (show ¬ keyK 6 = true by decide), if_pos rfl, join3]
    rw [show hdW 6 = [101, 110, 100, 115] from by decide]
    simp)
  have HF := Lib.hid (fun w' => rlabel r.fr w')
  have HT := Lib.hid (fun w' => rlabel r.tt w')
  have C := Lib.hid (fun w' => by have q := rchk r hr w'; rw [hc] at q; exact q)
  generalize txtR r = tx at *
  clear h1 h2 h3 h5 h6 h7 h8
  obtain ⟨W, hW⟩ : ∃ W, w.alloc (.cells #[.int .i64 r.kd, .int .i64 r.nn, .string (bs r.nm), .string (bs r.ky), .string (bs r.fr), .string (bs r.tt)] 23) = W := ⟨_, rfl⟩
  have PB := Lib.hid (show Bk W w.heap.size #[.int .i64 r.kd, .int .i64 r.nn, .string (bs r.nm), .string (bs r.ky), .string (bs r.fr), .string (bs r.tt)] 23 from by rw [← hW]; exact Bk.new w _ _)
  have F := Lib.hid (show Fuw w W from by rw [← hW]; exact fuwA _ _)
  have HK := Lib.hid hk
  clear hr hc hk
  go_enter Tryd.func11, Tryd.ntmps11
  go_upto_region 1 with fail
  clear hW
  have c0 := PB.out.c 0; have c1 := PB.out.c 1; have c2 := PB.out.c 2; have c3 := PB.out.c 3; have c4 := PB.out.c 4; have c5 := PB.out.c 5
  go_wp2_with fail
  go_at_call 9; refine (C.out _).mono ?_; rintro g0 w1 ⟨rfl, f1⟩
  have PB := Lib.hid (PB.out.on f1); have F := Lib.hid (F.out.trans f1)
  clear f1 c0 c1 c2 c3 c4 c5
  have c0 : w1.cell? ⟨w.heap.size, 0, none⟩ = some (.int .i64 6) := by rw [← HK.out]; exact PB.out.c 0
  go_upto_region 15 with fail
  clear c0
  have y0 : ¬ (9223372036854775807 < 5 + (bs (r.nm)).size) := by omega
  have y1 : ¬ (9223372036854775807 < 5 + (bs (r.nm)).size + 1) := by omega
  have y2 : ¬ (9223372036854775807 < 5 + (bs (r.nm)).size + 1 + (bs (endW r.fr)).size) := by omega
  have y3 : ¬ (9223372036854775807 < 5 + (bs (r.nm)).size + 1 + (bs (endW r.fr)).size + 1) := by omega
  have y4 : ¬ (9223372036854775807 < 5 + (bs (r.nm)).size + 1 + (bs (endW r.fr)).size + 1 + (bs (endW r.tt)).size) := by omega
  clear z0 z3 z4
  have HSS := Lib.hid (fun w' (ff : Fuw w1 w') => (show (w'.cell? ⟨w.heap.size, 0, none⟩ = some (.int .i64 r.kd) ∧ w'.cell? ⟨w.heap.size, 1, none⟩ = some (.int .i64 r.nn) ∧ w'.cell? ⟨w.heap.size, 2, none⟩ = some (.string (bs r.nm)) ∧ w'.cell? ⟨w.heap.size, 3, none⟩ = some (.string (bs r.ky)) ∧ w'.cell? ⟨w.heap.size, 4, none⟩ = some (.string (bs r.fr)) ∧ w'.cell? ⟨w.heap.size, 5, none⟩ = some (.string (bs r.tt))) from ⟨((PB.out.on ff)).c 0, ((PB.out.on ff)).c 1, ((PB.out.on ff)).c 2, ((PB.out.on ff)).c 3, ((PB.out.on ff)).c 4, ((PB.out.on ff)).c 5⟩))
  have ff : Fuw w1 w1.drew := Fuw.drew (Fuw.refl w1)
  go_region_held3 (fun w' => (w'.cell? ⟨w.heap.size, 0, none⟩ = some (.int .i64 r.kd) ∧ w'.cell? ⟨w.heap.size, 1, none⟩ = some (.int .i64 r.nn) ∧ w'.cell? ⟨w.heap.size, 2, none⟩ = some (.string (bs r.nm)) ∧ w'.cell? ⟨w.heap.size, 3, none⟩ = some (.string (bs r.ky)) ∧ w'.cell? ⟨w.heap.size, 4, none⟩ = some (.string (bs r.fr)) ∧ w'.cell? ⟨w.heap.size, 5, none⟩ = some (.string (bs r.tt))))
    (first | (with_reducible exact HSS.out _ ff))
    (first | (go_at_call 37; first | ((with_reducible refine (HF.out _).mono ?_); rintro g1 v1 ⟨rfl, rfl⟩) | ((with_reducible refine (HT.out _).mono ?_); rintro g1 v1 ⟨rfl, rfl⟩)))
  all_goals
    rename_i hH
    clear hH HSS
    have G := Lib.hid (F.out.trans ff)
    clear ff
    go_wp2
    go_ret
    exact ⟨ret_str HE.out, G.out⟩
set_option maxHeartbeats 6400000 in
set_option maxRecDepth 100000 in
theorem rtxt_7 (r : Rl) (hr : RIn r) (hc : chkR r = 0) (hk : r.kd = 7) (w : World) : Calls Tryd.prog 11 #[.agg #[.int .i64 r.kd, .int .i64 r.nn, .string (bs r.nm), .string (bs r.ky), .string (bs r.fr), .string (bs r.tt)]] w (FwT w (bs (txtR r))) := by
  obtain ⟨h1, h2, h3, h4⟩ := chk_0 hc
  unfold numR at h3
  unfold nmsR at h4
  simp only [Bool.and_eq_true] at h4
  obtain ⟨h5, h6, h7, h8⟩ := h4
  rw [hk] at h3 h6
  have hn0 : 0 ≤ r.nn ∧ r.nn ≤ 4000 := by simpa [kindK] using h3
  have z0 : (bs r.nm).size ≤ 20 := by rw [bs_size]; exact name_len h5
  have z5 : (bs (itoa r.nn)).size ≤ 21 := by rw [bs_size]; exact Lib.itoa_length_le r.nn hr.n.1 hr.n.2
  have HE := Lib.hid (show (({ data := #[109, 97, 120, 111, 117, 116, 32] } : ByteArray) ++ bs (r.nm)) ++ { data := #[32] } ++ bs (itoa r.nn) = bs (txtR r) from by
    show ((bs [109, 97, 120, 111, 117, 116, 32]) ++ bs (r.nm)) ++ bs [32] ++ bs (itoa r.nn) = _
    rw [bs_cat, bs_cat, bs_cat]
    congr 1
    unfold txtR wrdR
    rw [if_pos hc, hk]
    rw [if_neg (show ¬ keyK 7 = true by decide), if_neg (by decide), join2]
    rw [show hdW 7 = [109, 97, 120, 111, 117, 116] from by decide]
    simp)
  obtain ⟨n, hn⟩ : ∃ n : Nat, r.nn = (n : Int) := ⟨r.nn.toNat, by omega⟩
  have HD := Lib.hid (show ∀ w', Calls Tryd.prog 38 #[.int .i64 r.nn] w' (FwT w' (bs (itoa r.nn))) from fun w' => by rw [hn]; exact rdigits n (by omega) w')
  clear hn hn0
  have C := Lib.hid (fun w' => by have q := rchk r hr w'; rw [hc] at q; exact q)
  generalize txtR r = tx at *
  clear h1 h2 h3 h5 h6 h7 h8
  obtain ⟨W, hW⟩ : ∃ W, w.alloc (.cells #[.int .i64 r.kd, .int .i64 r.nn, .string (bs r.nm), .string (bs r.ky), .string (bs r.fr), .string (bs r.tt)] 23) = W := ⟨_, rfl⟩
  have PB := Lib.hid (show Bk W w.heap.size #[.int .i64 r.kd, .int .i64 r.nn, .string (bs r.nm), .string (bs r.ky), .string (bs r.fr), .string (bs r.tt)] 23 from by rw [← hW]; exact Bk.new w _ _)
  have F := Lib.hid (show Fuw w W from by rw [← hW]; exact fuwA _ _)
  have HK := Lib.hid hk
  clear hr hc hk
  go_enter Tryd.func11, Tryd.ntmps11
  go_upto_region 1 with fail
  clear hW
  have c0 := PB.out.c 0; have c1 := PB.out.c 1; have c2 := PB.out.c 2; have c3 := PB.out.c 3; have c4 := PB.out.c 4; have c5 := PB.out.c 5
  go_wp2_with fail
  go_at_call 9; refine (C.out _).mono ?_; rintro g0 w1 ⟨rfl, f1⟩
  have PB := Lib.hid (PB.out.on f1); have F := Lib.hid (F.out.trans f1)
  clear f1 c0 c1 c2 c3 c4 c5
  have c0 : w1.cell? ⟨w.heap.size, 0, none⟩ = some (.int .i64 7) := by rw [← HK.out]; exact PB.out.c 0
  go_upto_region 16 with fail
  clear c0
  have y0 : ¬ (9223372036854775807 < 7 + (bs (r.nm)).size) := by omega
  have y1 : ¬ (9223372036854775807 < 7 + (bs (r.nm)).size + 1) := by omega
  have y2 : ¬ (9223372036854775807 < 7 + (bs (r.nm)).size + 1 + (bs (itoa r.nn)).size) := by omega
  clear z0 z5
  have HSS := Lib.hid (fun w' (ff : Fuw w1 w') => (show (w'.cell? ⟨w.heap.size, 0, none⟩ = some (.int .i64 r.kd) ∧ w'.cell? ⟨w.heap.size, 1, none⟩ = some (.int .i64 r.nn) ∧ w'.cell? ⟨w.heap.size, 2, none⟩ = some (.string (bs r.nm)) ∧ w'.cell? ⟨w.heap.size, 3, none⟩ = some (.string (bs r.ky)) ∧ w'.cell? ⟨w.heap.size, 4, none⟩ = some (.string (bs r.fr)) ∧ w'.cell? ⟨w.heap.size, 5, none⟩ = some (.string (bs r.tt))) from ⟨((PB.out.on ff)).c 0, ((PB.out.on ff)).c 1, ((PB.out.on ff)).c 2, ((PB.out.on ff)).c 3, ((PB.out.on ff)).c 4, ((PB.out.on ff)).c 5⟩))
  have ff : Fuw w1 w1.drew := Fuw.drew (Fuw.refl w1)
  go_region_held3 (fun w' => (w'.cell? ⟨w.heap.size, 0, none⟩ = some (.int .i64 r.kd) ∧ w'.cell? ⟨w.heap.size, 1, none⟩ = some (.int .i64 r.nn) ∧ w'.cell? ⟨w.heap.size, 2, none⟩ = some (.string (bs r.nm)) ∧ w'.cell? ⟨w.heap.size, 3, none⟩ = some (.string (bs r.ky)) ∧ w'.cell? ⟨w.heap.size, 4, none⟩ = some (.string (bs r.fr)) ∧ w'.cell? ⟨w.heap.size, 5, none⟩ = some (.string (bs r.tt))))
    (first | (with_reducible exact HSS.out _ ff))
    (first | (go_at_call 38; refine (HD.out _).mono ?_; rintro g1 v1 ⟨rfl, j1⟩; replace ff := ff.trans j1))
  all_goals
    rename_i hH
    clear hH HSS
    have G := Lib.hid (F.out.trans ff)
    clear ff
    go_wp2
    go_ret
    exact ⟨ret_str HE.out, G.out⟩
theorem rtxt (r : Rl) (hr : RIn r) (w : World) : Calls Tryd.prog 11 #[.agg #[.int .i64 r.kd, .int .i64 r.nn, .string (bs r.nm), .string (bs r.ky), .string (bs r.fr), .string (bs r.tt)]] w (FwT w (bs (txtR r))) := by
  by_cases hc : chkR r = 0
  · rcases isK_cases (chk_0 hc).1 with h | h | h | h | h | h | h
    · exact rtxt_1 r hr hc h w
    · exact rtxt_2 r hr hc h w
    · exact rtxt_3 r hr hc h w
    · exact rtxt_4 r hr hc h w
    · exact rtxt_5 r hr hc h w
    · exact rtxt_6 r hr hc h w
    · exact rtxt_7 r hr hc h w
  · rw [show txtR r = [] by unfold txtR; rw [if_neg hc]]
    show Calls _ _ _ w (FwT w ⟨#[]⟩)
    have C := Lib.hid (fun w' => rchk r hr w')
    obtain ⟨W, hW⟩ : ∃ W, w.alloc (.cells #[.int .i64 r.kd, .int .i64 r.nn, .string (bs r.nm), .string (bs r.ky), .string (bs r.fr), .string (bs r.tt)] 23) = W := ⟨_, rfl⟩
    have PB := Lib.hid (show Bk W w.heap.size #[.int .i64 r.kd, .int .i64 r.nn, .string (bs r.nm), .string (bs r.ky), .string (bs r.fr), .string (bs r.tt)] 23 from by rw [← hW]; exact Bk.new w _ _)
    have F := Lib.hid (show Fuw w W from by rw [← hW]; exact fuwA _ _)
    have hc' : (chkR r != 0) = true := by rw [bne_iff_ne]; exact hc
    generalize chkR r = c at *
    clear hr hc
    go_enter Tryd.func11, Tryd.ntmps11
    go_upto_region 1 with fail
    clear hW
    have c0 := PB.out.c 0; have c1 := PB.out.c 1; have c2 := PB.out.c 2; have c3 := PB.out.c 3; have c4 := PB.out.c 4; have c5 := PB.out.c 5
    go_wp2_with fail
    go_at_call 9; refine (C.out _).mono ?_; rintro g0 w1 ⟨rfl, f1⟩
    clear c0 c1 c2 c3 c4 c5
    go_wp2
    go_ret
    exact ⟨rfl, F.out.trans f1⟩
end Go.Proofs.YtadnaakbhgacgaaDoor
