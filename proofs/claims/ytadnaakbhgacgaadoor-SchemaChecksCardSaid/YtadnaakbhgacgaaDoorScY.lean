/-
  The statement SchemaChecks of package schema, walked: Check, Fault and Text answer as the reference does. Condition: the library's variables read as laid (Good). Nothing that was there turns.
-/
import Derived.Test.YtadnaakbhgacgaaDoorScR
import Derived.Test.YtadnaakbhgacgaaDoorRcJ
namespace Go.Proofs.YtadnaakbhgacgaaDoor
open Go.RowKit

set_option maxHeartbeats 6400000 in
set_option maxRecDepth 100000 in
theorem checks_walk (r : Rl) (hr : RIn r) (k : Int) (w : World) (G : Good w) : Calls Tryd.prog 3 #[rlv r, .int .i64 k] w (FwB w true) := by
  obtain ⟨W, hW⟩ : ∃ W, w.alloc (.cells (rlc r) 23) = W := ⟨_, rfl⟩
  have PB := Lib.hid (show Bk W w.heap.size #[.int .i64 r.kd, .int .i64 r.nn, .string (bs r.nm), .string (bs r.ky), .string (bs r.fr), .string (bs r.tt)] 23 from by rw [← hW]; exact (BkR.new w r).h)
  have F := Lib.hid (show Fuw w W from by rw [← hW]; exact fuwA _ _)
  have HL := Lib.hid (fun w' (hf : Fuw W w') => lives_any w' (G.on (F.out.trans hf)))
  have T1 := Lib.hid (fun w' (hf : Fuw W w') => text_any r hr w' (G.on (F.out.trans hf)))
  have T2 := Lib.hid (fun w' => rtxt r hr w')
  have C1 := Lib.hid (fun w' => chk_any r hr w')
  have C2 := Lib.hid (fun w' => rchk r hr w')
  have F1 := Lib.hid (fun w' => flt_any k w')
  have F2 := Lib.hid (fun w' => rflt k w')
  clear hr G
  unfold rlv at T1 C1 ⊢
  unfold rlc at hW
  generalize chkR r = c at *
  generalize fltR k = f at *
  generalize bs (txtR r) = tx at *
  have e1 : (c == c) = true := by simp
  have e2 : (f == f) = true := by simp
  have e3 : (tx.toList == tx.toList) = true := by simp
  go_enter Tryd.func3, Tryd.ntmps3
  go_upto_region 1 with fail
  clear hW
  have HSS := Lib.hid (fun w' (ff : Fuw W w') => (show (w'.cell? ⟨w.heap.size, 0, none⟩ = some (.int .i64 r.kd) ∧ w'.cell? ⟨w.heap.size, 1, none⟩ = some (.int .i64 r.nn) ∧ w'.cell? ⟨w.heap.size, 2, none⟩ = some (.string (bs r.nm)) ∧ w'.cell? ⟨w.heap.size, 3, none⟩ = some (.string (bs r.ky)) ∧ w'.cell? ⟨w.heap.size, 4, none⟩ = some (.string (bs r.fr)) ∧ w'.cell? ⟨w.heap.size, 5, none⟩ = some (.string (bs r.tt))) from ⟨((PB.out.on ff)).c 0, ((PB.out.on ff)).c 1, ((PB.out.on ff)).c 2, ((PB.out.on ff)).c 3, ((PB.out.on ff)).c 4, ((PB.out.on ff)).c 5⟩))
  have ff : Fuw W W.drew := Fuw.drew (Fuw.refl W)
  go_region_held3 (fun w' => (w'.cell? ⟨w.heap.size, 0, none⟩ = some (.int .i64 r.kd) ∧ w'.cell? ⟨w.heap.size, 1, none⟩ = some (.int .i64 r.nn) ∧ w'.cell? ⟨w.heap.size, 2, none⟩ = some (.string (bs r.nm)) ∧ w'.cell? ⟨w.heap.size, 3, none⟩ = some (.string (bs r.ky)) ∧ w'.cell? ⟨w.heap.size, 4, none⟩ = some (.string (bs r.fr)) ∧ w'.cell? ⟨w.heap.size, 5, none⟩ = some (.string (bs r.tt))))
    (first | (with_reducible exact HSS.out _ ff))
    (first
      | (go_at_call 8; refine (C1.out _).mono ?_; rintro g1 v1 ⟨rfl, j1⟩; replace ff := ff.trans j1)
      | (go_at_call 9; refine (C2.out _).mono ?_; rintro g1 v1 ⟨rfl, j1⟩; replace ff := ff.trans j1)
      | (go_at_call 10; refine (T1.out _ ff).mono ?_; rintro g1 v1 ⟨rfl, j1⟩; replace ff := ff.trans j1)
      | (go_at_call 11; refine (T2.out _).mono ?_; rintro g1 v1 ⟨rfl, j1⟩; replace ff := ff.trans j1)
      | (go_at_call 12; refine (F1.out _).mono ?_; rintro g1 v1 ⟨rfl, rfl⟩)
      | (go_at_call 13; refine (F2.out _).mono ?_; rintro g1 v1 ⟨rfl, rfl⟩)
      | (go_at_call 14; refine (HL.out _ ff).mono ?_; rintro g1 v1 ⟨rfl, j1⟩; replace ff := ff.trans j1))
  all_goals
    rename_i hH
    clear hH HSS
    have G := Lib.hid (F.out.trans ff)
    clear ff
    go_wp2
    go_ret
    exact ⟨rfl, G.out⟩
end Go.Proofs.YtadnaakbhgacgaaDoor
