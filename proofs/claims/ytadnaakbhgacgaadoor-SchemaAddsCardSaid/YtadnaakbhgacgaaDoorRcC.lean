/-
  The reference of package schema: the order of rules. Nothing that was there turns.
-/
import Derived.Test.YtadnaakbhgacgaaDoorRcA
namespace Go.Proofs.YtadnaakbhgacgaaDoor
open Go.RowKit

set_option maxHeartbeats 6400000 in
set_option maxRecDepth 100000 in
theorem rord (a b : Rl) (w : World) : Calls Tryd.prog 43 #[.agg #[.int .i64 a.kd, .int .i64 a.nn, .string (bs a.nm), .string (bs a.ky), .string (bs a.fr), .string (bs a.tt)], .agg #[.int .i64 b.kd, .int .i64 b.nn, .string (bs b.nm), .string (bs b.ky), .string (bs b.fr), .string (bs b.tt)]] w (FwI w (ordR a b)) := by
  obtain ⟨W, hW⟩ : ∃ W, (w.alloc (.cells #[.int .i64 a.kd, .int .i64 a.nn, .string (bs a.nm), .string (bs a.ky), .string (bs a.fr), .string (bs a.tt)] 23)).alloc (.cells #[.int .i64 b.kd, .int .i64 b.nn, .string (bs b.nm), .string (bs b.ky), .string (bs b.fr), .string (bs b.tt)] 23) = W := ⟨_, rfl⟩
  have PA := Lib.hid (show Bk W w.heap.size #[.int .i64 a.kd, .int .i64 a.nn, .string (bs a.nm), .string (bs a.ky), .string (bs a.fr), .string (bs a.tt)] 23 from by rw [← hW]; exact (Bk.new w _ _).on (fuwA _ _))
  have PB := Lib.hid (show Bk W (w.heap.size + 1) #[.int .i64 b.kd, .int .i64 b.nn, .string (bs b.nm), .string (bs b.ky), .string (bs b.fr), .string (bs b.tt)] 23 from by rw [← hW]; have q := Bk.new (w.alloc (.cells #[.int .i64 a.kd, .int .i64 a.nn, .string (bs a.nm), .string (bs a.ky), .string (bs a.fr), .string (bs a.tt)] 23)) #[.int .i64 b.kd, .int .i64 b.nn, .string (bs b.nm), .string (bs b.ky), .string (bs b.fr), .string (bs b.tt)] 23; rwa [asz] at q)
  have F := Lib.hid (show Fuw w W from by rw [← hW]; exact fuwA2 _ _ _)
  have T1 := Lib.hid (fun w' => rtexts a.nm b.nm w')
  have T2 := Lib.hid (fun w' => rtexts a.ky b.ky w')
  have T3 := Lib.hid (fun w' => rtexts a.fr b.fr w')
  have T4 := Lib.hid (fun w' => rtexts a.tt b.tt w')
  have HE := Lib.hid (show ordR a b = thn (intc a.kd b.kd) (thn (strc a.nm b.nm) (thn (strc a.ky b.ky) (thn (intc a.nn b.nn) (thn (strc a.fr b.fr) (strc a.tt b.tt))))) from rfl)
  generalize ordR a b = res at *
  generalize strc a.nm b.nm = s1 at *
  generalize strc a.ky b.ky = s2 at *
  generalize strc a.fr b.fr = s3 at *
  generalize strc a.tt b.tt = s4 at *
  go_enter Tryd.func43, Tryd.ntmps43
  go_upto_region 1 with fail
  clear hW
  have a0 := PA.out.c 0; have a1 := PA.out.c 1; have a2 := PA.out.c 2; have a3 := PA.out.c 3; have a4 := PA.out.c 4; have a5 := PA.out.c 5; have b0 := PB.out.c 0; have b1 := PB.out.c 1; have b2 := PB.out.c 2; have b3 := PB.out.c 3; have b4 := PB.out.c 4; have b5 := PB.out.c 5
  go_wp2_with (go_at_call 58; first | ((with_reducible refine (T1.out _).mono ?_); rintro e2 w2 ⟨rfl, rfl⟩) | ((with_reducible refine (T2.out _).mono ?_); rintro e2 w2 ⟨rfl, rfl⟩) | ((with_reducible refine (T3.out _).mono ?_); rintro e2 w2 ⟨rfl, rfl⟩) | ((with_reducible refine (T4.out _).mono ?_); rintro e2 w2 ⟨rfl, rfl⟩))
  all_goals
    go_ret
    refine ⟨ret_int ?_, F.out⟩
    rw [HE.out]
    clear HE
    simp only [thn, intc, bne_iff_ne, ne_eq] at *
    repeat' split
    all_goals first | rfl | omega | simp_all
end Go.Proofs.YtadnaakbhgacgaaDoor
