/-
  Package codec: readFields of lists and paths, out of what elementsAt gives. Nothing that was there turns.
-/
import Derived.Test.YtolkdmhjomampaaDoorCgP
namespace Go.Proofs.YtolkdmhjomampaaDoor
open Go.RowKit

/-- A value of kind k out of its elements. -/
def ofL (k : Int) : Rl → Rs
  | .ok xs E => .ok (.mk k 0 0 [] xs) E
  | .er c => .er c
set_option maxHeartbeats 8000000 in
set_option maxRecDepth 100000 in
theorem rg_seq (ao : Option Addr) (l : List UInt8) (cap : Nat) (k : Nat) (hk : k = 7 ∨ k = 8) (a nest : Int) (hn0 : -9223372036854775808 < nest) (hn1 : nest ≤ 9223372036854775807) (B : Nat) (U : World) (o : Rl) (hq : U.heap[B]? = some (.cells (vc (vk k) none 0) 24 (0, 0)))
    (HE : Calls Tryd.prog 77 #[.slice ao l.length cap, .int .i64 a, .int .i64 k, .int .i64 (nest - 1)] U (RetL U o)) : RGat ao l cap a nest (ofL k o) B U := by
  obtain ⟨c0, c1, c2, c3, c4, cf, cl⟩ := vc_cells hq
  have HE' := Lib.hid HE
  have HQ := Lib.hid hq
  unfold vk at *
  clear HE hq c1 c2 c3 c4 cf
  cases o with
  | ok xs E =>
    show RGat ao l cap a nest (.ok (.mk k 0 0 [] xs) E) B U
    unfold RGat
    simp only
    rcases hk with rfl | rfl
    all_goals
      go_enter Tryd.func55, Tryd.ntmps55
      go_wp2_with fail
      go_at_call 77; refine HE'.out.mono ?_; rintro e1 w1 ⟨f1, a2, c2, rfl, hk⟩
      have hq1 := (Below.block f1 B cl).trans HQ.out
      obtain ⟨x0, x1, x2, x3, x4, xf, xl⟩ := vc_cells hq1
      have xf4 := xf 4
      have HK := Lib.hid (hk B cl)
      have HS := Lib.hid ((vc_set hq1).2.2.2 a2 xs c2)
      clear hk xf hq1 HE'
      go_wp2
      go_ret2
      refine ⟨fun X hX hXB => fuw_set (Fuw.trans hX f1) hXB, a2, c2, rfl, HS.out, fun w3 hs hw => HK.out w3 ?_ fun b h1 h2 => ?_⟩
      · simp at hs; omega
      · rw [hw b h1 (by simp; omega), heap_set_other (by omega)]
  | er c =>
    show RGat ao l cap a nest (.er c) B U
    unfold RGat
    simp only
    rcases hk with rfl | rfl
    all_goals
      go_enter Tryd.func55, Tryd.ntmps55
      go_wp2_with fail
      go_at_call 77; refine HE'.out.mono ?_; rintro e1 w1 ⟨f1, rfl, hc0⟩
      have hq1 := (Below.block f1 B cl).trans HQ.out
      obtain ⟨x0, x1, x2, x3, x4, xf, xl⟩ := vc_cells hq1
      have xf4 := xf 4
      clear xf hq1 HE'
      go_wp2
      go_ret2
      exact ⟨fun X hX hXB => fuw_set (Fuw.trans hX f1) hXB, 0, rfl, hc0⟩
end Go.Proofs.YtolkdmhjomampaaDoor
