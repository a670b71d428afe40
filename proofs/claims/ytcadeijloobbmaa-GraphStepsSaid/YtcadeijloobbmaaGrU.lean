/-
  The law GraphSteps of package graph, walked; few: whether strings are few and short.
-/
import Derived.Test.YtcadeijloobbmaaGrS
import Derived.Test.YtcadeijloobbmaaGrO2
import Derived.Test.YtcadeijloobbmaaGrQ
namespace Go.Proofs.Ytcadeijloobbmaa
open Go.RowKit

/-- Some bool. -/
def AnyB (w : World) (e : Ending) (w' : World) : Prop := ∃ b, e = .returned (.bool b) ∧ w = w'
set_option maxHeartbeats 1600000 in
set_option maxRecDepth 100000 in
theorem few_any (l : List (List UInt8)) (ao : Option Addr) (cap : Nat) (w : World) (hs : SlS w ao l cap) :
    Calls Try.prog 20 #[.slice ao l.length cap] w (AnyB w) := by
  have hl := hs.len
  have HS := Lib.hid hs
  clear hs
  go_enter Try.func20, Try.ntmps20
  go_wp2
  go_loop [6] (fun iv => ∃ i : Nat, iv = .int .i64 i ∧ i ≤ l.length) (fun iv => l.length - (RowKit.intOf iv).toNat)
  case atStart => exact ⟨0, rfl, Nat.zero_le _⟩
  case round =>
    obtain ⟨i, rfl, hi⟩ := hrel
    by_cases hlt : i < l.length
    · obtain ⟨b, o, rfl, hz, hc⟩ := HS.out.get hlt
      rw [Nat.mul_one] at hc
      have hz' : (bs l[i]).size = l[i].length := bs_size _
      unfold maxLen at hz
      generalize l[i] = s at *
      by_cases h2 : (200 : Int) < (s.length : Int)
      · go_wp2
        go_ret
        exact ⟨_, rfl, rfl⟩
      · go_wp2
        go_round
        case rel => exact ⟨i + 1, by go_num, by omega⟩
        case measure => simp [RowKit.intOf]; omega
    · go_wp2
      go_ret
      exact ⟨_, rfl, rfl⟩
set_option maxHeartbeats 6400000 in
set_option maxRecDepth 100000 in
theorem steps_walk (g : Gr) (an ae : Option Addr) (cn ce : Nat) (id dir : Int) (ts : List (List UInt8)) (at_ : Option Addr) (ct : Nat) (w : World) (hg : GIn w g an ae cn ce) (ht : SlS w at_ ts ct) :
    Calls Try.prog 4 #[grv g an ae cn ce, .agg #[.int .i64 id, .int .i64 dir], .slice at_ ts.length ct] w (FwB w true) := by
  have HG := Lib.hid hg
  have HT := Lib.hid ht
  have HS := Lib.hid (fun w' (hf : Fuw w w') => small_any g an ae cn ce 60 100 w' (HG.out.on hf))
  have HF := Lib.hid (fun w' (hf : Fuw w w') => few_any ts at_ ct w' (slS_on hf HT.out))
  have HA := Lib.hid alive_any
  have HB := Lib.hid (fun (h : smlV g 60 100 = true) => (sml_b h).2.1)
  have nt := ht.len
  clear hg ht
  unfold grv at *
  have f0 := (fuwA w (.cells #[.slice an g.ns.length cn, .slice ae g.es.length ce, .int .i64 g.nn, .int .i64 g.ne] 25)).trans (fuwA _ (.cells #[.int .i64 id, .int .i64 dir] 47))
  have p0 := (GB.new w g an ae cn ce).on (fuwA _ (.cells #[.int .i64 id, .int .i64 dir] 47))
  have p1 := Bk.new (w.alloc (.cells #[.slice an g.ns.length cn, .slice ae g.es.length ce, .int .i64 g.nn, .int .i64 g.ne] 25)) #[.int .i64 id, .int .i64 dir] 47
  rw [show (w.alloc (.cells #[.slice an g.ns.length cn, .slice ae g.es.length ce, .int .i64 g.nn, .int .i64 g.ne] 25)).heap.size = w.heap.size + 1 by simp] at p1
  go_enter Try.func4, Try.ntmps4
  go_upto_region 1 with fail
  generalize (w.alloc (.cells #[.slice an g.ns.length cn, .slice ae g.es.length ce, .int .i64 g.nn, .int .i64 g.ne] 25)).alloc (.cells #[.int .i64 id, .int .i64 dir] 47) = W at *
  have d0 : W.cell? ⟨w.heap.size + 1, 0, none⟩ = some (.int .i64 id) := p1.c 0
  have d1 : W.cell? ⟨w.heap.size + 1, 1, none⟩ = some (.int .i64 dir) := p1.c 1
  have P0 := Lib.hid p0
  have F0 := Lib.hid f0
  clear p0 p1 f0
  go_wp2
  go_quiet (fail)
  have q0 := P0.out.c0; have q1 := P0.out.c1; have q2 := P0.out.c2; have q3 := P0.out.c3
  go_wp2_with fail
  go_at_call 7; refine (HS.out _ (F0.out.trans (fuw_dr _ _))).mono ?_; rintro e1 w1 ⟨rfl, f1⟩
  have F1 := Lib.hid ((fuw_dr _ _).trans f1)
  clear d0 d1 f1 q0 q1 q2 q3
  cases hsm : smlV g 60 100 with
  | false =>
    clear hsm
    go_wp2_with fail
    go_at_call 8; refine (HA.out _).mono ?_; rintro e2 w2 ⟨rfl, f2⟩
    go_wp2
    go_ret
    exact ⟨rfl, F0.out.trans (F1.out.trans f2)⟩
  | true =>
    have HL := Lib.hid (HB.out hsm)
    clear hsm
    go_wp2_with fail
    go_at_call 20; refine (HF.out _ (F0.out.trans F1.out)).mono ?_; rintro e2 w2 ⟨b, rfl, rfl⟩
    cases b with
    | false =>
      go_wp2_with fail
      go_at_call 8; refine (HA.out _).mono ?_; rintro e2 w2 ⟨rfl, f2⟩
      go_wp2
      go_ret
      exact ⟨rfl, F0.out.trans (F1.out.trans f2)⟩
    | true =>
      have FT := Lib.hid (F0.out.trans F1.out)
      have PT := Lib.hid (P0.out.on F1.out)
      have C1 := Lib.hid (fun w' (hf : Fuw w w') => steps_any g an ae cn ce id ts at_ ct dir w' (HG.out.on hf) (slS_on hf HT.out) (by have := HL.out; omega))
      have C2 := Lib.hid (fun w' (hf : Fuw w w') => rsteps_any g an ae cn ce id ts at_ ct dir w' (HG.out.on hf) (slS_on hf HT.out) (by have := HL.out; omega))
      have CJ := Lib.hid (fun (l : List (Int × Int × Int)) ao bo ca cb w' (h1 : SlJ w' ao l ca) (h2 : SlJ w' bo l cb) => (show Calls Try.prog 21 #[.slice ao l.length ca, .slice bo l.length cb] w' (FwB w' true) from by
        have k := samj_any l l ao bo ca cb w' h1 h2
        rwa [samJ_self] at k))
      unfold grv at C1 C2
      generalize adjV g.es id ts dir = L at *
      go_upto_region 4 with fail
      have ff : Fuw w1 w1.drew := Fuw.drew (Fuw.refl w1)
      clear HS HF HB HL
      go_region_held3 (fun w' => w'.cell? ⟨w.heap.size, 0, none⟩ = some (.slice an g.ns.length cn) ∧ w'.cell? ⟨w.heap.size, 1, none⟩ = some (.slice ae g.es.length ce) ∧ w'.cell? ⟨w.heap.size, 2, none⟩ = some (.int .i64 g.nn) ∧ w'.cell? ⟨w.heap.size, 3, none⟩ = some (.int .i64 g.ne))
        (first | exact ⟨(PT.out.on ff).c0, (PT.out.on ff).c1, (PT.out.on ff).c2, (PT.out.on ff).c3⟩)
        (first
          | (go_at_call 22; refine (C1.out _ (FT.out.trans ff)).mono ?_; rintro e3 w3 ⟨ao1, k1, rfl, h1, f3⟩
             first
               | (replace h2 := slJ_on f3 h2; replace ff := ff.trans f3)
               | (replace ff := ff.trans f3))
          | (go_at_call 23; refine (C2.out _ (FT.out.trans ff)).mono ?_; rintro e4 w4 ⟨ao2, k2, rfl, h2, f4⟩
             first
               | (replace h1 := slJ_on f4 h1; replace ff := ff.trans f4)
               | (replace ff := ff.trans f4))
          | (go_at_call 21; refine (CJ.out _ _ _ _ _ _ h1 h2).mono ?_; rintro e5 w5 ⟨rfl, f5⟩; replace ff := ff.trans f5)
          | (go_at_call 8; refine (HA.out _).mono ?_; rintro e6 w6 ⟨rfl, f6⟩; replace ff := ff.trans f6))
      all_goals
        go_wp2
        go_ret
        exact ⟨rfl, FT.out.trans ff⟩
end Go.Proofs.Ytcadeijloobbmaa
