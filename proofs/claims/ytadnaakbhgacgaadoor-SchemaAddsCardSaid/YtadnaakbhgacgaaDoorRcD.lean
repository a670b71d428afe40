/-
  The reference of package schema: whether a list has a rule (Has). Nothing that was there turns.
-/
import Derived.Test.YtadnaakbhgacgaaDoorRcC
import Derived.Test.YtadnaakbhgacgaaDoorScJ
namespace Go.Proofs.YtadnaakbhgacgaaDoor
open Go.RowKit

theorem has_step (s : List Rl) (r : Rl) (i : Nat) (h : i < s.length) : hasR (s.drop i) r = (ordR s[i] r == 0 || hasR (s.drop (i + 1)) r) := by
  rw [List.drop_eq_getElem_cons h]; rfl
theorem has_end (s : List Rl) (r : Rl) (i : Nat) (h : s.length ≤ i) : hasR (s.drop i) r = false := by
  rw [List.drop_of_length_le h]; rfl
set_option maxHeartbeats 6400000 in
set_option maxRecDepth 100000 in
theorem rhas (s : List Rl) (r : Rl) (ao : Option Addr) (cap : Nat) (w : World) (h : SlR w ao s cap) : Calls Tryd.prog 42 #[.slice ao s.length cap, .agg #[.int .i64 r.kd, .int .i64 r.nn, .string (bs r.nm), .string (bs r.ky), .string (bs r.fr), .string (bs r.tt)]] w (FwB w (hasR s r)) := by
  have hln := h.len
  obtain ⟨W, hW⟩ : ∃ W, w.alloc (.cells #[.int .i64 r.kd, .int .i64 r.nn, .string (bs r.nm), .string (bs r.ky), .string (bs r.fr), .string (bs r.tt)] 23) = W := ⟨_, rfl⟩
  have PB := Lib.hid (show Bk W w.heap.size #[.int .i64 r.kd, .int .i64 r.nn, .string (bs r.nm), .string (bs r.ky), .string (bs r.fr), .string (bs r.tt)] 23 from by rw [← hW]; exact Bk.new w _ _)
  have F0 := Lib.hid (show Fuw w W from by rw [← hW]; exact fuwA _ _)
  have H := Lib.hid (show SlR W ao s cap from by rw [← hW]; exact slR_on (fuwA _ _) h)
  clear h
  go_enter Tryd.func42, Tryd.ntmps42
  go_upto_region 1 with fail
  clear hW
  go_wp2
  go_loopw [5] (fun iv wr => ∃ i : Nat, iv = .int .i64 i ∧ i ≤ s.length ∧ Hid (Fuw W wr) ∧ Hid (hasR s r = hasR (s.drop i) r)) (fun iv _ => s.length - (RowKit.intOf iv).toNat)
  case atStart => exact ⟨0, rfl, Nat.zero_le _, Lib.hid (Fuw.refl _), Lib.hid rfl⟩
  case round =>
    obtain ⟨i, rfl, hi, hf, HV⟩ := hrel
    by_cases hlt : i < s.length
    · obtain ⟨b, o, rfl, hq⟩ := (slR_on hf.out H.out).get hlt
      have hltI : (i : Int) < (s.length : Int) := by omega
      have HQ := Lib.hid (fun w' (ff : Fuw wr w') => hq.on ff)
      have HPB := Lib.hid (fun w' (ff : Fuw wr w') => (PB.out.on hf.out).on ff)
      have HO := Lib.hid (fun w' => rord s[i] r w')
      have HS := Lib.hid (HV.out.trans (has_step s r i hlt))
      clear hq HV
      go_upto_region 4 with fail
      generalize s[i] = q at *
      generalize ordR q r = z at *
      have HSS := Lib.hid (fun w' (ff : Fuw wr w') => (show (w'.cell? ⟨b, o + i * 6, none⟩ = some (.int .i64 q.kd) ∧ w'.cell? ⟨b, o + i * 6 + 1, none⟩ = some (.int .i64 q.nn) ∧ w'.cell? ⟨b, o + i * 6 + 2, none⟩ = some (.string (bs q.nm)) ∧ w'.cell? ⟨b, o + i * 6 + 3, none⟩ = some (.string (bs q.ky)) ∧ w'.cell? ⟨b, o + i * 6 + 4, none⟩ = some (.string (bs q.fr)) ∧ w'.cell? ⟨b, o + i * 6 + 5, none⟩ = some (.string (bs q.tt))) ∧ (w'.cell? ⟨w.heap.size, 0, none⟩ = some (.int .i64 r.kd) ∧ w'.cell? ⟨w.heap.size, 1, none⟩ = some (.int .i64 r.nn) ∧ w'.cell? ⟨w.heap.size, 2, none⟩ = some (.string (bs r.nm)) ∧ w'.cell? ⟨w.heap.size, 3, none⟩ = some (.string (bs r.ky)) ∧ w'.cell? ⟨w.heap.size, 4, none⟩ = some (.string (bs r.fr)) ∧ w'.cell? ⟨w.heap.size, 5, none⟩ = some (.string (bs r.tt))) from ⟨⟨(HQ.out w' ff).c0, (HQ.out w' ff).c1, (HQ.out w' ff).c2, (HQ.out w' ff).c3, (HQ.out w' ff).c4, (HQ.out w' ff).c5⟩, ⟨(HPB.out w' ff).c 0, (HPB.out w' ff).c 1, (HPB.out w' ff).c 2, (HPB.out w' ff).c 3, (HPB.out w' ff).c 4, (HPB.out w' ff).c 5⟩⟩))
      have ff : Fuw wr wr.drew := Fuw.drew (Fuw.refl wr)
      clear HQ HPB
      go_region_held3 (fun w' => (w'.cell? ⟨b, o + i * 6, none⟩ = some (.int .i64 q.kd) ∧ w'.cell? ⟨b, o + i * 6 + 1, none⟩ = some (.int .i64 q.nn) ∧ w'.cell? ⟨b, o + i * 6 + 2, none⟩ = some (.string (bs q.nm)) ∧ w'.cell? ⟨b, o + i * 6 + 3, none⟩ = some (.string (bs q.ky)) ∧ w'.cell? ⟨b, o + i * 6 + 4, none⟩ = some (.string (bs q.fr)) ∧ w'.cell? ⟨b, o + i * 6 + 5, none⟩ = some (.string (bs q.tt))) ∧ (w'.cell? ⟨w.heap.size, 0, none⟩ = some (.int .i64 r.kd) ∧ w'.cell? ⟨w.heap.size, 1, none⟩ = some (.int .i64 r.nn) ∧ w'.cell? ⟨w.heap.size, 2, none⟩ = some (.string (bs r.nm)) ∧ w'.cell? ⟨w.heap.size, 3, none⟩ = some (.string (bs r.ky)) ∧ w'.cell? ⟨w.heap.size, 4, none⟩ = some (.string (bs r.fr)) ∧ w'.cell? ⟨w.heap.size, 5, none⟩ = some (.string (bs r.tt))))
        (first | (with_reducible exact HSS.out _ ff))
        (first | (go_at_call 43; refine (HO.out _).mono ?_; rintro g2 v2 ⟨rfl, j2⟩; replace ff := ff.trans j2))
      all_goals
        rename_i hH
        clear hH HSS HO
        have G := Lib.hid (hf.out.trans ff)
        clear ff
        by_cases hz : z = 0
        · have HR := Lib.hid (show hasR s r = true by rw [HS.out, hz]; rfl)
          subst hz
          go_wp2
          go_ret
          exact ⟨ret_bool HR.out.symm, F0.out.trans G.out⟩
        · have hz' : (z == 0) = false := by rw [beq_eq_false_iff_ne]; exact hz
          have HR := Lib.hid (show hasR s r = hasR (s.drop (i + 1)) r by rw [HS.out, hz']; rfl)
          clear HS
          go_wp2
          go_roundw
          case rel => exact ⟨i + 1, by go_num, by omega, G, HR⟩
          case measure => simp [RowKit.intOf]; omega
    · have HR := Lib.hid (show hasR s r = false by rw [HV.out]; exact has_end s r i (by omega))
      go_wp2
      go_ret
      exact ⟨ret_bool HR.out.symm, F0.out.trans hf.out⟩
end Go.Proofs.YtadnaakbhgacgaaDoor
