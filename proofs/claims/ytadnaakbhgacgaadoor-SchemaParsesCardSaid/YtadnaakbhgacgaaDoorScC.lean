/-
  Go's comparison of ints and strings, cmp.Or; package schema: the order of rules, whether a rule's number is one that its shape allows, ends, what is wrong with a rule (Check), errors of kinds. Nothing that was there turns.
-/
import Derived.Test.YtadnaakbhgacgaaDoorScB
import Derived.Laws.Cover1
import Derived.StillTailTactics
namespace Go.Proofs.YtadnaakbhgacgaaDoor
open Go.RowKit

theorem lcmpi_any (a b : Int) (w : World) : Calls Tryd.prog 54 #[.int .i64 a, .int .i64 b] w fun e w' => e = .returned (.int .i64 (intc a b)) ∧ w' = w := by
  by_cases h1 : a < b
  · rw [show intc a b = -1 by unfold intc; rw [if_pos h1]]
    go_enter Tryd.func54, Tryd.ntmps54
    go_wp2
    go_ret
    exact ⟨rfl, rfl⟩
  · by_cases h2 : b < a
    · rw [show intc a b = 1 by unfold intc; rw [if_neg h1, if_pos h2]]
      go_enter Tryd.func54, Tryd.ntmps54
      go_wp2
      go_ret
      exact ⟨rfl, rfl⟩
    · rw [show intc a b = 0 by unfold intc; rw [if_neg h1, if_neg h2]]
      go_enter Tryd.func54, Tryd.ntmps54
      go_wp2
      go_ret
      exact ⟨rfl, rfl⟩
theorem str_less' : ∀ (a b : List UInt8), (strc a b = -1 ∧ Op.bytesLess a b = true ∧ Op.bytesLess b a = false ∧ (a == b) = false) ∨ (strc a b = 0 ∧ Op.bytesLess a b = false ∧ Op.bytesLess b a = false ∧ (a == b) = true) ∨ (strc a b = 1 ∧ Op.bytesLess a b = false ∧ Op.bytesLess b a = true ∧ (a == b) = false)
  | [], [] => .inr (.inl ⟨rfl, rfl, rfl, rfl⟩)
  | [], _ :: _ => .inl ⟨rfl, rfl, rfl, rfl⟩
  | _ :: _, [] => .inr (.inr ⟨rfl, rfl, rfl, rfl⟩)
  | x :: r, y :: t => by
    have ih := str_less' r t
    show (thn (intc x.toNat y.toNat) (strc r t) = -1 ∧ (decide (x < y) || x == y && Op.bytesLess r t) = true ∧ (decide (y < x) || y == x && Op.bytesLess t r) = false ∧ (x == y && r == t) = false) ∨ (thn (intc x.toNat y.toNat) (strc r t) = 0 ∧ (decide (x < y) || x == y && Op.bytesLess r t) = false ∧ (decide (y < x) || y == x && Op.bytesLess t r) = false ∧ (x == y && r == t) = true) ∨ (thn (intc x.toNat y.toNat) (strc r t) = 1 ∧ (decide (x < y) || x == y && Op.bytesLess r t) = false ∧ (decide (y < x) || y == x && Op.bytesLess t r) = true ∧ (x == y && r == t) = false)
    have lx : x < y ↔ x.toNat < y.toNat := UInt8.lt_iff_toNat_lt
    have ly : y < x ↔ y.toNat < x.toNat := UInt8.lt_iff_toNat_lt
    rcases Nat.lt_trichotomy x.toNat y.toNat with h | h | h
    · have ne : (x == y) = false := by rw [beq_eq_false_iff_ne]; intro e; rw [e] at h; omega
      have ne' : (y == x) = false := by rw [beq_eq_false_iff_ne]; intro e; rw [e] at h; omega
      refine .inl ⟨?_, ?_, ?_, ?_⟩
      · unfold thn intc; rw [if_pos (show (x.toNat : Int) < y.toNat by omega)]; rfl
      · rw [decide_eq_true (lx.2 h)]; rfl
      · rw [decide_eq_false (fun k => by have := ly.1 k; omega), ne']; rfl
      · rw [ne]; rfl
    · have e : x = y := UInt8.toNat_inj.1 h
      subst e
      have f : decide (x < x) = false := decide_eq_false (fun k => by have := lx.1 k; omega)
      have z : intc x.toNat x.toNat = 0 := intc_self _
      rw [f, z, thn_0, beq_self_eq_true, Bool.false_or, Bool.true_and, Bool.false_or, Bool.true_and, Bool.true_and]
      exact ih
    · have ne : (x == y) = false := by rw [beq_eq_false_iff_ne]; intro e; rw [e] at h; omega
      have ne' : (y == x) = false := by rw [beq_eq_false_iff_ne]; intro e; rw [e] at h; omega
      refine .inr (.inr ⟨?_, ?_, ?_, ?_⟩)
      · unfold thn intc; rw [if_neg (show ¬ (x.toNat : Int) < y.toNat by omega), if_pos (show (y.toNat : Int) < x.toNat by omega)]; rfl
      · rw [decide_eq_false (fun k => by have := lx.1 k; omega), ne]; rfl
      · rw [decide_eq_true (ly.2 h)]; rfl
      · rw [ne]; rfl
theorem lcmps_any (s t : ByteArray) (w : World) : Calls Tryd.prog 55 #[.string s, .string t] w fun e w' => e = .returned (.int .i64 (strc s.data.toList t.data.toList)) ∧ w' = w := by
  have k := str_less' s.data.toList t.data.toList
  rw [← ByteArray.toList_eq, ← ByteArray.toList_eq] at k ⊢
  have es : (s.toList == s.toList) = true := beq_self_eq_true _
  have et : (t.toList == t.toList) = true := beq_self_eq_true _
  rcases k with ⟨e, g1, g2, g3⟩ | ⟨e, g1, g2, g3⟩ | ⟨e, g1, g2, g3⟩
  all_goals
    rw [e]; clear e
    go_enter Tryd.func55, Tryd.ntmps55
    go_wp2
    go_ret
    exact ⟨rfl, rfl⟩


theorem cmpI (a b : Int) (w : World) : Calls Tryd.prog 54 #[.int .i64 a, .int .i64 b] w (PureI w (intc a b)) := (lcmpi_any a b w).mono fun _ _ ⟨he, hw⟩ => ⟨he, hw.symm⟩
theorem cmpS (s t : List UInt8) (w : World) : Calls Tryd.prog 55 #[.string (bs s), .string (bs t)] w (PureI w (strc s t)) := (lcmps_any (bs s) (bs t) w).mono fun _ _ ⟨he, hw⟩ => ⟨by rw [bs_data, bs_data] at he; exact he, hw.symm⟩
/-- The first that is not zero. -/
def orL : List Int → Int
  | [] => 0
  | x :: r => thn x (orL r)
theorem orL_step (l : List Int) (i : Nat) (h : i < l.length) : orL (l.drop i) = thn l[i] (orL (l.drop (i + 1))) := by
  rw [List.drop_eq_getElem_cons h]; rfl
theorem orL_end (l : List Int) (i : Nat) (h : l.length ≤ i) : orL (l.drop i) = 0 := by
  rw [List.drop_of_length_le h]; rfl
set_option maxHeartbeats 1600000 in
theorem or_any (l : List Int) (B cap : Nat) (w : World) (hl : l.length ≤ 1000) (hc : ∀ (i : Nat) (h : i < l.length), w.cell? ⟨B, i, none⟩ = some (.int .i64 l[i])) :
    Calls Tryd.prog 53 #[.slice (some ⟨B, 0, none⟩) l.length cap] w (PureI w (orL l)) := by
  have HC := Lib.hid hc
  clear hc
  go_enter Tryd.func53, Tryd.ntmps53
  go_wp2
  go_loop [8] (fun iv => ∃ i : Nat, iv = .int .i64 i ∧ i ≤ l.length ∧ Hid (orL l = orL (l.drop i))) (fun iv => l.length - (RowKit.intOf iv).toNat)
  case atStart => exact ⟨0, rfl, Nat.zero_le _, Lib.hid rfl⟩
  case round =>
    obtain ⟨i, rfl, hi, HN⟩ := hrel
    by_cases hlt : i < l.length
    · have c0 := HC.out i hlt
      have hs := orL_step l i hlt
      generalize l[i] = x at *
      by_cases hx : x = 0
      · subst hx
        have HD := Lib.hid (show orL l = orL (l.drop (i + 1)) by rw [HN.out, hs, thn_0])
        clear hs HN
        go_wp2
        go_round
        case rel => exact ⟨i + 1, by go_num, by omega, HD⟩
        case measure => simp [RowKit.intOf]; omega
      · have HD := Lib.hid (show orL l = x by rw [HN.out, hs, thn_n hx])
        clear hs HN
        go_wp2
        go_ret
        exact ⟨ret_int HD.out.symm, rfl⟩
    · have HD := Lib.hid (show orL l = 0 by rw [HN.out, orL_end l i (by omega)])
      clear HN
      go_wp2
      go_ret
      exact ⟨ret_int HD.out.symm, rfl⟩
theorem or6 (a b c d e f : Int) : orL [a, b, c, d, e, f] = thn a (thn b (thn c (thn d (thn e f)))) := by
  simp [orL, thn_r]
theorem or6_any (a b c d e f : Int) (B : Nat) (T : TypeId) (w : World) (h : Bk w B #[.int .i64 a, .int .i64 b, .int .i64 c, .int .i64 d, .int .i64 e, .int .i64 f] T) :
    Calls Tryd.prog 53 #[.slice (some ⟨B, 0, none⟩) 6 6] w (PureI w (thn a (thn b (thn c (thn d (thn e f)))))) := by
  rw [← or6]
  exact or_any [a, b, c, d, e, f] B 6 w (by simp) (fun i hi => by
    rw [h.c i]
    match i, hi with
    | 0, _ => rfl
    | 1, _ => rfl
    | 2, _ => rfl
    | 3, _ => rfl
    | 4, _ => rfl
    | 5, _ => rfl)
set_option maxHeartbeats 6400000 in
set_option maxRecDepth 100000 in
theorem ord_any (a b : Rl) (w : World) : Calls Tryd.prog 39 #[rlv a, rlv b] w (FwI w (ordR a b)) := by
  unfold rlv ordR
  obtain ⟨W, hW⟩ : ∃ W, (w.alloc (.cells (rlc a) 23)).alloc (.cells (rlc b) 23) = W := ⟨_, rfl⟩
  have p0 : BkR W w.heap.size a := by rw [← hW]; exact (BkR.new w a).on (fuwA _ _)
  have p1 : BkR W (w.heap.size + 1) b := by rw [← hW]; have q := BkR.new (w.alloc (.cells (rlc a) 23)) b; rwa [asz] at q
  have f0 : Fuw w W := by rw [← hW]; exact fuwA2 _ _ _
  unfold rlc at hW
  go_enter Tryd.func39, Tryd.ntmps39
  go_upto_region 1 with fail
  clear hW
  have HSS := Lib.hid (fun w' (ff : Fuw W w') => (show (w'.cell? ⟨w.heap.size, 0, none⟩ = some (.int .i64 a.kd) ∧ w'.cell? ⟨w.heap.size, 1, none⟩ = some (.int .i64 a.nn) ∧ w'.cell? ⟨w.heap.size, 2, none⟩ = some (.string (bs a.nm)) ∧ w'.cell? ⟨w.heap.size, 3, none⟩ = some (.string (bs a.ky)) ∧ w'.cell? ⟨w.heap.size, 4, none⟩ = some (.string (bs a.fr)) ∧ w'.cell? ⟨w.heap.size, 5, none⟩ = some (.string (bs a.tt))) ∧ (w'.cell? ⟨w.heap.size + 1, 0, none⟩ = some (.int .i64 b.kd) ∧ w'.cell? ⟨w.heap.size + 1, 1, none⟩ = some (.int .i64 b.nn) ∧ w'.cell? ⟨w.heap.size + 1, 2, none⟩ = some (.string (bs b.nm)) ∧ w'.cell? ⟨w.heap.size + 1, 3, none⟩ = some (.string (bs b.ky)) ∧ w'.cell? ⟨w.heap.size + 1, 4, none⟩ = some (.string (bs b.fr)) ∧ w'.cell? ⟨w.heap.size + 1, 5, none⟩ = some (.string (bs b.tt))) from
    ⟨⟨(p0.on ff).c0, (p0.on ff).c1, (p0.on ff).c2, (p0.on ff).c3, (p0.on ff).c4, (p0.on ff).c5⟩, (p1.on ff).c0, (p1.on ff).c1, (p1.on ff).c2, (p1.on ff).c3, (p1.on ff).c4, (p1.on ff).c5⟩))
  have F0 := Lib.hid f0
  clear p0 p1 f0
  have ff : Fuw W W.drew := Fuw.drew (Fuw.refl W)
  go_region_held3 (fun w' => (w'.cell? ⟨w.heap.size, 0, none⟩ = some (.int .i64 a.kd) ∧ w'.cell? ⟨w.heap.size, 1, none⟩ = some (.int .i64 a.nn) ∧ w'.cell? ⟨w.heap.size, 2, none⟩ = some (.string (bs a.nm)) ∧ w'.cell? ⟨w.heap.size, 3, none⟩ = some (.string (bs a.ky)) ∧ w'.cell? ⟨w.heap.size, 4, none⟩ = some (.string (bs a.fr)) ∧ w'.cell? ⟨w.heap.size, 5, none⟩ = some (.string (bs a.tt))) ∧ (w'.cell? ⟨w.heap.size + 1, 0, none⟩ = some (.int .i64 b.kd) ∧ w'.cell? ⟨w.heap.size + 1, 1, none⟩ = some (.int .i64 b.nn) ∧ w'.cell? ⟨w.heap.size + 1, 2, none⟩ = some (.string (bs b.nm)) ∧ w'.cell? ⟨w.heap.size + 1, 3, none⟩ = some (.string (bs b.ky)) ∧ w'.cell? ⟨w.heap.size + 1, 4, none⟩ = some (.string (bs b.fr)) ∧ w'.cell? ⟨w.heap.size + 1, 5, none⟩ = some (.string (bs b.tt))))
    (first | (with_reducible exact HSS.out _ ff) | (with_reducible exact HSS.out _ (ff.trans (fuwA _ _))))
    (first
      | (go_at_call 54; refine (cmpI _ _ _).mono ?_; rintro g1 v1 ⟨rfl, rfl⟩)
      | (go_at_call 55; refine (cmpS _ _ _).mono ?_; rintro g2 v2 ⟨rfl, rfl⟩)
      | (go_at_call 53; refine (or6_any _ _ _ _ _ _ W.heap.size _ _ (by first | exact Bk.new W.drew _ _ | exact Bk.new W _ _)).mono ?_; rintro g3 v3 ⟨rfl, rfl⟩))
  all_goals
    go_wp2
    go_ret
    exact ⟨rfl, F0.out.trans (ff.trans (fuwA _ _))⟩
end Go.Proofs.YtadnaakbhgacgaaDoor
