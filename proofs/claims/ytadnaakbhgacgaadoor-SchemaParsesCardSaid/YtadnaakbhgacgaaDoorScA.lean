/-
  Package graph: which strings are names; package schema: the shapes of rules, what is wrong with a rule (Check). Nothing that was there turns.
-/
import Derived.Test.YtadnaakbhgacgaaDoorScMem
import Derived.Test.YtadnaakbhgacgaaDoorScT
namespace Go.Proofs.YtadnaakbhgacgaaDoor
open Go.RowKit

theorem let_any (c : UInt8) (w : World) : Calls Tryd.prog 47 #[.int .u8 (c.toNat : Int)] w (PureB w (letV c)) := by
  have hc := c.toNat_lt
  have HL := Lib.hid (show letV c = ((decide (97 ≤ c.toNat) && decide (c.toNat ≤ 122)) || (decide (65 ≤ c.toNat) && decide (c.toNat ≤ 90))) from rfl)
  generalize letV c = L at *
  go_enter Tryd.func47, Tryd.ntmps47
  go_wp2
  all_goals
    go_ret
    exact ⟨ret_bool (by rw [HL.out, Bool.eq_iff_iff]; simp; omega), rfl⟩
theorem dig_any (c : UInt8) (w : World) : Calls Tryd.prog 48 #[.int .u8 (c.toNat : Int)] w (PureB w (digV c)) := by
  have hc := c.toNat_lt
  have HL := Lib.hid (show digV c = (decide (48 ≤ c.toNat) && decide (c.toNat ≤ 57)) from rfl)
  generalize digV c = L at *
  go_enter Tryd.func48, Tryd.ntmps48
  go_wp2
  all_goals
    go_ret
    exact ⟨ret_bool (by rw [HL.out, Bool.eq_iff_iff]; simp; omega), rfl⟩
theorem nbyte (s : ByteArray) (k : Nat) (h : k < s.size) : s.data.toList.drop k = s[k] :: s.data.toList.drop (k + 1) := by
  rw [List.drop_eq_getElem_cons (by simpa using h)]
  rfl
theorem name_0 : nameV [] = false := rfl
theorem name_long {s : ByteArray} (h : 20 < s.size) : nameV s.data.toList = false := by
  unfold nameV
  rw [Array.length_toList, decide_eq_false (show ¬ s.data.size ≤ 20 from by have : s.data.size = s.size := rfl; omega)]
  simp
theorem name_first {s : ByteArray} (h0 : 0 < s.size) (h : letV s[0] = false) : nameV s.data.toList = false := by
  have e := nbyte s 0 h0
  rw [List.drop_zero] at e
  unfold nameV
  rw [show s.data.toList.headD 0 = s[0] by rw [e]; rfl, h]
  simp
theorem name_rest {s : ByteArray} (h0 : 0 < s.size) (hl : s.size ≤ 20) (h : letV s[0] = true) : nameV s.data.toList = (s.data.toList.drop 0).all chrV := by
  have e := nbyte s 0 h0
  rw [List.drop_zero] at e
  unfold nameV
  rw [Array.length_toList, decide_eq_true (show s.data.size ≤ 20 from hl), show s.data.toList.headD 0 = s[0] by rw [e]; rfl, h, show s.data.toList.isEmpty = false by rw [e]; rfl, List.drop_zero]
  simp
theorem name_rest1 {s : ByteArray} (h0 : 0 < s.size) (hl : s.size ≤ 20) (h : letV s[0] = true) : nameV s.data.toList = (s.data.toList.drop 1).all chrV := by
  rw [name_rest h0 hl h, nbyte s 0 h0, List.all_cons, chr_let h, Bool.true_and]
theorem chr_step (s : ByteArray) (i : Nat) (h : i < s.size) : (s.data.toList.drop i).all chrV = (chrV s[i] && (s.data.toList.drop (i + 1)).all chrV) := by rw [nbyte s i h]; rfl
theorem chr_end (s : ByteArray) (i : Nat) (h : s.size ≤ i) : (s.data.toList.drop i).all chrV = true := by
  rw [List.drop_of_length_le (by rw [Array.length_toList]; exact h)]; rfl

theorem ne_list {s : ByteArray} (h : 0 < s.size) : ¬ s.toList = [] := by
  rw [toL]; intro e
  have : s.data.toList.length = 0 := by rw [e]; rfl
  rw [Array.length_toList] at this
  have : s.data.size = s.size := rfl
  omega
theorem ne_empty {s : ByteArray} (h : 0 < s.size) : s.toList.isEmpty = false := by
  have := ne_list h
  cases e : s.toList with
  | nil => exact absurd e this
  | cons _ _ => rfl
theorem empty_of {s : ByteArray} (h : s.size = 0) : s = ⟨#[]⟩ := by
  cases s with | mk d =>
  have : d.size = 0 := h
  rw [Array.eq_empty_of_size_eq_zero this]

set_option maxHeartbeats 3200000 in
set_option maxRecDepth 100000 in
theorem name_any (s : ByteArray) (w : World) (hs : s.size ≤ maxLen) : Calls Tryd.prog 27 #[.string s] w (PureB w (nameV s.data.toList)) := by
  unfold maxLen at hs
  rcases Nat.eq_zero_or_pos s.size with h0 | h0
  · obtain rfl := empty_of h0
    clear h0
    go_enter Tryd.func27, Tryd.ntmps27
    go_wp2
    go_ret
    exact ⟨rfl, rfl⟩
  · have e1 := ne_list h0
    have e2 := ne_empty h0
    by_cases hl : 20 < s.size
    · have HE := Lib.hid (name_long hl)
      have hl' : 20 < (s.size : Int) := by omega
      clear hl
      go_enter Tryd.func27, Tryd.ntmps27
      go_wp2
      go_ret
      exact ⟨ret_bool HE.out.symm, rfl⟩
    · have hl' : ¬ 20 < (s.size : Int) := by omega
      have h0' : 0 < (s.size : Int) := by omega
      cases hf : letV s[0] with
      | false =>
        have HE := Lib.hid (name_first h0 hf)
        go_enter Tryd.func27, Tryd.ntmps27
        go_wp2_with (go_at_call 47; refine (let_any _ _).mono ?_; rintro e w' ⟨rfl, rfl⟩)
        go_ret
        exact ⟨ret_bool HE.out.symm, rfl⟩
      | true =>
        have HE := Lib.hid (name_rest h0 (by omega) hf)
        go_enter Tryd.func27, Tryd.ntmps27
        go_wp2_with (go_at_call 47; refine (let_any _ _).mono ?_; rintro e w' ⟨rfl, rfl⟩)
        clear hf
        go_loop [19] (fun iv => ∃ i : Nat, iv = .int .i64 i ∧ i ≤ s.size ∧ Hid (nameV s.data.toList = (s.data.toList.drop i).all chrV)) (fun iv => s.size - (RowKit.intOf iv).toNat)
        case atStart => exact ⟨0, rfl, Nat.zero_le _, HE.out⟩
        case round =>
          obtain ⟨i, rfl, hi, HN⟩ := hrel
          by_cases hlt : i < s.size
          · have hA := chr_step s i hlt
            have HU := Lib.hid (show chrV s[i] = (letV s[i] || digV s[i] || decide (s[i].toNat = 95)) from rfl)
            have HC := Lib.hid (HN.out.trans hA)
            clear hA HN HE
            have hB : (((s[i].toNat : Int)) != 95) = true ∨ (s[i].toNat : Int) = 95 := by
              by_cases g : (s[i].toNat : Int) = 95
              · exact .inr g
              · exact .inl (by simpa using g)
            cases hL : letV s[i] with
            | true =>
              have HD := Lib.hid (show nameV s.data.toList = (s.data.toList.drop (i + 1)).all chrV by rw [HC.out, HU.out, hL]; rfl)
              clear hB
              go_wp2_with (go_at_call 47; refine (let_any _ _).mono ?_; rintro e w' ⟨rfl, rfl⟩)
              go_round
              case rel => exact ⟨i + 1, by go_num, by omega, HD.out⟩
              case measure => simp [RowKit.intOf]; omega
            | false =>
              cases hD : digV s[i] with
              | true =>
                have HD := Lib.hid (show nameV s.data.toList = (s.data.toList.drop (i + 1)).all chrV by rw [HC.out, HU.out, hL, hD]; rfl)
                clear hB
                go_wp2_with (first | (go_at_call 47; refine (let_any _ _).mono ?_; rintro e w' ⟨rfl, rfl⟩) | (go_at_call 48; refine (dig_any _ _).mono ?_; rintro e w' ⟨rfl, rfl⟩))
                go_round
                case rel => exact ⟨i + 1, by go_num, by omega, HD.out⟩
                case measure => simp [RowKit.intOf]; omega
              | false =>
                rcases hB with hB | hB
                · have HD := Lib.hid (show nameV s.data.toList = false by
                    have h95 : decide (s[i].toNat = 95) = false := by
                      have : ¬ ((s[i].toNat : Int)) = 95 := by simpa using hB
                      exact decide_eq_false (by omega)
                    rw [HC.out, HU.out, hL, hD, h95]; rfl)
                  go_wp2_with (first | (go_at_call 47; refine (let_any _ _).mono ?_; rintro e w' ⟨rfl, rfl⟩) | (go_at_call 48; refine (dig_any _ _).mono ?_; rintro e w' ⟨rfl, rfl⟩))
                  go_ret
                  exact ⟨ret_bool HD.out.symm, rfl⟩
                · have HD := Lib.hid (show nameV s.data.toList = (s.data.toList.drop (i + 1)).all chrV by
                    rw [HC.out, HU.out, hL, hD, decide_eq_true (show s[i].toNat = 95 by omega)]; rfl)
                  have hB' : ((s[i].toNat : Int) != 95) = false := by rw [hB]; rfl
                  clear hB
                  go_wp2_with (first | (go_at_call 47; refine (let_any _ _).mono ?_; rintro e w' ⟨rfl, rfl⟩) | (go_at_call 48; refine (dig_any _ _).mono ?_; rintro e w' ⟨rfl, rfl⟩))
                  go_round
                  case rel => exact ⟨i + 1, by go_num, by omega, HD.out⟩
                  case measure => simp [RowKit.intOf]; omega
          · have HD := Lib.hid (show nameV s.data.toList = true by rw [HN.out, chr_end s i (by omega)])
            clear HN HE
            go_wp2
            go_ret
            exact ⟨ret_bool HD.out.symm, rfl⟩

theorem emp_t {s : ByteArray} (h : s.toList.isEmpty = true) : s = ⟨#[]⟩ := by
  rw [toL, List.isEmpty_iff] at h
  exact empty_of (by have : s.data.toList.length = 0 := by rw [h]; rfl
                     rw [Array.length_toList] at this; exact this)
theorem emp_f {s : ByteArray} (h : s.toList.isEmpty = false) : 0 < s.size := by
  rcases Nat.eq_zero_or_pos s.size with k | k
  · rw [empty_of k] at h; exact absurd h (by rw [toL]; decide)
  · exact k
/-- The cells of the shape of rules of a kind. -/
def shp (k : Int) : Array Value := #[.string (bs (hdW k)), .bool (keyK k), .bool (k == 6), .bool (kindK k), .bool (k == 7)]
theorem load_sh (w : World) (b : Nat) (s : ByteArray) (b1 b2 b3 b4 : Bool) (h0 : w.cell? ⟨b, 0, none⟩ = some (.string s)) (h1 : w.cell? ⟨b, 1, none⟩ = some (.bool b1)) (h2 : w.cell? ⟨b, 2, none⟩ = some (.bool b2)) (h3 : w.cell? ⟨b, 3, none⟩ = some (.bool b3)) (h4 : w.cell? ⟨b, 4, none⟩ = some (.bool b4)) :
    (loadVar 41 ⟨b, 0, none⟩).run Tryd.prog w = .ok (.agg #[.string s, .bool b1, .bool b2, .bool b3, .bool b4]) w := by
  go_simp
theorem s_ret {fn : Func} {p u : Tmp} (hres : fn.results = #[.cell p 41, .tmp u]) {tmps : Array Value} {B : Nat} {s : ByteArray} {b1 b2 b3 b4 : Bool} {c : Bool} {w : World} {t : TypeId} {Q : Ending → World → Prop}
    (hp : tmps.getD p undef = .pointer (some ⟨B, 0, none⟩)) (hu : tmps.getD u undef = .bool c) (h : Bk w B #[.string s, .bool b1, .bool b2, .bool b3, .bool b4] t)
    (hQ : Q (.returned (.tuple #[.agg #[.string s, .bool b1, .bool b2, .bool b3, .bool b4], .bool c])) w) : bodyPost Tryd.prog fn Q Exit.ret { tmps := tmps, defers := [] } w := by
  refine bodyPost_ret (v := .tuple #[.agg #[.string s, .bool b1, .bool b2, .bool b3, .bool b4], .bool c]) ?_ rfl hQ
  rw [results_cell_tmp hres, hp, hu]
  have e : (asAddr (.pointer (some ⟨B, 0, none⟩))).run Tryd.prog w = .ok ⟨B, 0, none⟩ w := by go_simp
  rw [e]
  simp only [Result.andThen]
  rw [load_sh w B s b1 b2 b3 b4 (h.c 0) (h.c 1) (h.c 2) (h.c 3) (h.c 4)]
theorem bk_put5 {w : World} {B : Nat} {a0 a1 a2 a3 a4 : Value} {t : TypeId} (h : Bk w B #[a0, a1, a2, a3, a4] t) (b0 b1 b2 b3 b4 : Value) : Bk (((((w.setCell ⟨B, 0, none⟩ b0).setCell ⟨B, 1, none⟩ b1).setCell ⟨B, 2, none⟩ b2).setCell ⟨B, 3, none⟩ b3).setCell ⟨B, 4, none⟩ b4) B #[b0, b1, b2, b3, b4] t :=
  ((((h.set_ 0 b0).set_ 1 b1).set_ 2 b2).set_ 3 b3).set_ 4 b4
theorem fuw_put5 {w W : World} {B : Nat} (hf : Fuw w W) (hB : w.heap.size ≤ B) (b0 b1 b2 b3 b4 : Value) : Fuw w (((((W.setCell ⟨B, 0, none⟩ b0).setCell ⟨B, 1, none⟩ b1).setCell ⟨B, 2, none⟩ b2).setCell ⟨B, 3, none⟩ b3).setCell ⟨B, 4, none⟩ b4) := fuwS (fuwS (fuwS (fuwS (fuwS hf hB) hB) hB) hB) hB
def RetS (w : World) (k : Int) (e : Ending) (w' : World) : Prop := e = .returned (.tuple #[.agg (shp k), .bool (isK k)]) ∧ Fuw w w'
theorem notK {k : Int} (h : isK k = false) : hdW k = [] ∧ keyK k = false ∧ (k == 6) = false ∧ kindK k = false ∧ (k == 7) = false ∧ k ≠ 1 ∧ k ≠ 2 ∧ k ≠ 3 ∧ k ≠ 4 ∧ k ≠ 5 ∧ k ≠ 6 ∧ k ≠ 7 := by
  have h' : ¬ (1 ≤ k ∧ k ≤ 7) := by
    intro g
    unfold isK at h
    rw [decide_eq_true g.1, decide_eq_true g.2] at h
    cases h
  refine ⟨?_, ?_, ?_, ?_, ?_, ?_, ?_, ?_, ?_, ?_, ?_, ?_⟩
  · unfold hdW
    rw [if_neg (by omega), if_neg (by omega), if_neg (by omega), if_neg (by omega), if_neg (by omega), if_neg (by omega), if_neg (by omega)]
  · unfold keyK
    rw [Bool.and_eq_false_iff, decide_eq_false_iff_not, decide_eq_false_iff_not]; omega
  · rw [beq_eq_false_iff_ne]; omega
  · unfold kindK
    rw [Bool.or_eq_false_iff, beq_eq_false_iff_ne, beq_eq_false_iff_ne]; omega
  · rw [beq_eq_false_iff_ne]; omega
  all_goals omega
set_option maxHeartbeats 3200000 in
set_option maxRecDepth 100000 in
theorem shape_any (k : Int) (w : World) : Calls Tryd.prog 24 #[.int .i64 k] w (RetS w k) := by
  unfold RetS shp
  obtain ⟨W, hW⟩ : ∃ W, w.alloc (.cells #[.string ⟨#[]⟩, .bool false, .bool false, .bool false, .bool false] 41) = W := ⟨_, rfl⟩
  have p0 : Bk W w.heap.size #[.string ⟨#[]⟩, .bool false, .bool false, .bool false, .bool false] 41 := by rw [← hW]; exact Bk.new _ _ _
  have f0 : Fuw w W := by rw [← hW]; exact fuwA _ _
  have z0 := p0.f 0; have z1 := p0.f 1; have z2 := p0.f 2; have z3 := p0.f 3; have z4 := p0.f 4
  have c0 : W.cell? ⟨w.heap.size, 0, none⟩ = some (.string ⟨#[]⟩) := p0.c 0
  have c1 : W.cell? ⟨w.heap.size, 1, none⟩ = some (.bool false) := p0.c 1
  have c2 : W.cell? ⟨w.heap.size, 2, none⟩ = some (.bool false) := p0.c 2
  have c3 : W.cell? ⟨w.heap.size, 3, none⟩ = some (.bool false) := p0.c 3
  have c4 : W.cell? ⟨w.heap.size, 4, none⟩ = some (.bool false) := p0.c 4
  have P := Lib.hid p0
  have F := Lib.hid f0
  clear p0 f0
  cases hk : isK k with
  | false =>
    obtain ⟨e1, e2, e3, e4, e5, n1, n2, n3, n4, n5, n6, n7⟩ := notK hk
    rw [e1, e2, e3, e4, e5]
    clear e1 e2 e3 e4 e5 hk
    go_enter Tryd.func24, Tryd.ntmps24
    go_upto_region 1 with fail
    clear hW
    go_wp2
    exact s_ret rfl rfl rfl (bk_put5 P.out _ _ _ _ _) ⟨rfl, fuw_put5 F.out (Nat.le_refl _) _ _ _ _ _⟩
  | true =>
    rcases isK_cases hk with rfl | rfl | rfl | rfl | rfl | rfl | rfl
    all_goals
      clear hk
      go_enter Tryd.func24, Tryd.ntmps24
      go_upto_region 1 with fail
      clear hW
      go_wp2
      exact s_ret rfl rfl rfl (bk_put5 P.out _ _ _ _ _) ⟨rfl, fuw_put5 F.out (Nat.le_refl _) _ _ _ _ _⟩
end Go.Proofs.YtadnaakbhgacgaaDoor
