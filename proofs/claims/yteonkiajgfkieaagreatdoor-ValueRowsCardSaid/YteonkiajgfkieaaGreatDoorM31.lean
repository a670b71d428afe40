/-
  RvJ; RvK: texts of one kind in one file; each part says what it holds.
-/
import Derived.Test.YteonkiajgfkieaaGreatDoorM26
import Derived.Test.YteonkiajgfkieaaGreatDoorM30
import Derived.Laws.Cover1

/-! The reference of package value: Weigh of every value in memory: what is left of a budget. Nothing that was there turns. -/
namespace Go.Proofs.YteonkiajgfkieaaGreatDoor
open Go.RowKit

/-- What is left of a budget behind a value. -/
def weiV : Nat → Vl → Int → Int
  | 0, _, _ => -1
  | m + 1, x, a => x.ll.foldl (fun a y => if a < 0 then a else weiV m y a) (a - 1 - ((x.ss.length / 50 : Nat) : Int))
/-- .. behind values. -/
def weiL (m : Nat) (l : List Vl) (a : Int) : Int := l.foldl (fun a y => if a < 0 then a else weiV m y a) a
theorem weiV_s (m : Nat) (x : Vl) (a : Int) : weiV (m + 1) x a = weiL m x.ll (a - 1 - ((x.ss.length / 50 : Nat) : Int)) := rfl
theorem weiL_neg (m : Nat) : ∀ (l : List Vl) {a : Int} (_ : a < 0), weiL m l a = a
  | [], _, _ => rfl
  | y :: r, a, h => by
    show weiL m r (if a < 0 then a else weiV m y a) = a
    rw [if_pos h]; exact weiL_neg m r h
theorem weiL_cons (m : Nat) (y : Vl) (r : List Vl) {a : Int} (h : 0 ≤ a) : weiL m (y :: r) a = weiL m r (weiV m y a) := by
  show weiL m r (if a < 0 then a else weiV m y a) = _
  rw [if_neg (by omega)]
mutual
theorem weiV_lt : ∀ (m : Nat) (x : Vl) {a : Int} (_ : 0 ≤ a), weiV m x a < a
  | 0, _, a, h => by show (-1 : Int) < a; omega
  | m + 1, x, a, h => by
    rw [weiV_s]
    have := weiL_le m x.ll (a - 1 - ((x.ss.length / 50 : Nat) : Int))
    omega
theorem weiL_le : ∀ (m : Nat) (l : List Vl) (a : Int), weiL m l a ≤ a
  | m, [], a => Int.le_refl _
  | m, y :: r, a => by
    by_cases h : a < 0
    · rw [weiL_neg m _ h]; exact Int.le_refl _
    · rw [weiL_cons m y r (by omega)]
      have k1 := weiL_le m r (weiV m y a)
      have k2 := weiV_lt m y (a := a) (by omega)
      omega
end
def WP (m : Nat) : Prop := ∀ (x : Vl) (ao : Option Addr) (cap : Nat) (a : Int) (w : World), 0 ≤ a → a ≤ 1000000 → Vin x → SlV w ao x.ll cap → Calls Tryz.prog 13 #[vlv x ao cap, .int .i64 a, .int .i64 (m : Int)] w (RetI w (weiV m x a))
theorem rweigh_0 : WP 0 := fun x ao cap a w h0 h1 hi hs => by
  obtain ⟨p0, f0⟩ := bx1 w x ao cap
  have hl := hi.s
  unfold maxLen at hl
  have hz : (bs x.ss).size = x.ss.length := by simp [bs, ByteArray.size]
  show Calls _ _ _ _ (RetI w (-1))
  clear hs hi
  unfold vlv at *
  go_enter Tryz.func13, Tryz.ntmps13
  go_wp2
  go_ret
  exact ⟨rfl, f0⟩
theorem weiL_drop (m : Nat) (l : List Vl) (i : Nat) (h : i < l.length) {a : Int} (ha : 0 ≤ a) : weiL m (l.drop i) a = weiL m (l.drop (i + 1)) (weiV m l[i] a) := by
  rw [List.drop_eq_getElem_cons h, weiL_cons m _ _ ha]
set_option maxHeartbeats 3200000 in
set_option maxRecDepth 100000 in
theorem rweigh_s (m : Nat) (hm : m < 1000) (hw : WP m) : WP (m + 1) := fun x ao cap a w h0 h1 hi hs => by
  obtain ⟨p0, f0⟩ := bx1 w x ao cap
  have hl := hi.s
  unfold maxLen at hl
  have hz : (bs x.ss).size = x.ss.length := by simp [bs, ByteArray.size]
  have hll := hs.le
  have hlm := hs.max
  unfold maxLen at hlm
  have HS := Lib.hid (hs.on f0)
  have HW := Lib.hid hw
  have e := Lib.hid (weiV_s m x a)
  clear hs hi hw
  generalize weiV (m + 1) x a = W at *
  rw [show ((m + 1 : Nat) : Int) = (m : Int) + 1 by omega]
  unfold vlv
  obtain ⟨w0, hw0⟩ : ∃ w0, w0 = w.alloc (.cells #[.int .i64 x.kd, .int .i64 x.nn, .int .i64 x.dd, .string (bs x.ss), .slice ao x.ll.length cap] 34) := ⟨_, rfl⟩
  rw [← hw0] at p0 f0 HS
  have HW0 := Lib.hid hw0
  clear hw0
  go_enter Tryz.func13, Tryz.ntmps13
  go_wp2
  go_loopw [1, 7] (fun lv iv wr => ∃ (c : Int) (i : Nat), lv = .int .i64 c ∧ iv = .int .i64 i ∧ i ≤ x.ll.length ∧ c ≤ a ∧ Hid (W = weiL m (x.ll.drop i) c) ∧ Fur w0 wr) (fun _ iv _ => x.ll.length - (RowKit.intOf iv).toNat)
  case atStart =>
    refine ⟨a - 1 - ((x.ss.length / 50 : Nat) : Int), 0, congrArg (Value.int .i64) ?_, rfl, Nat.zero_le _, by omega, e.out, ?_⟩
    · omega
    · rw [HW0.out]; exact Fur.refl _
  case round =>
    obtain ⟨c, i, rfl, rfl, hi, hc, HN, hf⟩ := hrel
    have c4 := (p0.on hf).c4
    by_cases hc0 : 0 ≤ c
    · by_cases hlt : i < x.ll.length
      · obtain ⟨b, o, rfl, hv⟩ := (HS.out.on hf).get hlt
        have hA := weiL_drop m x.ll i hlt hc0
        obtain ⟨hy, d0, d1, d2, d3, ao', cap', d4, hs2⟩ := VC_of hv
        have HC := Lib.hid (HW.out x.ll[i] ao' cap' c wr hc0 (by omega) hy hs2)
        have hlw := weiV_lt m x.ll[i] hc0
        have HE := Lib.hid (HN.out.trans hA)
        unfold vlv at HC
        clear hv hs2 hy hA
        generalize x.ll[i] = y at *
        generalize weiV m y c = r at *
        go_wp2_with fail
        go_at_call 13
        refine (HC.out).mono ?_; rintro e1 w1 ⟨rfl, f1⟩
        go_wp2
        go_roundw
        case rel => exact ⟨r, i + 1, rfl, by go_num, by omega, by omega, HE.out, hf.trans f1⟩
        case measure => simp [RowKit.intOf]; omega
      · have HE := Lib.hid (show W = c by rw [HN.out, List.drop_of_length_le (by omega)]; rfl)
        go_wp2
        go_ret
        exact ⟨ret_int HE.out.symm, f0.trans hf⟩
    · have HE := Lib.hid (show W = c by rw [HN.out, weiL_neg _ _ (by omega)])
      by_cases hlt : i < x.ll.length
      · go_wp2
        go_ret
        exact ⟨ret_int HE.out.symm, f0.trans hf⟩
      · go_wp2
        go_ret
        exact ⟨ret_int HE.out.symm, f0.trans hf⟩
theorem rweigh_any : ∀ m, m < 1000 → WP m
  | 0, _ => rweigh_0
  | m + 1, h => rweigh_s m (by omega) (rweigh_any m (by omega))

/-! Light. -/
/-- A slice of rows. -/
structure RsV (w : World) (ao : Option Addr) (rows : List (List Vl)) (cap : Nat) : Prop where
  le : rows.length ≤ cap
  max : cap ≤ maxLen
  nil : ao = none → cap = 0
  at_ : 0 < rows.length → ∃ b o, ao = some ⟨b, o, none⟩ ∧ ∀ (j : Nat) (h : j < rows.length), ∃ a c, w.cell? ⟨b, o + j, none⟩ = some (.slice a rows[j].length c) ∧ SlV w a rows[j] c
theorem RsV.on {w w' : World} {ao : Option Addr} {rows : List (List Vl)} {cap : Nat} (h : RsV w ao rows cap) (hf : Fur w w') : RsV w' ao rows cap :=
  ⟨h.le, h.max, h.nil, fun hp => by
    obtain ⟨b, o, e, hc⟩ := h.at_ hp
    refine ⟨b, o, e, fun j hj => ?_⟩
    obtain ⟨a, c, h1, h2⟩ := hc j hj
    exact ⟨a, c, cellOn hf h1, h2.on hf⟩⟩
theorem RsV.onw {w w' : World} {ao : Option Addr} {rows : List (List Vl)} {cap : Nat} (h : RsV w ao rows cap) (hf : Fuw w w') : RsV w' ao rows cap :=
  ⟨h.le, h.max, h.nil, fun hp => by
    obtain ⟨b, o, e, hc⟩ := h.at_ hp
    refine ⟨b, o, e, fun j hj => ?_⟩
    obtain ⟨a, c, h1, h2⟩ := hc j hj
    exact ⟨a, c, cellOnw hf h1, h2.onw hf⟩⟩
/-- What is left of a budget behind rows. -/
def ligV (rows : List (List Vl)) (a : Int) : Int := rows.foldl (fun a r => if a < 0 then a else weiL 12 r (a - 1)) a
theorem ligV_neg : ∀ (rows : List (List Vl)) {a : Int} (_ : a < 0), ligV rows a = a
  | [], _, _ => rfl
  | y :: r, a, h => by
    show ligV r (if a < 0 then a else weiL 12 y (a - 1)) = a
    rw [if_pos h]; exact ligV_neg r h
theorem ligV_drop (rows : List (List Vl)) (i : Nat) (h : i < rows.length) {a : Int} (ha : 0 ≤ a) : ligV (rows.drop i) a = ligV (rows.drop (i + 1)) (weiL 12 rows[i] (a - 1)) := by
  rw [List.drop_eq_getElem_cons h]
  show ligV _ (if a < 0 then a else weiL 12 _ (a - 1)) = _
  rw [if_neg (by omega)]
theorem ligV_le : ∀ (rows : List (List Vl)) (a : Int), ligV rows a ≤ a
  | [], a => Int.le_refl _
  | y :: r, a => by
    by_cases h : a < 0
    · rw [ligV_neg _ h]; exact Int.le_refl _
    · show ligV r (if a < 0 then a else weiL 12 y (a - 1)) ≤ a
      rw [if_neg h]
      have k1 := ligV_le r (weiL 12 y (a - 1))
      have k2 := weiL_le 12 y (a - 1)
      omega
set_option maxHeartbeats 6400000 in
set_option maxRecDepth 100000 in
theorem rlight_any (rows : List (List Vl)) (a : Int) (a0 : 0 ≤ a) (a1 : a ≤ 1000) (ao : Option Addr) (cap : Nat) (w : World) (hs : RsV w ao rows cap) :
    Calls Tryz.prog 4 #[.slice ao rows.length cap, .int .i64 a] w (RetB w (decide (0 ≤ ligV rows a))) := by
  have HS := Lib.hid hs
  have HW := Lib.hid (rweigh_any 12 (by decide))
  have h1 := hs.le
  have h2 := hs.max
  unfold maxLen at h2
  have HL := Lib.hid (show ligV rows a ≤ a from ligV_le rows a)
  have e := Lib.hid (show ligV rows a = ligV (rows.drop 0) a from rfl)
  clear hs
  generalize ligV rows a = R at *
  go_enter Tryz.func4, Tryz.ntmps4
  go_wp2
  go_loopw [1, 5] (fun mv iv wr => ∃ (c : Int) (i : Nat), mv = .int .i64 c ∧ iv = .int .i64 i ∧ i ≤ rows.length ∧ c ≤ a ∧ Hid (R = ligV (rows.drop i) c) ∧ Fur w wr) (fun _ iv _ => rows.length - (RowKit.intOf iv).toNat)
  case atStart => exact ⟨a, 0, rfl, rfl, Nat.zero_le _, Int.le_refl _, e.out, Fur.refl _⟩
  case round =>
    obtain ⟨c, i, rfl, rfl, hi, hc, HN, hf⟩ := hrel
    by_cases hlt : i < rows.length
    · by_cases hc0 : 0 ≤ c
      · obtain ⟨b, o, rfl, hat⟩ := (HS.out.on hf).at_ (by omega)
        obtain ⟨ra, rc, cr, hsr⟩ := hat i hlt
        have hrl := hsr.le
        have hrm := hsr.max
        unfold maxLen at hrm
        have HE := Lib.hid (HN.out.trans (ligV_drop rows i hlt hc0))
        have HSR := Lib.hid hsr
        have wc : IntKind.i64.wrap (c - 1) = c - 1 := IntWalk.i64_in _ (by omega)
        clear hat hsr HN
        generalize rows[i] = row at *
        have HQ := Lib.hid (show weiL 12 row (c - 1) = weiL 12 (row.drop 0) (c - 1) from rfl)
        generalize weiL 12 row (c - 1) = T at *
        go_wp2
        go_loopw [1, 6] (fun mv kv wr2 => ∃ (g : Int) (k : Nat), mv = .int .i64 g ∧ kv = .int .i64 k ∧ k ≤ row.length ∧ g ≤ a ∧ Hid (T = weiL 12 (row.drop k) g) ∧ Fur wr wr2) (fun _ kv _ => row.length - (RowKit.intOf kv).toNat)
        case atStart => exact ⟨c - 1, 0, rfl, rfl, Nat.zero_le _, by omega, HQ.out, Fur.refl _⟩
        case round =>
          obtain ⟨g, k, rfl, rfl, hk, hg, HM, hf2⟩ := hrel
          have cr2 := cellOn hf2 cr
          clear cr wc
          by_cases hlt2 : k < row.length
          · by_cases hg0 : 0 ≤ g
            · obtain ⟨b2, o2, rfl, hv⟩ := (HSR.out.on hf2).get hlt2
              obtain ⟨hy, d0, d1, d2, d3, ao', cap', d4, hs2⟩ := VC_of hv
              have HC := Lib.hid (HW.out row[k] ao' cap' g _ hg0 (by omega) hy hs2)
              have hlw := weiV_lt 12 row[k] hg0
              have HM2 := Lib.hid (HM.out.trans (weiL_drop 12 row k hlt2 hg0))
              unfold vlv at HC
              clear hv hs2 hy HM
              generalize row[k] = y at *
              generalize weiV 12 y g = r at *
              go_wp2_with fail
              go_at_call 13
              refine (HC.out).mono ?_; rintro e1 w1 ⟨rfl, f1⟩
              go_wp2
              go_roundw
              case rel => exact ⟨r, k + 1, rfl, by go_num, by omega, by omega, HM2.out, hf2.trans f1⟩
              case measure => simp [RowKit.intOf]; omega
            · have HF := Lib.hid (show T = g by rw [HM.out, weiL_neg _ _ (by omega)])
              go_wp2
              go_roundw
              case rel => exact ⟨g, i + 1, rfl, by go_num, by omega, hg, HE.out.trans (by rw [HF.out]), hf.trans hf2⟩
              case measure => simp [RowKit.intOf]; omega
          · have HF := Lib.hid (show T = g by rw [HM.out, List.drop_of_length_le (by omega)]; rfl)
            go_wp2
            go_roundw
            case rel => exact ⟨g, i + 1, rfl, by go_num, by omega, hg, HE.out.trans (by rw [HF.out]), hf.trans hf2⟩
            case measure => simp [RowKit.intOf]; omega
      · have HF := Lib.hid (show R = c by rw [HN.out, ligV_neg _ (by omega)])
        have g := Lib.hid (show decide (0 ≤ R) = false from decide_eq_false (by rw [HF.out]; omega))
        go_wp2
        go_ret
        exact ⟨ret_bool g.out.symm, hf⟩
    · have HF := Lib.hid (show R = c by rw [HN.out, List.drop_of_length_le (by omega)]; rfl)
      by_cases hc0 : 0 ≤ c
      · have g := Lib.hid (show decide (0 ≤ R) = true from decide_eq_true (by rw [HF.out]; omega))
        go_wp2
        go_ret
        exact ⟨ret_bool g.out.symm, hf⟩
      · have g := Lib.hid (show decide (0 ≤ R) = false from decide_eq_false (by rw [HF.out]; omega))
        go_wp2
        go_ret
        exact ⟨ret_bool g.out.symm, hf⟩
end Go.Proofs.YteonkiajgfkieaaGreatDoor

/-! The reference of package value: Plain of every value in memory. Nothing that was there turns. -/
namespace Go.Proofs.YteonkiajgfkieaaGreatDoor
open Go.RowKit

def plaV (x : Vl) : Bool := okX x && (x.kd == 1 || x.kd == 2 || x.kd == 4)
theorem str_less : ∀ (a b : List UInt8), (strc a b = -1 ∧ Op.bytesLess a b = true ∧ Op.bytesLess b a = false ∧ (a == b) = false) ∨ (strc a b = 0 ∧ Op.bytesLess a b = false ∧ Op.bytesLess b a = false ∧ (a == b) = true) ∨ (strc a b = 1 ∧ Op.bytesLess a b = false ∧ Op.bytesLess b a = true ∧ (a == b) = false)
  | [], [] => .inr (.inl ⟨rfl, rfl, rfl, rfl⟩)
  | [], _ :: _ => .inl ⟨rfl, rfl, rfl, rfl⟩
  | _ :: _, [] => .inr (.inr ⟨rfl, rfl, rfl, rfl⟩)
  | x :: r, y :: t => by
    have ih := str_less r t
    show (thn (intc x.toNat y.toNat) (strc r t) = -1 ∧ (decide (x < y) || x == y && Op.bytesLess r t) = true ∧ (decide (y < x) || y == x && Op.bytesLess t r) = false ∧ (x == y && r == t) = false) ∨ (thn (intc x.toNat y.toNat) (strc r t) = 0 ∧ (decide (x < y) || x == y && Op.bytesLess r t) = false ∧ (decide (y < x) || y == x && Op.bytesLess t r) = false ∧ (x == y && r == t) = true) ∨ (thn (intc x.toNat y.toNat) (strc r t) = 1 ∧ (decide (x < y) || x == y && Op.bytesLess r t) = false ∧ (decide (y < x) || y == x && Op.bytesLess t r) = true ∧ (x == y && r == t) = false)
    have lx : x < y ↔ x.toNat < y.toNat := UInt8.lt_iff_toNat_lt
    have ly : y < x ↔ y.toNat < x.toNat := UInt8.lt_iff_toNat_lt
    rcases Nat.lt_trichotomy x.toNat y.toNat with h | h | h
    · have ne : (x == y) = false := by rw [beq_eq_false_iff_ne]; intro e; rw [e] at h; omega
      have ne' : (y == x) = false := by rw [beq_eq_false_iff_ne]; intro e; rw [e] at h; omega
      refine .inl ⟨?_, ?_, ?_, ?_⟩
      · unfold thn intc; rw [if_pos (show (x.toNat : Int) < y.toNat by omega)]; rfl
      · rw [decide_eq_true (lx.2 h)]; rfl
      · rw [decide_eq_false (fun k => by have := ly.1 k; omega), ne']; rfl
      · rw [ne]; rfl
    · have e : x = y := UInt8.toNat_inj.1 h
      subst e
      have f : decide (x < x) = false := decide_eq_false (fun k => by have := lx.1 k; omega)
      have z : intc x.toNat x.toNat = 0 := intc_self _
      rw [f, z, thn_0, beq_self_eq_true, Bool.false_or, Bool.true_and, Bool.false_or, Bool.true_and, Bool.true_and]
      exact ih
    · have ne : (x == y) = false := by rw [beq_eq_false_iff_ne]; intro e; rw [e] at h; omega
      have ne' : (y == x) = false := by rw [beq_eq_false_iff_ne]; intro e; rw [e] at h; omega
      refine .inr (.inr ⟨?_, ?_, ?_, ?_⟩)
      · unfold thn intc; rw [if_neg (show ¬ (x.toNat : Int) < y.toNat by omega), if_pos (show (y.toNat : Int) < x.toNat by omega)]; rfl
      · rw [decide_eq_false (fun k => by have := lx.1 k; omega), ne]; rfl
      · rw [decide_eq_true (ly.2 h)]; rfl
      · rw [ne]; rfl
theorem rstrs_any (s t : ByteArray) (w : World) : Calls Tryz.prog 95 #[.string s, .string t] w fun e w' => e = .returned (.int .i64 (strc s.data.toList t.data.toList)) ∧ w' = w := by
  have k := str_less s.data.toList t.data.toList
  rw [← ByteArray.toList_eq, ← ByteArray.toList_eq] at k ⊢
  rcases k with ⟨e, g1, g2, g3⟩ | ⟨e, g1, g2, g3⟩ | ⟨e, g1, g2, g3⟩
  all_goals
    rw [e]; clear e
    go_enter Tryz.func95, Tryz.ntmps95
    go_wp2
    go_ret
    exact ⟨rfl, rfl⟩
end Go.Proofs.YteonkiajgfkieaaGreatDoor
