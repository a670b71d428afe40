/-
  RvJ; RvK; RvL; RvM; RvN: texts of one kind in one file; each part says what it holds.
-/
import Derived.Test.YtcadeijloobbmaaMg
import Derived.Test.YtcadeijloobbmaaMm
import Derived.Laws.Cover1
import Derived.Test.YtcadeijloobbmaaMj

/-! The reference of package value: Weigh of every value in memory: what is left of a budget. Nothing that was there turns. -/
namespace Go.Proofs.Ytcadeijloobbmaa
open Go.RowKit

/-- What is left of a budget behind a value. -/
def weiV : Nat → Vl → Int → Int
  | 0, _, _ => -1
  | m + 1, x, a => x.ll.foldl (fun a y => if a < 0 then a else weiV m y a) (a - 1 - ((x.ss.length / 50 : Nat) : Int))
/-- .. behind values. -/
def weiL (m : Nat) (l : List Vl) (a : Int) : Int := l.foldl (fun a y => if a < 0 then a else weiV m y a) a
theorem weiV_s (m : Nat) (x : Vl) (a : Int) : weiV (m + 1) x a = weiL m x.ll (a - 1 - ((x.ss.length / 50 : Nat) : Int)) := rfl
theorem weiL_neg (m : Nat) : ∀ (l : List Vl) {a : Int} (_ : a < 0), weiL m l a = a
  | [], _, _ => rfl
  | y :: r, a, h => by
    show weiL m r (if a < 0 then a else weiV m y a) = a
    rw [if_pos h]; exact weiL_neg m r h
theorem weiL_cons (m : Nat) (y : Vl) (r : List Vl) {a : Int} (h : 0 ≤ a) : weiL m (y :: r) a = weiL m r (weiV m y a) := by
  show weiL m r (if a < 0 then a else weiV m y a) = _
  rw [if_neg (by omega)]
mutual
theorem weiV_lt : ∀ (m : Nat) (x : Vl) {a : Int} (_ : 0 ≤ a), weiV m x a < a
  | 0, _, a, h => by show (-1 : Int) < a; omega
  | m + 1, x, a, h => by
    rw [weiV_s]
    have := weiL_le m x.ll (a - 1 - ((x.ss.length / 50 : Nat) : Int))
    omega
theorem weiL_le : ∀ (m : Nat) (l : List Vl) (a : Int), weiL m l a ≤ a
  | m, [], a => Int.le_refl _
  | m, y :: r, a => by
    by_cases h : a < 0
    · rw [weiL_neg m _ h]; exact Int.le_refl _
    · rw [weiL_cons m y r (by omega)]
      have k1 := weiL_le m r (weiV m y a)
      have k2 := weiV_lt m y (a := a) (by omega)
      omega
end
theorem weiL_drop (m : Nat) (l : List Vl) (i : Nat) (h : i < l.length) {a : Int} (ha : 0 ≤ a) : weiL m (l.drop i) a = weiL m (l.drop (i + 1)) (weiV m l[i] a) := by
  rw [List.drop_eq_getElem_cons h, weiL_cons m _ _ ha]
/-! Light. -/
/-- A slice of rows. -/
structure RsV (w : World) (ao : Option Addr) (rows : List (List Vl)) (cap : Nat) : Prop where
  le : rows.length ≤ cap
  max : cap ≤ maxLen
  nil : ao = none → cap = 0
  at_ : 0 < rows.length → ∃ b o, ao = some ⟨b, o, none⟩ ∧ ∀ (j : Nat) (h : j < rows.length), ∃ a c, w.cell? ⟨b, o + j, none⟩ = some (.slice a rows[j].length c) ∧ SlV w a rows[j] c
theorem RsV.on {w w' : World} {ao : Option Addr} {rows : List (List Vl)} {cap : Nat} (h : RsV w ao rows cap) (hf : Fur w w') : RsV w' ao rows cap :=
  ⟨h.le, h.max, h.nil, fun hp => by
    obtain ⟨b, o, e, hc⟩ := h.at_ hp
    refine ⟨b, o, e, fun j hj => ?_⟩
    obtain ⟨a, c, h1, h2⟩ := hc j hj
    exact ⟨a, c, cellOn hf h1, h2.on hf⟩⟩
theorem RsV.onw {w w' : World} {ao : Option Addr} {rows : List (List Vl)} {cap : Nat} (h : RsV w ao rows cap) (hf : Fuw w w') : RsV w' ao rows cap :=
  ⟨h.le, h.max, h.nil, fun hp => by
    obtain ⟨b, o, e, hc⟩ := h.at_ hp
    refine ⟨b, o, e, fun j hj => ?_⟩
    obtain ⟨a, c, h1, h2⟩ := hc j hj
    exact ⟨a, c, cellOnw hf h1, h2.onw hf⟩⟩
/-- What is left of a budget behind rows. -/
def ligV (rows : List (List Vl)) (a : Int) : Int := rows.foldl (fun a r => if a < 0 then a else weiL 12 r (a - 1)) a
theorem ligV_neg : ∀ (rows : List (List Vl)) {a : Int} (_ : a < 0), ligV rows a = a
  | [], _, _ => rfl
  | y :: r, a, h => by
    show ligV r (if a < 0 then a else weiL 12 y (a - 1)) = a
    rw [if_pos h]; exact ligV_neg r h
theorem ligV_drop (rows : List (List Vl)) (i : Nat) (h : i < rows.length) {a : Int} (ha : 0 ≤ a) : ligV (rows.drop i) a = ligV (rows.drop (i + 1)) (weiL 12 rows[i] (a - 1)) := by
  rw [List.drop_eq_getElem_cons h]
  show ligV _ (if a < 0 then a else weiL 12 _ (a - 1)) = _
  rw [if_neg (by omega)]
theorem ligV_le : ∀ (rows : List (List Vl)) (a : Int), ligV rows a ≤ a
  | [], a => Int.le_refl _
  | y :: r, a => by
    by_cases h : a < 0
    · rw [ligV_neg _ h]; exact Int.le_refl _
    · show ligV r (if a < 0 then a else weiL 12 y (a - 1)) ≤ a
      rw [if_neg h]
      have k1 := ligV_le r (weiL 12 y (a - 1))
      have k2 := weiL_le 12 y (a - 1)
      omega
end Go.Proofs.Ytcadeijloobbmaa

/-! The reference of package value: Plain of every value in memory. Nothing that was there turns. -/
namespace Go.Proofs.Ytcadeijloobbmaa
open Go.RowKit

def plaV (x : Vl) : Bool := okX x && (x.kd == 1 || x.kd == 2 || x.kd == 4)
theorem str_less : ∀ (a b : List UInt8), (strc a b = -1 ∧ Op.bytesLess a b = true ∧ Op.bytesLess b a = false ∧ (a == b) = false) ∨ (strc a b = 0 ∧ Op.bytesLess a b = false ∧ Op.bytesLess b a = false ∧ (a == b) = true) ∨ (strc a b = 1 ∧ Op.bytesLess a b = false ∧ Op.bytesLess b a = true ∧ (a == b) = false)
  | [], [] => .inr (.inl ⟨rfl, rfl, rfl, rfl⟩)
  | [], _ :: _ => .inl ⟨rfl, rfl, rfl, rfl⟩
  | _ :: _, [] => .inr (.inr ⟨rfl, rfl, rfl, rfl⟩)
  | x :: r, y :: t => by
    have ih := str_less r t
    show (thn (intc x.toNat y.toNat) (strc r t) = -1 ∧ (decide (x < y) || x == y && Op.bytesLess r t) = true ∧ (decide (y < x) || y == x && Op.bytesLess t r) = false ∧ (x == y && r == t) = false) ∨ (thn (intc x.toNat y.toNat) (strc r t) = 0 ∧ (decide (x < y) || x == y && Op.bytesLess r t) = false ∧ (decide (y < x) || y == x && Op.bytesLess t r) = false ∧ (x == y && r == t) = true) ∨ (thn (intc x.toNat y.toNat) (strc r t) = 1 ∧ (decide (x < y) || x == y && Op.bytesLess r t) = false ∧ (decide (y < x) || y == x && Op.bytesLess t r) = true ∧ (x == y && r == t) = false)
    have lx : x < y ↔ x.toNat < y.toNat := UInt8.lt_iff_toNat_lt
    have ly : y < x ↔ y.toNat < x.toNat := UInt8.lt_iff_toNat_lt
    rcases Nat.lt_trichotomy x.toNat y.toNat with h | h | h
    · have ne : (x == y) = false := by rw [beq_eq_false_iff_ne]; intro e; rw [e] at h; omega
      have ne' : (y == x) = false := by rw [beq_eq_false_iff_ne]; intro e; rw [e] at h; omega
      refine .inl ⟨?_, ?_, ?_, ?_⟩
      · unfold thn intc; rw [if_pos (show (x.toNat : Int) < y.toNat by omega)]; rfl
      · rw [decide_eq_true (lx.2 h)]; rfl
      · rw [decide_eq_false (fun k => by have := ly.1 k; omega), ne']; rfl
      · rw [ne]; rfl
    · have e : x = y := UInt8.toNat_inj.1 h
      subst e
      have f : decide (x < x) = false := decide_eq_false (fun k => by have := lx.1 k; omega)
      have z : intc x.toNat x.toNat = 0 := intc_self _
      rw [f, z, thn_0, beq_self_eq_true, Bool.false_or, Bool.true_and, Bool.false_or, Bool.true_and, Bool.true_and]
      exact ih
    · have ne : (x == y) = false := by rw [beq_eq_false_iff_ne]; intro e; rw [e] at h; omega
      have ne' : (y == x) = false := by rw [beq_eq_false_iff_ne]; intro e; rw [e] at h; omega
      refine .inr (.inr ⟨?_, ?_, ?_, ?_⟩)
      · unfold thn intc; rw [if_neg (show ¬ (x.toNat : Int) < y.toNat by omega), if_pos (show (y.toNat : Int) < x.toNat by omega)]; rfl
      · rw [decide_eq_false (fun k => by have := lx.1 k; omega), ne]; rfl
      · rw [decide_eq_true (ly.2 h)]; rfl
      · rw [ne]; rfl
theorem rstrs_any (s t : ByteArray) (w : World) : Calls Try.prog 63 #[.string s, .string t] w fun e w' => e = .returned (.int .i64 (strc s.data.toList t.data.toList)) ∧ w' = w := by
  have k := str_less s.data.toList t.data.toList
  rw [← ByteArray.toList_eq, ← ByteArray.toList_eq] at k ⊢
  rcases k with ⟨e, g1, g2, g3⟩ | ⟨e, g1, g2, g3⟩ | ⟨e, g1, g2, g3⟩
  all_goals
    rw [e]; clear e
    go_enter Try.func63, Try.ntmps63
    go_wp2
    go_ret
    exact ⟨rfl, rfl⟩
end Go.Proofs.Ytcadeijloobbmaa

/-! The reference of package value: lists compares two slices of values, given what Order answers of the elements. Nothing that was there turns. -/
namespace Go.Proofs.Ytcadeijloobbmaa
open Go.RowKit

/-- What Order answers of a value. -/
def OP (x : Vl) : Prop := ∀ (y : Vl) (ao bo : Option Addr) (ca cb : Nat) (w : World), Vin x → Vin y → SlV w ao x.ll ca → SlV w bo y.ll cb → Calls Try.prog 17 #[vlv x ao ca, vlv y bo cb] w (RwI w (ordV x y))
theorem ordL_end (l l' : List Vl) (i : Nat) (hi : i ≤ l.length) (hi' : i ≤ l'.length) (h : ¬ (i < l.length ∧ i < l'.length)) : ordL (l.drop i) (l'.drop i) = intc l.length l'.length := by
  by_cases a : i < l.length
  · have b : l'.length ≤ i := by omega
    rw [List.drop_eq_getElem_cons a, List.drop_of_length_le b]
    simp only [ordL]
    unfold intc
    rw [if_neg (by omega), if_pos (by omega)]
  · have a' : l.length ≤ i := by omega
    by_cases b : i < l'.length
    · rw [List.drop_eq_getElem_cons b, List.drop_of_length_le a']
      simp only [ordL]
      unfold intc
      rw [if_pos (by omega)]
    · rw [List.drop_of_length_le a', List.drop_of_length_le (show l'.length ≤ i by omega)]
      simp only [ordL]
      unfold intc
      rw [if_neg (by omega), if_neg (by omega)]

set_option maxHeartbeats 3200000 in
set_option maxRecDepth 100000 in
theorem rlists_any (l l' : List Vl) (hO : ∀ x, x ∈ l → OP x) (ao bo : Option Addr) (ca cb : Nat) (w : World) (hs : SlV w ao l ca) (hs' : SlV w bo l' cb) :
    Calls Try.prog 64 #[.slice ao l.length ca, .slice bo l'.length cb] w (RwI w (ordL l l')) := by
  have HO := Lib.hid hO
  have HS := Lib.hid hs
  have HS' := Lib.hid hs'
  have h1 := hs.le
  have h2 := hs.max
  have h3 := hs'.le
  have h4 := hs'.max
  unfold maxLen at h2 h4
  clear hs hs' hO
  go_enter Try.func64, Try.ntmps64
  go_wp2
  go_loopw [5] (fun iv wr => ∃ i : Nat, iv = .int .i64 i ∧ i ≤ l.length ∧ i ≤ l'.length ∧ Hid (ordL l l' = ordL (l.drop i) (l'.drop i)) ∧ Fuw w wr) (fun iv _ => l.length - (RowKit.intOf iv).toNat)
  case atStart => exact ⟨0, rfl, Nat.zero_le _, Nat.zero_le _, rfl, Fuw.refl _⟩
  case round =>
    obtain ⟨i, rfl, hi, hi', HN, hf⟩ := hrel
    by_cases hlt : i < l.length
    · by_cases hlt' : i < l'.length
      · obtain ⟨b, o, rfl, hv⟩ := (HS.out.onw hf).get hlt
        obtain ⟨b', o', rfl, hv'⟩ := (HS'.out.onw hf).get hlt'
        have hA := ordL_drop l l' i hlt hlt'
        have hm := HO.out l[i] (List.getElem_mem hlt)
        obtain ⟨hy, c0, c1, c2, c3, a1, k1, c4, hs2⟩ := VC_of hv
        obtain ⟨hy', d0, d1, d2, d3, a2, k2, d4, hs2'⟩ := VC_of hv'
        have HC := Lib.hid (fun w' (hf' : Fuw wr w') => hm l'[i] a1 a2 k1 k2 w' hy hy' (hs2.onw hf') (hs2'.onw hf'))
        have HE := Lib.hid (HN.out.trans hA)
        unfold vlv at HC
        clear hv hv' hs2 hs2' hy hy' hA hm HN
        generalize l[i] = x at *
        generalize l'[i] = y at *
        generalize ordV x y = r at *
        go_wp2_with fail
        go_region_held3 (fun w' => Fuw wr w' ∧ w'.cell? ⟨b, o + i * 5, none⟩ = some (.int .i64 x.kd) ∧ w'.cell? ⟨b, o + i * 5 + 1, none⟩ = some (.int .i64 x.nn) ∧ w'.cell? ⟨b, o + i * 5 + 2, none⟩ = some (.int .i64 x.dd) ∧ w'.cell? ⟨b, o + i * 5 + 3, none⟩ = some (.string (bs x.ss)) ∧ w'.cell? ⟨b, o + i * 5 + 4, none⟩ = some (.slice a1 x.ll.length k1) ∧ w'.cell? ⟨b', o' + i * 5, none⟩ = some (.int .i64 y.kd) ∧ w'.cell? ⟨b', o' + i * 5 + 1, none⟩ = some (.int .i64 y.nn) ∧ w'.cell? ⟨b', o' + i * 5 + 2, none⟩ = some (.int .i64 y.dd) ∧ w'.cell? ⟨b', o' + i * 5 + 3, none⟩ = some (.string (bs y.ss)) ∧ w'.cell? ⟨b', o' + i * 5 + 4, none⟩ = some (.slice a2 y.ll.length k2))
          (first
            | (refine ⟨Fuw.drew (Fuw.refl _), ?_, ?_, ?_, ?_, ?_, ?_, ?_, ?_, ?_, ?_⟩ <;> simp [*]; done)
            | go_keep
            | (refine ⟨Fuw.trans ?_ (by assumption), cellOnw (by assumption) ?_, cellOnw (by assumption) ?_, cellOnw (by assumption) ?_, cellOnw (by assumption) ?_, cellOnw (by assumption) ?_, cellOnw (by assumption) ?_, cellOnw (by assumption) ?_, cellOnw (by assumption) ?_, cellOnw (by assumption) ?_, cellOnw (by assumption) ?_⟩ <;> simp [*]))
          (first
            | (go_at_call 17; refine (HC.out _ (Fuw.drew (Fuw.refl _))).mono ?_; rintro e1 w1 ⟨rfl, f1⟩))
        have ff : Fuw wr w1 := (Fuw.drew (Fuw.refl wr)).trans f1
        by_cases hr : r = 0
        · subst hr
          go_wp2
          go_roundw
          case rel => exact ⟨i + 1, by go_num, by omega, by omega, HE.out, hf.trans ff⟩
          case measure => simp [RowKit.intOf]; omega
        · have hr' : (r != 0) = true := by rw [bne_iff_ne]; exact hr
          have HF := Lib.hid (HE.out.trans (thn_n hr _))
          clear hr
          go_wp2
          go_ret
          exact ⟨ret_int HF.out.symm, hf.trans ff⟩
      · have HE := Lib.hid (HN.out.trans (ordL_end l l' i hi hi' (by omega)))
        have HI := Lib.hid (fun w => rints_any l.length l'.length w)
        go_wp2_with fail
        go_at_call 40; refine (HI.out _).mono ?_; rintro e1 w1 ⟨rfl, rfl⟩
        go_wp2
        go_ret
        exact ⟨ret_int HE.out.symm, hf⟩
    · have HE := Lib.hid (HN.out.trans (ordL_end l l' i hi hi' (by omega)))
      have HI := Lib.hid (fun w => rints_any l.length l'.length w)
      go_wp2_with fail
      go_at_call 40; refine (HI.out _).mono ?_; rintro e1 w1 ⟨rfl, rfl⟩
      go_wp2
      go_ret
      exact ⟨ret_int HE.out.symm, hf⟩
end Go.Proofs.Ytcadeijloobbmaa

/-! The reference of package value: fields compares all fields of two values, given what Order answers of the values inside. Nothing that was there turns. -/
namespace Go.Proofs.Ytcadeijloobbmaa
open Go.RowKit

/-- Two values boxed. -/
theorem bx2w (w : World) (x y : Vl) (ao bo : Option Addr) (ca cb : Nat) :
    Bx ((w.alloc (.cells #[.int .i64 x.kd, .int .i64 x.nn, .int .i64 x.dd, .string (bs x.ss), .slice ao x.ll.length ca] 44)).alloc (.cells #[.int .i64 y.kd, .int .i64 y.nn, .int .i64 y.dd, .string (bs y.ss), .slice bo y.ll.length cb] 44)) w.heap.size x ao ca ∧
    Bx ((w.alloc (.cells #[.int .i64 x.kd, .int .i64 x.nn, .int .i64 x.dd, .string (bs x.ss), .slice ao x.ll.length ca] 44)).alloc (.cells #[.int .i64 y.kd, .int .i64 y.nn, .int .i64 y.dd, .string (bs y.ss), .slice bo y.ll.length cb] 44)) (w.heap.size + 1) y bo cb ∧
    Fuw w ((w.alloc (.cells #[.int .i64 x.kd, .int .i64 x.nn, .int .i64 x.dd, .string (bs x.ss), .slice ao x.ll.length ca] 44)).alloc (.cells #[.int .i64 y.kd, .int .i64 y.nn, .int .i64 y.dd, .string (bs y.ss), .slice bo y.ll.length cb] 44)) := by
  obtain ⟨p0, f0⟩ := bx1w w x ao ca
  have s0 : (w.alloc (.cells #[.int .i64 x.kd, .int .i64 x.nn, .int .i64 x.dd, .string (bs x.ss), .slice ao x.ll.length ca] 44)).heap.size = w.heap.size + 1 := by simp
  generalize w.alloc (.cells #[.int .i64 x.kd, .int .i64 x.nn, .int .i64 x.dd, .string (bs x.ss), .slice ao x.ll.length ca] 44) = w1 at *
  obtain ⟨p1, f1⟩ := bx1w w1 y bo cb
  rw [s0] at p1
  exact ⟨p0.onw f1, p1, f0.trans f1⟩
set_option maxHeartbeats 6400000 in
set_option maxRecDepth 100000 in
theorem rfields_any (x y : Vl) (hO : ∀ z, z ∈ x.ll → OP z) (ao bo : Option Addr) (ca cb : Nat) (w : World) (hs : SlV w ao x.ll ca) (hs' : SlV w bo y.ll cb) :
    Calls Try.prog 39 #[vlv x ao ca, vlv y bo cb] w (RwI w (fldV x y)) := by
  obtain ⟨p0, p1, f0⟩ := bx2w w x y ao bo ca cb
  have hne : ¬ (w.heap.size = w.heap.size + 1) := by omega
  have hne2 : ¬ (w.heap.size + 1 = w.heap.size) := by omega
  have C0 := Lib.hid (fun w => rints_any x.kd y.kd w)
  have C1 := Lib.hid (fun w => rints_any x.nn y.nn w)
  have C2 := Lib.hid (fun w => rints_any x.dd y.dd w)
  have C3 := Lib.hid (fun w => rstrs_any (bs x.ss) (bs y.ss) w)
  rw [show (bs x.ss).data.toList = x.ss from rfl, show (bs y.ss).data.toList = y.ss from rfl] at C3
  have C4 := Lib.hid (fun w' (hf : Fuw w w') => rlists_any x.ll y.ll hO ao bo ca cb w' (hs.onw hf) (hs'.onw hf))
  have HE := Lib.hid (show fldV x y = thn (intc x.kd y.kd) (thn (intc x.nn y.nn) (thn (intc x.dd y.dd) (thn (strc x.ss y.ss) (ordL x.ll y.ll)))) from rfl)
  clear hs hs' hO
  generalize fldV x y = R at *
  generalize intc x.kd y.kd = r0 at *
  generalize intc x.nn y.nn = r1 at *
  generalize intc x.dd y.dd = r2 at *
  generalize strc x.ss y.ss = r3 at *
  generalize ordL x.ll y.ll = r4 at *
  unfold vlv
  by_cases h0 : r0 = 0
  rotate_left
  · have g0 : (r0 != 0) = true := by rw [bne_iff_ne]; exact h0
    have HF := Lib.hid (show R = r0 by rw [HE.out, thn_n h0])
    clear h0
    go_enter Try.func39, Try.ntmps39
    go_wp2_with fail
    go_at_call 40; refine (C0.out _).mono ?_; rintro e1 w1 ⟨rfl, rfl⟩
    go_wp2
    go_ret
    exact ⟨ret_int HF.out.symm, f0⟩
  subst h0
  rw [thn_0] at HE
  by_cases h1 : r1 = 0
  rotate_left
  · have g1 : (r1 != 0) = true := by rw [bne_iff_ne]; exact h1
    have HF := Lib.hid (show R = r1 by rw [HE.out, thn_n h1])
    clear h1
    go_enter Try.func39, Try.ntmps39
    go_wp2_with fail
    go_at_call 40; refine (C0.out _).mono ?_; rintro e1 w1 ⟨rfl, rfl⟩
    go_wp2_with fail
    go_at_call 40; refine (C1.out _).mono ?_; rintro e1 w1 ⟨rfl, rfl⟩
    go_wp2
    go_ret
    exact ⟨ret_int HF.out.symm, f0⟩
  subst h1
  rw [thn_0] at HE
  by_cases h2 : r2 = 0
  rotate_left
  · have g2 : (r2 != 0) = true := by rw [bne_iff_ne]; exact h2
    have HF := Lib.hid (show R = r2 by rw [HE.out, thn_n h2])
    clear h2
    go_enter Try.func39, Try.ntmps39
    go_wp2_with fail
    go_at_call 40; refine (C0.out _).mono ?_; rintro e1 w1 ⟨rfl, rfl⟩
    go_wp2_with fail
    go_at_call 40; refine (C1.out _).mono ?_; rintro e1 w1 ⟨rfl, rfl⟩
    go_wp2_with fail
    go_at_call 40; refine (C2.out _).mono ?_; rintro e1 w1 ⟨rfl, rfl⟩
    go_wp2
    go_ret
    exact ⟨ret_int HF.out.symm, f0⟩
  subst h2
  rw [thn_0] at HE
  by_cases h3 : r3 = 0
  rotate_left
  · have g3 : (r3 != 0) = true := by rw [bne_iff_ne]; exact h3
    have HF := Lib.hid (show R = r3 by rw [HE.out, thn_n h3])
    clear h3
    go_enter Try.func39, Try.ntmps39
    go_wp2_with fail
    go_at_call 40; refine (C0.out _).mono ?_; rintro e1 w1 ⟨rfl, rfl⟩
    go_wp2_with fail
    go_at_call 40; refine (C1.out _).mono ?_; rintro e1 w1 ⟨rfl, rfl⟩
    go_wp2_with fail
    go_at_call 40; refine (C2.out _).mono ?_; rintro e1 w1 ⟨rfl, rfl⟩
    go_wp2_with fail
    go_at_call 63; refine (C3.out _).mono ?_; rintro e1 w1 ⟨rfl, rfl⟩
    go_wp2
    go_ret
    exact ⟨ret_int HF.out.symm, f0⟩
  subst h3
  rw [thn_0] at HE
  go_enter Try.func39, Try.ntmps39
  go_wp2_with fail
  go_at_call 40; refine (C0.out _).mono ?_; rintro e1 w1 ⟨rfl, rfl⟩
  go_wp2_with fail
  go_at_call 40; refine (C1.out _).mono ?_; rintro e1 w1 ⟨rfl, rfl⟩
  go_wp2_with fail
  go_at_call 40; refine (C2.out _).mono ?_; rintro e1 w1 ⟨rfl, rfl⟩
  go_wp2_with fail
  go_at_call 63; refine (C3.out _).mono ?_; rintro e1 w1 ⟨rfl, rfl⟩
  go_wp2_with fail
  go_at_call 64; refine (C4.out _ f0).mono ?_; rintro e1 w1 ⟨rfl, f1⟩
  go_wp2
  go_ret
  exact ⟨ret_int HE.out.symm, f0.trans f1⟩
end Go.Proofs.Ytcadeijloobbmaa

/-! The reference of package value: Order of every two values in memory. Nothing that was there turns. -/
namespace Go.Proofs.Ytcadeijloobbmaa
open Go.RowKit

set_option maxHeartbeats 6400000 in
set_option maxRecDepth 100000 in
theorem rorder_tf (x y : Vl) (ao bo : Option Addr) (ca cb : Nat) (w : World) (hi : Vin x) (hi' : Vin y) (hs : SlV w ao x.ll ca) (hs' : SlV w bo y.ll cb) (hp : okX x = true) (hq : okX y = false) :
    Calls Try.prog 17 #[vlv x ao ca, vlv y bo cb] w (RwI w (-1)) := by
  obtain ⟨p0, p1, f0⟩ := bx2w w x y ao bo ca cb
  have hne : ¬ (w.heap.size = w.heap.size + 1) := by omega
  have hne2 : ¬ (w.heap.size + 1 = w.heap.size) := by omega
  have VA := Lib.hid (fun w' (hf : Fuw w w') => (rokV_any x ao ca w' hi (hs.onw hf)).mono fun _ _ h => RetB.w h)
  have VB := Lib.hid (fun w' (hf : Fuw w w') => (rokV_any y bo cb w' hi' (hs'.onw hf)).mono fun _ _ h => RetB.w h)
  rw [hp] at VA
  rw [hq] at VB
  clear hi hi' hs hs' hp hq
  unfold vlv at *
  go_enter Try.func17, Try.ntmps17
  go_wp2_with fail
  have c0 := p0.c0; have c1 := p0.c1; have c2 := p0.c2; have c3 := p0.c3; have c4 := p0.c4
  have d0 := p1.c0; have d1 := p1.c1; have d2 := p1.c2; have d3 := p1.c3; have d4 := p1.c4
  go_region_held3 (fun w' => Fuw ((w.alloc (.cells #[.int .i64 x.kd, .int .i64 x.nn, .int .i64 x.dd, .string (bs x.ss), .slice ao x.ll.length ca] 44)).alloc (.cells #[.int .i64 y.kd, .int .i64 y.nn, .int .i64 y.dd, .string (bs y.ss), .slice bo y.ll.length cb] 44)) w' ∧ w'.cell? ⟨w.heap.size, 0, none⟩ = some (.int .i64 x.kd) ∧ w'.cell? ⟨w.heap.size, 1, none⟩ = some (.int .i64 x.nn) ∧ w'.cell? ⟨w.heap.size, 2, none⟩ = some (.int .i64 x.dd) ∧ w'.cell? ⟨w.heap.size, 3, none⟩ = some (.string (bs x.ss)) ∧ w'.cell? ⟨w.heap.size, 4, none⟩ = some (.slice ao x.ll.length ca) ∧ w'.cell? ⟨w.heap.size + 1, 0, none⟩ = some (.int .i64 y.kd) ∧ w'.cell? ⟨w.heap.size + 1, 1, none⟩ = some (.int .i64 y.nn) ∧ w'.cell? ⟨w.heap.size + 1, 2, none⟩ = some (.int .i64 y.dd) ∧ w'.cell? ⟨w.heap.size + 1, 3, none⟩ = some (.string (bs y.ss)) ∧ w'.cell? ⟨w.heap.size + 1, 4, none⟩ = some (.slice bo y.ll.length cb))
    (first
      | (refine ⟨Fuw.drew (Fuw.refl _), ?_, ?_, ?_, ?_, ?_, ?_, ?_, ?_, ?_, ?_⟩ <;> simp [*]; done)
      | go_keep
      | (refine ⟨Fuw.trans ?_ (by assumption), cellOnw (by assumption) ?_, cellOnw (by assumption) ?_, cellOnw (by assumption) ?_, cellOnw (by assumption) ?_, cellOnw (by assumption) ?_, cellOnw (by assumption) ?_, cellOnw (by assumption) ?_, cellOnw (by assumption) ?_, cellOnw (by assumption) ?_, cellOnw (by assumption) ?_⟩ <;> simp [*]))
    (first
      | (go_at_call 37; first
          | (refine (VA.out _ (f0.trans (Fuw.drew (Fuw.refl _)))).mono ?_; rintro e1 w1 ⟨rfl, f1⟩)
          | (refine (VB.out _ (f0.trans (Fuw.drew (Fuw.refl _)))).mono ?_; rintro e1 w1 ⟨rfl, f1⟩)
          | (refine (VA.out _ (f0.trans ((Fuw.drew (Fuw.refl _)).trans (by assumption)))).mono ?_; rintro e1 w2 ⟨rfl, f2⟩)
          | (refine (VB.out _ (f0.trans ((Fuw.drew (Fuw.refl _)).trans (by assumption)))).mono ?_; rintro e1 w2 ⟨rfl, f2⟩)))
  have hS : Fuw ((w.alloc (.cells #[.int .i64 x.kd, .int .i64 x.nn, .int .i64 x.dd, .string (bs x.ss), .slice ao x.ll.length ca] 44)).alloc (.cells #[.int .i64 y.kd, .int .i64 y.nn, .int .i64 y.dd, .string (bs y.ss), .slice bo y.ll.length cb] 44)) w2 ∧ w2.cell? ⟨w.heap.size, 0, none⟩ = some (.int .i64 x.kd) ∧ w2.cell? ⟨w.heap.size, 1, none⟩ = some (.int .i64 x.nn) ∧ w2.cell? ⟨w.heap.size, 2, none⟩ = some (.int .i64 x.dd) ∧ w2.cell? ⟨w.heap.size, 3, none⟩ = some (.string (bs x.ss)) ∧ w2.cell? ⟨w.heap.size, 4, none⟩ = some (.slice ao x.ll.length ca) ∧ w2.cell? ⟨w.heap.size + 1, 0, none⟩ = some (.int .i64 y.kd) ∧ w2.cell? ⟨w.heap.size + 1, 1, none⟩ = some (.int .i64 y.nn) ∧ w2.cell? ⟨w.heap.size + 1, 2, none⟩ = some (.int .i64 y.dd) ∧ w2.cell? ⟨w.heap.size + 1, 3, none⟩ = some (.string (bs y.ss)) ∧ w2.cell? ⟨w.heap.size + 1, 4, none⟩ = some (.slice bo y.ll.length cb) := by assumption
  have ff := f0.trans hS.1
  have Y := Lib.hid (fun w => ryes_any true w)
  go_wp2_with fail
  go_at_call 38; refine (Y.out _).mono ?_; rintro e1 w3 ⟨rfl, rfl⟩
  go_wp2
  go_ret
  exact ⟨rfl, ff⟩
set_option maxHeartbeats 6400000 in
set_option maxRecDepth 100000 in
theorem rorder_ft (x y : Vl) (ao bo : Option Addr) (ca cb : Nat) (w : World) (hi : Vin x) (hi' : Vin y) (hs : SlV w ao x.ll ca) (hs' : SlV w bo y.ll cb) (hp : okX x = false) (hq : okX y = true) :
    Calls Try.prog 17 #[vlv x ao ca, vlv y bo cb] w (RwI w (1)) := by
  obtain ⟨p0, p1, f0⟩ := bx2w w x y ao bo ca cb
  have hne : ¬ (w.heap.size = w.heap.size + 1) := by omega
  have hne2 : ¬ (w.heap.size + 1 = w.heap.size) := by omega
  have VA := Lib.hid (fun w' (hf : Fuw w w') => (rokV_any x ao ca w' hi (hs.onw hf)).mono fun _ _ h => RetB.w h)
  have VB := Lib.hid (fun w' (hf : Fuw w w') => (rokV_any y bo cb w' hi' (hs'.onw hf)).mono fun _ _ h => RetB.w h)
  rw [hp] at VA
  rw [hq] at VB
  clear hi hi' hs hs' hp hq
  unfold vlv at *
  go_enter Try.func17, Try.ntmps17
  go_wp2_with fail
  have c0 := p0.c0; have c1 := p0.c1; have c2 := p0.c2; have c3 := p0.c3; have c4 := p0.c4
  have d0 := p1.c0; have d1 := p1.c1; have d2 := p1.c2; have d3 := p1.c3; have d4 := p1.c4
  go_region_held3 (fun w' => Fuw ((w.alloc (.cells #[.int .i64 x.kd, .int .i64 x.nn, .int .i64 x.dd, .string (bs x.ss), .slice ao x.ll.length ca] 44)).alloc (.cells #[.int .i64 y.kd, .int .i64 y.nn, .int .i64 y.dd, .string (bs y.ss), .slice bo y.ll.length cb] 44)) w' ∧ w'.cell? ⟨w.heap.size, 0, none⟩ = some (.int .i64 x.kd) ∧ w'.cell? ⟨w.heap.size, 1, none⟩ = some (.int .i64 x.nn) ∧ w'.cell? ⟨w.heap.size, 2, none⟩ = some (.int .i64 x.dd) ∧ w'.cell? ⟨w.heap.size, 3, none⟩ = some (.string (bs x.ss)) ∧ w'.cell? ⟨w.heap.size, 4, none⟩ = some (.slice ao x.ll.length ca) ∧ w'.cell? ⟨w.heap.size + 1, 0, none⟩ = some (.int .i64 y.kd) ∧ w'.cell? ⟨w.heap.size + 1, 1, none⟩ = some (.int .i64 y.nn) ∧ w'.cell? ⟨w.heap.size + 1, 2, none⟩ = some (.int .i64 y.dd) ∧ w'.cell? ⟨w.heap.size + 1, 3, none⟩ = some (.string (bs y.ss)) ∧ w'.cell? ⟨w.heap.size + 1, 4, none⟩ = some (.slice bo y.ll.length cb))
    (first
      | (refine ⟨Fuw.drew (Fuw.refl _), ?_, ?_, ?_, ?_, ?_, ?_, ?_, ?_, ?_, ?_⟩ <;> simp [*]; done)
      | go_keep
      | (refine ⟨Fuw.trans ?_ (by assumption), cellOnw (by assumption) ?_, cellOnw (by assumption) ?_, cellOnw (by assumption) ?_, cellOnw (by assumption) ?_, cellOnw (by assumption) ?_, cellOnw (by assumption) ?_, cellOnw (by assumption) ?_, cellOnw (by assumption) ?_, cellOnw (by assumption) ?_, cellOnw (by assumption) ?_⟩ <;> simp [*]))
    (first
      | (go_at_call 37; first
          | (refine (VA.out _ (f0.trans (Fuw.drew (Fuw.refl _)))).mono ?_; rintro e1 w1 ⟨rfl, f1⟩)
          | (refine (VB.out _ (f0.trans (Fuw.drew (Fuw.refl _)))).mono ?_; rintro e1 w1 ⟨rfl, f1⟩)
          | (refine (VA.out _ (f0.trans ((Fuw.drew (Fuw.refl _)).trans (by assumption)))).mono ?_; rintro e1 w2 ⟨rfl, f2⟩)
          | (refine (VB.out _ (f0.trans ((Fuw.drew (Fuw.refl _)).trans (by assumption)))).mono ?_; rintro e1 w2 ⟨rfl, f2⟩)))
  have hS : Fuw ((w.alloc (.cells #[.int .i64 x.kd, .int .i64 x.nn, .int .i64 x.dd, .string (bs x.ss), .slice ao x.ll.length ca] 44)).alloc (.cells #[.int .i64 y.kd, .int .i64 y.nn, .int .i64 y.dd, .string (bs y.ss), .slice bo y.ll.length cb] 44)) w2 ∧ w2.cell? ⟨w.heap.size, 0, none⟩ = some (.int .i64 x.kd) ∧ w2.cell? ⟨w.heap.size, 1, none⟩ = some (.int .i64 x.nn) ∧ w2.cell? ⟨w.heap.size, 2, none⟩ = some (.int .i64 x.dd) ∧ w2.cell? ⟨w.heap.size, 3, none⟩ = some (.string (bs x.ss)) ∧ w2.cell? ⟨w.heap.size, 4, none⟩ = some (.slice ao x.ll.length ca) ∧ w2.cell? ⟨w.heap.size + 1, 0, none⟩ = some (.int .i64 y.kd) ∧ w2.cell? ⟨w.heap.size + 1, 1, none⟩ = some (.int .i64 y.nn) ∧ w2.cell? ⟨w.heap.size + 1, 2, none⟩ = some (.int .i64 y.dd) ∧ w2.cell? ⟨w.heap.size + 1, 3, none⟩ = some (.string (bs y.ss)) ∧ w2.cell? ⟨w.heap.size + 1, 4, none⟩ = some (.slice bo y.ll.length cb) := by assumption
  have ff := f0.trans hS.1
  have Y := Lib.hid (fun w => ryes_any false w)
  go_wp2_with fail
  go_at_call 38; refine (Y.out _).mono ?_; rintro e1 w3 ⟨rfl, rfl⟩
  go_wp2
  go_ret
  exact ⟨rfl, ff⟩
set_option maxHeartbeats 6400000 in
set_option maxRecDepth 100000 in
theorem rorder_ff (x y : Vl) (ao bo : Option Addr) (ca cb : Nat) (w : World) (hi : Vin x) (hi' : Vin y) (hs : SlV w ao x.ll ca) (hs' : SlV w bo y.ll cb) (hp : okX x = false) (hq : okX y = false) (hO : ∀ z, z ∈ x.ll → OP z) :
    Calls Try.prog 17 #[vlv x ao ca, vlv y bo cb] w (RwI w (fldV x y)) := by
  obtain ⟨p0, p1, f0⟩ := bx2w w x y ao bo ca cb
  have hne : ¬ (w.heap.size = w.heap.size + 1) := by omega
  have hne2 : ¬ (w.heap.size + 1 = w.heap.size) := by omega
  have VA := Lib.hid (fun w' (hf : Fuw w w') => (rokV_any x ao ca w' hi (hs.onw hf)).mono fun _ _ h => RetB.w h)
  have VB := Lib.hid (fun w' (hf : Fuw w w') => (rokV_any y bo cb w' hi' (hs'.onw hf)).mono fun _ _ h => RetB.w h)
  have VF := Lib.hid (fun w' (hf : Fuw w w') => rfields_any x y hO ao bo ca cb w' (hs.onw hf) (hs'.onw hf))
  rw [hp] at VA
  rw [hq] at VB
  clear hi hi' hs hs' hp hq hO
  generalize fldV x y = R at *
  unfold vlv at *
  go_enter Try.func17, Try.ntmps17
  go_wp2_with fail
  have c0 := p0.c0; have c1 := p0.c1; have c2 := p0.c2; have c3 := p0.c3; have c4 := p0.c4
  have d0 := p1.c0; have d1 := p1.c1; have d2 := p1.c2; have d3 := p1.c3; have d4 := p1.c4
  go_region_held3 (fun w' => Fuw ((w.alloc (.cells #[.int .i64 x.kd, .int .i64 x.nn, .int .i64 x.dd, .string (bs x.ss), .slice ao x.ll.length ca] 44)).alloc (.cells #[.int .i64 y.kd, .int .i64 y.nn, .int .i64 y.dd, .string (bs y.ss), .slice bo y.ll.length cb] 44)) w' ∧ w'.cell? ⟨w.heap.size, 0, none⟩ = some (.int .i64 x.kd) ∧ w'.cell? ⟨w.heap.size, 1, none⟩ = some (.int .i64 x.nn) ∧ w'.cell? ⟨w.heap.size, 2, none⟩ = some (.int .i64 x.dd) ∧ w'.cell? ⟨w.heap.size, 3, none⟩ = some (.string (bs x.ss)) ∧ w'.cell? ⟨w.heap.size, 4, none⟩ = some (.slice ao x.ll.length ca) ∧ w'.cell? ⟨w.heap.size + 1, 0, none⟩ = some (.int .i64 y.kd) ∧ w'.cell? ⟨w.heap.size + 1, 1, none⟩ = some (.int .i64 y.nn) ∧ w'.cell? ⟨w.heap.size + 1, 2, none⟩ = some (.int .i64 y.dd) ∧ w'.cell? ⟨w.heap.size + 1, 3, none⟩ = some (.string (bs y.ss)) ∧ w'.cell? ⟨w.heap.size + 1, 4, none⟩ = some (.slice bo y.ll.length cb))
    (first
      | (refine ⟨Fuw.drew (Fuw.refl _), ?_, ?_, ?_, ?_, ?_, ?_, ?_, ?_, ?_, ?_⟩ <;> simp [*]; done)
      | go_keep
      | (refine ⟨Fuw.trans ?_ (by assumption), cellOnw (by assumption) ?_, cellOnw (by assumption) ?_, cellOnw (by assumption) ?_, cellOnw (by assumption) ?_, cellOnw (by assumption) ?_, cellOnw (by assumption) ?_, cellOnw (by assumption) ?_, cellOnw (by assumption) ?_, cellOnw (by assumption) ?_, cellOnw (by assumption) ?_⟩ <;> simp [*]))
    (first
      | (go_at_call 37; first
          | (refine (VA.out _ (f0.trans (Fuw.drew (Fuw.refl _)))).mono ?_; rintro e1 w1 ⟨rfl, f1⟩)
          | (refine (VB.out _ (f0.trans (Fuw.drew (Fuw.refl _)))).mono ?_; rintro e1 w1 ⟨rfl, f1⟩)
          | (refine (VA.out _ (f0.trans ((Fuw.drew (Fuw.refl _)).trans (by assumption)))).mono ?_; rintro e1 w2 ⟨rfl, f2⟩)
          | (refine (VB.out _ (f0.trans ((Fuw.drew (Fuw.refl _)).trans (by assumption)))).mono ?_; rintro e1 w2 ⟨rfl, f2⟩)))
  have hS : Fuw ((w.alloc (.cells #[.int .i64 x.kd, .int .i64 x.nn, .int .i64 x.dd, .string (bs x.ss), .slice ao x.ll.length ca] 44)).alloc (.cells #[.int .i64 y.kd, .int .i64 y.nn, .int .i64 y.dd, .string (bs y.ss), .slice bo y.ll.length cb] 44)) w2 ∧ w2.cell? ⟨w.heap.size, 0, none⟩ = some (.int .i64 x.kd) ∧ w2.cell? ⟨w.heap.size, 1, none⟩ = some (.int .i64 x.nn) ∧ w2.cell? ⟨w.heap.size, 2, none⟩ = some (.int .i64 x.dd) ∧ w2.cell? ⟨w.heap.size, 3, none⟩ = some (.string (bs x.ss)) ∧ w2.cell? ⟨w.heap.size, 4, none⟩ = some (.slice ao x.ll.length ca) ∧ w2.cell? ⟨w.heap.size + 1, 0, none⟩ = some (.int .i64 y.kd) ∧ w2.cell? ⟨w.heap.size + 1, 1, none⟩ = some (.int .i64 y.nn) ∧ w2.cell? ⟨w.heap.size + 1, 2, none⟩ = some (.int .i64 y.dd) ∧ w2.cell? ⟨w.heap.size + 1, 3, none⟩ = some (.string (bs y.ss)) ∧ w2.cell? ⟨w.heap.size + 1, 4, none⟩ = some (.slice bo y.ll.length cb) := by assumption
  have ff := f0.trans hS.1
  obtain ⟨-, k0, k1, k2, k3, k4, l0, l1, l2, l3, l4⟩ := hS
  go_wp2_with fail
  go_at_call 39; refine (VF.out _ ff).mono ?_; rintro e1 w3 ⟨rfl, f3⟩
  go_wp2
  go_ret
  exact ⟨rfl, ff.trans f3⟩
end Go.Proofs.Ytcadeijloobbmaa
