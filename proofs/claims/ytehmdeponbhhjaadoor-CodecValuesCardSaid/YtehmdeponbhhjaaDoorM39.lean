/-
  OrV; RxM; RvJ; RvK: texts of one kind in one file; each part says what it holds.
-/
import Derived.Test.YtehmdeponbhhjaaDoorM15
import Derived.Test.YtehmdeponbhhjaaDoorValT
import Derived.Test.YtehmdeponbhhjaaDoorM31
import Derived.Laws.Cover1

/-! Plain mathematics of the order of values: what it is of two valid ones, of two that are not, of one of each. No program is walked here. -/
namespace Go.Proofs.YtehmdeponbhhjaaDoor
open Go.RowKit

theorem ordL_drop (l l' : List Vl) (i : Nat) (h : i < l.length) (h' : i < l'.length) : ordL (l.drop i) (l'.drop i) = thn (ordV l[i] l'[i]) (ordL (l.drop (i + 1)) (l'.drop (i + 1))) := by
  rw [List.drop_eq_getElem_cons h, List.drop_eq_getElem_cons h']
  simp only [ordL]
theorem ordL_more (l l' : List Vl) (i : Nat) (h : i < l.length) (h' : l'.length ≤ i) : ordL (l.drop i) (l'.drop i) = 1 := by
  rw [List.drop_eq_getElem_cons h, List.drop_of_length_le h']
  simp only [ordL]
theorem ordL_less (l l' : List Vl) (i : Nat) (h : l.length ≤ i) (h' : i < l'.length) : ordL (l.drop i) (l'.drop i) = -1 := by
  rw [List.drop_eq_getElem_cons h', List.drop_of_length_le h]
  simp only [ordL]
theorem ordL_fin (l l' : List Vl) (i : Nat) (h : l.length ≤ i) (h' : l'.length ≤ i) : ordL (l.drop i) (l'.drop i) = 0 := by
  rw [List.drop_of_length_le h', List.drop_of_length_le h]
  simp only [ordL]
/-- What a function (orderValid or Order) answers of two values. -/
def CmpAt (g : Nat) (x y : Vl) : Prop := ∀ (ao bo : Option Addr) (ca cb : Nat) (w : World), Vin x → Vin y → SlV w ao x.ll ca → SlV w bo y.ll cb → Calls Tryd.prog g #[vlv x ao ca, vlv y bo cb] w (RetI w (ordV x y))

theorem kind_in {x : Vl} (h : okX x = true) : 0 ≤ x.kd ∧ x.kd ≤ 8 := by
  obtain ⟨k, n, d, s, l⟩ := x
  show 0 ≤ k ∧ k ≤ 8
  rcases kinds h with h | h | h | h | h | h | h | h | h <;> omega
theorem ordV_mk {k n d : Int} {s : List UInt8} {l : List Vl} {k' n' d' : Int} {s' : List UInt8} {l' : List Vl} (hx : okX (.mk k n d s l) = true) (hy : okX (.mk k' n' d' s' l') = true) : ordV (.mk k n d s l) (.mk k' n' d' s' l') =
    if classV k ≠ classV k' then intc (classV k) (classV k') else if classV k = 2 then cmpQ (fz n (frD k d)) (fz n' (frD k' d')) else if classV k = 3 then strc s s' else if classV k = 6 ∨ classV k = 7 then ordL l l' else intc n n' := by
  have nx : isNum (.mk k n d s l) = true ↔ classV k = 2 := num_class hx
  have ny : isNum (.mk k' n' d' s' l') = true ↔ classV k' = 2 := num_class hy
  unfold ordV
  show (if okX (.mk k n d s l) ≠ okX (.mk k' n' d' s' l') then (if okX (.mk k n d s l) = true then -1 else 1) else if okX (.mk k' n' d' s' l') = true ∧ classV k ≠ classV k' then intc (classV k) (classV k') else if okX (.mk k' n' d' s' l') = true ∧ isNum (.mk k n d s l) = true then cmpQ (fz (nmN (.mk k n d s l)) (nmD (.mk k n d s l))) (fz (nmN (.mk k' n' d' s' l')) (nmD (.mk k' n' d' s' l'))) else thn (intc k k') (thn (intc n n') (thn (intc d d') (thn (strc s s') (ordL l l'))))) = _
  rw [if_neg (show ¬ (okX (.mk k n d s l) ≠ okX (.mk k' n' d' s' l')) by rw [hx, hy]; simp)]
  by_cases hc : classV k = classV k'
  · rw [if_neg (show ¬ (okX (.mk k' n' d' s' l') = true ∧ classV k ≠ classV k') from fun t => t.2 hc), if_neg (show ¬ (classV k ≠ classV k') from fun t => t hc)]
    by_cases h2 : classV k = 2
    · have i1 := nx.2 h2
      have i2 := ny.2 (hc ▸ h2)
      rw [if_pos ⟨hy, i1⟩, if_pos h2]
      unfold nmN nmD frD
      rw [if_pos i1, if_pos i1, if_pos i2, if_pos i2]
      rfl
    · rw [if_neg (show ¬ (okX (.mk k' n' d' s' l') = true ∧ isNum (.mk k n d s l) = true) from fun t => h2 (nx.1 t.2)), if_neg h2]
      clear nx ny
      rcases kinds hx with ⟨k0, a1, a2, a3, a4⟩ | ⟨k0, a1, a2, a3, a4⟩ | ⟨k0, a1, a2, a3, a4⟩ | ⟨k0, a1, a2, a3, a4⟩ | ⟨k0, a1, a2, a4⟩ | ⟨k0, a1, a2, a3, a4⟩ | ⟨k0, a1, a2, a3, a4⟩ | ⟨k0, a1, a2, a3, a4⟩ | ⟨k0, a1, a2, a3, a4⟩ <;>
      rcases kinds hy with ⟨q0, b1, b2, b3, b4⟩ | ⟨q0, b1, b2, b3, b4⟩ | ⟨q0, b1, b2, b3, b4⟩ | ⟨q0, b1, b2, b3, b4⟩ | ⟨q0, b1, b2, b4⟩ | ⟨q0, b1, b2, b3, b4⟩ | ⟨q0, b1, b2, b3, b4⟩ | ⟨q0, b1, b2, b3, b4⟩ | ⟨q0, b1, b2, b3, b4⟩ <;>
      (rw [k0, q0] at hc) <;> first
      | (exact absurd hc (by decide))
      | (rw [k0] at h2; exact absurd rfl h2)
      | skip
      · subst k0 a1 a2 a3 a4 q0 b1 b2 b3 b4
        rfl
      · subst k0 a2 a3 a4 q0 b2 b3 b4
        simp only [intc_self, thn_0, strc, ordL, thn_r]
        rfl
      · subst k0 a1 a2 a4 q0 b1 b2 b4
        simp only [intc_self, thn_0, ordL, thn_r]
        rfl
      · subst k0 a2 a3 a4 q0 b2 b3 b4
        simp only [intc_self, thn_0, strc, ordL, thn_r]
        rfl
      · subst k0 a2 a3 a4 q0 b2 b3 b4
        simp only [intc_self, thn_0, strc, ordL, thn_r]
        rfl
      · subst k0 a1 a2 a3 q0 b1 b2 b3
        simp only [intc_self, thn_0, strc]
        rfl
      · subst k0 a1 a2 a3 q0 b1 b2 b3
        simp only [intc_self, thn_0, strc]
        rfl
  · rw [if_pos (show okX (.mk k' n' d' s' l') = true ∧ classV k ≠ classV k' from ⟨hy, hc⟩), if_pos hc]
theorem ordV_eq {x y : Vl} (hx : okX x = true) (hy : okX y = true) : ordV x y = if classV x.kd ≠ classV y.kd then intc (classV x.kd) (classV y.kd) else if classV x.kd = 2 then cmpQ (fz x.nn (frD x.kd x.dd)) (fz y.nn (frD y.kd y.dd)) else if classV x.kd = 3 then strc x.ss y.ss else if classV x.kd = 6 ∨ classV x.kd = 7 then ordL x.ll y.ll else intc x.nn y.nn := by
  obtain ⟨k, n, d, s, l⟩ := x
  obtain ⟨k', n', d', s', l'⟩ := y
  exact ordV_mk hx hy
theorem intc_ne {a b : Int} (h : a ≠ b) : (intc a b != 0) = true := by
  rw [bne_iff_ne]
  intro e
  exact h (intc_z.1 e)

theorem ll_ok {k n d : Int} {s : List UInt8} {l : List Vl} (h : okX (.mk k n d s l) = true) : AllOk l := by
  rcases kinds h with ⟨-, -, -, -, e⟩ | ⟨-, -, -, -, e⟩ | ⟨-, -, -, -, e⟩ | ⟨-, -, -, -, e⟩ | ⟨-, -, -, e⟩ | ⟨-, -, -, -, e⟩ | ⟨-, -, -, -, e⟩ | ⟨-, -, -, -, e⟩ | ⟨-, -, -, -, e⟩
  all_goals first | exact e | (rw [e]; intro v hv; cases hv)
theorem ll_ok' {x : Vl} (h : okX x = true) : AllOk x.ll := by
  obtain ⟨k, n, d, s, l⟩ := x
  exact ll_ok h
/-- All fields in order. -/
def fldV (x y : Vl) : Int := thn (intc x.kd y.kd) (thn (intc x.nn y.nn) (thn (intc x.dd y.dd) (thn (strc x.ss y.ss) (ordL x.ll y.ll))))
theorem fldV_4 (x y : Vl) : fldV x y = thn (thn (intc x.kd y.kd) (thn (intc x.nn y.nn) (thn (intc x.dd y.dd) (strc x.ss y.ss)))) (ordL x.ll y.ll) := by
  unfold fldV
  simp only [thn_assoc]
theorem ordV_inv {x y : Vl} (hx : okX x = false) (hy : okX y = false) : ordV x y = fldV x y := by
  obtain ⟨k, n, d, s, l⟩ := x
  unfold ordV
  rw [hx, hy]
  rfl
theorem ordV_tf {x y : Vl} (hx : okX x = true) (hy : okX y = false) : ordV x y = -1 := by
  obtain ⟨k, n, d, s, l⟩ := x
  unfold ordV
  rw [hx, hy]
  rfl
theorem ordV_ft {x y : Vl} (hx : okX x = false) (hy : okX y = true) : ordV x y = 1 := by
  obtain ⟨k, n, d, s, l⟩ := x
  unfold ordV
  rw [hx, hy]
  rfl

end Go.Proofs.YtehmdeponbhhjaaDoor

/-! Weak frames for the reference's contracts: nothing that was there turns (the count of draws is left open). No program is walked here. -/
namespace Go.Proofs.YtehmdeponbhhjaaDoor
open Go.RowKit

def RwI (w : World) (n : Int) (e : Ending) (w' : World) : Prop := e = .returned (.int .i64 n) ∧ Fuw w w'
def RwB (w : World) (b : Bool) (e : Ending) (w' : World) : Prop := e = .returned (.bool b) ∧ Fuw w w'
theorem RetI.w {w : World} {n : Int} {e : Ending} {w' : World} (h : RetI w n e w') : RwI w n e w' := ⟨h.1, h.2.b⟩
theorem RetB.w {w : World} {b : Bool} {e : Ending} {w' : World} (h : RetB w b e w') : RwB w b e w' := ⟨h.1, h.2.b⟩
/-- A wide number. -/
def RwW (w : World) (n : Nat) (e : Ending) (w' : World) : Prop := ∃ zs ao cap, Wide zs n ∧ e = .returned (.slice ao 14 cap) ∧ IsS w' ao zs cap ∧ Fuw w w'
theorem IsS.onw {w w' : World} {ao : Option Addr} {zs : List Int} {cap : Nat} (h : IsS w ao zs cap) (hf : Fuw w w') : IsS w' ao zs cap :=
  ⟨h.le, h.max, h.nil, fun hp => by
    obtain ⟨b, off, e, hb, hc⟩ := h.at_ hp
    exact ⟨b, off, e, Nat.lt_of_lt_of_le hb hf.size, fun j hj => (Below.cell hf (p := ⟨b, off + j, none⟩) hb).trans (hc j hj)⟩⟩
theorem Box.onw {W W' : World} {B : Nat} {n d : Int} (h : Box W B n d) (hf : Fuw W W') : Box W' B n d := by
  have k := h.lt
  unfold Box at *
  rw [Below.block hf B k]; exact h
theorem fuw_set {w w1 : World} {g j : Nat} {u : Value} (hf : Fuw w w1) (hg : w.heap.size ≤ g) : Fuw w (w1.setCell ⟨g, j, none⟩ u) := Below.setCell hf hg u
theorem fuw_drewN (w : World) (n : Nat) : Fuw w (w.drewN n) := (fur_drewN w n).b
theorem fuw_put {w W : World} {B : Nat} (hf : Fuw w W) (hB : w.heap.size ≤ B) (u v : Value) : Fuw w ((W.setCell ⟨B, 0, none⟩ u).setCell ⟨B, 1, none⟩ v) := fuw_set (fuw_set hf hB) hB
theorem bx1w (w : World) (x : Vl) (ao : Option Addr) (cap : Nat) :
    Bx (w.alloc (.cells #[.int .i64 x.kd, .int .i64 x.nn, .int .i64 x.dd, .string (bs x.ss), .slice ao x.ll.length cap] 26)) w.heap.size x ao cap ∧ Fuw w (w.alloc (.cells #[.int .i64 x.kd, .int .i64 x.nn, .int .i64 x.dd, .string (bs x.ss), .slice ao x.ll.length cap] 26)) :=
  ⟨(bx1 w x ao cap).1, (bx1 w x ao cap).2.b⟩
end Go.Proofs.YtehmdeponbhhjaaDoor

/-! The reference of package value: Weigh of every value in memory: what is left of a budget. Nothing that was there turns. -/
namespace Go.Proofs.YtehmdeponbhhjaaDoor
open Go.RowKit

/-- What is left of a budget behind a value. -/
def weiV : Nat → Vl → Int → Int
  | 0, _, _ => -1
  | m + 1, x, a => x.ll.foldl (fun a y => if a < 0 then a else weiV m y a) (a - 1 - ((x.ss.length / 50 : Nat) : Int))
/-- .. behind values. -/
def weiL (m : Nat) (l : List Vl) (a : Int) : Int := l.foldl (fun a y => if a < 0 then a else weiV m y a) a
theorem weiV_s (m : Nat) (x : Vl) (a : Int) : weiV (m + 1) x a = weiL m x.ll (a - 1 - ((x.ss.length / 50 : Nat) : Int)) := rfl
theorem weiL_neg (m : Nat) : ∀ (l : List Vl) {a : Int} (_ : a < 0), weiL m l a = a
  | [], _, _ => rfl
  | y :: r, a, h => by
    show weiL m r (if a < 0 then a else weiV m y a) = a
    rw [if_pos h]; exact weiL_neg m r h
theorem weiL_cons (m : Nat) (y : Vl) (r : List Vl) {a : Int} (h : 0 ≤ a) : weiL m (y :: r) a = weiL m r (weiV m y a) := by
  show weiL m r (if a < 0 then a else weiV m y a) = _
  rw [if_neg (by omega)]
mutual
theorem weiV_lt : ∀ (m : Nat) (x : Vl) {a : Int} (_ : 0 ≤ a), weiV m x a < a
  | 0, _, a, h => by show (-1 : Int) < a; omega
  | m + 1, x, a, h => by
    rw [weiV_s]
    have := weiL_le m x.ll (a - 1 - ((x.ss.length / 50 : Nat) : Int))
    omega
theorem weiL_le : ∀ (m : Nat) (l : List Vl) (a : Int), weiL m l a ≤ a
  | m, [], a => Int.le_refl _
  | m, y :: r, a => by
    by_cases h : a < 0
    · rw [weiL_neg m _ h]; exact Int.le_refl _
    · rw [weiL_cons m y r (by omega)]
      have k1 := weiL_le m r (weiV m y a)
      have k2 := weiV_lt m y (a := a) (by omega)
      omega
end
theorem weiL_drop (m : Nat) (l : List Vl) (i : Nat) (h : i < l.length) {a : Int} (ha : 0 ≤ a) : weiL m (l.drop i) a = weiL m (l.drop (i + 1)) (weiV m l[i] a) := by
  rw [List.drop_eq_getElem_cons h, weiL_cons m _ _ ha]
/-! Light. -/
/-- A slice of rows. -/
structure RsV (w : World) (ao : Option Addr) (rows : List (List Vl)) (cap : Nat) : Prop where
  le : rows.length ≤ cap
  max : cap ≤ maxLen
  nil : ao = none → cap = 0
  at_ : 0 < rows.length → ∃ b o, ao = some ⟨b, o, none⟩ ∧ ∀ (j : Nat) (h : j < rows.length), ∃ a c, w.cell? ⟨b, o + j, none⟩ = some (.slice a rows[j].length c) ∧ SlV w a rows[j] c
theorem RsV.on {w w' : World} {ao : Option Addr} {rows : List (List Vl)} {cap : Nat} (h : RsV w ao rows cap) (hf : Fur w w') : RsV w' ao rows cap :=
  ⟨h.le, h.max, h.nil, fun hp => by
    obtain ⟨b, o, e, hc⟩ := h.at_ hp
    refine ⟨b, o, e, fun j hj => ?_⟩
    obtain ⟨a, c, h1, h2⟩ := hc j hj
    exact ⟨a, c, cellOn hf h1, h2.on hf⟩⟩
theorem RsV.onw {w w' : World} {ao : Option Addr} {rows : List (List Vl)} {cap : Nat} (h : RsV w ao rows cap) (hf : Fuw w w') : RsV w' ao rows cap :=
  ⟨h.le, h.max, h.nil, fun hp => by
    obtain ⟨b, o, e, hc⟩ := h.at_ hp
    refine ⟨b, o, e, fun j hj => ?_⟩
    obtain ⟨a, c, h1, h2⟩ := hc j hj
    exact ⟨a, c, cellOnw hf h1, h2.onw hf⟩⟩
/-- What is left of a budget behind rows. -/
def ligV (rows : List (List Vl)) (a : Int) : Int := rows.foldl (fun a r => if a < 0 then a else weiL 12 r (a - 1)) a
theorem ligV_neg : ∀ (rows : List (List Vl)) {a : Int} (_ : a < 0), ligV rows a = a
  | [], _, _ => rfl
  | y :: r, a, h => by
    show ligV r (if a < 0 then a else weiL 12 y (a - 1)) = a
    rw [if_pos h]; exact ligV_neg r h
theorem ligV_drop (rows : List (List Vl)) (i : Nat) (h : i < rows.length) {a : Int} (ha : 0 ≤ a) : ligV (rows.drop i) a = ligV (rows.drop (i + 1)) (weiL 12 rows[i] (a - 1)) := by
  rw [List.drop_eq_getElem_cons h]
  show ligV _ (if a < 0 then a else weiL 12 _ (a - 1)) = _
  rw [if_neg (by omega)]
theorem ligV_le : ∀ (rows : List (List Vl)) (a : Int), ligV rows a ≤ a
  | [], a => Int.le_refl _
  | y :: r, a => by
    by_cases h : a < 0
    · rw [ligV_neg _ h]; exact Int.le_refl _
    · show ligV r (if a < 0 then a else weiL 12 y (a - 1)) ≤ a
      rw [if_neg h]
      have k1 := ligV_le r (weiL 12 y (a - 1))
      have k2 := weiL_le 12 y (a - 1)
      omega
end Go.Proofs.YtehmdeponbhhjaaDoor

/-! The reference of package value: Plain of every value in memory. Nothing that was there turns. -/
namespace Go.Proofs.YtehmdeponbhhjaaDoor
open Go.RowKit

def plaV (x : Vl) : Bool := okX x && (x.kd == 1 || x.kd == 2 || x.kd == 4)
theorem str_less : ∀ (a b : List UInt8), (strc a b = -1 ∧ Op.bytesLess a b = true ∧ Op.bytesLess b a = false ∧ (a == b) = false) ∨ (strc a b = 0 ∧ Op.bytesLess a b = false ∧ Op.bytesLess b a = false ∧ (a == b) = true) ∨ (strc a b = 1 ∧ Op.bytesLess a b = false ∧ Op.bytesLess b a = true ∧ (a == b) = false)
  | [], [] => .inr (.inl ⟨rfl, rfl, rfl, rfl⟩)
  | [], _ :: _ => .inl ⟨rfl, rfl, rfl, rfl⟩
  | _ :: _, [] => .inr (.inr ⟨rfl, rfl, rfl, rfl⟩)
  | x :: r, y :: t => by
    have ih := str_less r t
    show (thn (intc x.toNat y.toNat) (strc r t) = -1 ∧ (decide (x < y) || x == y && Op.bytesLess r t) = true ∧ (decide (y < x) || y == x && Op.bytesLess t r) = false ∧ (x == y && r == t) = false) ∨ (thn (intc x.toNat y.toNat) (strc r t) = 0 ∧ (decide (x < y) || x == y && Op.bytesLess r t) = false ∧ (decide (y < x) || y == x && Op.bytesLess t r) = false ∧ (x == y && r == t) = true) ∨ (thn (intc x.toNat y.toNat) (strc r t) = 1 ∧ (decide (x < y) || x == y && Op.bytesLess r t) = false ∧ (decide (y < x) || y == x && Op.bytesLess t r) = true ∧ (x == y && r == t) = false)
    have lx : x < y ↔ x.toNat < y.toNat := UInt8.lt_iff_toNat_lt
    have ly : y < x ↔ y.toNat < x.toNat := UInt8.lt_iff_toNat_lt
    rcases Nat.lt_trichotomy x.toNat y.toNat with h | h | h
    · have ne : (x == y) = false := by rw [beq_eq_false_iff_ne]; intro e; rw [e] at h; omega
      have ne' : (y == x) = false := by rw [beq_eq_false_iff_ne]; intro e; rw [e] at h; omega
      refine .inl ⟨?_, ?_, ?_, ?_⟩
      · unfold thn intc; rw [if_pos (show (x.toNat : Int) < y.toNat by omega)]; rfl
      · rw [decide_eq_true (lx.2 h)]; rfl
      · rw [decide_eq_false (fun k => by have := ly.1 k; omega), ne']; rfl
      · rw [ne]; rfl
    · have e : x = y := UInt8.toNat_inj.1 h
      subst e
      have f : decide (x < x) = false := decide_eq_false (fun k => by have := lx.1 k; omega)
      have z : intc x.toNat x.toNat = 0 := intc_self _
      rw [f, z, thn_0, beq_self_eq_true, Bool.false_or, Bool.true_and, Bool.false_or, Bool.true_and, Bool.true_and]
      exact ih
    · have ne : (x == y) = false := by rw [beq_eq_false_iff_ne]; intro e; rw [e] at h; omega
      have ne' : (y == x) = false := by rw [beq_eq_false_iff_ne]; intro e; rw [e] at h; omega
      refine .inr (.inr ⟨?_, ?_, ?_, ?_⟩)
      · unfold thn intc; rw [if_neg (show ¬ (x.toNat : Int) < y.toNat by omega), if_pos (show (y.toNat : Int) < x.toNat by omega)]; rfl
      · rw [decide_eq_false (fun k => by have := lx.1 k; omega), ne]; rfl
      · rw [decide_eq_true (ly.2 h)]; rfl
      · rw [ne]; rfl
theorem rstrs_any (s t : ByteArray) (w : World) : Calls Tryd.prog 33 #[.string s, .string t] w fun e w' => e = .returned (.int .i64 (strc s.data.toList t.data.toList)) ∧ w' = w := by
  have k := str_less s.data.toList t.data.toList
  rw [← ByteArray.toList_eq, ← ByteArray.toList_eq] at k ⊢
  rcases k with ⟨e, g1, g2, g3⟩ | ⟨e, g1, g2, g3⟩ | ⟨e, g1, g2, g3⟩
  all_goals
    rw [e]; clear e
    go_enter Tryd.func33, Tryd.ntmps33
    go_wp2
    go_ret
    exact ⟨rfl, rfl⟩
end Go.Proofs.YtehmdeponbhhjaaDoor
