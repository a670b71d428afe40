/-
  OrV; RxM; WideN; FrA; FrB; FrC; FrD: texts of one kind in one file; each part says what it holds.
-/
import Derived.Test.YtolkdmhjomampaaDoorLvE
import Derived.Test.YtolkdmhjomampaaDoorValT
import Derived.Test.YtolkdmhjomampaaDoorWideM
import Derived.Test.YtolkdmhjomampaaDoorFrMem
import Derived.Test.YtolkdmhjomampaaDoorFracM

/-! Plain mathematics of the order of values: what it is of two valid ones, of two that are not, of one of each. No program is walked here. -/
namespace Go.Proofs.YtolkdmhjomampaaDoor
open Go.RowKit

theorem ordL_drop (l l' : List Vl) (i : Nat) (h : i < l.length) (h' : i < l'.length) : ordL (l.drop i) (l'.drop i) = thn (ordV l[i] l'[i]) (ordL (l.drop (i + 1)) (l'.drop (i + 1))) := by
  rw [List.drop_eq_getElem_cons h, List.drop_eq_getElem_cons h']
  simp only [ordL]
theorem ordL_more (l l' : List Vl) (i : Nat) (h : i < l.length) (h' : l'.length ≤ i) : ordL (l.drop i) (l'.drop i) = 1 := by
  rw [List.drop_eq_getElem_cons h, List.drop_of_length_le h']
  simp only [ordL]
theorem ordL_less (l l' : List Vl) (i : Nat) (h : l.length ≤ i) (h' : i < l'.length) : ordL (l.drop i) (l'.drop i) = -1 := by
  rw [List.drop_eq_getElem_cons h', List.drop_of_length_le h]
  simp only [ordL]
theorem ordL_fin (l l' : List Vl) (i : Nat) (h : l.length ≤ i) (h' : l'.length ≤ i) : ordL (l.drop i) (l'.drop i) = 0 := by
  rw [List.drop_of_length_le h', List.drop_of_length_le h]
  simp only [ordL]
/-- What a function (orderValid or Order) answers of two values. -/
def CmpAt (g : Nat) (x y : Vl) : Prop := ∀ (ao bo : Option Addr) (ca cb : Nat) (w : World), Vin x → Vin y → SlV w ao x.ll ca → SlV w bo y.ll cb → Calls Tryd.prog g #[vlv x ao ca, vlv y bo cb] w (RetI w (ordV x y))

theorem kind_in {x : Vl} (h : okX x = true) : 0 ≤ x.kd ∧ x.kd ≤ 8 := by
  obtain ⟨k, n, d, s, l⟩ := x
  show 0 ≤ k ∧ k ≤ 8
  rcases kinds h with h | h | h | h | h | h | h | h | h <;> omega
theorem ordV_mk {k n d : Int} {s : List UInt8} {l : List Vl} {k' n' d' : Int} {s' : List UInt8} {l' : List Vl} (hx : okX (.mk k n d s l) = true) (hy : okX (.mk k' n' d' s' l') = true) : ordV (.mk k n d s l) (.mk k' n' d' s' l') =
    if classV k ≠ classV k' then intc (classV k) (classV k') else if classV k = 2 then cmpQ (fz n (frD k d)) (fz n' (frD k' d')) else if classV k = 3 then strc s s' else if classV k = 6 ∨ classV k = 7 then ordL l l' else intc n n' := by
  have nx : isNum (.mk k n d s l) = true ↔ classV k = 2 := num_class hx
  have ny : isNum (.mk k' n' d' s' l') = true ↔ classV k' = 2 := num_class hy
  unfold ordV
  show (if okX (.mk k n d s l) ≠ okX (.mk k' n' d' s' l') then (if okX (.mk k n d s l) = true then -1 else 1) else if okX (.mk k' n' d' s' l') = true ∧ classV k ≠ classV k' then intc (classV k) (classV k') else if okX (.mk k' n' d' s' l') = true ∧ isNum (.mk k n d s l) = true then cmpQ (fz (nmN (.mk k n d s l)) (nmD (.mk k n d s l))) (fz (nmN (.mk k' n' d' s' l')) (nmD (.mk k' n' d' s' l'))) else thn (intc k k') (thn (intc n n') (thn (intc d d') (thn (strc s s') (ordL l l'))))) = _
  rw [if_neg (show ¬ (okX (.mk k n d s l) ≠ okX (.mk k' n' d' s' l')) by rw [hx, hy]; simp)]
  by_cases hc : classV k = classV k'
  · rw [if_neg (show ¬ (okX (.mk k' n' d' s' l') = true ∧ classV k ≠ classV k') from fun t => t.2 hc), if_neg (show ¬ (classV k ≠ classV k') from fun t => t hc)]
    by_cases h2 : classV k = 2
    · have i1 := nx.2 h2
      have i2 := ny.2 (hc ▸ h2)
      rw [if_pos ⟨hy, i1⟩, if_pos h2]
      unfold nmN nmD frD
      rw [if_pos i1, if_pos i1, if_pos i2, if_pos i2]
      rfl
    · rw [if_neg (show ¬ (okX (.mk k' n' d' s' l') = true ∧ isNum (.mk k n d s l) = true) from fun t => h2 (nx.1 t.2)), if_neg h2]
      clear nx ny
      rcases kinds hx with ⟨k0, a1, a2, a3, a4⟩ | ⟨k0, a1, a2, a3, a4⟩ | ⟨k0, a1, a2, a3, a4⟩ | ⟨k0, a1, a2, a3, a4⟩ | ⟨k0, a1, a2, a4⟩ | ⟨k0, a1, a2, a3, a4⟩ | ⟨k0, a1, a2, a3, a4⟩ | ⟨k0, a1, a2, a3, a4⟩ | ⟨k0, a1, a2, a3, a4⟩ <;>
      rcases kinds hy with ⟨q0, b1, b2, b3, b4⟩ | ⟨q0, b1, b2, b3, b4⟩ | ⟨q0, b1, b2, b3, b4⟩ | ⟨q0, b1, b2, b3, b4⟩ | ⟨q0, b1, b2, b4⟩ | ⟨q0, b1, b2, b3, b4⟩ | ⟨q0, b1, b2, b3, b4⟩ | ⟨q0, b1, b2, b3, b4⟩ | ⟨q0, b1, b2, b3, b4⟩ <;>
      (rw [k0, q0] at hc) <;> first
      | (exact absurd hc (by decide))
      | (rw [k0] at h2; exact absurd rfl h2)
      | skip
      · subst k0 a1 a2 a3 a4 q0 b1 b2 b3 b4
        rfl
      · subst k0 a2 a3 a4 q0 b2 b3 b4
        simp only [intc_self, thn_0, strc, ordL, thn_r]
        rfl
      · subst k0 a1 a2 a4 q0 b1 b2 b4
        simp only [intc_self, thn_0, ordL, thn_r]
        rfl
      · subst k0 a2 a3 a4 q0 b2 b3 b4
        simp only [intc_self, thn_0, strc, ordL, thn_r]
        rfl
      · subst k0 a2 a3 a4 q0 b2 b3 b4
        simp only [intc_self, thn_0, strc, ordL, thn_r]
        rfl
      · subst k0 a1 a2 a3 q0 b1 b2 b3
        simp only [intc_self, thn_0, strc]
        rfl
      · subst k0 a1 a2 a3 q0 b1 b2 b3
        simp only [intc_self, thn_0, strc]
        rfl
  · rw [if_pos (show okX (.mk k' n' d' s' l') = true ∧ classV k ≠ classV k' from ⟨hy, hc⟩), if_pos hc]
theorem ordV_eq {x y : Vl} (hx : okX x = true) (hy : okX y = true) : ordV x y = if classV x.kd ≠ classV y.kd then intc (classV x.kd) (classV y.kd) else if classV x.kd = 2 then cmpQ (fz x.nn (frD x.kd x.dd)) (fz y.nn (frD y.kd y.dd)) else if classV x.kd = 3 then strc x.ss y.ss else if classV x.kd = 6 ∨ classV x.kd = 7 then ordL x.ll y.ll else intc x.nn y.nn := by
  obtain ⟨k, n, d, s, l⟩ := x
  obtain ⟨k', n', d', s', l'⟩ := y
  exact ordV_mk hx hy
theorem intc_ne {a b : Int} (h : a ≠ b) : (intc a b != 0) = true := by
  rw [bne_iff_ne]
  intro e
  exact h (intc_z.1 e)

theorem ll_ok {k n d : Int} {s : List UInt8} {l : List Vl} (h : okX (.mk k n d s l) = true) : AllOk l := by
  rcases kinds h with ⟨-, -, -, -, e⟩ | ⟨-, -, -, -, e⟩ | ⟨-, -, -, -, e⟩ | ⟨-, -, -, -, e⟩ | ⟨-, -, -, e⟩ | ⟨-, -, -, -, e⟩ | ⟨-, -, -, -, e⟩ | ⟨-, -, -, -, e⟩ | ⟨-, -, -, -, e⟩
  all_goals first | exact e | (rw [e]; intro v hv; cases hv)
theorem ll_ok' {x : Vl} (h : okX x = true) : AllOk x.ll := by
  obtain ⟨k, n, d, s, l⟩ := x
  exact ll_ok h
/-- All fields in order. -/
def fldV (x y : Vl) : Int := thn (intc x.kd y.kd) (thn (intc x.nn y.nn) (thn (intc x.dd y.dd) (thn (strc x.ss y.ss) (ordL x.ll y.ll))))
theorem fldV_4 (x y : Vl) : fldV x y = thn (thn (intc x.kd y.kd) (thn (intc x.nn y.nn) (thn (intc x.dd y.dd) (strc x.ss y.ss)))) (ordL x.ll y.ll) := by
  unfold fldV
  simp only [thn_assoc]
theorem ordV_inv {x y : Vl} (hx : okX x = false) (hy : okX y = false) : ordV x y = fldV x y := by
  obtain ⟨k, n, d, s, l⟩ := x
  unfold ordV
  rw [hx, hy]
  rfl
theorem ordV_tf {x y : Vl} (hx : okX x = true) (hy : okX y = false) : ordV x y = -1 := by
  obtain ⟨k, n, d, s, l⟩ := x
  unfold ordV
  rw [hx, hy]
  rfl
theorem ordV_ft {x y : Vl} (hx : okX x = false) (hy : okX y = true) : ordV x y = 1 := by
  obtain ⟨k, n, d, s, l⟩ := x
  unfold ordV
  rw [hx, hy]
  rfl

end Go.Proofs.YtolkdmhjomampaaDoor

/-! Weak frames for the reference's contracts: nothing that was there turns (the count of draws is left open). No program is walked here. -/
namespace Go.Proofs.YtolkdmhjomampaaDoor
open Go.RowKit

def RwI (w : World) (n : Int) (e : Ending) (w' : World) : Prop := e = .returned (.int .i64 n) ∧ Fuw w w'
def RwB (w : World) (b : Bool) (e : Ending) (w' : World) : Prop := e = .returned (.bool b) ∧ Fuw w w'
theorem RetI.w {w : World} {n : Int} {e : Ending} {w' : World} (h : RetI w n e w') : RwI w n e w' := ⟨h.1, h.2.b⟩
theorem RetB.w {w : World} {b : Bool} {e : Ending} {w' : World} (h : RetB w b e w') : RwB w b e w' := ⟨h.1, h.2.b⟩
/-- A wide number. -/
def RwW (w : World) (n : Nat) (e : Ending) (w' : World) : Prop := ∃ zs ao cap, Wide zs n ∧ e = .returned (.slice ao 14 cap) ∧ IsS w' ao zs cap ∧ Fuw w w'
theorem IsS.onw {w w' : World} {ao : Option Addr} {zs : List Int} {cap : Nat} (h : IsS w ao zs cap) (hf : Fuw w w') : IsS w' ao zs cap :=
  ⟨h.le, h.max, h.nil, fun hp => by
    obtain ⟨b, off, e, hb, hc⟩ := h.at_ hp
    exact ⟨b, off, e, Nat.lt_of_lt_of_le hb hf.size, fun j hj => (Below.cell hf (p := ⟨b, off + j, none⟩) hb).trans (hc j hj)⟩⟩
theorem Box.onw {W W' : World} {B : Nat} {n d : Int} (h : Box W B n d) (hf : Fuw W W') : Box W' B n d := by
  have k := h.lt
  unfold Box at *
  rw [Below.block hf B k]; exact h
theorem fuw_set {w w1 : World} {g j : Nat} {u : Value} (hf : Fuw w w1) (hg : w.heap.size ≤ g) : Fuw w (w1.setCell ⟨g, j, none⟩ u) := Below.setCell hf hg u
theorem fuw_drewN (w : World) (n : Nat) : Fuw w (w.drewN n) := (fur_drewN w n).b
theorem fuw_put {w W : World} {B : Nat} (hf : Fuw w W) (hB : w.heap.size ≤ B) (u v : Value) : Fuw w ((W.setCell ⟨B, 0, none⟩ u).setCell ⟨B, 1, none⟩ v) := fuw_set (fuw_set hf hB) hB
theorem bx1w (w : World) (x : Vl) (ao : Option Addr) (cap : Nat) :
    Bx (w.alloc (.cells #[.int .i64 x.kd, .int .i64 x.nn, .int .i64 x.dd, .string (bs x.ss), .slice ao x.ll.length cap] 24)) w.heap.size x ao cap ∧ Fuw w (w.alloc (.cells #[.int .i64 x.kd, .int .i64 x.nn, .int .i64 x.dd, .string (bs x.ss), .slice ao x.ll.length cap] 24)) :=
  ⟨(bx1 w x ao cap).1, (bx1 w x ao cap).2.b⟩
end Go.Proofs.YtolkdmhjomampaaDoor

/-! Plain mathematics of wide numbers (fourteen digits in base 1000): what one round of an addition, a subtraction, a comparison, a division and a narrowing keeps. No program, no world. -/
namespace Go.Proofs.YtolkdmhjomampaaDoor

/-- After k rounds of an addition. -/
structure PlAt (x y : List Int) (k : Nat) (o : List Int) (c : Int) : Prop where
  len : o.length = 14
  digs : WD o
  c0 : 0 ≤ c
  c1 : c ≤ 1
  val : wv (o.take k) + 1000 ^ k * c.toNat = wv (x.take k) + wv (y.take k)
theorem pl_start (x y : List Int) : PlAt x y 0 (List.replicate 14 0) 0 := ⟨by simp, wd_zeros 14, by decide, by decide, rfl⟩
theorem pl_step {x y : List Int} {k : Nat} {o : List Int} {c p q : Int} (h : PlAt x y k o c) (hk : k < 14) (hp : x.getD k 0 = p) (hq : y.getD k 0 = q) (p0 : 0 ≤ p) (p1 : p < 1000) (q0 : 0 ≤ q) (q1 : q < 1000) :
    PlAt x y (k + 1) (o.set k ((c + p + q) % 1000)) ((c + p + q) / 1000) := by
  obtain ⟨h1, h2, h3, h4, h5⟩ := h
  refine ⟨by rw [List.length_set, h1], wd_set h2 _ (by omega) (by omega), by omega, by omega, ?_⟩
  rw [wset_take (by omega), wv_app, List.length_take, Nat.min_eq_left (by omega), wv_take, wv_take, hp, hq, Nat.pow_succ]
  have e : wv [(c + p + q) % 1000] = ((c + p + q) % 1000).toNat := by simp [wv]
  rw [e]
  have s : 1000 ^ k * ((c + p + q) % 1000).toNat + 1000 ^ k * 1000 * ((c + p + q) / 1000).toNat = 1000 ^ k * c.toNat + 1000 ^ k * p.toNat + 1000 ^ k * q.toNat := by
    rw [Nat.mul_assoc, ← Nat.mul_add, ← Nat.mul_add, ← Nat.mul_add]
    congr 1
    omega
  omega
theorem pl_end {x y o : List Int} {c : Int} {m n : Nat} (h : PlAt x y 14 o c) (hx : Wide x m) (hy : Wide y n) (hlt : m + n < 1000 ^ 14) : Wide o (m + n) := by
  obtain ⟨h1, h2, h3, h4, h5⟩ := h
  rw [List.take_of_length_le (by omega), List.take_of_length_le (by have := hx.len; omega), List.take_of_length_le (by have := hy.len; omega), hx.val, hy.val] at h5
  refine ⟨h1, h2, ?_⟩
  rcases (show c = 0 ∨ c = 1 by omega) with rfl | rfl
  · simpa using h5
  · exfalso
    have e : 1000 ^ 14 * (1 : Int).toNat = 1000 ^ 14 := by simp
    omega

/-- After k rounds of a subtraction; c is 0 or -1. -/
structure MiAt (x y : List Int) (k : Nat) (o : List Int) (c : Int) : Prop where
  len : o.length = 14
  digs : WD o
  c0 : -1 ≤ c
  c1 : c ≤ 0
  val : wv (o.take k) + wv (y.take k) = wv (x.take k) + 1000 ^ k * (-c).toNat
theorem mi_start (x y : List Int) : MiAt x y 0 (List.replicate 14 0) 0 := ⟨by simp, wd_zeros 14, by decide, by decide, rfl⟩
theorem mi_step {x y : List Int} {k : Nat} {o : List Int} {c p q d e : Int} (h : MiAt x y k o c) (hk : k < 14) (hp : x.getD k 0 = p) (hq : y.getD k 0 = q) (p0 : 0 ≤ p) (q0 : 0 ≤ q) (d0 : 0 ≤ d) (d1 : d < 1000) (e0 : -1 ≤ e) (e1 : e ≤ 0) (hd : d = c + p - q - 1000 * e) :
    MiAt x y (k + 1) (o.set k d) e := by
  obtain ⟨h1, h2, h3, h4, h5⟩ := h
  refine ⟨by rw [List.length_set, h1], wd_set h2 _ d0 d1, e0, e1, ?_⟩
  rw [wset_take (by omega), wv_app, List.length_take, Nat.min_eq_left (by omega), wv_take, wv_take, hp, hq, Nat.pow_succ]
  have e2 : wv [d] = d.toNat := by simp [wv]
  rw [e2]
  have s : 1000 ^ k * d.toNat + 1000 ^ k * q.toNat + 1000 ^ k * (-c).toNat = 1000 ^ k * p.toNat + 1000 ^ k * 1000 * (-e).toNat := by
    rw [Nat.mul_assoc, ← Nat.mul_add, ← Nat.mul_add, ← Nat.mul_add]
    congr 1
    omega
  omega
theorem mi_end {x y o : List Int} {c : Int} {m n : Nat} (h : MiAt x y 14 o c) (hx : Wide x m) (hy : Wide y n) (hle : n ≤ m) : Wide o (m - n) := by
  obtain ⟨h1, h2, h3, h4, h5⟩ := h
  have g := wv_lt h2
  rw [h1] at g
  rw [List.take_of_length_le (by omega), List.take_of_length_le (by have := hy.len; omega), List.take_of_length_le (by have := hx.len; omega), hx.val, hy.val] at h5
  refine ⟨h1, h2, ?_⟩
  rcases (show c = 0 ∨ c = -1 by omega) with rfl | rfl
  · have e : 1000 ^ 14 * (-(0 : Int)).toNat = 0 := by simp
    omega
  · have e : 1000 ^ 14 * (-(-1 : Int)).toNat = 1000 ^ 14 := by simp
    omega

/-- The comparison of two natural numbers. -/
def cmpN (m n : Nat) : Int := if m < n then -1 else if n < m then 1 else 0
theorem cmpN_lt {a b : Nat} (h : a < b) : cmpN a b = -1 := by unfold cmpN; rw [if_pos h]
theorem cmpN_gt {a b : Nat} (h : b < a) : cmpN a b = 1 := by unfold cmpN; rw [if_neg (by omega), if_pos h]
theorem cmpN_eq {a b : Nat} (h : a = b) : cmpN a b = 0 := by unfold cmpN; rw [if_neg (by omega), if_neg (by omega)]
theorem or_lt {x y : List Int} (k : Nat) (dx : WD x) (he : wv (x.drop (k + 1)) = wv (y.drop (k + 1))) {p q : Int} (hp : x.getD k 0 = p) (hq : y.getD k 0 = q) (p0 : 0 ≤ p) (h : p < q) : wv x < wv y := by
  rw [wv_cut x k, wv_cut y k, wv_drop x k, wv_drop y k, he, hp, hq]
  have a := wv_take_lt dx k
  have b : p.toNat + 1000 * wv (y.drop (k + 1)) + 1 ≤ q.toNat + 1000 * wv (y.drop (k + 1)) := by omega
  have c := Nat.mul_le_mul_left (1000 ^ k) b
  rw [Nat.mul_add, Nat.mul_one] at c
  omega

/-- In a division by d, the digits from k on done. -/
structure PtAt (x : List Int) (d k : Nat) (o : List Int) (r : Nat) : Prop where
  len : o.length = 14
  digs : WD o
  lt : r < d
  val : wv (x.drop k) = d * wv (o.drop k) + r
theorem pt_start (x : List Int) (d : Nat) (hx : x.length = 14) (hd : 0 < d) : PtAt x d 14 (List.replicate 14 0) 0 :=
  ⟨by simp, wd_zeros 14, hd, by rw [List.drop_of_length_le (by omega), List.drop_of_length_le (by simp)]; simp [wv]⟩
theorem pt_step {x : List Int} {d k : Nat} {o : List Int} {r p : Nat} (h : PtAt x d (k + 1) o r) (hk : k < 14) (hp : x.getD k 0 = (p : Int)) (p1 : p < 1000) :
    PtAt x d k (o.set k (((r * 1000 + p) / d : Nat) : Int)) ((r * 1000 + p) % d) := by
  obtain ⟨h1, h2, h3, h4⟩ := h
  have hz : (r * 1000 + p) / d < 1000 := by
    rw [Nat.div_lt_iff_lt_mul (by omega)]
    have : (r + 1) * 1000 ≤ d * 1000 := Nat.mul_le_mul_right _ h3
    rw [Nat.mul_comm 1000 d]
    omega
  have e := Nat.div_add_mod (r * 1000 + p) d
  have hm : (r * 1000 + p) % d < d := Nat.mod_lt _ (by omega)
  generalize (r * 1000 + p) / d = z at hz e
  generalize (r * 1000 + p) % d = s at e hm
  refine ⟨by rw [List.length_set, h1], wd_set h2 _ (by omega) (by omega), hm, ?_⟩
  rw [wset_drop (by omega), wv, wv_drop x k, hp, h4, Int.toNat_natCast, Int.toNat_natCast, Nat.mul_add, Nat.mul_add, Nat.mul_left_comm d 1000]
  omega
theorem pt_end {x : List Int} {d n : Nat} {o : List Int} {r : Nat} (h : PtAt x d 0 o r) (hx : Wide x n) : Wide o (n / d) ∧ r = n % d := by
  obtain ⟨h1, h2, h3, h4⟩ := h
  rw [List.drop_zero, List.drop_zero, hx.val] at h4
  have e : wv o = n / d := by
    rw [h4, Nat.mul_add_div (by omega), Nat.div_eq_of_lt h3, Nat.add_zero]
  exact ⟨⟨h1, h2, e⟩, by rw [h4, Nat.mul_add_mod, Nat.mod_eq_of_lt h3]⟩

/-- What narrow gives. -/
def nrV (n : Nat) : Int := if n ≤ 1000000000000000 then n else 0
def nrB (n : Nat) : Bool := decide (n ≤ 1000000000000000)
theorem nr_t {n : Nat} (h : n ≤ 1000000000000000) : nrV n = n ∧ nrB n = true := ⟨by unfold nrV; rw [if_pos h], decide_eq_true h⟩
theorem nr_f {n : Nat} (h : ¬ n ≤ 1000000000000000) : nrV n = 0 ∧ nrB n = false := ⟨by unfold nrV; rw [if_neg h], decide_eq_false h⟩
theorem nr_big {x : List Int} {n : Nat} (k : Nat) (hx : Wide x n) (h : 1000000000000 < wv (x.drop (k + 1))) : ¬ n ≤ 1000000000000000 := by
  have a := wv_drop x k
  have b := wv_drop_le x k
  rw [hx.val] at b
  omega
end Go.Proofs.YtolkdmhjomampaaDoor

/-! The reference of package frac: size gives the absolute value, sign the sign, gcd the greatest common divisor of ints that are not negative. The world has at most drawn. -/
namespace Go.Proofs.YtolkdmhjomampaaDoor
open Go.RowKit

theorem rsize_any (n : Int) (h : -9223372036854775807 ≤ n) (h' : n ≤ 9223372036854775807) (w : World) : Calls Tryd.prog 63 #[.int .i64 n] w fun e w' => e = .returned (.int .i64 (n.natAbs : Int)) ∧ w' = w := by
  by_cases hn : n < 0
  · have e : (n.natAbs : Int) = -n := by omega
    rw [e]; clear e
    go_enter Tryd.func63, Tryd.ntmps63
    go_wp2
    go_ret
    exact ⟨rfl, rfl⟩
  · have e : (n.natAbs : Int) = n := by omega
    rw [e]; clear e
    have hn' : 0 ≤ n := by omega
    clear hn
    go_enter Tryd.func63, Tryd.ntmps63
    go_wp2
    go_ret
    exact ⟨rfl, rfl⟩
theorem rsign_any (n : Int) (w : World) : Calls Tryd.prog 61 #[.int .i64 n] w fun e w' => e = .returned (.int .i64 n.sign) ∧ w' = w := by
  rcases Int.lt_trichotomy n 0 with hn | hn | hn
  · rw [Int.sign_eq_neg_one_of_neg hn]
    go_enter Tryd.func61, Tryd.ntmps61
    go_wp2
    go_ret
    exact ⟨rfl, rfl⟩
  · subst hn
    go_enter Tryd.func61, Tryd.ntmps61
    go_wp2
    go_ret
    exact ⟨rfl, rfl⟩
  · rw [Int.sign_eq_one_of_pos hn]
    have hn' : ¬ n < 0 := by omega
    go_enter Tryd.func61, Tryd.ntmps61
    go_wp2
    go_ret
    exact ⟨rfl, rfl⟩

/-- The world has at most drawn. -/
def RetQ (w : World) (n : Int) (e : Ending) (w' : World) : Prop := ∃ q, e = .returned (.int .i64 n) ∧ w' = w.drewN q
theorem gcd_round {x y : Nat} : Nat.gcd y (x % y) = Nat.gcd x y := by
  rw [Nat.gcd_comm x y, Nat.gcd_rec y x, Nat.gcd_comm]
set_option maxHeartbeats 800000 in
theorem rgcd_any (a b : Nat) (ha : a ≤ 9223372036854775807) (hb : b ≤ 9223372036854775807) (w : World) : Calls Tryd.prog 81 #[.int .i64 a, .int .i64 b] w (RetQ w (Nat.gcd a b : Nat)) := by
  go_enter Tryd.func81, Tryd.ntmps81
  go_wp2
  go_loopw [0, 1] (fun x y wr => ∃ p q : Nat, x = .int .i64 p ∧ y = .int .i64 q ∧ p ≤ 9223372036854775807 ∧ q ≤ 9223372036854775807 ∧ Hid (Nat.gcd p q = Nat.gcd a b) ∧ ∃ n, wr = w.drewN n) (fun _ y _ => (RowKit.intOf y).toNat)
  case atStart => exact ⟨a, b, rfl, rfl, ha, hb, rfl, 0, rfl⟩
  case round =>
    obtain ⟨p, q, rfl, rfl, c1, c2, HG, n, rfl⟩ := hrel
    by_cases hq : q = 0
    · subst hq
      have HP := Lib.hid (show ((Nat.gcd a b : Nat) : Int) = (p : Int) by rw [← HG.out, Nat.gcd_zero_right])
      go_wp2
      go_ret
      exact ⟨n, ret_int HP.out.symm, rfl⟩
    · have hq0 : 0 < q := by omega
      have hne : ((q : Int) != 0) = true := by rw [bne_iff_ne]; omega
      have hlt := Nat.mod_lt p hq0
      have HG2 := Lib.hid (gcd_round.trans HG.out)
      clear hq
      go_wp2
      go_region
      go_wp2
      go_roundw
      case rel => exact ⟨q, p % q, rfl, by go_num, by omega, by omega, HG2.out, n + 1, rfl⟩
      case measure => simp [RowKit.intOf]; omega
end Go.Proofs.YtolkdmhjomampaaDoor

/-! The reference of package frac: Valid tells the valid fractions. For every two ints; nothing that was there turns. -/
namespace Go.Proofs.YtolkdmhjomampaaDoor
open Go.RowKit

theorem rsize_q (n : Int) (h : -9223372036854775807 ≤ n) (h' : n ≤ 9223372036854775807) (w : World) (k : Nat) : Calls Tryd.prog 63 #[.int .i64 n] (w.drewN k) fun e w' => e = .returned (.int .i64 (n.natAbs : Int)) ∧ ∃ m, w' = w.drewN m :=
  Calls.quiet_of_same (rsize_any n h h' _)
theorem rgcd_q (a b : Nat) (ha : a ≤ 9223372036854775807) (hb : b ≤ 9223372036854775807) (w : World) (k : Nat) : Calls Tryd.prog 81 #[.int .i64 a, .int .i64 b] (w.drewN k) fun e w' => e = .returned (.int .i64 (Nat.gcd a b : Nat)) ∧ ∃ m, w' = w.drewN m :=
  Calls.quiet_of ((rgcd_any a b ha hb _).mono fun _ _ ⟨q, he, hw⟩ => ⟨he, q, hw⟩)

set_option maxHeartbeats 1600000 in
theorem rvalid_any (n d : Int) (w : World) :
    Calls Tryd.prog 59 #[.agg #[.int .i64 n, .int .i64 d]] w (RetB w (okF n d)) := by
  have fin : ∀ k, Fur w ((w.alloc (Obj.cells #[Value.int IntKind.i64 n, Value.int IntKind.i64 d] 61)).drewN k) := fun k => ((Fur.refl w).alloc _).trans (fur_drewN _ k)
  have FIN := Lib.hid fin
  clear fin
  by_cases h1 : 1 ≤ d
  rotate_left
  · have e : okF n d = false := by unfold okF; rw [decide_eq_false h1]; rfl
    have g1 : decide (1 ≤ d) = false := decide_eq_false h1
    rw [e]; clear e h1
    go_enter Tryd.func59, Tryd.ntmps59
    go_wp2
    go_quiet (fail)
    go_wp2
    go_ret
    exact ⟨rfl, FIN.out _⟩
  have g1 : decide (1 ≤ d) = true := decide_eq_true h1
  by_cases h2 : d ≤ 1000000000000000
  rotate_left
  · have e : okF n d = false := by unfold okF; rw [decide_eq_false h2, Bool.and_false]; rfl
    have g2 : decide (d ≤ 1000000000000000) = false := decide_eq_false h2
    rw [e]; clear e h1 h2
    go_enter Tryd.func59, Tryd.ntmps59
    go_wp2
    go_quiet (fail)
    go_wp2
    go_ret
    exact ⟨rfl, FIN.out _⟩
  have g2 : decide (d ≤ 1000000000000000) = true := decide_eq_true h2
  by_cases h3 : -1000000000000000 ≤ n
  rotate_left
  · have e : okF n d = false := by unfold okF; rw [decide_eq_false h3, Bool.and_false]; rfl
    have g3 : decide (-1000000000000000 ≤ n) = false := decide_eq_false h3
    rw [e]; clear e h1 h2 h3
    go_enter Tryd.func59, Tryd.ntmps59
    go_wp2
    go_quiet (fail)
    go_wp2
    go_ret
    exact ⟨rfl, FIN.out _⟩
  have g3 : decide (-1000000000000000 ≤ n) = true := decide_eq_true h3
  by_cases h4 : n ≤ 1000000000000000
  rotate_left
  · have e : okF n d = false := by unfold okF; rw [decide_eq_false h4, Bool.and_false]; rfl
    have g4 : decide (n ≤ 1000000000000000) = false := decide_eq_false h4
    rw [e]; clear e h1 h2 h3 h4
    go_enter Tryd.func59, Tryd.ntmps59
    go_wp2
    go_quiet (fail)
    go_wp2
    go_ret
    exact ⟨rfl, FIN.out _⟩
  have g4 : decide (n ≤ 1000000000000000) = true := decide_eq_true h4
  obtain ⟨D, rfl⟩ : ∃ D : Nat, d = (D : Int) := ⟨d.toNat, by omega⟩
  have CS := Lib.hid (fun k => rsize_q n (by omega) (by omega) (w.alloc (Obj.cells #[Value.int IntKind.i64 n, Value.int IntKind.i64 (D : Int)] 61)) k)
  have CG := Lib.hid (fun k => rgcd_q n.natAbs D (by omega) (by omega) (w.alloc (Obj.cells #[Value.int IntKind.i64 n, Value.int IntKind.i64 (D : Int)] 61)) k)
  have HE := Lib.hid (show okF n (D : Int) = (((Nat.gcd n.natAbs D : Nat) : Int) == 1) by
    unfold okF
    rw [g1, g2, g3, g4, Int.toNat_natCast, Bool.true_and, Bool.true_and, Bool.true_and, Bool.true_and]
    by_cases h : Nat.gcd n.natAbs D = 1
    · rw [decide_eq_true h, h]; rfl
    · rw [decide_eq_false h]
      exact (beq_eq_false_iff_ne.2 (by omega)).symm)
  generalize Nat.gcd n.natAbs D = g at CG HE
  rw [HE.out]
  clear h1 h2 h3 h4 HE
  go_enter Tryd.func59, Tryd.ntmps59
  go_wp2
  go_quiet (first | (go_at_call 63; exact CS.out _) | (go_at_call 81; exact CG.out _))
  go_wp2
  go_ret
  exact ⟨rfl, FIN.out _⟩
end Go.Proofs.YtolkdmhjomampaaDoor

/-! The reference of package frac: times gives the product of two ints from 0 to 1000000000000000 as fourteen digits in base 1000. Nothing that was there turns. -/
namespace Go.Proofs.YtolkdmhjomampaaDoor
open Go.RowKit

/-- In the outer loop of the multiplication. -/
structure ToAt (A B i a : Nat) (o : List Int) : Prop where
  len : o.length = 14
  digs : WD o
  rest : a = A / 1000 ^ i
  val : wv o = (A % 1000 ^ i) * B
theorem to_start (A B : Nat) : ToAt A B 0 A (List.replicate 14 0) := ⟨by simp, wd_zeros 14, by simp, by rw [wv_zeros, Nat.pow_zero, Nat.mod_one, Nat.zero_mul]⟩
theorem pow_place {A i k : Nat} (h : 0 < A / 1000 ^ i) (hA : A < 1000 ^ k) : i < k := by
  rcases Nat.lt_or_ge i k with g | g
  · exact g
  · have p := Nat.pow_le_pow_right (show 0 < 1000 by decide) g
    rw [Nat.div_eq_of_lt (by omega)] at h
    omega
theorem to_in {A B i a : Nat} {o : List Int} (h : ToAt A B i a o) : TmAt ((A % 1000 ^ (i + 1)) * B) i o 0 (a % 1000) B := by
  refine ⟨h.len, h.digs, by decide, Nat.mod_lt _ (by decide), ?_⟩
  rw [h.val, h.rest, Nat.mod_pow_succ, Nat.add_mul, Nat.zero_add, Nat.mul_assoc]
theorem to_next {A B i a k : Nat} {o : List Int} {d : Nat} (h : ToAt A B i a o) {o2 : List Int} (g : TmAt ((A % 1000 ^ (i + 1)) * B) k o2 0 d 0) : ToAt A B (i + 1) (a / 1000) o2 :=
  ⟨g.len, g.digs, by rw [h.rest, Nat.div_div_eq_div_mul, Nat.pow_succ], by have v := g.val; simpa using v⟩
theorem to_end {A B i : Nat} {o : List Int} (h : ToAt A B i 0 o) : Wide o (A * B) := by
  refine ⟨h.len, h.digs, ?_⟩
  rw [h.val]
  have e := Nat.div_add_mod A (1000 ^ i)
  rw [← h.rest] at e
  rw [show A % 1000 ^ i = A by omega]
theorem to_small {A B i : Nat} (hA : A ≤ 1000000000000000) (hB : B ≤ 1000000000000000) : (A % 1000 ^ i) * B < 1000 ^ 11 := by
  have a : A % 1000 ^ i ≤ A := Nat.mod_le _ _
  have b := Nat.mul_le_mul (Nat.le_trans a hA) hB
  have c : 1000000000000000 * 1000000000000000 < 1000 ^ 11 := by decide
  omega

theorem tm_step0 {T k : Nat} {o : List Int} {carry d : Nat} (h : TmAt T k o carry d 0) (hk : k < 14) {r : Nat} (hr : o.getD k 0 = (r : Int)) :
    TmAt T (k + 1) (o.set k (((carry : Int) + r) % 1000)) ((carry + r) / 1000) d 0 := by
  have g := tm_step h hk hr
  simp only [Nat.zero_mod, Nat.mul_zero, Nat.add_zero, Nat.zero_div] at g
  rwa [show (((carry + r) % 1000 : Nat) : Int) = ((carry : Int) + r) % 1000 by omega] at g
theorem cast_mod (y r m : Nat) : (((y + r + m) % 1000 : Nat) : Int) = ((y : Int) + r + m) % 1000 := by omega
theorem cast_div (y r m : Nat) : ((y : Int) + r + m) / 1000 = (((y + r + m) / 1000 : Nat) : Int) := by omega
theorem cast_div1 (c : Nat) : (c : Int) / 1000 = ((c / 1000 : Nat) : Int) := by omega
theorem cast_mul (d c : Nat) : (d : Int) % 1000 * ((c : Int) % 1000) = ((d % 1000 * (c % 1000) : Nat) : Int) := by rw [Int.natCast_mul, Int.natCast_emod, Int.natCast_emod]; rfl
theorem div_step (B k i : Nat) (h : i ≤ k) : B / 1000 ^ (k - i) / 1000 = B / 1000 ^ (k + 1 - i) := by
  rw [Nat.div_div_eq_div_mul, ← Nat.pow_succ, show (k - i).succ = k + 1 - i by omega]

set_option maxHeartbeats 3200000 in
set_option maxRecDepth 100000 in
theorem rtimes_any (A B : Nat) (hA : A ≤ 1000000000000000) (hB : B ≤ 1000000000000000) (w : World) :
    Calls Tryd.prog 62 #[.int .i64 A, .int .i64 B] w (RwW w (A * B)) := by
  obtain ⟨i0, hi, hz0, hz1, hz2⟩ := info_parts infoI
  go_enter Tryd.func62, Tryd.ntmps62
  go_wp2_with (at_make; refine wpList_make_full _ rfl (.const (.int .i64 14)) (.const (.int .i64 14)) 78 rfl w.heap.size 3 i0 (.int .i64 0) 1 Tryd.underlying78 hi hz0 hz1 .i64 .i64 _ _ 14 rfl rfl (by omega) (by omega) (by rw [hz2]; omega) (by unfold maxLen; omega) (Nat.le_refl _) ?_; intro w1 hown0 hgrow0)
  have hown1 : w1.ownsRow w.heap.size 3 1 (.slice (some ⟨w.heap.size, 0, none⟩) 14 14) 14 (cs (List.replicate 14 0)) := by
    rw [made_zero] at hown0
    exact hown0
  have hf1 : Fuw w w1 := Below.grown (Fuw.refl w) hgrow0 (Nat.le_refl _) (by intro k hk; cases hk)
  clear hown0 hgrow0
  go_wp2
  go_loopw [0, 6] (fun av iv wr => ∃ (a i : Nat) (o : List Int), av = .int .i64 a ∧ iv = .int .i64 i ∧ a ≤ 1000000000000000 ∧ i ≤ 6 ∧ wr.ownsRow w.heap.size 3 1 (.slice (some ⟨w.heap.size, 0, none⟩) 14 14) 14 (cs o) ∧ Fuw w wr ∧ Hid (ToAt A B i a o)) (fun av _ _ => (RowKit.intOf av).toNat)
  case atStart => exact ⟨A, 0, _, rfl, rfl, hA, by decide, hown1, hf1, to_start A B⟩
  case round =>
    obtain ⟨a, i, o, rfl, rfl, ha, hi6, hown, hf, HO⟩ := hrel
    by_cases ha0 : a = 0
    · subst ha0
      have HW := Lib.hid (to_end HO.out)
      have hI := IsS.of14 hown
      go_wp2
      go_ret
      exact ⟨o, _, _, HW.out, rfl, hI, hf⟩
    · have hap : (0 : Int) < a := by omega
      have hi5 : i < 6 := by
        have e := HO.out.rest
        exact pow_place (A := A) (by omega) (Nat.lt_of_le_of_lt hA (by decide))
      have HI := Lib.hid (to_in HO.out)
      have hd1 : a % 1000 < 1000 := Nat.mod_lt _ (by decide)
      clear ha0
      have i7 : i + 1 ≤ 6 := by omega
      go_wp2
      go_loopw [8, 9, 10] (fun cv yv kv wr2 => ∃ (c y k : Nat) (o2 : List Int), cv = .int .i64 c ∧ yv = .int .i64 y ∧ kv = .int .i64 k ∧ c ≤ 1000000000000000 ∧ y < 1000 ∧ i ≤ k ∧ k ≤ 11 ∧ wr2.ownsRow w.heap.size 3 1 (.slice (some ⟨w.heap.size, 0, none⟩) 14 14) 14 (cs o2) ∧ Fuw w wr2 ∧ Hid (c = B / 1000 ^ (k - i) ∧ TmAt ((A % 1000 ^ (i + 1)) * B) k o2 y (a % 1000) c)) (fun _ _ kv _ => (11 - RowKit.intOf kv).toNat)
      case atStart => exact ⟨B, 0, i, o, rfl, rfl, rfl, hB, by decide, Nat.le_refl _, by omega, hown, hf, by rw [Nat.sub_self, Nat.pow_zero, Nat.div_one], HI.out⟩
      case round =>
        obtain ⟨c, y, k, o2, rfl, rfl, rfl, hc, hy, hik, hk, hown2, hf2, HT⟩ := hrel
        by_cases hz : c = 0 ∧ y = 0
        · obtain ⟨rfl, rfl⟩ := hz
          have HN := Lib.hid (to_next HO.out HT.out.2)
          go_wp2
          go_roundw
          case rel => exact ⟨a / 1000, i + 1, o2, (congrArg (Value.int .i64) (by omega)), by go_num, by omega, i7, hown2, hf2, HN.out⟩
          case measure => simp [RowKit.intOf]; omega
        · have hk10 : k < 11 := by
            by_cases hcp : 0 < c
            · have e := HT.out.1
              have := pow_place (A := B) (i := k - i) (k := 6) (by omega) (Nat.lt_of_le_of_lt hB (by decide))
              omega
            · exact tm_place HT.out.2 (to_small hA hB) (by omega)
          have hkl : k < o2.length := by have := HT.out.2.len; omega
          obtain ⟨r, hr⟩ : ∃ r : Nat, o2.getD k 0 = (r : Int) := ⟨(o2.getD k 0).toNat, by have := (wd_getD HT.out.2.digs k).1; omega⟩
          have hr1 := (wd_getD HT.out.2.digs k).2
          rw [hr] at hr1
          have HC := Lib.hid (show c / 1000 = B / 1000 ^ (k + 1 - i) by rw [HT.out.1]; exact div_step B k i hik)
          have HQ := Lib.hid (cast_div1 c)
          have HZ := Lib.hid (show i ≤ k + 1 ∧ k + 1 ≤ 11 by omega)
          have hk14 : (k : Int) < 14 := by omega
          have hco := hown2.cellAt k (by omega)
          rw [cs_getD hkl, hr] at hco
          have hfz := hown2.frozenAt k
          by_cases hcp : 0 < c
          · have hm : a % 1000 * (c % 1000) ≤ 999 * 999 := Nat.mul_le_mul (by omega) (by omega)
            obtain ⟨m, hmI⟩ : ∃ m : Nat, m = a % 1000 * (c % 1000) := ⟨_, rfl⟩
            have hmc : (a : Int) % 1000 * ((c : Int) % 1000) = m := by rw [hmI]; exact cast_mul a c
            have HS := tm_step HT.out.2 (by omega) hr
            rw [← hmI] at hm HS
            rw [cast_mod y r m] at HS
            have HS2 := Lib.hid HS
            have hst := (hown2.stored k (.int .i64 (((y : Int) + r + m) % 1000))).1
            rw [cs_set] at hst
            have HST := Lib.hid hst
            have hf3 := fuw_set (u := .int .i64 (((y : Int) + r + m) % 1000)) (j := k) hf2 (Nat.le_refl w.heap.size)
            have HB := Lib.hid (show (y + r + m) / 1000 < 1000 by omega)
            have HV := Lib.hid (cast_div y r m)
            have hcI : (0 : Int) < c := by omega
            clear HS hmI hr hst hkl hz
            go_wp2
            go_roundw
            case rel => exact ⟨c / 1000, (y + r + m) / 1000, k + 1, _, congrArg _ HQ.out, congrArg _ HV.out, by go_num, by omega, HB.out, HZ.out.1, HZ.out.2, HST.out, hf3, HC.out, HS2.out⟩
            case measure => simp [RowKit.intOf]; omega
          · have hc0 : c = 0 := by omega
            subst hc0
            have hyI : (0 : Int) < y := by omega
            have HS2 := Lib.hid (tm_step0 HT.out.2 (by omega) hr)
            have hst := (hown2.stored k (.int .i64 (((y : Int) + r) % 1000))).1
            rw [cs_set] at hst
            have HST := Lib.hid hst
            have hf3 := fuw_set (u := .int .i64 (((y : Int) + r) % 1000)) (j := k) hf2 (Nat.le_refl w.heap.size)
            have HB := Lib.hid (show (y + r) / 1000 < 1000 by omega)
            have HV := Lib.hid (show ((y : Int) + r) / 1000 = (((y + r) / 1000 : Nat) : Int) by omega)
            clear hr hst hkl hz hcp
            go_wp2
            go_roundw
            case rel => exact ⟨0, (y + r) / 1000, k + 1, _, rfl, congrArg _ HV.out, by go_num, by omega, HB.out, HZ.out.1, HZ.out.2, HST.out, hf3, HC.out, HS2.out⟩
            case measure => simp [RowKit.intOf]; omega
end Go.Proofs.YtolkdmhjomampaaDoor

/-! The reference of package frac: plus, minus, order, parts and narrow compute with wide numbers (fourteen digits in base 1000). Nothing that was there turns. -/
namespace Go.Proofs.YtolkdmhjomampaaDoor
open Go.RowKit

set_option maxHeartbeats 3200000 in
set_option maxRecDepth 100000 in
theorem rplus_any (ao bo : Option Addr) (x y : List Int) (ca cb m n : Nat) (w : World) (ha : IsS w ao x ca) (hb : IsS w bo y cb) (hx : Wide x m) (hy : Wide y n) (hlt : m + n < 1000 ^ 14) :
    Calls Tryd.prog 82 #[.slice ao 14 ca, .slice bo 14 cb] w (RwW w (m + n)) := by
  obtain ⟨i0, hi, hz0, hz1, hz2⟩ := info_parts infoI
  have HLT := Lib.hid hlt
  clear hlt
  go_enter Tryd.func82, Tryd.ntmps82
  go_wp2_with (at_make; refine wpList_make_full _ rfl (.tmp 9) (.tmp 9) 78 rfl w.heap.size 3 i0 (.int .i64 0) 1 Tryd.underlying78 hi hz0 hz1 .i64 .i64 _ _ 14 rfl rfl (by omega) (by omega) (by rw [hz2]; omega) (by unfold maxLen; omega) (Nat.le_refl _) ?_; intro w1 hown0 hgrow0)
  have hown1 : w1.ownsRow w.heap.size 3 1 (.slice (some ⟨w.heap.size, 0, none⟩) 14 14) 14 (cs (List.replicate 14 0)) := by
    rw [made_zero] at hown0
    exact hown0
  have hf1 : Fuw w w1 := Below.grown (Fuw.refl w) hgrow0 (Nat.le_refl _) (by intro k hk; cases hk)
  clear hown0 hgrow0
  go_wp2
  go_loopw [6, 7] (fun cv kv wr => ∃ (k : Nat) (o : List Int) (c : Int), kv = .int .i64 k ∧ k ≤ 14 ∧ cv = .int .i64 c ∧ 0 ≤ c ∧ c ≤ 1 ∧ wr.ownsRow w.heap.size 3 1 (.slice (some ⟨w.heap.size, 0, none⟩) 14 14) 14 (cs o) ∧ Fuw w wr ∧ Hid (PlAt x y k o c)) (fun _ kv _ => (14 - RowKit.intOf kv).toNat)
  case atStart => exact ⟨0, _, 0, rfl, by decide, rfl, by decide, by decide, hown1, hf1, pl_start x y⟩
  case round =>
    obtain ⟨k, o, c, rfl, hk, rfl, d0, d1, hown, hf, HA⟩ := hrel
    have lx := hx.len
    have ly := hy.len
    by_cases hlt : k < 14
    · have hol : k < o.length := by have := HA.out.len; omega
      obtain ⟨p, hp⟩ : ∃ p, x.getD k 0 = p := ⟨_, rfl⟩
      obtain ⟨q, hq⟩ : ∃ q, y.getD k 0 = q := ⟨_, rfl⟩
      obtain ⟨p0, p1⟩ := wd_getD hx.digs k
      obtain ⟨q0, q1⟩ := wd_getD hy.digs k
      obtain ⟨b1, o1, rfl, _, cx⟩ := (ha.onw hf).at_ (by omega)
      obtain ⟨b2, o2, rfl, _, cy⟩ := (hb.onw hf).at_ (by omega)
      have hcx := cx k (by omega)
      have hcy := cy k (by omega)
      rw [hp] at hcx p0 p1
      rw [hq] at hcy q0 q1
      have HS := Lib.hid (pl_step HA.out hlt hp hq p0 p1 q0 q1)
      have hco := hown.cellAt k (by omega)
      rw [cs_getD hol] at hco
      have hfz := hown.frozenAt k
      have s1 : IntKind.i64.wrap (c + p) = c + p := IntWalk.i64_in _ (by omega)
      have s2 : IntKind.i64.wrap (c + p + q) = c + p + q := IntWalk.i64_in _ (by omega)
      have hk14 : (k : Int) < 14 := by omega
      have k14 : k + 1 ≤ 14 := by omega
      have hv : 0 ≤ c + p + q := by omega
      have HV := Lib.hid (show 0 ≤ (c + p + q) / 1000 ∧ (c + p + q) / 1000 ≤ 1 by omega)
      clear cx cy hp hq lx ly
      go_wp2_with fail
      go_quiet (fail)
      clear s1 s2
      have hownq : (wr.drewN nq).ownsRow w.heap.size 3 1 (.slice (some ⟨w.heap.size, 0, none⟩) 14 14) 14 (cs o) := hown
      have hst := (hownq.stored k (.int .i64 ((c + p + q) % 1000))).1
      rw [cs_set] at hst
      have HST := Lib.hid hst
      have hf3 := fuw_set (u := .int .i64 ((c + p + q) % 1000)) (j := k) (hf.trans (fuw_drewN wr nq)) (Nat.le_refl w.heap.size)
      clear hst hownq hol
      go_wp2
      go_roundw
      case rel => exact ⟨k + 1, _, _, by go_num, k14, rfl, HV.out.1, HV.out.2, HST.out, hf3, HS.out⟩
      case measure => simp [RowKit.intOf]; omega
    · have e : k = 14 := by omega
      subst e
      have HW := Lib.hid (pl_end HA.out hx hy HLT.out)
      have hI := IsS.of14 hown
      clear hlt
      go_wp2
      go_ret
      exact ⟨o, _, _, HW.out, rfl, hI, hf⟩

set_option maxHeartbeats 3200000 in
set_option maxRecDepth 100000 in
theorem rminus_any (ao bo : Option Addr) (x y : List Int) (ca cb m n : Nat) (w : World) (ha : IsS w ao x ca) (hb : IsS w bo y cb) (hx : Wide x m) (hy : Wide y n) (hle : n ≤ m) :
    Calls Tryd.prog 84 #[.slice ao 14 ca, .slice bo 14 cb] w (RwW w (m - n)) := by
  obtain ⟨i0, hi, hz0, hz1, hz2⟩ := info_parts infoI
  have HLE := Lib.hid hle
  clear hle
  go_enter Tryd.func84, Tryd.ntmps84
  go_wp2_with (at_make; refine wpList_make_full _ rfl (.tmp 9) (.tmp 9) 78 rfl w.heap.size 3 i0 (.int .i64 0) 1 Tryd.underlying78 hi hz0 hz1 .i64 .i64 _ _ 14 rfl rfl (by omega) (by omega) (by rw [hz2]; omega) (by unfold maxLen; omega) (Nat.le_refl _) ?_; intro w1 hown0 hgrow0)
  have hown1 : w1.ownsRow w.heap.size 3 1 (.slice (some ⟨w.heap.size, 0, none⟩) 14 14) 14 (cs (List.replicate 14 0)) := by
    rw [made_zero] at hown0
    exact hown0
  have hf1 : Fuw w w1 := Below.grown (Fuw.refl w) hgrow0 (Nat.le_refl _) (by intro k hk; cases hk)
  clear hown0 hgrow0
  go_wp2
  go_loopw [6, 7] (fun cv kv wr => ∃ (k : Nat) (o : List Int) (c : Int), kv = .int .i64 k ∧ k ≤ 14 ∧ cv = .int .i64 c ∧ -1 ≤ c ∧ c ≤ 0 ∧ wr.ownsRow w.heap.size 3 1 (.slice (some ⟨w.heap.size, 0, none⟩) 14 14) 14 (cs o) ∧ Fuw w wr ∧ Hid (MiAt x y k o c)) (fun _ kv _ => (14 - RowKit.intOf kv).toNat)
  case atStart => exact ⟨0, _, 0, rfl, by decide, rfl, by decide, by decide, hown1, hf1, mi_start x y⟩
  case round =>
    obtain ⟨k, o, c, rfl, hk, rfl, d0, d1, hown, hf, HA⟩ := hrel
    have lx := hx.len
    have ly := hy.len
    by_cases hlt : k < 14
    · have hol : k < o.length := by have := HA.out.len; omega
      obtain ⟨p, hp⟩ : ∃ p, x.getD k 0 = p := ⟨_, rfl⟩
      obtain ⟨q, hq⟩ : ∃ q, y.getD k 0 = q := ⟨_, rfl⟩
      obtain ⟨p0, p1⟩ := wd_getD hx.digs k
      obtain ⟨q0, q1⟩ := wd_getD hy.digs k
      obtain ⟨b1, o1, rfl, _, cx⟩ := (ha.onw hf).at_ (by omega)
      obtain ⟨b2, o2, rfl, _, cy⟩ := (hb.onw hf).at_ (by omega)
      have hcx := cx k (by omega)
      have hcy := cy k (by omega)
      rw [hp] at hcx p0 p1
      rw [hq] at hcy q0 q1
      have hst := fun d e => mi_step (d := d) (e := e) HA.out hlt hp hq p0 q0
      have hco := hown.cellAt k (by omega)
      rw [cs_getD hol] at hco
      have hfz := hown.frozenAt k
      have s1 : IntKind.i64.wrap (c + p) = c + p := IntWalk.i64_in _ (by omega)
      have s2 : IntKind.i64.wrap (c + p - q) = c + p - q := IntWalk.i64_in _ (by omega)
      have hk14 : (k : Int) < 14 := by omega
      have k14 : k + 1 ≤ 14 := by omega
      by_cases hneg : c + p - q < 0
      · have HS := Lib.hid (hst (c + p - q + 1000) (-1) (by omega) (by omega) (by decide) (by decide) (by omega))
        clear cx cy hp hq lx ly hst
        go_wp2_with fail
        go_quiet (fail)
        clear s1 s2
        have hownq : (wr.drewN nq).ownsRow w.heap.size 3 1 (.slice (some ⟨w.heap.size, 0, none⟩) 14 14) 14 (cs o) := hown
        have hw := (hownq.stored k (.int .i64 (c + p - q + 1000))).1
        rw [cs_set] at hw
        have HST := Lib.hid hw
        have hf3 := fuw_set (u := .int .i64 (c + p - q + 1000)) (j := k) (hf.trans (fuw_drewN wr nq)) (Nat.le_refl w.heap.size)
        clear hw hownq hol
        go_wp2
        go_roundw
        case rel => exact ⟨k + 1, _, _, by go_num, k14, rfl, by decide, by decide, HST.out, hf3, HS.out⟩
        case measure => simp [RowKit.intOf]; omega
      · have HS := Lib.hid (hst (c + p - q) 0 (by omega) (by omega) (by decide) (by decide) (by omega))
        have hpos : 0 ≤ c + p - q := by omega
        clear cx cy hp hq lx ly hst hneg
        go_wp2_with fail
        go_quiet (fail)
        clear s1 s2
        have hownq : (wr.drewN nq).ownsRow w.heap.size 3 1 (.slice (some ⟨w.heap.size, 0, none⟩) 14 14) 14 (cs o) := hown
        have hw := (hownq.stored k (.int .i64 (c + p - q))).1
        rw [cs_set] at hw
        have HST := Lib.hid hw
        have hf3 := fuw_set (u := .int .i64 (c + p - q)) (j := k) (hf.trans (fuw_drewN wr nq)) (Nat.le_refl w.heap.size)
        clear hw hownq hol
        go_wp2
        go_roundw
        case rel => exact ⟨k + 1, _, _, by go_num, k14, rfl, by decide, by decide, HST.out, hf3, HS.out⟩
        case measure => simp [RowKit.intOf]; omega
    · have e : k = 14 := by omega
      subst e
      have HW := Lib.hid (mi_end HA.out hx hy HLE.out)
      have hI := IsS.of14 hown
      clear hlt
      go_wp2
      go_ret
      exact ⟨o, _, _, HW.out, rfl, hI, hf⟩
end Go.Proofs.YtolkdmhjomampaaDoor
