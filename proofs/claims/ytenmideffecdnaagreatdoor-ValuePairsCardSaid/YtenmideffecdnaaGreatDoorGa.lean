/-
  FracM; OrdM; ValM; NatMem; WideM; FrMem: texts of one kind in one file; each part says what it holds.
-/
import Derived.WalkKit
import Derived.Below
import Derived.WideShapes
import Derived.Lib.Hide
import Derived.Test.YtenmideffecdnaaGreatDoorProg
import Derived.BigCall
import Derived.BigQuiet
import Derived.RegionTactic
import Derived.LoopTactic
import Derived.Deep.QuietTactic
import Derived.OwnWalk
import Derived.Laws.AppendOwnNone
import Derived.Laws.OwnMore
import Derived.IntWalk

/-! Plain mathematics of exact fractions: when a pair is a valid fraction, its value as a rational number, what an operation answers, and sums and products in lowest terms. No program, no world. -/
namespace Go.Proofs.YtenmideffecdnaaGreatDoor

/-- A valid fraction. -/
structure OkF (n d : Int) : Prop where
  d1 : 1 ≤ d
  d2 : d ≤ 1000000000000000
  n1 : -1000000000000000 ≤ n
  n2 : n ≤ 1000000000000000
  co : Nat.gcd n.natAbs d.toNat = 1
def okF (n d : Int) : Bool := decide (1 ≤ d) && decide (d ≤ 1000000000000000) && decide (-1000000000000000 ≤ n) && decide (n ≤ 1000000000000000) && decide (Nat.gcd n.natAbs d.toNat = 1)
theorem okF_t {n d : Int} (h : okF n d = true) : OkF n d := by
  simp only [okF, Bool.and_eq_true, decide_eq_true_eq] at h
  obtain ⟨⟨⟨⟨a, b⟩, c⟩, e⟩, f⟩ := h
  exact ⟨a, b, c, e, f⟩
theorem OkF.b {n d : Int} (h : OkF n d) : okF n d = true := by
  simp only [okF, Bool.and_eq_true, decide_eq_true_eq]
  exact ⟨⟨⟨⟨h.d1, h.d2⟩, h.n1⟩, h.n2⟩, h.co⟩
/-- The value of a fraction. -/
def fv (n d : Int) : Rat := mkRat n d.toNat
theorem low {n : Int} {d : Nat} {q : Rat} (hd : d ≠ 0) (co : Nat.gcd n.natAbs d = 1) (e : mkRat n d = q) : q.num = n ∧ q.den = d := by
  rw [← e, ← Rat.mk_eq_mkRat n d hd co]
  exact ⟨rfl, rfl⟩
theorem OkF.v {n d : Int} (h : OkF n d) : (fv n d).num = n ∧ (fv n d).den = d.toNat :=
  low (by have := h.d1; omega) h.co rfl
theorem OkF.nz {n d : Int} (h : OkF n d) : d.toNat ≠ 0 := by have := h.d1; omega
theorem ok_inj {n d n' d' : Int} (h : OkF n d) (h' : OkF n' d') (e : fv n d = fv n' d') : n = n' ∧ d = d' := by
  obtain ⟨a, b⟩ := h.v
  obtain ⟨a', b'⟩ := h'.v
  rw [e] at a b
  have := h.d1; have := h'.d1
  exact ⟨by rw [← a, a'], by omega⟩

/-- The value for a comparison: an invalid fraction counts as 0. -/
def fz (n d : Int) : Rat := if okF n d = true then fv n d else 0
def cmpQ (x y : Rat) : Int := if x < y then -1 else if y < x then 1 else 0

/-! The sum in lowest terms. -/
/-! The product in lowest terms. -/
/-! The fraction of two ints. -/
end Go.Proofs.YtenmideffecdnaaGreatDoor

/-! The order of rational numbers as Cmp tells it. Plain mathematics. -/

namespace Go.Proofs.YtenmideffecdnaaGreatDoor

theorem cmp_neg1 {x y : Rat} : cmpQ x y = -1 ↔ x < y := by
  unfold cmpQ
  split
  · simp [*]
  · split <;> simp [*]
theorem cmp_1 {x y : Rat} : cmpQ x y = 1 ↔ y < x := by
  unfold cmpQ
  split
  · rename_i h
    constructor
    · intro k; omega
    · intro k; exact absurd h (Rat.not_lt.2 (Rat.lt_iff_le_and_ne.1 k).1)
  · split <;> simp [*]
theorem cmp_0 {x y : Rat} : cmpQ x y = 0 ↔ x = y := by
  unfold cmpQ
  split
  · rename_i h
    constructor
    · intro k; omega
    · rintro rfl; exact absurd h Rat.lt_irrefl
  · split
    · rename_i h
      constructor
      · intro k; omega
      · rintro rfl; exact absurd h Rat.lt_irrefl
    · rename_i h k
      constructor
      · intro _; exact Rat.le_antisymm (Rat.not_lt.1 k) (Rat.not_lt.1 h)
      · intro _; rfl
theorem cmp_three (x y : Rat) : cmpQ x y = -1 ∨ cmpQ x y = 0 ∨ cmpQ x y = 1 := by
  unfold cmpQ
  split
  · exact .inl rfl
  · split
    · exact .inr (.inr rfl)
    · exact .inr (.inl rfl)
theorem cmp_self (x : Rat) : cmpQ x x = 0 := cmp_0.2 rfl
theorem cmp_swap (x y : Rat) : cmpQ x y = - cmpQ y x := by
  rcases cmp_three y x with h | h | h
  · rw [h, cmp_1.2 (cmp_neg1.1 h)]; rfl
  · rw [h, cmp_0.2 (cmp_0.1 h).symm]; rfl
  · rw [h, cmp_neg1.2 (cmp_1.1 h)]
theorem fz_ok {n d : Int} (h : okF n d = true) : fz n d = fv n d := if_pos h
theorem cmp_eq {an ad bn bd : Int} (ha : okF an ad = true) (hb : okF bn bd = true) : cmpQ (fz an ad) (fz bn bd) = 0 ↔ an = bn ∧ ad = bd := by
  rw [fz_ok ha, fz_ok hb, cmp_0]
  constructor
  · exact ok_inj (okF_t ha) (okF_t hb)
  · rintro ⟨rfl, rfl⟩; rfl
end Go.Proofs.YtenmideffecdnaaGreatDoor

/-! Plain mathematics of values: when a value is valid, and the order of all values, which is an order of their codes (lists of rational numbers), so it is total. No program, no world. -/
namespace Go.Proofs.YtenmideffecdnaaGreatDoor

/-- A value: kind, two numbers, a string's bytes, the values inside. -/
inductive Vl where
  | mk (k n d : Int) (s : List UInt8) (l : List Vl) : Vl
def Vl.kd : Vl → Int | .mk k _ _ _ _ => k
def Vl.nn : Vl → Int | .mk _ n _ _ _ => n
def Vl.dd : Vl → Int | .mk _ _ d _ _ => d
def Vl.ss : Vl → List UInt8 | .mk _ _ _ s _ => s
def Vl.ll : Vl → List Vl | .mk _ _ _ _ l => l

/-- The fields that a kind does not use are zero. -/
def bareV (n d : Int) (s : List UInt8) (l : List Vl) (bn bd bs bl : Bool) : Bool := (bn || n == 0) && (bd || d == 0) && (bs || s.isEmpty) && (bl || l.isEmpty)
/-- A string may be a value. -/
def okStr (s : List UInt8) : Bool := s.all (fun c => decide (32 ≤ c.toNat) && decide (c.toNat ≤ 126)) && decide (s.length ≤ 100)
/-- What is asked of a value that holds none. -/
def okFlat (k n d : Int) (s : List UInt8) (l : List Vl) : Bool :=
  if k = 0 then bareV n d s l false false false false
  else if k = 1 then bareV n d s l true false false false && (n == 0 || n == 1)
  else if k = 2 then bareV n d s l true false false false && (decide (-1000000000000000 ≤ n) && decide (n ≤ 1000000000000000))
  else if k = 3 then bareV n d s l true true false false && decide (2 ≤ d) && okF n d
  else if k = 4 then bareV n d s l false false true false && okStr s
  else if k = 5 ∨ k = 6 then bareV n d s l true false false false && decide (1 ≤ n) && decide (n ≤ 1000000)
  else false
mutual
/-- A value is valid where so many more lists may be nested. -/
def okV : Nat → Vl → Bool
  | m, .mk k n d s l =>
    if k = 7 then bareV n d s l false false false true && decide (l.length % 2 = 1) && decide (l.length ≤ 25) && okVp true l
    else if k = 8 then bareV n d s l false false false true && decide (1 ≤ m) && decide (l.length ≤ 64) && okVs (m - 1) l
    else okFlat k n d s l
/-- All are valid. -/
def okVs : Nat → List Vl → Bool
  | _, [] => true
  | m, v :: r => okV m v && okVs m r
/-- Nodes and edges in turn. -/
def okVp : Bool → List Vl → Bool
  | _, [] => true
  | b, v :: r => (v.kd == if b then 5 else 6) && okV 0 v && okVp (!b) r
end
/-- A value is valid. -/
def okX (v : Vl) : Bool := okV 8 v

/-- A number's fraction. -/
def isNum (v : Vl) : Bool := okX v && (v.kd == 2 || v.kd == 3)
def nmN (v : Vl) : Int := if isNum v = true then v.nn else 0
def nmD (v : Vl) : Int := if isNum v = true then (if v.kd = 2 then 1 else v.dd) else 0
def classV (k : Int) : Int := if k = 0 then 0 else if k = 1 then 1 else if k = 2 ∨ k = 3 then 2 else if k = 4 then 3 else if k = 5 then 4 else if k = 6 then 5 else if k = 8 then 6 else 7

/-- One comparison behind another. -/
def thn (x y : Int) : Int := if x = 0 then y else x
def intc (x y : Int) : Int := if x < y then -1 else if y < x then 1 else 0
def strc : List UInt8 → List UInt8 → Int
  | [], [] => 0
  | [], _ :: _ => -1
  | _ :: _, [] => 1
  | x :: r, y :: t => thn (intc x.toNat y.toNat) (strc r t)
mutual
/-- The order of values. -/
def ordV : Vl → Vl → Int
  | .mk k n d s l, b =>
    if okX (.mk k n d s l) ≠ okX b then (if okX (.mk k n d s l) = true then -1 else 1)
    else if okX b = true ∧ classV k ≠ classV b.kd then intc (classV k) (classV b.kd)
    else if okX b = true ∧ isNum (.mk k n d s l) = true then cmpQ (fz (nmN (.mk k n d s l)) (nmD (.mk k n d s l))) (fz (nmN b) (nmD b))
    else thn (intc k b.kd) (thn (intc n b.nn) (thn (intc d b.dd) (thn (strc s b.ss) (ordL l b.ll))))
/-- The order of lists of values. -/
def ordL : List Vl → List Vl → Int
  | [], [] => 0
  | [], _ :: _ => -1
  | _ :: _, [] => 1
  | x :: r, y :: t => thn (ordV x y) (ordL r t)
end

/-! Codes. -/
def lexQ : List Rat → List Rat → Int
  | [], [] => 0
  | [], _ :: _ => -1
  | _ :: _, [] => 1
  | x :: r, y :: t => thn (cmpQ x y) (lexQ r t)
def encS : List UInt8 → List Rat
  | [] => [0]
  | c :: r => (((c.toNat : Int) + 1 : Int) : Rat) :: encS r
mutual
def encV : Vl → List Rat
  | .mk k n d s l =>
    (if okX (.mk k n d s l) = true then (0 : Rat) else 1) ::
    (if okX (.mk k n d s l) = true then ((classV k : Int) : Rat) else 0) ::
    (if isNum (.mk k n d s l) = true then [fz (nmN (.mk k n d s l)) (nmD (.mk k n d s l))]
     else ((k : Int) : Rat) :: ((n : Int) : Rat) :: ((d : Int) : Rat) :: (encS s ++ encL l))
def encL : List Vl → List Rat
  | [] => [0]
  | x :: r => 1 :: (encV x ++ encL r)
end

theorem thn_assoc (x y z : Int) : thn (thn x y) z = thn x (thn y z) := by
  unfold thn; split <;> simp [*]
theorem thn_0 (x : Int) : thn 0 x = x := rfl
theorem thn_n {x : Int} (h : x ≠ 0) (y : Int) : thn x y = x := if_neg h
theorem intc_cast (x y : Int) : cmpQ (x : Rat) (y : Rat) = intc x y := by
  unfold cmpQ intc
  simp only [Rat.intCast_lt_intCast]
theorem intc_self (x : Int) : intc x x = 0 := by unfold intc; simp
theorem lexS : ∀ (s t : List UInt8) (r r' : List Rat), lexQ (encS s ++ r) (encS t ++ r') = thn (strc s t) (lexQ r r')
  | [], [], r, r' => by
    show thn (cmpQ 0 0) (lexQ r r') = _
    rw [cmp_self]; rfl
  | [], c :: t, r, r' => by
    show thn (cmpQ 0 _) _ = _
    have k : cmpQ 0 ((((c.toNat : Int) + 1 : Int)) : Rat) = -1 := by
      rw [show (0 : Rat) = ((0 : Int) : Rat) from rfl, intc_cast]
      unfold intc; rw [if_pos (by omega)]
    rw [k]; rfl
  | c :: s, [], r, r' => by
    show thn (cmpQ _ 0) _ = _
    have k : cmpQ ((((c.toNat : Int) + 1 : Int)) : Rat) 0 = 1 := by
      rw [show (0 : Rat) = ((0 : Int) : Rat) from rfl, intc_cast]
      unfold intc; rw [if_neg (by omega), if_pos (by omega)]
    rw [k]; rfl
  | c :: s, c' :: t, r, r' => by
    show thn (cmpQ _ _) (lexQ (encS s ++ r) (encS t ++ r')) = thn (thn _ _) _
    rw [lexS s t r r', intc_cast, thn_assoc]
    congr 1
    unfold intc
    split <;> split <;> (try split) <;> (try split) <;> first | rfl | omega

theorem num_class {v : Vl} (h : okX v = true) : isNum v = true ↔ classV v.kd = 2 := by
  unfold isNum classV
  rw [h, Bool.true_and, Bool.or_eq_true, beq_iff_eq, beq_iff_eq]
  constructor
  · rintro (e | e) <;> simp [e]
  · intro e
    repeat' split at e
    all_goals first | (simp at e; done) | (rename_i g; exact g) | omega
theorem num_ok {v : Vl} (h : okX v = false) : isNum v = false := by unfold isNum; rw [h]; rfl
/-- Fields compared, as codes. -/
theorem lex3 (k n d k' n' d' : Int) (A B : List Rat) : lexQ (((k : Int) : Rat) :: ((n : Int) : Rat) :: ((d : Int) : Rat) :: A) (((k' : Int) : Rat) :: ((n' : Int) : Rat) :: ((d' : Int) : Rat) :: B) = thn (intc k k') (thn (intc n n') (thn (intc d d') (lexQ A B))) := by
  show thn _ (thn _ (thn _ _)) = _
  rw [intc_cast, intc_cast, intc_cast]
theorem lex_cons (x y : Rat) (A B : List Rat) : lexQ (x :: A) (y :: B) = thn (cmpQ x y) (lexQ A B) := rfl
mutual
theorem enc_ord : ∀ (a b : Vl) (r r' : List Rat), lexQ (encV a ++ r) (encV b ++ r') = thn (ordV a b) (lexQ r r')
  | .mk k n d s l, .mk k' n' d' s' l', r, r' => by
    have ih := encL_ord l l' r r'
    unfold encV ordV
    cases ha : okX (.mk k n d s l) <;> cases hb : okX (.mk k' n' d' s' l')
    · -- neither is valid
      rw [num_ok ha, num_ok hb]
      simp only [Bool.false_eq_true, if_false, ne_eq, not_true_eq_false, false_and, List.cons_append, List.append_assoc]
      rw [lex_cons, cmp_self, thn_0, lex_cons, cmp_self, thn_0, lex3, lexS, ih]
      simp only [thn_assoc]
      rfl
    · simp only [Bool.false_eq_true, if_false, if_true, ne_eq, not_false_eq_true, List.cons_append]
      rw [lex_cons, show cmpQ (1 : Rat) 0 = 1 by decide +kernel]
      rfl
    · simp only [Bool.false_eq_true, if_false, if_true, ne_eq, not_false_eq_true, List.cons_append, reduceCtorEq]
      rw [lex_cons, show cmpQ (0 : Rat) 1 = -1 by decide +kernel]
      rfl
    · -- both are valid
      simp only [if_true, ne_eq, not_true_eq_false, if_false, true_and, List.cons_append]
      rw [lex_cons, cmp_self, thn_0, lex_cons, intc_cast]
      have na := num_class ha
      have nb := num_class hb
      by_cases hc : classV k = classV (Vl.mk k' n' d' s' l').kd
      · have hc' : classV k = classV k' := hc
        have e1 : ¬ ¬ classV k = classV (Vl.mk k' n' d' s' l').kd := fun t => t hc
        cases hn : isNum (.mk k n d s l)
        · have hm : isNum (.mk k' n' d' s' l') = false := by
            cases e : isNum (.mk k' n' d' s' l')
            · rfl
            · have t := nb.1 e
              have u := na.2 (hc.trans t)
              rw [hn] at u; cases u
          simp only [e1, hm, if_false, Bool.false_eq_true, List.cons_append, List.append_assoc]
          rw [hc', intc_self, thn_0, lex3, lexS, ih]
          simp only [thn_assoc]
          rfl
        · have hm : isNum (.mk k' n' d' s' l') = true := nb.2 (hc.symm.trans (na.1 hn))
          simp only [e1, hm, if_false, if_true, List.cons_append, List.nil_append]
          rw [hc', intc_self, thn_0, lex_cons]
      · rw [if_pos hc]
        have hne : intc (classV k) (classV k') ≠ 0 := by
          have hc' : ¬ classV k = classV k' := hc
          unfold intc
          split
          · decide
          · split
            · decide
            · omega
        rw [thn_n hne]
        show _ = thn (intc (classV k) (classV k')) _
        rw [thn_n hne]
theorem encL_ord : ∀ (a b : List Vl) (r r' : List Rat), lexQ (encL a ++ r) (encL b ++ r') = thn (ordL a b) (lexQ r r')
  | [], [], r, r' => by
    unfold encL ordL
    show thn (cmpQ 0 0) _ = _
    rw [cmp_self]
    rfl
  | [], y :: t, r, r' => by
    unfold encL ordL
    show thn (cmpQ 0 1) _ = _
    rw [show cmpQ (0 : Rat) 1 = -1 by decide +kernel]; rfl
  | x :: s, [], r, r' => by
    unfold encL ordL
    show thn (cmpQ 1 0) _ = _
    rw [show cmpQ (1 : Rat) 0 = 1 by decide +kernel]; rfl
  | x :: s, y :: t, r, r' => by
    have h1 := enc_ord x y (encL s ++ r) (encL t ++ r')
    have h2 := encL_ord s t r r'
    unfold ordL
    rw [show encL (x :: s) = 1 :: (encV x ++ encL s) by rw [encL], show encL (y :: t) = 1 :: (encV y ++ encL t) by rw [encL]]
    rw [List.cons_append, List.cons_append, lex_cons, cmp_self, thn_0, List.append_assoc, List.append_assoc, h1, h2, thn_assoc]
end

/-! The order of codes. -/
theorem thn_neg (x y : Int) : thn (-x) (-y) = - thn x y := by
  unfold thn
  by_cases h : x = 0
  · rw [if_pos h, if_pos (by omega)]
  · rw [if_neg h, if_neg (by omega)]
theorem lex_swap : ∀ a b : List Rat, lexQ b a = - lexQ a b
  | [], [] => rfl
  | [], _ :: _ => rfl
  | _ :: _, [] => rfl
  | x :: r, y :: t => by
    rw [lex_cons, lex_cons, lex_swap r t, cmp_swap y x, thn_neg]
theorem lex_self : ∀ a : List Rat, lexQ a a = 0
  | [] => rfl
  | x :: r => by rw [lex_cons, cmp_self, thn_0, lex_self r]
theorem thn_r (x : Int) : thn x 0 = x := by unfold thn; split <;> simp [*]
theorem ord_lex (a b : Vl) : ordV a b = lexQ (encV a) (encV b) := by
  have h := enc_ord a b [] []
  rw [List.append_nil, List.append_nil] at h
  rw [h]
  exact (thn_r _).symm
theorem ord_swap (a b : Vl) : ordV b a = - ordV a b := by rw [ord_lex, ord_lex, lex_swap]
theorem ord_self (a : Vl) : ordV a a = 0 := by rw [ord_lex, lex_self]
/-! Order 0: the same value. -/
theorem thn_z {x y : Int} : thn x y = 0 ↔ x = 0 ∧ y = 0 := by
  unfold thn
  by_cases h : x = 0
  · rw [if_pos h]; simp [h]
  · rw [if_neg h]; simp [h]
theorem intc_z {x y : Int} : intc x y = 0 ↔ x = y := by
  unfold intc
  split
  · constructor <;> intro h <;> omega
  · split
    · constructor <;> intro h <;> omega
    · constructor <;> intro h <;> omega
theorem strc_z : ∀ {s t : List UInt8}, strc s t = 0 → s = t
  | [], [], _ => rfl
  | [], _ :: _, h => by unfold strc at h; exact absurd h (by decide)
  | _ :: _, [], h => by unfold strc at h; exact absurd h (by decide)
  | x :: r, y :: t, h => by
    unfold strc at h
    obtain ⟨a, b⟩ := thn_z.1 h
    rw [intc_z] at a
    have e : x = y := UInt8.toNat_inj.1 (by omega)
    rw [e, strc_z b]
/-- What a valid number holds. -/
theorem num_rat {k n d : Int} {s : List UInt8} {l : List Vl} (h : isNum (.mk k n d s l) = true) :
    s = [] ∧ l = [] ∧ okF (nmN (.mk k n d s l)) (nmD (.mk k n d s l)) = true ∧ ((k = 2 ∧ d = 0 ∧ nmN (.mk k n d s l) = n ∧ nmD (.mk k n d s l) = 1) ∨ (k = 3 ∧ 2 ≤ d ∧ nmN (.mk k n d s l) = n ∧ nmD (.mk k n d s l) = d)) := by
  have hn : nmN (.mk k n d s l) = n := by unfold nmN; rw [if_pos h]; rfl
  have hd : nmD (.mk k n d s l) = if k = 2 then 1 else d := by unfold nmD; rw [if_pos h]; rfl
  rw [hn, hd]
  unfold isNum okX at h
  rw [Bool.and_eq_true, Bool.or_eq_true, beq_iff_eq, beq_iff_eq] at h
  obtain ⟨hv, hk⟩ := h
  rcases hk with hk | hk
  · have hk : k = 2 := hk
    subst hk
    unfold okV okFlat bareV at hv
    simp at hv
    obtain ⟨⟨⟨e1, e2⟩, e3⟩, e4, e5⟩ := hv
    refine ⟨e2, e3, ?_, .inl ⟨rfl, e1, rfl, by simp⟩⟩
    rw [if_pos rfl]
    have o : OkF n 1 := ⟨by decide, by decide, e4, e5, Nat.gcd_one_right _⟩
    exact o.b
  · have hk : k = 3 := hk
    subst hk
    unfold okV okFlat bareV at hv
    simp at hv
    obtain ⟨⟨⟨e2, e3⟩, e4⟩, e5⟩ := hv
    refine ⟨e2, e3, ?_, .inr ⟨rfl, e4, rfl, by simp⟩⟩
    rw [if_neg (by decide)]
    exact e5
theorem vl_eta (v : Vl) : v = .mk v.kd v.nn v.dd v.ss v.ll := by cases v; rfl
mutual
theorem ord_eq : ∀ {a b : Vl}, ordV a b = 0 → a = b
  | .mk k n d s l, b, h => by
    have eb := vl_eta b
    have ih := @ordL_eq l b.ll
    generalize b.kd = k' at *
    generalize b.nn = n' at *
    generalize b.dd = d' at *
    generalize b.ss = s' at *
    generalize b.ll = l' at *
    subst eb
    unfold ordV at h
    by_cases h1 : okX (.mk k n d s l) ≠ okX (.mk k' n' d' s' l')
    · rw [if_pos h1] at h
      split at h <;> exact absurd h (by decide)
    rw [if_neg h1] at h
    have hx : okX (.mk k n d s l) = okX (.mk k' n' d' s' l') := Decidable.not_not.1 h1
    by_cases h2 : okX (.mk k' n' d' s' l') = true ∧ classV k ≠ classV (Vl.mk k' n' d' s' l').kd
    · rw [if_pos h2] at h
      exact absurd (intc_z.1 h) h2.2
    rw [if_neg h2] at h
    by_cases h3 : okX (.mk k' n' d' s' l') = true ∧ isNum (.mk k n d s l) = true
    · rw [if_pos h3] at h
      have hc : classV k = classV k' := Decidable.not_not.1 (fun t => h2 ⟨h3.1, t⟩)
      have hm : isNum (.mk k' n' d' s' l') = true := (num_class h3.1).2 (hc.symm.trans ((num_class (hx.trans h3.1)).1 h3.2))
      obtain ⟨r1, r2, r3, r4⟩ := num_rat h3.2
      obtain ⟨q1, q2, q3, q4⟩ := num_rat hm
      have e := (cmp_eq r3 q3).1 h
      rw [r1, r2, q1, q2]
      rcases r4 with ⟨a1, a2, a3, a4⟩ | ⟨a1, a2, a3, a4⟩ <;> rcases q4 with ⟨b1, b2, b3, b4⟩ | ⟨b1, b2, b3, b4⟩
      · rw [a1, b1, a2, b2, ← a3, ← b3, e.1]
      · have := e.2; omega
      · have := e.2; omega
      · rw [a1, b1, ← a3, ← b3, e.1, ← a4, ← b4, e.2]
    · rw [if_neg h3] at h
      obtain ⟨e1, h⟩ := thn_z.1 h
      obtain ⟨e2, h⟩ := thn_z.1 h
      obtain ⟨e3, h⟩ := thn_z.1 h
      obtain ⟨e4, h⟩ := thn_z.1 h
      have f1 : k = k' := intc_z.1 e1
      have f2 : n = n' := intc_z.1 e2
      have f3 : d = d' := intc_z.1 e3
      have f4 : s = s' := strc_z e4
      have f5 : l = l' := ih h
      rw [f1, f2, f3, f4, f5]
theorem ordL_eq : ∀ {a b : List Vl}, ordL a b = 0 → a = b
  | [], [], _ => rfl
  | [], _ :: _, h => by unfold ordL at h; exact absurd h (by decide)
  | _ :: _, [], h => by unfold ordL at h; exact absurd h (by decide)
  | x :: r, y :: t, h => by
    unfold ordL at h
    obtain ⟨a, b⟩ := thn_z.1 h
    rw [ord_eq a, ordL_eq b]
end
end Go.Proofs.YtenmideffecdnaaGreatDoor

/-! Slices of int in memory, told by the list of what they hold; the relation of worlds 'nothing that was there has turned'. No program's function is walked here. -/
namespace Go.Proofs.YtenmideffecdnaaGreatDoor
open Go.RowKit

/-- What existed before is as it was; the world has only grown, and no answer that was drawn is drawn again. -/
structure Fur (w w' : World) : Prop where
  b : Below w.heap.size w w'
  dr : w.drawn ≤ w'.drawn
theorem Fur.refl (w : World) : Fur w w := ⟨Below.refl _ _, Nat.le_refl _⟩
theorem Fur.trans {a b c : World} (h : Fur a b) (k : Fur b c) : Fur a c := ⟨Below.trans h.b (Below.mono k.b (Below.size h.b)), Nat.le_trans h.dr k.dr⟩
theorem Fur.drew {a b : World} (h : Fur a b) : Fur a b.drew := ⟨Below.drew h.b, Nat.le_trans h.dr (Nat.le_succ _)⟩
theorem Fur.size {a b : World} (h : Fur a b) : a.heap.size ≤ b.heap.size := Below.size h.b
theorem Fur.alloc {a b : World} (h : Fur a b) (o : Obj) : Fur a (b.alloc o) := ⟨Below.alloc h.b (Below.size h.b) o, h.dr⟩

/-- The same, whatever was drawn. -/
def Fuw (w w' : World) : Prop := Below w.heap.size w w'
theorem Fuw.refl (w : World) : Fuw w w := Below.refl _ _
theorem Fuw.trans {a b c : World} (h : Fuw a b) (k : Fuw b c) : Fuw a c := Below.trans h (Below.mono k (Below.size h))
theorem Fuw.drew {a b : World} (h : Fuw a b) : Fuw a b.drew := Below.drew h
theorem Fuw.size {a b : World} (h : Fuw a b) : a.heap.size ≤ b.heap.size := Below.size h
theorem Fuw.alloc {a b : World} (h : Fuw a b) (o : Obj) : Fuw a (b.alloc o) := Below.alloc h (Below.size h) o
theorem Fur.w {a b : World} (h : Fur a b) : Fuw a b := h.b

/-- A slice at ao, of capacity cap, holds the list zs of int values. -/
structure IsS (w : World) (ao : Option Addr) (zs : List Int) (cap : Nat) : Prop where
  le : zs.length ≤ cap
  max : cap ≤ maxLen
  nil : ao = none → cap = 0
  at_ : 0 < zs.length → ∃ b off, ao = some ⟨b, off, none⟩ ∧ b < w.heap.size ∧ ∀ j, j < zs.length → w.cell? ⟨b, off + j, none⟩ = some (.int .i64 (zs.getD j 0))
theorem IsS.on {w w' : World} {ao : Option Addr} {zs : List Int} {cap : Nat} (h : IsS w ao zs cap) (hf : Fur w w') : IsS w' ao zs cap :=
  ⟨h.le, h.max, h.nil, fun hp => by
    obtain ⟨b, off, e, hb, hc⟩ := h.at_ hp
    exact ⟨b, off, e, Nat.lt_of_lt_of_le hb hf.size, fun j hj => (Below.cell hf.b (p := ⟨b, off + j, none⟩) hb).trans (hc j hj)⟩⟩
theorem IsS.empty (w : World) : IsS w none [] 0 := ⟨Nat.le_refl _, Nat.zero_le _, fun _ => rfl, fun h => absurd h (by decide)⟩

/-- The cells of a list. -/
def cs (zs : List Int) : List Value := zs.map (Value.int .i64)
theorem cs_len (zs : List Int) : (cs zs).length = zs.length := List.length_map ..
/-- What a call owns reads as its list. -/
theorem IsS.of_own {w : World} {base e : Nat} {v : Value} {n : Nat} {zs : List Int} (h : w.ownsRow base e 1 v n (cs zs)) : ∃ ao cap, v = .slice ao zs.length cap ∧ n = zs.length ∧ IsS w ao zs cap := by
  have hl := h.1
  rw [cs_len, Nat.mul_one] at hl
  subst hl
  rcases h.2 with ⟨rfl, h0⟩ | ⟨g, cap, cur, rfl, hb, hh, h1, h2, h3, h4⟩
  · refine ⟨none, 0, by rw [h0], rfl, by omega, Nat.zero_le _, fun _ => rfl, fun hp => absurd hp (by omega)⟩
  · refine ⟨_, cap, rfl, rfl, h1, h2, (fun k => by cases k), fun _ => ⟨g, 0, rfl, ?_, fun j hj => ?_⟩⟩
    · rcases Nat.lt_or_ge g w.heap.size with k | k
      · exact k
      · rw [Array.getElem?_eq_none k] at hh; cases hh
    · have k := h.cells (g := g) rfl j (.int .i64 (zs.getD j 0)) (by simp [cs, hj])
      rw [Go.WideShapes.add_plain] at k
      exact k
theorem ret_slice {ao : Option Addr} {cap : Nat} {n m : Nat} (h : n = m) : Ending.returned (.slice ao n cap) = .returned (.slice ao m cap) := by rw [h]
theorem ret_bool {a b : Bool} (h : a = b) : Ending.returned (.bool a) = .returned (.bool b) := by rw [h]
theorem ret_int {k : IntKind} {a b : Int} (h : a = b) : Ending.returned (.int k a) = .returned (.int k b) := by rw [h]
end Go.Proofs.YtenmideffecdnaaGreatDoor

/-! Plain mathematics of natural numbers as lists of digits in base 1000, the least one first: the value of a list, and what one round of a loop over the digits keeps. No program, no world. -/
namespace Go.Proofs.YtenmideffecdnaaGreatDoor

/-- The value of a list of digits. -/
def wv : List Int → Nat
  | [] => 0
  | z :: r => z.toNat + 1000 * wv r
/-- Every element is a digit. -/
def WD (l : List Int) : Prop := ∀ z ∈ l, 0 ≤ z ∧ z < 1000
theorem wd_at {l : List Int} {k : Nat} (hk : k < l.length) : l.getD k 0 = l[k] := by rw [List.getD_eq_getElem?_getD, List.getElem?_eq_getElem hk]; rfl
theorem wv_app (a b : List Int) : wv (a ++ b) = wv a + 1000 ^ a.length * wv b := by
  induction a with
  | nil => simp [wv]
  | cons z r ih =>
    rw [List.cons_append, wv, wv, ih, List.length_cons, Nat.pow_succ, Nat.mul_add]
    rw [Nat.mul_comm (1000 ^ r.length) 1000, Nat.mul_assoc]
    omega
theorem wv_lt {l : List Int} (h : WD l) : wv l < 1000 ^ l.length := by
  induction l with
  | nil => simp [wv]
  | cons z r ih =>
    have h1 := h z (List.mem_cons_self ..)
    have h2 := ih fun y hy => h y (List.mem_cons_of_mem _ hy)
    rw [wv, List.length_cons, Nat.pow_succ]
    omega
theorem wd_take {l : List Int} (h : WD l) (k : Nat) : WD (l.take k) := fun z hz => h z (List.mem_of_mem_take hz)
theorem wd_getD {l : List Int} (h : WD l) (k : Nat) : 0 ≤ l.getD k 0 ∧ l.getD k 0 < 1000 := by
  by_cases hk : k < l.length
  · rw [wd_at hk]; exact h _ (List.getElem_mem hk)
  · rw [List.getD_eq_getElem?_getD, List.getElem?_eq_none (by omega)]
    exact ⟨by decide, by decide⟩
theorem wd_zeros (n : Nat) : WD (List.replicate n 0) := fun z hz => by rw [List.eq_of_mem_replicate hz]; decide
theorem wv_zeros (n : Nat) : wv (List.replicate n 0) = 0 := by
  induction n with
  | zero => rfl
  | succ m ih => rw [List.replicate_succ, wv, ih]; rfl
theorem wv_take (l : List Int) (k : Nat) : wv (l.take (k + 1)) = wv (l.take k) + 1000 ^ k * (l.getD k 0).toNat := by
  by_cases h : k < l.length
  · rw [List.take_succ_eq_append_getElem h, wv_app, ← wd_at h, List.length_take, Nat.min_eq_left (by omega)]
    simp [wv]
  · rw [List.take_of_length_le (by omega), List.take_of_length_le (by omega), List.getD_eq_getElem?_getD, List.getElem?_eq_none (by omega)]
    simp
theorem wv_drop (l : List Int) (k : Nat) : wv (l.drop k) = (l.getD k 0).toNat + 1000 * wv (l.drop (k + 1)) := by
  by_cases h : k < l.length
  · rw [List.drop_eq_getElem_cons h, wv, wd_at h]
  · rw [List.drop_of_length_le (by omega), List.drop_of_length_le (by omega), List.getD_eq_getElem?_getD, List.getElem?_eq_none (by omega)]
    rfl
theorem wv_cut (l : List Int) (k : Nat) : wv l = wv (l.take k) + 1000 ^ k * wv (l.drop k) := by
  by_cases h : k ≤ l.length
  · have t : (l.take k).length = k := by rw [List.length_take]; omega
    have e := wv_app (l.take k) (l.drop k)
    rw [List.take_append_drop, t] at e
    exact e
  · rw [List.take_of_length_le (by omega), List.drop_of_length_le (by omega)]
    simp [wv]
theorem wv_take_lt {l : List Int} (h : WD l) (k : Nat) : wv (l.take k) < 1000 ^ k :=
  Nat.lt_of_lt_of_le (wv_lt (wd_take h k)) (Nat.pow_le_pow_right (by decide) (by rw [List.length_take]; omega))
theorem wv_set {l : List Int} {j : Nat} (h : j < l.length) (z : Int) : wv (l.set j z) + 1000 ^ j * (l.getD j 0).toNat = wv l + 1000 ^ j * z.toNat := by
  have h2 : j < (l.set j z).length := by rw [List.length_set]; exact h
  have a := wv_cut l j
  have b := wv_cut (l.set j z) j
  rw [wv_drop l j] at a
  rw [wv_drop (l.set j z) j] at b
  have t1 : (l.set j z).take j = l.take j := by rw [List.take_set_of_le (Nat.le_refl _)]
  have t2 : (l.set j z).drop (j + 1) = l.drop (j + 1) := by rw [List.drop_set_of_lt (by omega)]
  have t3 : (l.set j z).getD j 0 = z := by rw [wd_at h2, List.getElem_set_self]
  rw [t1, t2, t3, Nat.mul_add] at b
  rw [Nat.mul_add] at a
  omega
theorem wd_set {l : List Int} (hd : WD l) (j : Nat) {z : Int} (z0 : 0 ≤ z) (z1 : z < 1000) : WD (l.set j z) := by
  intro y hy
  rcases List.mem_or_eq_of_mem_set hy with h | h
  · exact hd y h
  · rw [h]; exact ⟨z0, z1⟩
theorem wset_take {o : List Int} {k : Nat} (h : k < o.length) (z : Int) : (o.set k z).take (k + 1) = o.take k ++ [z] := by
  have h2 : k < (o.set k z).length := by rw [List.length_set]; exact h
  rw [List.take_succ_eq_append_getElem h2, List.getElem_set_self, List.take_set_of_le (Nat.le_refl _)]
/-- A wide number: fourteen digits. -/
structure Wide (l : List Int) (n : Nat) : Prop where
  len : l.length = 14
  digs : WD l
  val : wv l = n
theorem Wide.lt {l : List Int} {n : Nat} (h : Wide l n) : n < 1000 ^ 14 := by
  have k := wv_lt h.digs
  rwa [h.len, h.val] at k
theorem wide_zeros : Wide (List.replicate 14 0) 0 := ⟨by simp, wd_zeros 14, wv_zeros 14⟩

/-! times -/
/-- In the inner loop of a multiplication: T is the value aimed at. -/
structure TmAt (T k : Nat) (o : List Int) (carry d c : Nat) : Prop where
  len : o.length = 14
  digs : WD o
  cy : carry < 1000
  dl : d < 1000
  val : wv o + 1000 ^ k * (carry + d * c) = T
theorem tm_step {T k : Nat} {o : List Int} {carry d c : Nat} (h : TmAt T k o carry d c) (hk : k < 14) {r : Nat} (hr : o.getD k 0 = (r : Int)) :
    TmAt T (k + 1) (o.set k (((carry + r + d * (c % 1000)) % 1000 : Nat) : Int)) ((carry + r + d * (c % 1000)) / 1000) d (c / 1000) := by
  obtain ⟨h1, h2, h3, h4, h5⟩ := h
  have hr2 := (wd_getD h2 k).2
  rw [hr] at hr2
  have hm : d * (c % 1000) ≤ 999 * 999 := Nat.mul_le_mul (by omega) (by omega)
  refine ⟨by rw [List.length_set, h1], wd_set h2 _ (by omega) (by omega), by omega, h4, ?_⟩
  have a := wv_set (l := o) (j := k) (by omega) (((carry + r + d * (c % 1000)) % 1000 : Nat) : Int)
  rw [hr] at a
  rw [show ((r : Int)).toNat = r by omega, show ((((carry + r + d * (c % 1000)) % 1000 : Nat) : Int)).toNat = (carry + r + d * (c % 1000)) % 1000 by omega] at a
  rw [← h5, Nat.pow_succ]
  have e : d * c = d * (c % 1000) + 1000 * (d * (c / 1000)) := by
    have g := Nat.mod_add_div c 1000
    conv => lhs; rw [← g]
    rw [Nat.mul_add, ← Nat.mul_assoc, ← Nat.mul_assoc, Nat.mul_comm d 1000]
  rw [e]
  generalize d * (c % 1000) = p at *
  generalize d * (c / 1000) = q at *
  generalize 1000 ^ k = W at *
  have s : W * ((carry + r + p) % 1000) + W * 1000 * ((carry + r + p) / 1000 + q) = W * (carry + (p + 1000 * q)) + W * r := by
    rw [Nat.mul_assoc, ← Nat.mul_add, ← Nat.mul_add]
    congr 1
    omega
  omega
/-- The place stays small: the value aimed at is small. -/
theorem tm_place {T k : Nat} {o : List Int} {carry d c : Nat} (h : TmAt T k o carry d c) (hT : T < 1000 ^ 11) (hc : 0 < carry) : k < 11 := by
  have g : 1000 ^ k ≤ T := by
    rw [← h.val]
    have : 1000 ^ k * 1 ≤ 1000 ^ k * (carry + d * c) := Nat.mul_le_mul_left _ (by omega)
    omega
  rcases Nat.lt_or_ge k 11 with p | p
  · exact p
  · have := Nat.pow_le_pow_right (show 0 < 1000 by decide) p
    omega
end Go.Proofs.YtenmideffecdnaaGreatDoor

/-! Slices of int that a call makes and writes, and the results of package frac and its reference: a fraction, a fraction and a bool, an int, a bool, a string, a wide number. No program's function is walked here. -/
namespace Go.Proofs.YtenmideffecdnaaGreatDoor
open Go.RowKit

theorem infoI : (Tryz.prog.info? 3).map (fun i => (i.zero, i.size, i.bytes)) = some (some (.int .i64 0), 1, 8) := by kernel_rfl
theorem getD_at {l : List Int} {k : Nat} (hk : k < l.length) : l.getD k 0 = l[k] := by rw [List.getD_eq_getElem?_getD, List.getElem?_eq_getElem hk]; rfl
theorem cs_getD {o : List Int} {j : Nat} (h : j < o.length) : (cs o)[j]? = some (.int .i64 (o.getD j 0)) := by
  unfold cs
  rw [List.getElem?_map, List.getElem?_eq_getElem h, getD_at h]; rfl
theorem cs_set (o : List Int) (j : Nat) (z : Int) : (cs o).set j (.int .i64 z) = cs (o.set j z) := by
  unfold cs
  rw [List.map_set]
theorem fur_set {w w1 : World} {g j : Nat} {u : Value} (hf : Fur w w1) (hg : w.heap.size ≤ g) : Fur w (w1.setCell ⟨g, j, none⟩ u) := ⟨Below.setCell hf.b hg u, hf.dr⟩
theorem fur_drewN (w : World) (n : Nat) : Fur w (w.drewN n) := ⟨⟨rfl, rfl, rfl, Nat.le_refl _, fun _ _ => rfl⟩, Nat.le_add_right _ _⟩
theorem made_zero (n : Nat) : (madeCells (Value.int .i64 0).cells (n * 1)).toList = cs (List.replicate n 0) := by
  rw [Nat.mul_one]
  unfold cs
  rw [List.map_replicate]
  exact toList_madeCells_one (.int .i64 0) _
/-- A result is a bool; nothing that was there has turned. -/
def RetB (w : World) (c : Bool) (e : Ending) (w' : World) : Prop := e = .returned (.bool c) ∧ Fur w w'
/-- An int. -/
def RetI (w : World) (n : Int) (e : Ending) (w' : World) : Prop := e = .returned (.int .i64 n) ∧ Fur w w'
/-- A string. -/
def RetT (w : World) (s : ByteArray) (e : Ending) (w' : World) : Prop := e = .returned (.string s) ∧ Fur w w'
/-- A fraction and a bool. -/
def RetFB (w : World) (n d : Int) (c : Bool) (e : Ending) (w' : World) : Prop := e = .returned (.tuple #[.agg #[.int .i64 n, .int .i64 d], .bool c]) ∧ Fur w w'
theorem ret_str {a b : ByteArray} (h : a = b) : Ending.returned (.string a) = .returned (.string b) := by rw [h]
theorem IsS.of14 {w : World} {base e : Nat} {g : Nat} {o : List Int} (h : w.ownsRow base e 1 (.slice (some ⟨g, 0, none⟩) 14 14) 14 (cs o)) : IsS w (some ⟨g, 0, none⟩) o 14 := by
  obtain ⟨ao, cap, h3, -, hI⟩ := IsS.of_own h
  obtain ⟨rfl, -, rfl⟩ := Value.slice.inj h3
  exact hI
end Go.Proofs.YtenmideffecdnaaGreatDoor
