/-
  M00; ValM; M02: texts of one kind in one file; each part says what it holds.
-/
import Derived.WalkKit
import GoSem.Op.String
import Derived.Below
import Derived.WideShapes
import Derived.Lib.Hide

namespace Go.Proofs.YtpamdlkagmlahaaGreatDoor
structure OkF (n d : Int) : Prop where
 d1 : 1 ≤ d
 d2 : d ≤ 1000000000000000
 n1 : -1000000000000000 ≤ n
 n2 : n ≤ 1000000000000000
 co : Nat.gcd n.natAbs d.toNat = 1
def okF (n d : Int) : Bool := decide (1 ≤ d) && decide (d ≤ 1000000000000000) && decide (-1000000000000000 ≤ n) && decide (n ≤ 1000000000000000) && decide (Nat.gcd n.natAbs d.toNat = 1)
theorem okF_t {n d : Int} (h : okF n d = true) : OkF n d := by
 simp only [okF, Bool.and_eq_true, decide_eq_true_eq] at h
 obtain ⟨⟨⟨⟨a, b⟩, c⟩, e⟩, f⟩ := h
 exact ⟨a, b, c, e, f⟩
theorem OkF.b {n d : Int} (h : OkF n d) : okF n d = true := by
 simp only [okF, Bool.and_eq_true, decide_eq_true_eq]
 exact ⟨⟨⟨⟨h.d1, h.d2⟩, h.n1⟩, h.n2⟩, h.co⟩
def fv (n d : Int) : Rat := mkRat n d.toNat
theorem low {n : Int} {d : Nat} {q : Rat} (hd : d ≠ 0) (co : Nat.gcd n.natAbs d = 1) (e : mkRat n d = q) : q.num = n ∧ q.den = d := by
 rw [← e, ← Rat.mk_eq_mkRat n d hd co]
 exact ⟨rfl, rfl⟩
theorem OkF.v {n d : Int} (h : OkF n d) : (fv n d).num = n ∧ (fv n d).den = d.toNat :=
 low (by have := h.d1; omega) h.co rfl
theorem ok_inj {n d n' d' : Int} (h : OkF n d) (h' : OkF n' d') (e : fv n d = fv n' d') : n = n' ∧ d = d' := by
 obtain ⟨a, b⟩ := h.v
 obtain ⟨a', b'⟩ := h'.v
 rw [e] at a b
 have := h.d1; have := h'.d1
 exact ⟨by rw [← a, a'], by omega⟩
def fz (n d : Int) : Rat := if okF n d = true then fv n d else 0
def cmpQ (x y : Rat) : Int := if x < y then -1 else if y < x then 1 else 0
end Go.Proofs.YtpamdlkagmlahaaGreatDoor
namespace Go.Proofs.YtpamdlkagmlahaaGreatDoor
end Go.Proofs.YtpamdlkagmlahaaGreatDoor
namespace Go.Proofs.YtpamdlkagmlahaaGreatDoor
theorem cmp_0 {x y : Rat} : cmpQ x y = 0 ↔ x = y := by
 unfold cmpQ
 split
 ·rename_i h
  constructor
  ·intro k; omega
  ·rintro rfl; exact absurd h Rat.lt_irrefl
 ·split
  ·rename_i h
   constructor
   ·intro k; omega
   ·rintro rfl; exact absurd h Rat.lt_irrefl
  ·rename_i h k
   constructor
   ·intro _; exact Rat.le_antisymm (Rat.not_lt.1 k) (Rat.not_lt.1 h)
   ·intro _; rfl
theorem cmp_self (x : Rat) : cmpQ x x = 0 := cmp_0.2 rfl
theorem fz_ok {n d : Int} (h : okF n d = true) : fz n d = fv n d := if_pos h
theorem cmp_eq {an ad bn bd : Int} (ha : okF an ad = true) (hb : okF bn bd = true) : cmpQ (fz an ad) (fz bn bd) = 0 ↔ an = bn ∧ ad = bd := by
 rw [fz_ok ha, fz_ok hb, cmp_0]
 constructor
 ·exact ok_inj (okF_t ha) (okF_t hb)
 ·rintro ⟨rfl, rfl⟩; rfl
end Go.Proofs.YtpamdlkagmlahaaGreatDoor

namespace Go.Proofs.YtpamdlkagmlahaaGreatDoor
inductive Vl where
 | mk (k n d : Int) (s : List UInt8) (l : List Vl) : Vl
def Vl.kd : Vl → Int | .mk k _ _ _ _ => k
def Vl.nn : Vl → Int | .mk _ n _ _ _ => n
def Vl.dd : Vl → Int | .mk _ _ d _ _ => d
def Vl.ss : Vl → List UInt8 | .mk _ _ _ s _ => s
def Vl.ll : Vl → List Vl | .mk _ _ _ _ l => l
def bareV (n d : Int) (s : List UInt8) (l : List Vl) (bn bd bs bl : Bool) : Bool := (bn || n == 0) && (bd || d == 0) && (bs || s.isEmpty) && (bl || l.isEmpty)
def okStr (s : List UInt8) : Bool := s.all (fun c => decide (32 ≤ c.toNat) && decide (c.toNat ≤ 126)) && decide (s.length ≤ 100)
def okFlat (k n d : Int) (s : List UInt8) (l : List Vl) : Bool :=
 if k = 0 then bareV n d s l false false false false
 else if k = 1 then bareV n d s l true false false false && (n == 0 || n == 1)
 else if k = 2 then bareV n d s l true false false false && (decide (-1000000000000000 ≤ n) && decide (n ≤ 1000000000000000))
 else if k = 3 then bareV n d s l true true false false && decide (2 ≤ d) && okF n d
 else if k = 4 then bareV n d s l false false true false && okStr s
 else if k = 5 ∨ k = 6 then bareV n d s l true false false false && decide (1 ≤ n) && decide (n ≤ 1000000)
 else false
mutual
def okV : Nat → Vl → Bool
 | m, .mk k n d s l =>
  if k = 7 then bareV n d s l false false false true && decide (l.length % 2 = 1) && decide (l.length ≤ 25) && okVp true l
  else if k = 8 then bareV n d s l false false false true && decide (1 ≤ m) && decide (l.length ≤ 64) && okVs (m - 1) l
  else okFlat k n d s l
def okVs : Nat → List Vl → Bool
 | _, [] => true
 | m, v :: r => okV m v && okVs m r
def okVp : Bool → List Vl → Bool
 | _, [] => true
 | b, v :: r => (v.kd == if b then 5 else 6) && okV 0 v && okVp (!b) r
end
def okX (v : Vl) : Bool := okV 8 v
def isNum (v : Vl) : Bool := okX v && (v.kd == 2 || v.kd == 3)
def nmN (v : Vl) : Int := if isNum v = true then v.nn else 0
def nmD (v : Vl) : Int := if isNum v = true then (if v.kd = 2 then 1 else v.dd) else 0
def classV (k : Int) : Int := if k = 0 then 0 else if k = 1 then 1 else if k = 2 ∨ k = 3 then 2 else if k = 4 then 3 else if k = 5 then 4 else if k = 6 then 5 else if k = 8 then 6 else 7
def thn (x y : Int) : Int := if x = 0 then y else x
def intc (x y : Int) : Int := if x < y then -1 else if y < x then 1 else 0
def strc : List UInt8 → List UInt8 → Int
 | [], [] => 0
 | [], _ :: _ => -1
 | _ :: _, [] => 1
 | x :: r, y :: t => thn (intc x.toNat y.toNat) (strc r t)
mutual
def ordV : Vl → Vl → Int
 | .mk k n d s l, b =>
  if okX (.mk k n d s l) ≠ okX b then (if okX (.mk k n d s l) = true then -1 else 1)
  else if okX b = true ∧ classV k ≠ classV b.kd then intc (classV k) (classV b.kd)
  else if okX b = true ∧ isNum (.mk k n d s l) = true then cmpQ (fz (nmN (.mk k n d s l)) (nmD (.mk k n d s l))) (fz (nmN b) (nmD b))
  else thn (intc k b.kd) (thn (intc n b.nn) (thn (intc d b.dd) (thn (strc s b.ss) (ordL l b.ll))))
def ordL : List Vl → List Vl → Int
 | [], [] => 0
 | [], _ :: _ => -1
 | _ :: _, [] => 1
 | x :: r, y :: t => thn (ordV x y) (ordL r t)
end
def lexQ : List Rat → List Rat → Int
 | [], [] => 0
 | [], _ :: _ => -1
 | _ :: _, [] => 1
 | x :: r, y :: t => thn (cmpQ x y) (lexQ r t)
def encS : List UInt8 → List Rat
 | [] => [0]
 | c :: r => (((c.toNat : Int) + 1 : Int) : Rat) :: encS r
mutual
def encV : Vl → List Rat
 | .mk k n d s l =>
  (if okX (.mk k n d s l) = true then (0 : Rat) else 1) ::
  (if okX (.mk k n d s l) = true then ((classV k : Int) : Rat) else 0) ::
  (if isNum (.mk k n d s l) = true then [fz (nmN (.mk k n d s l)) (nmD (.mk k n d s l))]
  else ((k : Int) : Rat) :: ((n : Int) : Rat) :: ((d : Int) : Rat) :: (encS s ++ encL l))
def encL : List Vl → List Rat
 | [] => [0]
 | x :: r => 1 :: (encV x ++ encL r)
end
theorem thn_assoc (x y z : Int) : thn (thn x y) z = thn x (thn y z) := by
 unfold thn; split <;> simp [*]
theorem thn_0 (x : Int) : thn 0 x = x := rfl
theorem thn_n {x : Int} (h : x ≠ 0) (y : Int) : thn x y = x := if_neg h
theorem intc_cast (x y : Int) : cmpQ (x : Rat) (y : Rat) = intc x y := by
 unfold cmpQ intc
 simp only [Rat.intCast_lt_intCast]
theorem intc_self (x : Int) : intc x x = 0 := by unfold intc; simp
theorem lexS : ∀ (s t : List UInt8) (r r' : List Rat), lexQ (encS s ++ r) (encS t ++ r') = thn (strc s t) (lexQ r r')
 | [], [], r, r' => by
  show thn (cmpQ 0 0) (lexQ r r') = _
  rw [cmp_self]; rfl
 | [], c :: t, r, r' => by
  show thn (cmpQ 0 _) _ = _
  have k : cmpQ 0 ((((c.toNat : Int) + 1 : Int)) : Rat) = -1 := by
   rw [show (0 : Rat) = ((0 : Int) : Rat) from rfl, intc_cast]
   unfold intc; rw [if_pos (by omega)]
  rw [k]; rfl
 | c :: s, [], r, r' => by
  show thn (cmpQ _ 0) _ = _
  have k : cmpQ ((((c.toNat : Int) + 1 : Int)) : Rat) 0 = 1 := by
   rw [show (0 : Rat) = ((0 : Int) : Rat) from rfl, intc_cast]
   unfold intc; rw [if_neg (by omega), if_pos (by omega)]
  rw [k]; rfl
 | c :: s, c' :: t, r, r' => by
  show thn (cmpQ _ _) (lexQ (encS s ++ r) (encS t ++ r')) = thn (thn _ _) _
  rw [lexS s t r r', intc_cast, thn_assoc]
  congr 1
  unfold intc
  split <;> split <;> (try split) <;> (try split) <;> first | rfl | omega
theorem num_class {v : Vl} (h : okX v = true) : isNum v = true ↔ classV v.kd = 2 := by
 unfold isNum classV
 rw [h, Bool.true_and, Bool.or_eq_true, beq_iff_eq, beq_iff_eq]
 constructor
 ·rintro (e | e) <;> simp [e]
 ·intro e
  repeat' split at e
  all_goals first | (simp at e; done) | (rename_i g; exact g) | omega
theorem num_ok {v : Vl} (h : okX v = false) : isNum v = false := by unfold isNum; rw [h]; rfl
theorem lex3 (k n d k' n' d' : Int) (A B : List Rat) : lexQ (((k : Int) : Rat) :: ((n : Int) : Rat) :: ((d : Int) : Rat) :: A) (((k' : Int) : Rat) :: ((n' : Int) : Rat) :: ((d' : Int) : Rat) :: B) = thn (intc k k') (thn (intc n n') (thn (intc d d') (lexQ A B))) := by
 show thn _ (thn _ (thn _ _)) = _
 rw [intc_cast, intc_cast, intc_cast]
theorem lex_cons (x y : Rat) (A B : List Rat) : lexQ (x :: A) (y :: B) = thn (cmpQ x y) (lexQ A B) := rfl
mutual
theorem enc_ord : ∀ (a b : Vl) (r r' : List Rat), lexQ (encV a ++ r) (encV b ++ r') = thn (ordV a b) (lexQ r r')
 | .mk k n d s l, .mk k' n' d' s' l', r, r' => by
  have ih := encL_ord l l' r r'
  unfold encV ordV
  cases ha : okX (.mk k n d s l) <;> cases hb : okX (.mk k' n' d' s' l')
  ·-- neither is valid
   rw [num_ok ha, num_ok hb]
   simp only [Bool.false_eq_true, if_false, ne_eq, not_true_eq_false, false_and, List.cons_append, List.append_assoc]
   rw [lex_cons, cmp_self, thn_0, lex_cons, cmp_self, thn_0, lex3, lexS, ih]
   simp only [thn_assoc]
   rfl
  ·simp only [Bool.false_eq_true, if_false, if_true, ne_eq, not_false_eq_true, List.cons_append]
   rw [lex_cons, show cmpQ (1 : Rat) 0 = 1 by decide +kernel]
   rfl
  ·simp only [Bool.false_eq_true, if_false, if_true, ne_eq, not_false_eq_true, List.cons_append, reduceCtorEq]
   rw [lex_cons, show cmpQ (0 : Rat) 1 = -1 by decide +kernel]
   rfl
  ·-- both are valid
   simp only [if_true, ne_eq, not_true_eq_false, if_false, true_and, List.cons_append]
   rw [lex_cons, cmp_self, thn_0, lex_cons, intc_cast]
   have na := num_class ha
   have nb := num_class hb
   by_cases hc : classV k = classV (Vl.mk k' n' d' s' l').kd
   ·have hc' : classV k = classV k' := hc
    have e1 : ¬ ¬ classV k = classV (Vl.mk k' n' d' s' l').kd := fun t => t hc
    cases hn : isNum (.mk k n d s l)
    ·have hm : isNum (.mk k' n' d' s' l') = false := by
      cases e : isNum (.mk k' n' d' s' l')
      ·rfl
      ·have t := nb.1 e
       have u := na.2 (hc.trans t)
       rw [hn] at u; cases u
     simp only [e1, hm, if_false, Bool.false_eq_true, List.cons_append, List.append_assoc]
     rw [hc', intc_self, thn_0, lex3, lexS, ih]
     simp only [thn_assoc]
     rfl
    ·have hm : isNum (.mk k' n' d' s' l') = true := nb.2 (hc.symm.trans (na.1 hn))
     simp only [e1, hm, if_false, if_true, List.cons_append, List.nil_append]
     rw [hc', intc_self, thn_0, lex_cons]
   ·rw [if_pos hc]
    have hne : intc (classV k) (classV k') ≠ 0 := by
     have hc' : ¬ classV k = classV k' := hc
     unfold intc
     split
     ·decide
     ·split
      ·decide
      ·omega
    rw [thn_n hne]
    show _ = thn (intc (classV k) (classV k')) _
    rw [thn_n hne]
theorem encL_ord : ∀ (a b : List Vl) (r r' : List Rat), lexQ (encL a ++ r) (encL b ++ r') = thn (ordL a b) (lexQ r r')
 | [], [], r, r' => by
  unfold encL ordL
  show thn (cmpQ 0 0) _ = _
  rw [cmp_self]
  rfl
 | [], y :: t, r, r' => by
  unfold encL ordL
  show thn (cmpQ 0 1) _ = _
  rw [show cmpQ (0 : Rat) 1 = -1 by decide +kernel]; rfl
 | x :: s, [], r, r' => by
  unfold encL ordL
  show thn (cmpQ 1 0) _ = _
  rw [show cmpQ (1 : Rat) 0 = 1 by decide +kernel]; rfl
 | x :: s, y :: t, r, r' => by
  have h1 := enc_ord x y (encL s ++ r) (encL t ++ r')
  have h2 := encL_ord s t r r'
  unfold ordL
  rw [show encL (x :: s) = 1 :: (encV x ++ encL s) by rw [encL], show encL (y :: t) = 1 :: (encV y ++ encL t) by rw [encL]]
  rw [List.cons_append, List.cons_append, lex_cons, cmp_self, thn_0, List.append_assoc, List.append_assoc, h1, h2, thn_assoc]
end
theorem lex_self : ∀ a : List Rat, lexQ a a = 0
 | [] => rfl
 | x :: r => by rw [lex_cons, cmp_self, thn_0, lex_self r]
theorem thn_r (x : Int) : thn x 0 = x := by unfold thn; split <;> simp [*]
theorem ord_lex (a b : Vl) : ordV a b = lexQ (encV a) (encV b) := by
 have h := enc_ord a b [] []
 rw [List.append_nil, List.append_nil] at h
 rw [h]
 exact (thn_r _).symm
theorem ord_self (a : Vl) : ordV a a = 0 := by rw [ord_lex, lex_self]
theorem thn_z {x y : Int} : thn x y = 0 ↔ x = 0 ∧ y = 0 := by
 unfold thn
 by_cases h : x = 0
 ·rw [if_pos h]; simp [h]
 ·rw [if_neg h]; simp [h]
theorem intc_z {x y : Int} : intc x y = 0 ↔ x = y := by
 unfold intc
 split
 ·constructor <;> intro h <;> omega
 ·split
  ·constructor <;> intro h <;> omega
  ·constructor <;> intro h <;> omega
theorem strc_z : ∀ {s t : List UInt8}, strc s t = 0 → s = t
 | [], [], _ => rfl
 | [], _ :: _, h => by unfold strc at h; exact absurd h (by decide)
 | _ :: _, [], h => by unfold strc at h; exact absurd h (by decide)
 | x :: r, y :: t, h => by
  unfold strc at h
  obtain ⟨a, b⟩ := thn_z.1 h
  rw [intc_z] at a
  have e : x = y := UInt8.toNat_inj.1 (by omega)
  rw [e, strc_z b]
theorem num_rat {k n d : Int} {s : List UInt8} {l : List Vl} (h : isNum (.mk k n d s l) = true) :
  s = [] ∧ l = [] ∧ okF (nmN (.mk k n d s l)) (nmD (.mk k n d s l)) = true ∧ ((k = 2 ∧ d = 0 ∧ nmN (.mk k n d s l) = n ∧ nmD (.mk k n d s l) = 1) ∨ (k = 3 ∧ 2 ≤ d ∧ nmN (.mk k n d s l) = n ∧ nmD (.mk k n d s l) = d)) := by
 have hn : nmN (.mk k n d s l) = n := by unfold nmN; rw [if_pos h]; rfl
 have hd : nmD (.mk k n d s l) = if k = 2 then 1 else d := by unfold nmD; rw [if_pos h]; rfl
 rw [hn, hd]
 unfold isNum okX at h
 rw [Bool.and_eq_true, Bool.or_eq_true, beq_iff_eq, beq_iff_eq] at h
 obtain ⟨hv, hk⟩ := h
 rcases hk with hk | hk
 ·have hk : k = 2 := hk
  subst hk
  unfold okV okFlat bareV at hv
  simp at hv
  obtain ⟨⟨⟨e1, e2⟩, e3⟩, e4, e5⟩ := hv
  refine ⟨e2, e3, ?_, .inl ⟨rfl, e1, rfl, by simp⟩⟩
  rw [if_pos rfl]
  have o : OkF n 1 := ⟨by decide, by decide, e4, e5, Nat.gcd_one_right _⟩
  exact o.b
 ·have hk : k = 3 := hk
  subst hk
  unfold okV okFlat bareV at hv
  simp at hv
  obtain ⟨⟨⟨e2, e3⟩, e4⟩, e5⟩ := hv
  refine ⟨e2, e3, ?_, .inr ⟨rfl, e4, rfl, by simp⟩⟩
  rw [if_neg (by decide)]
  exact e5
theorem vl_eta (v : Vl) : v = .mk v.kd v.nn v.dd v.ss v.ll := by cases v; rfl
mutual
theorem ord_eq : ∀ {a b : Vl}, ordV a b = 0 → a = b
 | .mk k n d s l, b, h => by
  have eb := vl_eta b
  have ih := @ordL_eq l b.ll
  generalize b.kd = k' at *
  generalize b.nn = n' at *
  generalize b.dd = d' at *
  generalize b.ss = s' at *
  generalize b.ll = l' at *
  subst eb
  unfold ordV at h
  by_cases h1 : okX (.mk k n d s l) ≠ okX (.mk k' n' d' s' l')
  ·rw [if_pos h1] at h
   split at h <;> exact absurd h (by decide)
  rw [if_neg h1] at h
  have hx : okX (.mk k n d s l) = okX (.mk k' n' d' s' l') := Decidable.not_not.1 h1
  by_cases h2 : okX (.mk k' n' d' s' l') = true ∧ classV k ≠ classV (Vl.mk k' n' d' s' l').kd
  ·rw [if_pos h2] at h
   exact absurd (intc_z.1 h) h2.2
  rw [if_neg h2] at h
  by_cases h3 : okX (.mk k' n' d' s' l') = true ∧ isNum (.mk k n d s l) = true
  ·rw [if_pos h3] at h
   have hc : classV k = classV k' := Decidable.not_not.1 (fun t => h2 ⟨h3.1, t⟩)
   have hm : isNum (.mk k' n' d' s' l') = true := (num_class h3.1).2 (hc.symm.trans ((num_class (hx.trans h3.1)).1 h3.2))
   obtain ⟨r1, r2, r3, r4⟩ := num_rat h3.2
   obtain ⟨q1, q2, q3, q4⟩ := num_rat hm
   have e := (cmp_eq r3 q3).1 h
   rw [r1, r2, q1, q2]
   rcases r4 with ⟨a1, a2, a3, a4⟩ | ⟨a1, a2, a3, a4⟩ <;> rcases q4 with ⟨b1, b2, b3, b4⟩ | ⟨b1, b2, b3, b4⟩
   ·rw [a1, b1, a2, b2, ← a3, ← b3, e.1]
   ·have := e.2; omega
   ·have := e.2; omega
   ·rw [a1, b1, ← a3, ← b3, e.1, ← a4, ← b4, e.2]
  ·rw [if_neg h3] at h
   obtain ⟨e1, h⟩ := thn_z.1 h
   obtain ⟨e2, h⟩ := thn_z.1 h
   obtain ⟨e3, h⟩ := thn_z.1 h
   obtain ⟨e4, h⟩ := thn_z.1 h
   have f1 : k = k' := intc_z.1 e1
   have f2 : n = n' := intc_z.1 e2
   have f3 : d = d' := intc_z.1 e3
   have f4 : s = s' := strc_z e4
   have f5 : l = l' := ih h
   rw [f1, f2, f3, f4, f5]
theorem ordL_eq : ∀ {a b : List Vl}, ordL a b = 0 → a = b
 | [], [], _ => rfl
 | [], _ :: _, h => by unfold ordL at h; exact absurd h (by decide)
 | _ :: _, [], h => by unfold ordL at h; exact absurd h (by decide)
 | x :: r, y :: t, h => by
  unfold ordL at h
  obtain ⟨a, b⟩ := thn_z.1 h
  rw [ord_eq a, ordL_eq b]
end
end Go.Proofs.YtpamdlkagmlahaaGreatDoor

namespace Go.Proofs.YtpamdlkagmlahaaGreatDoor
structure Pp where
 k : List UInt8
 v : Vl
structure Nd where
 id : Int
 ls : List (List UInt8)
 ps : List Pp
structure Ed where
 id : Int
 fr : Int
 to : Int
 ty : List UInt8
 ps : List Pp
structure Gr where
 ns : List Nd
 es : List Ed
 nn : Int
 ne : Int
def letV (c : UInt8) : Bool := (decide (97 ≤ c.toNat) && decide (c.toNat ≤ 122)) || (decide (65 ≤ c.toNat) && decide (c.toNat ≤ 90))
def digV (c : UInt8) : Bool := decide (48 ≤ c.toNat) && decide (c.toNat ≤ 57)
def chrV (c : UInt8) : Bool := letV c || digV c || decide (c.toNat = 95)
def nameV (s : List UInt8) : Bool := !s.isEmpty && decide (s.length ≤ 20) && letV (s.headD 0) && s.all chrV
theorem chr_let {c : UInt8} (h : letV c = true) : chrV c = true := by unfold chrV; rw [h]; rfl
def al2 {α β : Type} (f : α → β → Bool) : List α → List β → Bool
 | [], [] => true
 | x :: r, y :: t => f x y && al2 f r t
 | _, _ => false
theorem al2_drop {α β : Type} (f : α → β → Bool) (a : List α) (b : List β) (i : Nat) (h : i < a.length) (h' : i < b.length) : al2 f (a.drop i) (b.drop i) = (f a[i] b[i] && al2 f (a.drop (i + 1)) (b.drop (i + 1))) := by
 rw [List.drop_eq_getElem_cons h, List.drop_eq_getElem_cons h']
 rfl
theorem al2_end {α β : Type} (f : α → β → Bool) (a : List α) (b : List β) (i : Nat) (h : a.length ≤ i) (h' : b.length ≤ i) : al2 f (a.drop i) (b.drop i) = true := by
 rw [List.drop_of_length_le h, List.drop_of_length_le h']; rfl
theorem al2_len {α β : Type} (f : α → β → Bool) : ∀ (a : List α) (b : List β), a.length ≠ b.length → al2 f a b = false
 | [], [], h => absurd rfl h
 | [], _ :: _, _ => rfl
 | _ :: _, [], _ => rfl
 | x :: r, y :: t, h => by
  show (f x y && al2 f r t) = false
  rw [al2_len f r t (fun e => h (by simp [e])), Bool.and_false]
theorem al2_self {α : Type} (f : α → α → Bool) : ∀ (a : List α), (∀ x, x ∈ a → f x x = true) → al2 f a a = true
 | [], _ => rfl
 | x :: r, h => by
  show (f x x && al2 f r r) = true
  rw [h x (by simp), al2_self f r (fun y hy => h y (List.mem_cons_of_mem _ hy))]; rfl
def risV : List (List UInt8) → Bool
 | [] => true
 | a :: l => (match l with | [] => true | b :: _ => Op.bytesLess a b) && risV l
theorem ris_step (l : List (List UInt8)) (i : Nat) (h : i + 1 < l.length) : risV (l.drop i) = (Op.bytesLess l[i] l[i + 1] && risV (l.drop (i + 1))) := by
 rw [List.drop_eq_getElem_cons (show i < l.length by omega), List.drop_eq_getElem_cons h]
 rfl
theorem ris_end (l : List (List UInt8)) (i : Nat) (h : l.length ≤ i + 1) : risV (l.drop i) = true := by
 by_cases k : i < l.length
 ·rw [List.drop_eq_getElem_cons k, List.drop_of_length_le h]; rfl
 ·rw [List.drop_of_length_le (by omega)]; rfl
def plnV (x : Vl) : Bool := okX x && (x.kd == 1 || x.kd == 2 || x.kd == 4)
def keysV (ps : List Pp) : List (List UInt8) := ps.map Pp.k
def parV (ls : List (List UInt8)) (ps : List Pp) : Int :=
 if 8 < ls.length ∨ 16 < ps.length then 4
 else if (ls.all nameV && (keysV ps).all nameV) = false then 6
 else if (risV ls && risV (keysV ps)) = false then 26
 else if ps.all (fun p => plnV p.v) = false then 8 else 0
def badP (prev : Option Int) (x : Int) : Bool := match prev with | none => false | some p => decide (x ≤ p)
def ndV (nn : Int) (prev : Option Int) (n : Nd) : Int :=
 if badP prev n.id = true then 26 else if n.id < 1 ∨ nn ≤ n.id then 1 else parV n.ls n.ps
def nsV (nn : Int) : Option Int → List Nd → Int
 | _, [] => 0
 | prev, n :: r => if ndV nn prev n = 0 then nsV nn (some n.id) r else ndV nn prev n
def hasN (ns : List Nd) (x : Int) : Bool := ns.any fun n => n.id == x
def edV (ns : List Nd) (ne : Int) (prev : Option Int) (e : Ed) : Int :=
 if badP prev e.id = true then 26 else if e.id < 1 ∨ ne ≤ e.id then 1
 else if (hasN ns e.fr && hasN ns e.to) = false then 10
 else if nameV e.ty = false then 6 else parV [] e.ps
def esV (ns : List Nd) (ne : Int) : Option Int → List Ed → Int
 | _, [] => 0
 | prev, e :: r => if edV ns ne prev e = 0 then esV ns ne (some e.id) r else edV ns ne prev e
def sizV (g : Gr) : Bool := decide (g.ns.length ≤ 2000) && decide (g.es.length ≤ 4000)
def nxtV (x : Int) : Bool := decide (1 ≤ x) && decide (x ≤ 1000001)
def chkV (g : Gr) : Int :=
 if sizV g = false then 4
 else if (nxtV g.nn && nxtV g.ne) = false then 1
 else if nsV g.nn none g.ns = 0 then esV g.ns g.ne none g.es else nsV g.nn none g.ns
def prevN (ns : List Nd) (i : Nat) : Option Int := if i = 0 then none else (ns[i - 1]?).map Nd.id
def prevE (es : List Ed) (i : Nat) : Option Int := if i = 0 then none else (es[i - 1]?).map Ed.id
theorem prevN_s (ns : List Nd) (i : Nat) (h : i < ns.length) : prevN ns (i + 1) = some ns[i].id := by
 unfold prevN
 rw [if_neg (by omega), Nat.add_sub_cancel, List.getElem?_eq_getElem h]; rfl
theorem prevE_s (es : List Ed) (i : Nat) (h : i < es.length) : prevE es (i + 1) = some es[i].id := by
 unfold prevE
 rw [if_neg (by omega), Nat.add_sub_cancel, List.getElem?_eq_getElem h]; rfl
theorem nsV_drop (nn : Int) (ns : List Nd) (i : Nat) (h : i < ns.length) :
  nsV nn (prevN ns i) (ns.drop i) = if ndV nn (prevN ns i) ns[i] = 0 then nsV nn (prevN ns (i + 1)) (ns.drop (i + 1)) else ndV nn (prevN ns i) ns[i] := by
 rw [prevN_s ns i h, List.drop_eq_getElem_cons h]; rfl
theorem esV_drop (ns : List Nd) (ne : Int) (es : List Ed) (i : Nat) (h : i < es.length) :
  esV ns ne (prevE es i) (es.drop i) = if edV ns ne (prevE es i) es[i] = 0 then esV ns ne (prevE es (i + 1)) (es.drop (i + 1)) else edV ns ne (prevE es i) es[i] := by
 rw [prevE_s es i h, List.drop_eq_getElem_cons h]; rfl
theorem ns_gt : ∀ (nn : Int) (l : List Nd) (p : Int), nsV nn (some p) l = 0 → l.Pairwise (fun a b => a.id < b.id) ∧ ∀ n ∈ l, p < n.id
 | _, [], _, _ => ⟨List.Pairwise.nil, fun _ h => by cases h⟩
 | nn, n :: r, p, h => by
  have h' : (if ndV nn (some p) n = 0 then nsV nn (some n.id) r else ndV nn (some p) n) = 0 := h
  by_cases e : ndV nn (some p) n = 0
  ·rw [if_pos e] at h'
   obtain ⟨k1, k2⟩ := ns_gt nn r n.id h'
   have hp : p < n.id := by
    unfold ndV badP at e
    by_cases g : n.id ≤ p
    ·simp [g] at e
    ·omega
   refine ⟨List.pairwise_cons.2 ⟨k2, k1⟩, fun m hm => ?_⟩
   rcases List.mem_cons.1 hm with rfl | hm
   ·exact hp
   ·have := k2 m hm; omega
  ·rw [if_neg e] at h'; exact absurd h' e
theorem ns_inc {nn : Int} {l : List Nd} (h : nsV nn none l = 0) : l.Pairwise (fun a b => a.id < b.id) := by
 cases l with
 | nil => exact List.Pairwise.nil
 | cons n r =>
  have h' : (if ndV nn none n = 0 then nsV nn (some n.id) r else ndV nn none n) = 0 := h
  by_cases e : ndV nn none n = 0
  ·rw [if_pos e] at h'
   obtain ⟨k1, k2⟩ := ns_gt nn r n.id h'
   exact List.pairwise_cons.2 ⟨k2, k1⟩
  ·rw [if_neg e] at h'; exact absurd h' e
def nodV (ns : List Nd) (x : Int) : Option Nd := ns.find? fun n => n.id == x
def edgV (es : List Ed) (x : Int) : Option Ed := es.find? fun e => e.id == x
def prpV (ps : List Pp) (k : List UInt8) : Vl := ((ps.find? fun p => p.k == k).map Pp.v).getD (.mk 0 0 0 [] [])
def hasS (l : List (List UInt8)) (s : List UInt8) : Bool := l.any fun x => x == s
def hasT (ty : List UInt8) (types : List (List UInt8)) : Bool := types.isEmpty || hasS types ty
theorem nod_some (ns : List Nd) (x : Int) : (nodV ns x).isSome = hasN ns x := by
 unfold nodV hasN; rw [Bool.eq_iff_iff, List.find?_isSome, List.any_eq_true]
def acrV (e : Ed) (id dir : Int) : Option Int :=
 if (dir = 1 ∨ dir = 3) ∧ e.fr = id then some e.to else if (dir = 2 ∨ dir = 3) ∧ e.to = id then some e.fr else none
def stpV (es : List Ed) (id : Int) (types : List (List UInt8)) (dir : Int) : List (Int × Int) :=
 es.filterMap fun e => if hasT e.ty types = true then (acrV e id dir).map fun t => (t, e.id) else none
def adjL (a b : Int × Int) : Bool := decide (a.1 < b.1) || (decide (a.1 = b.1) && decide (a.2 < b.2))
def srtV (l : List (Int × Int)) : List (Int × Int) := l.mergeSort fun a b => !adjL b a
def adjV (es : List Ed) (id : Int) (types : List (List UInt8)) (dir : Int) : List (Int × Int) := srtV (stpV es id types dir)
theorem adjL_asym {a b : Int × Int} (h : adjL a b = true) : adjL b a = false := by
 unfold adjL at *
 simp only [Bool.or_eq_true, Bool.and_eq_true, decide_eq_true_eq, Bool.or_eq_false_iff, Bool.and_eq_false_iff, decide_eq_false_iff_not] at *
 omega
theorem adjL_eq {a b : Int × Int} (h : adjL a b = false) (h' : adjL b a = false) : a = b := by
 unfold adjL at *
 simp only [Bool.or_eq_false_iff, Bool.and_eq_false_iff, decide_eq_false_iff_not] at *
 obtain ⟨a1, a2⟩ := a
 obtain ⟨b1, b2⟩ := b
 simp only [Prod.mk.injEq] at *
 omega
theorem adjL_trans {a b c : Int × Int} (h : adjL b a = false) (h' : adjL c b = false) : adjL c a = false := by
 unfold adjL at *
 simp only [Bool.or_eq_false_iff, Bool.and_eq_false_iff, decide_eq_false_iff_not] at *
 omega
def SrtP (l : List (Int × Int)) : Prop := l.Pairwise fun a b => adjL b a = false
theorem srt_uniq : ∀ {l m : List (Int × Int)}, SrtP l → SrtP m → l.Perm m → l = m := by
 intro l m hl hm hp
 exact hp.eq_of_pairwise (le := fun a b => adjL b a = false) (fun a b _ _ h1 h2 => adjL_eq h2 h1) hl hm
theorem srtV_perm (l : List (Int × Int)) : (srtV l).Perm l := List.mergeSort_perm _ _
theorem srtV_srt (l : List (Int × Int)) : SrtP (srtV l) := by
 have h := List.pairwise_mergeSort (le := fun a b : Int × Int => !adjL b a) (by
  intro a b c h1 h2
  simp only [Bool.not_eq_true'] at *
  exact adjL_trans h1 h2) (by
  intro a b
  cases h : adjL b a
  ·rfl
  ·rw [adjL_asym h]; rfl) l
 exact h.imp (by intro a b h; simpa using h)
theorem srtV_of {l m : List (Int × Int)} (hm : SrtP m) (hp : m.Perm l) : m = srtV l := srt_uniq hm (srtV_srt l) (hp.trans (srtV_perm l).symm)
theorem adj_len (es : List Ed) (id : Int) (types : List (List UInt8)) (dir : Int) : (adjV es id types dir).length = (stpV es id types dir).length := (srtV_perm _).length_eq
def samP (p q : Pp) : Bool := (p.k == q.k) && (ordV p.v q.v == 0)
def samN (a b : Nd) : Bool := (a.id == b.id) && (al2 (fun x y => x == y) a.ls b.ls && al2 samP a.ps b.ps)
def samE (a b : Ed) : Bool := (a.id == b.id) && ((a.fr == b.fr) && ((a.to == b.to) && ((a.ty == b.ty) && al2 samP a.ps b.ps)))
def samG (g h : Gr) : Bool := (g.nn == h.nn) && ((g.ne == h.ne) && (al2 samN g.ns h.ns && al2 samE g.es h.es))
def incS (l : List (List UInt8)) : Prop := l.Pairwise fun a b => Op.bytesLess a b = true
end Go.Proofs.YtpamdlkagmlahaaGreatDoor
namespace Go.Proofs.YtpamdlkagmlahaaGreatDoor
def vl : List Int → Nat
 | [] => 0
 | z :: r => z.toNat + 1000000000 * vl r
def okL (l : List Int) : Bool := decide (l.length ≤ 64) && (l.all fun z => decide (0 ≤ z) && decide (z < 1000000000)) && !(l.getLast? == some 0)
def nv (l : List Int) : Nat := if okL l = true then vl l else 0
end Go.Proofs.YtpamdlkagmlahaaGreatDoor
namespace Go.Proofs.YtpamdlkagmlahaaGreatDoor
open Go.RowKit
structure Fur (w w' : World) : Prop where
 b : Below w.heap.size w w'
 dr : w.drawn ≤ w'.drawn
theorem Fur.refl (w : World) : Fur w w := ⟨Below.refl _ _, Nat.le_refl _⟩
theorem Fur.trans {a b c : World} (h : Fur a b) (k : Fur b c) : Fur a c := ⟨Below.trans h.b (Below.mono k.b (Below.size h.b)), Nat.le_trans h.dr k.dr⟩
theorem Fur.drew {a b : World} (h : Fur a b) : Fur a b.drew := ⟨Below.drew h.b, Nat.le_trans h.dr (Nat.le_succ _)⟩
theorem Fur.size {a b : World} (h : Fur a b) : a.heap.size ≤ b.heap.size := Below.size h.b
theorem Fur.alloc {a b : World} (h : Fur a b) (o : Obj) : Fur a (b.alloc o) := ⟨Below.alloc h.b (Below.size h.b) o, h.dr⟩
def Fuw (w w' : World) : Prop := Below w.heap.size w w'
theorem Fuw.refl (w : World) : Fuw w w := Below.refl _ _
theorem Fuw.trans {a b c : World} (h : Fuw a b) (k : Fuw b c) : Fuw a c := Below.trans h (Below.mono k (Below.size h))
theorem Fuw.drew {a b : World} (h : Fuw a b) : Fuw a b.drew := Below.drew h
theorem Fuw.size {a b : World} (h : Fuw a b) : a.heap.size ≤ b.heap.size := Below.size h
theorem Fuw.alloc {a b : World} (h : Fuw a b) (o : Obj) : Fuw a (b.alloc o) := Below.alloc h (Below.size h) o
theorem Fur.w {a b : World} (h : Fur a b) : Fuw a b := h.b
structure IsS (w : World) (ao : Option Addr) (zs : List Int) (cap : Nat) : Prop where
 le : zs.length ≤ cap
 max : cap ≤ maxLen
 nil : ao = none → cap = 0
 at_ : 0 < zs.length → ∃ b off, ao = some ⟨b, off, none⟩ ∧ b < w.heap.size ∧ ∀ j, j < zs.length → w.cell? ⟨b, off + j, none⟩ = some (.int .i64 (zs.getD j 0))
theorem IsS.on {w w' : World} {ao : Option Addr} {zs : List Int} {cap : Nat} (h : IsS w ao zs cap) (hf : Fur w w') : IsS w' ao zs cap :=
 ⟨h.le, h.max, h.nil, fun hp => by
  obtain ⟨b, off, e, hb, hc⟩ := h.at_ hp
  exact ⟨b, off, e, Nat.lt_of_lt_of_le hb hf.size, fun j hj => (Below.cell hf.b (p := ⟨b, off + j, none⟩) hb).trans (hc j hj)⟩⟩
theorem IsS.empty (w : World) : IsS w none [] 0 := ⟨Nat.le_refl _, Nat.zero_le _, fun _ => rfl, fun h => absurd h (by decide)⟩
def cs (zs : List Int) : List Value := zs.map (Value.int .i64)
theorem cs_len (zs : List Int) : (cs zs).length = zs.length := List.length_map ..
theorem cs_app (a b : List Int) : cs (a ++ b) = cs a ++ cs b := List.map_append ..
theorem IsS.of_own {w : World} {base e : Nat} {v : Value} {n : Nat} {zs : List Int} (h : w.ownsRow base e 1 v n (cs zs)) : ∃ ao cap, v = .slice ao zs.length cap ∧ n = zs.length ∧ IsS w ao zs cap := by
 have hl := h.1
 rw [cs_len, Nat.mul_one] at hl
 subst hl
 rcases h.2 with ⟨rfl, h0⟩ | ⟨g, cap, cur, rfl, hb, hh, h1, h2, h3, h4⟩
 ·refine ⟨none, 0, by rw [h0], rfl, by omega, Nat.zero_le _, fun _ => rfl, fun hp => absurd hp (by omega)⟩
 ·refine ⟨_, cap, rfl, rfl, h1, h2, (fun k => by cases k), fun _ => ⟨g, 0, rfl, ?_, fun j hj => ?_⟩⟩
  ·rcases Nat.lt_or_ge g w.heap.size with k | k
   ·exact k
   ·rw [Array.getElem?_eq_none k] at hh; cases hh
  ·have k := h.cells (g := g) rfl j (.int .i64 (zs.getD j 0)) (by simp [cs, hj])
   rw [Go.WideShapes.add_plain] at k
   exact k
theorem ret_bool {a b : Bool} (h : a = b) : Ending.returned (.bool a) = .returned (.bool b) := by rw [h]
theorem ret_int {k : IntKind} {a b : Int} (h : a = b) : Ending.returned (.int k a) = .returned (.int k b) := by rw [h]
end Go.Proofs.YtpamdlkagmlahaaGreatDoor
