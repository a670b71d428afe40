/-
  ValM; GrM; NatMath: texts of one kind in one file; each part says what it holds.
-/
import Derived.Test.YtcadeijloobbmaaGreatOrdM
import GoSem.Op.String
import Derived.WalkKit

/-! Plain mathematics of values: when a value is valid, and the order of all values, which is an order of their codes (lists of rational numbers), so it is total. No program, no world. -/
namespace Go.Proofs.YtcadeijloobbmaaGreat

/-- A value: kind, two numbers, a string's bytes, the values inside. -/
inductive Vl where
  | mk (k n d : Int) (s : List UInt8) (l : List Vl) : Vl
def Vl.kd : Vl → Int | .mk k _ _ _ _ => k
def Vl.nn : Vl → Int | .mk _ n _ _ _ => n
def Vl.dd : Vl → Int | .mk _ _ d _ _ => d
def Vl.ss : Vl → List UInt8 | .mk _ _ _ s _ => s
def Vl.ll : Vl → List Vl | .mk _ _ _ _ l => l

/-- The fields that a kind does not use are zero. -/
def bareV (n d : Int) (s : List UInt8) (l : List Vl) (bn bd bs bl : Bool) : Bool := (bn || n == 0) && (bd || d == 0) && (bs || s.isEmpty) && (bl || l.isEmpty)
/-- A string may be a value. -/
def okStr (s : List UInt8) : Bool := s.all (fun c => decide (32 ≤ c.toNat) && decide (c.toNat ≤ 126)) && decide (s.length ≤ 100)
/-- What is asked of a value that holds none. -/
def okFlat (k n d : Int) (s : List UInt8) (l : List Vl) : Bool :=
  if k = 0 then bareV n d s l false false false false
  else if k = 1 then bareV n d s l true false false false && (n == 0 || n == 1)
  else if k = 2 then bareV n d s l true false false false && (decide (-1000000000000000 ≤ n) && decide (n ≤ 1000000000000000))
  else if k = 3 then bareV n d s l true true false false && decide (2 ≤ d) && okF n d
  else if k = 4 then bareV n d s l false false true false && okStr s
  else if k = 5 ∨ k = 6 then bareV n d s l true false false false && decide (1 ≤ n) && decide (n ≤ 1000000)
  else false
mutual
/-- A value is valid where so many more lists may be nested. -/
def okV : Nat → Vl → Bool
  | m, .mk k n d s l =>
    if k = 7 then bareV n d s l false false false true && decide (l.length % 2 = 1) && decide (l.length ≤ 25) && okVp true l
    else if k = 8 then bareV n d s l false false false true && decide (1 ≤ m) && decide (l.length ≤ 64) && okVs (m - 1) l
    else okFlat k n d s l
/-- All are valid. -/
def okVs : Nat → List Vl → Bool
  | _, [] => true
  | m, v :: r => okV m v && okVs m r
/-- Nodes and edges in turn. -/
def okVp : Bool → List Vl → Bool
  | _, [] => true
  | b, v :: r => (v.kd == if b then 5 else 6) && okV 0 v && okVp (!b) r
end
/-- A value is valid. -/
def okX (v : Vl) : Bool := okV 8 v

/-- A number's fraction. -/
def isNum (v : Vl) : Bool := okX v && (v.kd == 2 || v.kd == 3)
def nmN (v : Vl) : Int := if isNum v = true then v.nn else 0
def nmD (v : Vl) : Int := if isNum v = true then (if v.kd = 2 then 1 else v.dd) else 0
def classV (k : Int) : Int := if k = 0 then 0 else if k = 1 then 1 else if k = 2 ∨ k = 3 then 2 else if k = 4 then 3 else if k = 5 then 4 else if k = 6 then 5 else if k = 8 then 6 else 7

/-- One comparison behind another. -/
def thn (x y : Int) : Int := if x = 0 then y else x
def intc (x y : Int) : Int := if x < y then -1 else if y < x then 1 else 0
def strc : List UInt8 → List UInt8 → Int
  | [], [] => 0
  | [], _ :: _ => -1
  | _ :: _, [] => 1
  | x :: r, y :: t => thn (intc x.toNat y.toNat) (strc r t)
mutual
/-- The order of values. -/
def ordV : Vl → Vl → Int
  | .mk k n d s l, b =>
    if okX (.mk k n d s l) ≠ okX b then (if okX (.mk k n d s l) = true then -1 else 1)
    else if okX b = true ∧ classV k ≠ classV b.kd then intc (classV k) (classV b.kd)
    else if okX b = true ∧ isNum (.mk k n d s l) = true then cmpQ (fz (nmN (.mk k n d s l)) (nmD (.mk k n d s l))) (fz (nmN b) (nmD b))
    else thn (intc k b.kd) (thn (intc n b.nn) (thn (intc d b.dd) (thn (strc s b.ss) (ordL l b.ll))))
/-- The order of lists of values. -/
def ordL : List Vl → List Vl → Int
  | [], [] => 0
  | [], _ :: _ => -1
  | _ :: _, [] => 1
  | x :: r, y :: t => thn (ordV x y) (ordL r t)
end

/-! Codes. -/
def lexQ : List Rat → List Rat → Int
  | [], [] => 0
  | [], _ :: _ => -1
  | _ :: _, [] => 1
  | x :: r, y :: t => thn (cmpQ x y) (lexQ r t)
def encS : List UInt8 → List Rat
  | [] => [0]
  | c :: r => (((c.toNat : Int) + 1 : Int) : Rat) :: encS r
mutual
def encV : Vl → List Rat
  | .mk k n d s l =>
    (if okX (.mk k n d s l) = true then (0 : Rat) else 1) ::
    (if okX (.mk k n d s l) = true then ((classV k : Int) : Rat) else 0) ::
    (if isNum (.mk k n d s l) = true then [fz (nmN (.mk k n d s l)) (nmD (.mk k n d s l))]
     else ((k : Int) : Rat) :: ((n : Int) : Rat) :: ((d : Int) : Rat) :: (encS s ++ encL l))
def encL : List Vl → List Rat
  | [] => [0]
  | x :: r => 1 :: (encV x ++ encL r)
end

theorem thn_assoc (x y z : Int) : thn (thn x y) z = thn x (thn y z) := by
  unfold thn; split <;> simp [*]
theorem thn_0 (x : Int) : thn 0 x = x := rfl
theorem thn_n {x : Int} (h : x ≠ 0) (y : Int) : thn x y = x := if_neg h
theorem intc_cast (x y : Int) : cmpQ (x : Rat) (y : Rat) = intc x y := by
  unfold cmpQ intc
  simp only [Rat.intCast_lt_intCast]
theorem cmp_eqv {x y : Rat} (h : x = y) : cmpQ x y = 0 := cmp_0.2 h
theorem intc_self (x : Int) : intc x x = 0 := by unfold intc; simp
theorem lexS : ∀ (s t : List UInt8) (r r' : List Rat), lexQ (encS s ++ r) (encS t ++ r') = thn (strc s t) (lexQ r r')
  | [], [], r, r' => by
    show thn (cmpQ 0 0) (lexQ r r') = _
    rw [cmp_self]; rfl
  | [], c :: t, r, r' => by
    show thn (cmpQ 0 _) _ = _
    have k : cmpQ 0 ((((c.toNat : Int) + 1 : Int)) : Rat) = -1 := by
      rw [show (0 : Rat) = ((0 : Int) : Rat) from rfl, intc_cast]
      unfold intc; rw [if_pos (by omega)]
    rw [k]; rfl
  | c :: s, [], r, r' => by
    show thn (cmpQ _ 0) _ = _
    have k : cmpQ ((((c.toNat : Int) + 1 : Int)) : Rat) 0 = 1 := by
      rw [show (0 : Rat) = ((0 : Int) : Rat) from rfl, intc_cast]
      unfold intc; rw [if_neg (by omega), if_pos (by omega)]
    rw [k]; rfl
  | c :: s, c' :: t, r, r' => by
    show thn (cmpQ _ _) (lexQ (encS s ++ r) (encS t ++ r')) = thn (thn _ _) _
    rw [lexS s t r r', intc_cast, thn_assoc]
    congr 1
    unfold intc
    split <;> split <;> (try split) <;> (try split) <;> first | rfl | omega

theorem num_class {v : Vl} (h : okX v = true) : isNum v = true ↔ classV v.kd = 2 := by
  unfold isNum classV
  rw [h, Bool.true_and, Bool.or_eq_true, beq_iff_eq, beq_iff_eq]
  constructor
  · rintro (e | e) <;> simp [e]
  · intro e
    repeat' split at e
    all_goals first | (simp at e; done) | (rename_i g; exact g) | omega
theorem num_ok {v : Vl} (h : okX v = false) : isNum v = false := by unfold isNum; rw [h]; rfl
/-- Fields compared, as codes. -/
theorem lex3 (k n d k' n' d' : Int) (A B : List Rat) : lexQ (((k : Int) : Rat) :: ((n : Int) : Rat) :: ((d : Int) : Rat) :: A) (((k' : Int) : Rat) :: ((n' : Int) : Rat) :: ((d' : Int) : Rat) :: B) = thn (intc k k') (thn (intc n n') (thn (intc d d') (lexQ A B))) := by
  show thn _ (thn _ (thn _ _)) = _
  rw [intc_cast, intc_cast, intc_cast]
theorem lex_cons (x y : Rat) (A B : List Rat) : lexQ (x :: A) (y :: B) = thn (cmpQ x y) (lexQ A B) := rfl
mutual
theorem enc_ord : ∀ (a b : Vl) (r r' : List Rat), lexQ (encV a ++ r) (encV b ++ r') = thn (ordV a b) (lexQ r r')
  | .mk k n d s l, .mk k' n' d' s' l', r, r' => by
    have ih := encL_ord l l' r r'
    unfold encV ordV
    cases ha : okX (.mk k n d s l) <;> cases hb : okX (.mk k' n' d' s' l')
    · -- neither is valid
      rw [num_ok ha, num_ok hb]
      simp only [Bool.false_eq_true, if_false, ne_eq, not_true_eq_false, false_and, List.cons_append, List.append_assoc]
      rw [lex_cons, cmp_self, thn_0, lex_cons, cmp_self, thn_0, lex3, lexS, ih]
      simp only [thn_assoc]
      rfl
    · simp only [Bool.false_eq_true, if_false, if_true, ne_eq, not_false_eq_true, List.cons_append]
      rw [lex_cons, show cmpQ (1 : Rat) 0 = 1 by decide +kernel]
      rfl
    · simp only [Bool.false_eq_true, if_false, if_true, ne_eq, not_false_eq_true, List.cons_append, reduceCtorEq]
      rw [lex_cons, show cmpQ (0 : Rat) 1 = -1 by decide +kernel]
      rfl
    · -- both are valid
      simp only [if_true, ne_eq, not_true_eq_false, if_false, true_and, List.cons_append]
      rw [lex_cons, cmp_self, thn_0, lex_cons, intc_cast]
      have na := num_class ha
      have nb := num_class hb
      by_cases hc : classV k = classV (Vl.mk k' n' d' s' l').kd
      · have hc' : classV k = classV k' := hc
        have e1 : ¬ ¬ classV k = classV (Vl.mk k' n' d' s' l').kd := fun t => t hc
        cases hn : isNum (.mk k n d s l)
        · have hm : isNum (.mk k' n' d' s' l') = false := by
            cases e : isNum (.mk k' n' d' s' l')
            · rfl
            · have t := nb.1 e
              have u := na.2 (hc.trans t)
              rw [hn] at u; cases u
          simp only [e1, hm, if_false, Bool.false_eq_true, List.cons_append, List.append_assoc]
          rw [hc', intc_self, thn_0, lex3, lexS, ih]
          simp only [thn_assoc]
          rfl
        · have hm : isNum (.mk k' n' d' s' l') = true := nb.2 (hc.symm.trans (na.1 hn))
          simp only [e1, hm, if_false, if_true, List.cons_append, List.nil_append]
          rw [hc', intc_self, thn_0, lex_cons]
      · rw [if_pos hc]
        have hne : intc (classV k) (classV k') ≠ 0 := by
          have hc' : ¬ classV k = classV k' := hc
          unfold intc
          split
          · decide
          · split
            · decide
            · omega
        rw [thn_n hne]
        show _ = thn (intc (classV k) (classV k')) _
        rw [thn_n hne]
theorem encL_ord : ∀ (a b : List Vl) (r r' : List Rat), lexQ (encL a ++ r) (encL b ++ r') = thn (ordL a b) (lexQ r r')
  | [], [], r, r' => by
    unfold encL ordL
    show thn (cmpQ 0 0) _ = _
    rw [cmp_self]
    rfl
  | [], y :: t, r, r' => by
    unfold encL ordL
    show thn (cmpQ 0 1) _ = _
    rw [show cmpQ (0 : Rat) 1 = -1 by decide +kernel]; rfl
  | x :: s, [], r, r' => by
    unfold encL ordL
    show thn (cmpQ 1 0) _ = _
    rw [show cmpQ (1 : Rat) 0 = 1 by decide +kernel]; rfl
  | x :: s, y :: t, r, r' => by
    have h1 := enc_ord x y (encL s ++ r) (encL t ++ r')
    have h2 := encL_ord s t r r'
    unfold ordL
    rw [show encL (x :: s) = 1 :: (encV x ++ encL s) by rw [encL], show encL (y :: t) = 1 :: (encV y ++ encL t) by rw [encL]]
    rw [List.cons_append, List.cons_append, lex_cons, cmp_self, thn_0, List.append_assoc, List.append_assoc, h1, h2, thn_assoc]
end

/-! The order of codes. -/
theorem thn_neg (x y : Int) : thn (-x) (-y) = - thn x y := by
  unfold thn
  by_cases h : x = 0
  · rw [if_pos h, if_pos (by omega)]
  · rw [if_neg h, if_neg (by omega)]
theorem lex_swap : ∀ a b : List Rat, lexQ b a = - lexQ a b
  | [], [] => rfl
  | [], _ :: _ => rfl
  | _ :: _, [] => rfl
  | x :: r, y :: t => by
    rw [lex_cons, lex_cons, lex_swap r t, cmp_swap y x, thn_neg]
theorem lex_self : ∀ a : List Rat, lexQ a a = 0
  | [] => rfl
  | x :: r => by rw [lex_cons, cmp_self, thn_0, lex_self r]
theorem lex_trans : ∀ a b c : List Rat, lexQ a b ≤ 0 → lexQ b c ≤ 0 → lexQ a c ≤ 0
  | [], _, [], _, _ => by unfold lexQ; decide
  | [], _, _ :: _, _, _ => by unfold lexQ; decide
  | _ :: _, [], _, h, _ => by unfold lexQ at h; exact absurd h (by decide)
  | _ :: _, _ :: _, [], _, h => by unfold lexQ at h; exact absurd h (by decide)
  | x :: r, y :: t, z :: u, h, k => by
    rw [lex_cons] at h k ⊢
    have ih := lex_trans r t u
    have c1 := cmp_three x y
    have c2 := cmp_three y z
    have c3 := cmp_three x z
    unfold thn at *
    by_cases e1 : cmpQ x y = 0
    · have hx := cmp_0.1 e1
      subst hx
      rw [if_pos e1] at h
      by_cases e2 : cmpQ x z = 0
      · rw [if_pos e2] at k ⊢
        exact ih h k
      · rw [if_neg e2] at k ⊢
        exact k
    · rw [if_neg e1] at h
      by_cases e2 : cmpQ y z = 0
      · have hy := cmp_0.1 e2
        subst hy
        rw [if_neg e1]
        exact h
      · rw [if_neg e2] at k
        have tr := cmp_trans h k
        by_cases e3 : cmpQ x z = 0
        · have hz := cmp_0.1 e3
          subst hz
          have sw := cmp_swap x y
          omega
        · rw [if_neg e3]
          exact tr
theorem thn_r (x : Int) : thn x 0 = x := by unfold thn; split <;> simp [*]
theorem ord_lex (a b : Vl) : ordV a b = lexQ (encV a) (encV b) := by
  have h := enc_ord a b [] []
  rw [List.append_nil, List.append_nil] at h
  rw [h]
  exact (thn_r _).symm
theorem ordL_lex (a b : List Vl) : ordL a b = lexQ (encL a) (encL b) := by
  have h := encL_ord a b [] []
  rw [List.append_nil, List.append_nil] at h
  rw [h]
  exact (thn_r _).symm
theorem ord_swap (a b : Vl) : ordV b a = - ordV a b := by rw [ord_lex, ord_lex, lex_swap]
theorem ord_self (a : Vl) : ordV a a = 0 := by rw [ord_lex, lex_self]
theorem ord_trans {a b c : Vl} (h : ordV a b ≤ 0) (k : ordV b c ≤ 0) : ordV a c ≤ 0 := by
  rw [ord_lex] at *
  exact lex_trans _ _ _ h k
theorem ordL_swap (a b : List Vl) : ordL b a = - ordL a b := by rw [ordL_lex, ordL_lex, lex_swap]
theorem ordL_self (a : List Vl) : ordL a a = 0 := by rw [ordL_lex, lex_self]
theorem ordL_trans {a b c : List Vl} (h : ordL a b ≤ 0) (k : ordL b c ≤ 0) : ordL a c ≤ 0 := by
  rw [ordL_lex] at *
  exact lex_trans _ _ _ h k

/-! Order 0: the same value. -/
theorem thn_z {x y : Int} : thn x y = 0 ↔ x = 0 ∧ y = 0 := by
  unfold thn
  by_cases h : x = 0
  · rw [if_pos h]; simp [h]
  · rw [if_neg h]; simp [h]
theorem intc_z {x y : Int} : intc x y = 0 ↔ x = y := by
  unfold intc
  split
  · constructor <;> intro h <;> omega
  · split
    · constructor <;> intro h <;> omega
    · constructor <;> intro h <;> omega
theorem strc_z : ∀ {s t : List UInt8}, strc s t = 0 → s = t
  | [], [], _ => rfl
  | [], _ :: _, h => by unfold strc at h; exact absurd h (by decide)
  | _ :: _, [], h => by unfold strc at h; exact absurd h (by decide)
  | x :: r, y :: t, h => by
    unfold strc at h
    obtain ⟨a, b⟩ := thn_z.1 h
    rw [intc_z] at a
    have e : x = y := UInt8.toNat_inj.1 (by omega)
    rw [e, strc_z b]
/-- What a valid number holds. -/
theorem num_rat {k n d : Int} {s : List UInt8} {l : List Vl} (h : isNum (.mk k n d s l) = true) :
    s = [] ∧ l = [] ∧ okF (nmN (.mk k n d s l)) (nmD (.mk k n d s l)) = true ∧ ((k = 2 ∧ d = 0 ∧ nmN (.mk k n d s l) = n ∧ nmD (.mk k n d s l) = 1) ∨ (k = 3 ∧ 2 ≤ d ∧ nmN (.mk k n d s l) = n ∧ nmD (.mk k n d s l) = d)) := by
  have hn : nmN (.mk k n d s l) = n := by unfold nmN; rw [if_pos h]; rfl
  have hd : nmD (.mk k n d s l) = if k = 2 then 1 else d := by unfold nmD; rw [if_pos h]; rfl
  rw [hn, hd]
  unfold isNum okX at h
  rw [Bool.and_eq_true, Bool.or_eq_true, beq_iff_eq, beq_iff_eq] at h
  obtain ⟨hv, hk⟩ := h
  rcases hk with hk | hk
  · have hk : k = 2 := hk
    subst hk
    unfold okV okFlat bareV at hv
    simp at hv
    obtain ⟨⟨⟨e1, e2⟩, e3⟩, e4, e5⟩ := hv
    refine ⟨e2, e3, ?_, .inl ⟨rfl, e1, rfl, by simp⟩⟩
    rw [if_pos rfl]
    have o : OkF n 1 := ⟨by decide, by decide, e4, e5, Nat.gcd_one_right _⟩
    exact o.b
  · have hk : k = 3 := hk
    subst hk
    unfold okV okFlat bareV at hv
    simp at hv
    obtain ⟨⟨⟨e2, e3⟩, e4⟩, e5⟩ := hv
    refine ⟨e2, e3, ?_, .inr ⟨rfl, e4, rfl, by simp⟩⟩
    rw [if_neg (by decide)]
    exact e5
theorem vl_eta (v : Vl) : v = .mk v.kd v.nn v.dd v.ss v.ll := by cases v; rfl
mutual
theorem ord_eq : ∀ {a b : Vl}, ordV a b = 0 → a = b
  | .mk k n d s l, b, h => by
    have eb := vl_eta b
    have ih := @ordL_eq l b.ll
    generalize b.kd = k' at *
    generalize b.nn = n' at *
    generalize b.dd = d' at *
    generalize b.ss = s' at *
    generalize b.ll = l' at *
    subst eb
    unfold ordV at h
    by_cases h1 : okX (.mk k n d s l) ≠ okX (.mk k' n' d' s' l')
    · rw [if_pos h1] at h
      split at h <;> exact absurd h (by decide)
    rw [if_neg h1] at h
    have hx : okX (.mk k n d s l) = okX (.mk k' n' d' s' l') := Decidable.not_not.1 h1
    by_cases h2 : okX (.mk k' n' d' s' l') = true ∧ classV k ≠ classV (Vl.mk k' n' d' s' l').kd
    · rw [if_pos h2] at h
      exact absurd (intc_z.1 h) h2.2
    rw [if_neg h2] at h
    by_cases h3 : okX (.mk k' n' d' s' l') = true ∧ isNum (.mk k n d s l) = true
    · rw [if_pos h3] at h
      have hc : classV k = classV k' := Decidable.not_not.1 (fun t => h2 ⟨h3.1, t⟩)
      have hm : isNum (.mk k' n' d' s' l') = true := (num_class h3.1).2 (hc.symm.trans ((num_class (hx.trans h3.1)).1 h3.2))
      obtain ⟨r1, r2, r3, r4⟩ := num_rat h3.2
      obtain ⟨q1, q2, q3, q4⟩ := num_rat hm
      have e := (cmp_eq r3 q3).1 h
      rw [r1, r2, q1, q2]
      rcases r4 with ⟨a1, a2, a3, a4⟩ | ⟨a1, a2, a3, a4⟩ <;> rcases q4 with ⟨b1, b2, b3, b4⟩ | ⟨b1, b2, b3, b4⟩
      · rw [a1, b1, a2, b2, ← a3, ← b3, e.1]
      · have := e.2; omega
      · have := e.2; omega
      · rw [a1, b1, ← a3, ← b3, e.1, ← a4, ← b4, e.2]
    · rw [if_neg h3] at h
      obtain ⟨e1, h⟩ := thn_z.1 h
      obtain ⟨e2, h⟩ := thn_z.1 h
      obtain ⟨e3, h⟩ := thn_z.1 h
      obtain ⟨e4, h⟩ := thn_z.1 h
      have f1 : k = k' := intc_z.1 e1
      have f2 : n = n' := intc_z.1 e2
      have f3 : d = d' := intc_z.1 e3
      have f4 : s = s' := strc_z e4
      have f5 : l = l' := ih h
      rw [f1, f2, f3, f4, f5]
theorem ordL_eq : ∀ {a b : List Vl}, ordL a b = 0 → a = b
  | [], [], _ => rfl
  | [], _ :: _, h => by unfold ordL at h; exact absurd h (by decide)
  | _ :: _, [], h => by unfold ordL at h; exact absurd h (by decide)
  | x :: r, y :: t, h => by
    unfold ordL at h
    obtain ⟨a, b⟩ := thn_z.1 h
    rw [ord_eq a, ordL_eq b]
end
end Go.Proofs.YtcadeijloobbmaaGreat

/-! Plain mathematics of graphs: names, labels and keys in order, when a graph is valid, adjacency in order, equality of graphs, how heavy a graph is. No program, no world. -/
namespace Go.Proofs.YtcadeijloobbmaaGreat

/-- A property: its key, its value. -/
structure Pp where
  k : List UInt8
  v : Vl
/-- A node: its id, its labels, its properties. -/
structure Nd where
  id : Int
  ls : List (List UInt8)
  ps : List Pp
/-- An edge: its id, its two ends, its type, its properties. -/
structure Ed where
  id : Int
  fr : Int
  to : Int
  ty : List UInt8
  ps : List Pp
/-- A graph: nodes, edges, the next ids. -/
structure Gr where
  ns : List Nd
  es : List Ed
  nn : Int
  ne : Int

/-! Names. -/
def letV (c : UInt8) : Bool := (decide (97 ≤ c.toNat) && decide (c.toNat ≤ 122)) || (decide (65 ≤ c.toNat) && decide (c.toNat ≤ 90))
def digV (c : UInt8) : Bool := decide (48 ≤ c.toNat) && decide (c.toNat ≤ 57)
def chrV (c : UInt8) : Bool := letV c || digV c || decide (c.toNat = 95)
def nameV (s : List UInt8) : Bool := !s.isEmpty && decide (s.length ≤ 20) && letV (s.headD 0) && s.all chrV
theorem chr_let {c : UInt8} (h : letV c = true) : chrV c = true := by unfold chrV; rw [h]; rfl

/-! Lists side by side. -/
def al2 {α β : Type} (f : α → β → Bool) : List α → List β → Bool
  | [], [] => true
  | x :: r, y :: t => f x y && al2 f r t
  | _, _ => false
theorem al2_drop {α β : Type} (f : α → β → Bool) (a : List α) (b : List β) (i : Nat) (h : i < a.length) (h' : i < b.length) : al2 f (a.drop i) (b.drop i) = (f a[i] b[i] && al2 f (a.drop (i + 1)) (b.drop (i + 1))) := by
  rw [List.drop_eq_getElem_cons h, List.drop_eq_getElem_cons h']
  rfl
theorem al2_end {α β : Type} (f : α → β → Bool) (a : List α) (b : List β) (i : Nat) (h : a.length ≤ i) (h' : b.length ≤ i) : al2 f (a.drop i) (b.drop i) = true := by
  rw [List.drop_of_length_le h, List.drop_of_length_le h']; rfl
theorem al2_len {α β : Type} (f : α → β → Bool) : ∀ (a : List α) (b : List β), a.length ≠ b.length → al2 f a b = false
  | [], [], h => absurd rfl h
  | [], _ :: _, _ => rfl
  | _ :: _, [], _ => rfl
  | x :: r, y :: t, h => by
    show (f x y && al2 f r t) = false
    rw [al2_len f r t (fun e => h (by simp [e])), Bool.and_false]
theorem al2_self {α : Type} (f : α → α → Bool) : ∀ (a : List α), (∀ x, x ∈ a → f x x = true) → al2 f a a = true
  | [], _ => rfl
  | x :: r, h => by
    show (f x x && al2 f r r) = true
    rw [h x (by simp), al2_self f r (fun y hy => h y (List.mem_cons_of_mem _ hy))]; rfl
theorem al2_iff {α : Type} {f : α → α → Bool} (hf : ∀ x y, f x y = true → x = y) : ∀ (a b : List α), al2 f a b = true → a = b
  | [], [], _ => rfl
  | [], _ :: _, h => by cases h
  | _ :: _, [], h => by cases h
  | x :: r, y :: t, h => by
    have h' : (f x y && al2 f r t) = true := h
    rw [Bool.and_eq_true] at h'
    rw [hf x y h'.1, al2_iff hf r t h'.2]

/-! Order. -/
/-- Each greater than the one before it. -/
def risV : List (List UInt8) → Bool
  | [] => true
  | a :: l => (match l with | [] => true | b :: _ => Op.bytesLess a b) && risV l
theorem ris_step (l : List (List UInt8)) (i : Nat) (h : i + 1 < l.length) : risV (l.drop i) = (Op.bytesLess l[i] l[i + 1] && risV (l.drop (i + 1))) := by
  rw [List.drop_eq_getElem_cons (show i < l.length by omega), List.drop_eq_getElem_cons h]
  rfl
theorem ris_end (l : List (List UInt8)) (i : Nat) (h : l.length ≤ i + 1) : risV (l.drop i) = true := by
  by_cases k : i < l.length
  · rw [List.drop_eq_getElem_cons k, List.drop_of_length_le h]; rfl
  · rw [List.drop_of_length_le (by omega)]; rfl

/-! What is wrong with a graph. -/
def plnV (x : Vl) : Bool := okX x && (x.kd == 1 || x.kd == 2 || x.kd == 4)
def keysV (ps : List Pp) : List (List UInt8) := ps.map Pp.k
/-- What is wrong with labels and properties. -/
def parV (ls : List (List UInt8)) (ps : List Pp) : Int :=
  if 8 < ls.length ∨ 16 < ps.length then 4
  else if (ls.all nameV && (keysV ps).all nameV) = false then 6
  else if (risV ls && risV (keysV ps)) = false then 26
  else if ps.all (fun p => plnV p.v) = false then 8 else 0
/-- It stands behind an id that is not smaller. -/
def badP (prev : Option Int) (x : Int) : Bool := match prev with | none => false | some p => decide (x ≤ p)
def ndV (nn : Int) (prev : Option Int) (n : Nd) : Int :=
  if badP prev n.id = true then 26 else if n.id < 1 ∨ nn ≤ n.id then 1 else parV n.ls n.ps
def nsV (nn : Int) : Option Int → List Nd → Int
  | _, [] => 0
  | prev, n :: r => if ndV nn prev n = 0 then nsV nn (some n.id) r else ndV nn prev n
def hasN (ns : List Nd) (x : Int) : Bool := ns.any fun n => n.id == x
def edV (ns : List Nd) (ne : Int) (prev : Option Int) (e : Ed) : Int :=
  if badP prev e.id = true then 26 else if e.id < 1 ∨ ne ≤ e.id then 1
  else if (hasN ns e.fr && hasN ns e.to) = false then 10
  else if nameV e.ty = false then 6 else parV [] e.ps
def esV (ns : List Nd) (ne : Int) : Option Int → List Ed → Int
  | _, [] => 0
  | prev, e :: r => if edV ns ne prev e = 0 then esV ns ne (some e.id) r else edV ns ne prev e
def sizV (g : Gr) : Bool := decide (g.ns.length ≤ 2000) && decide (g.es.length ≤ 4000)
def nxtV (x : Int) : Bool := decide (1 ≤ x) && decide (x ≤ 1000001)
def chkV (g : Gr) : Int :=
  if sizV g = false then 4
  else if (nxtV g.nn && nxtV g.ne) = false then 1
  else if nsV g.nn none g.ns = 0 then esV g.ns g.ne none g.es else nsV g.nn none g.ns
/-- The id that stands ahead of place i. -/
def prevN (ns : List Nd) (i : Nat) : Option Int := if i = 0 then none else (ns[i - 1]?).map Nd.id
def prevE (es : List Ed) (i : Nat) : Option Int := if i = 0 then none else (es[i - 1]?).map Ed.id
theorem prevN_s (ns : List Nd) (i : Nat) (h : i < ns.length) : prevN ns (i + 1) = some ns[i].id := by
  unfold prevN
  rw [if_neg (by omega), Nat.add_sub_cancel, List.getElem?_eq_getElem h]; rfl
theorem prevE_s (es : List Ed) (i : Nat) (h : i < es.length) : prevE es (i + 1) = some es[i].id := by
  unfold prevE
  rw [if_neg (by omega), Nat.add_sub_cancel, List.getElem?_eq_getElem h]; rfl
theorem nsV_drop (nn : Int) (ns : List Nd) (i : Nat) (h : i < ns.length) :
    nsV nn (prevN ns i) (ns.drop i) = if ndV nn (prevN ns i) ns[i] = 0 then nsV nn (prevN ns (i + 1)) (ns.drop (i + 1)) else ndV nn (prevN ns i) ns[i] := by
  rw [prevN_s ns i h, List.drop_eq_getElem_cons h]; rfl
theorem esV_drop (ns : List Nd) (ne : Int) (es : List Ed) (i : Nat) (h : i < es.length) :
    esV ns ne (prevE es i) (es.drop i) = if edV ns ne (prevE es i) es[i] = 0 then esV ns ne (prevE es (i + 1)) (es.drop (i + 1)) else edV ns ne (prevE es i) es[i] := by
  rw [prevE_s es i h, List.drop_eq_getElem_cons h]; rfl
theorem ns_gt : ∀ (nn : Int) (l : List Nd) (p : Int), nsV nn (some p) l = 0 → l.Pairwise (fun a b => a.id < b.id) ∧ ∀ n ∈ l, p < n.id
  | _, [], _, _ => ⟨List.Pairwise.nil, fun _ h => by cases h⟩
  | nn, n :: r, p, h => by
    have h' : (if ndV nn (some p) n = 0 then nsV nn (some n.id) r else ndV nn (some p) n) = 0 := h
    by_cases e : ndV nn (some p) n = 0
    · rw [if_pos e] at h'
      obtain ⟨k1, k2⟩ := ns_gt nn r n.id h'
      have hp : p < n.id := by
        unfold ndV badP at e
        by_cases g : n.id ≤ p
        · simp [g] at e
        · omega
      refine ⟨List.pairwise_cons.2 ⟨k2, k1⟩, fun m hm => ?_⟩
      rcases List.mem_cons.1 hm with rfl | hm
      · exact hp
      · have := k2 m hm; omega
    · rw [if_neg e] at h'; exact absurd h' e
/-- The ids of nodes without a fault increase. -/
theorem ns_inc {nn : Int} {l : List Nd} (h : nsV nn none l = 0) : l.Pairwise (fun a b => a.id < b.id) := by
  cases l with
  | nil => exact List.Pairwise.nil
  | cons n r =>
    have h' : (if ndV nn none n = 0 then nsV nn (some n.id) r else ndV nn none n) = 0 := h
    by_cases e : ndV nn none n = 0
    · rw [if_pos e] at h'
      obtain ⟨k1, k2⟩ := ns_gt nn r n.id h'
      exact List.pairwise_cons.2 ⟨k2, k1⟩
    · rw [if_neg e] at h'; exact absurd h' e

/-! First of a list. -/
def nodV (ns : List Nd) (x : Int) : Option Nd := ns.find? fun n => n.id == x
def edgV (es : List Ed) (x : Int) : Option Ed := es.find? fun e => e.id == x
def prpV (ps : List Pp) (k : List UInt8) : Vl := ((ps.find? fun p => p.k == k).map Pp.v).getD (.mk 0 0 0 [] [])
def hasS (l : List (List UInt8)) (s : List UInt8) : Bool := l.any fun x => x == s
def hasT (ty : List UInt8) (types : List (List UInt8)) : Bool := types.isEmpty || hasS types ty
theorem nod_some (ns : List Nd) (x : Int) : (nodV ns x).isSome = hasN ns x := by
  unfold nodV hasN; rw [Bool.eq_iff_iff, List.find?_isSome, List.any_eq_true]

/-! Adjacency. -/
/-- Where an edge leads from a node. -/
def acrV (e : Ed) (id dir : Int) : Option Int :=
  if (dir = 1 ∨ dir = 3) ∧ e.fr = id then some e.to else if (dir = 2 ∨ dir = 3) ∧ e.to = id then some e.fr else none
/-- The entries at a node: the node reached and the edge, in the order of the edges. -/
def stpV (es : List Ed) (id : Int) (types : List (List UInt8)) (dir : Int) : List (Int × Int) :=
  es.filterMap fun e => if hasT e.ty types = true then (acrV e id dir).map fun t => (t, e.id) else none
def adjL (a b : Int × Int) : Bool := decide (a.1 < b.1) || (decide (a.1 = b.1) && decide (a.2 < b.2))
def adjc (a b : Int × Int) : Int := thn (intc a.1 b.1) (intc a.2 b.2)
def srtV (l : List (Int × Int)) : List (Int × Int) := l.mergeSort fun a b => !adjL b a
def adjV (es : List Ed) (id : Int) (types : List (List UInt8)) (dir : Int) : List (Int × Int) := srtV (stpV es id types dir)
theorem adjL_asym {a b : Int × Int} (h : adjL a b = true) : adjL b a = false := by
  unfold adjL at *
  simp only [Bool.or_eq_true, Bool.and_eq_true, decide_eq_true_eq, Bool.or_eq_false_iff, Bool.and_eq_false_iff, decide_eq_false_iff_not] at *
  omega
theorem adjL_eq {a b : Int × Int} (h : adjL a b = false) (h' : adjL b a = false) : a = b := by
  unfold adjL at *
  simp only [Bool.or_eq_false_iff, Bool.and_eq_false_iff, decide_eq_false_iff_not] at *
  obtain ⟨a1, a2⟩ := a
  obtain ⟨b1, b2⟩ := b
  simp only [Prod.mk.injEq] at *
  omega
theorem adjL_trans {a b c : Int × Int} (h : adjL b a = false) (h' : adjL c b = false) : adjL c a = false := by
  unfold adjL at *
  simp only [Bool.or_eq_false_iff, Bool.and_eq_false_iff, decide_eq_false_iff_not] at *
  omega
theorem adjc_lt (a b : Int × Int) : decide (adjc a b < 0) = adjL a b := by
  unfold adjc adjL thn intc
  rw [Bool.eq_iff_iff]
  simp only [decide_eq_true_eq, Bool.or_eq_true, Bool.and_eq_true]
  repeat' split
  all_goals omega
/-- In order: none is smaller than one before it. -/
def SrtP (l : List (Int × Int)) : Prop := l.Pairwise fun a b => adjL b a = false
theorem srt_uniq : ∀ {l m : List (Int × Int)}, SrtP l → SrtP m → l.Perm m → l = m := by
  intro l m hl hm hp
  exact hp.eq_of_pairwise (le := fun a b => adjL b a = false) (fun a b _ _ h1 h2 => adjL_eq h2 h1) hl hm
theorem srtV_perm (l : List (Int × Int)) : (srtV l).Perm l := List.mergeSort_perm _ _
theorem srtV_srt (l : List (Int × Int)) : SrtP (srtV l) := by
  have h := List.pairwise_mergeSort (le := fun a b : Int × Int => !adjL b a) (by
    intro a b c h1 h2
    simp only [Bool.not_eq_true'] at *
    exact adjL_trans h1 h2) (by
    intro a b
    cases h : adjL b a
    · rfl
    · rw [adjL_asym h]; rfl) l
  exact h.imp (by intro a b h; simpa using h)
theorem srtV_of {l m : List (Int × Int)} (hm : SrtP m) (hp : m.Perm l) : m = srtV l := srt_uniq hm (srtV_srt l) (hp.trans (srtV_perm l).symm)
theorem adj_mem (es : List Ed) (id : Int) (types : List (List UInt8)) (dir : Int) (x : Int × Int) : x ∈ adjV es id types dir ↔ x ∈ stpV es id types dir := (srtV_perm _).mem_iff
theorem adj_len (es : List Ed) (id : Int) (types : List (List UInt8)) (dir : Int) : (adjV es id types dir).length = (stpV es id types dir).length := (srtV_perm _).length_eq

/-! Equality. -/
def samP (p q : Pp) : Bool := (p.k == q.k) && (ordV p.v q.v == 0)
def samN (a b : Nd) : Bool := (a.id == b.id) && (al2 (fun x y => x == y) a.ls b.ls && al2 samP a.ps b.ps)
def samE (a b : Ed) : Bool := (a.id == b.id) && ((a.fr == b.fr) && ((a.to == b.to) && ((a.ty == b.ty) && al2 samP a.ps b.ps)))
def samG (g h : Gr) : Bool := (g.nn == h.nn) && ((g.ne == h.ne) && (al2 samN g.ns h.ns && al2 samE g.es h.es))

/-! Strings in order, each once. -/
def incS (l : List (List UInt8)) : Prop := l.Pairwise fun a b => Op.bytesLess a b = true
end Go.Proofs.YtcadeijloobbmaaGreat

/-! Plain mathematics of natural numbers as lists of limbs in base 1000000000, the least limb first: the value of a list, the one valid list of a value, and when a list of limbs is that list. No program, no world. -/
namespace Go.Proofs.YtcadeijloobbmaaGreat

/-- The value of a list of limbs. -/
def vl : List Int → Nat
  | [] => 0
  | z :: r => z.toNat + 1000000000 * vl r
/-- Every limb is a digit. -/
def Digs (l : List Int) : Prop := ∀ z ∈ l, 0 ≤ z ∧ z < 1000000000
/-- The list of a value. -/
def lim (n : Nat) : List Int := if h : n = 0 then [] else ((n % 1000000000 : Nat) : Int) :: lim (n / 1000000000)
termination_by n
decreasing_by omega

theorem lim_0 : lim 0 = [] := by rw [lim]; simp
theorem lim_s {n : Nat} (h : n ≠ 0) : lim n = ((n % 1000000000 : Nat) : Int) :: lim (n / 1000000000) := by rw [lim, dif_neg h]
theorem vl_lim (n : Nat) : vl (lim n) = n := by
  induction n using Nat.strongRecOn with
  | _ n ih =>
    by_cases h : n = 0
    · subst h; rw [lim_0]; rfl
    · rw [lim_s h, vl, ih (n / 1000000000) (by omega)]; omega
theorem digs_lim (n : Nat) : Digs (lim n) := by
  induction n using Nat.strongRecOn with
  | _ n ih =>
    by_cases h : n = 0
    · subst h; rw [lim_0]; intro z hz; cases hz
    · rw [lim_s h]
      intro z hz
      rcases List.mem_cons.1 hz with rfl | hz
      · omega
      · exact ih (n / 1000000000) (by omega) z hz
theorem lim_nil {n : Nat} : lim n = [] ↔ n = 0 := by
  constructor
  · intro h
    have := vl_lim n
    rw [h] at this
    exact this.symm
  · intro h; rw [h, lim_0]
theorem last_lim (n : Nat) (h : n ≠ 0) : ∃ z, (lim n).getLast? = some z ∧ z ≠ 0 := by
  induction n using Nat.strongRecOn with
  | _ n ih =>
    rw [lim_s h]
    by_cases h1 : n / 1000000000 = 0
    · rw [h1, lim_0]
      exact ⟨((n % 1000000000 : Nat) : Int), rfl, by omega⟩
    · obtain ⟨z, h2, h3⟩ := ih (n / 1000000000) (by omega) h1
      refine ⟨z, ?_, h3⟩
      rw [List.getLast?_cons, h2]; rfl

theorem vl_app (a b : List Int) : vl (a ++ b) = vl a + 1000000000 ^ a.length * vl b := by
  induction a with
  | nil => simp [vl]
  | cons z r ih =>
    rw [List.cons_append, vl, vl, ih, List.length_cons, Nat.pow_succ, Nat.mul_add]
    rw [Nat.mul_comm (1000000000 ^ r.length) 1000000000, Nat.mul_assoc]
    omega
theorem vl_lt {l : List Int} (h : Digs l) : vl l < 1000000000 ^ l.length := by
  induction l with
  | nil => simp [vl]
  | cons z r ih =>
    have h1 := h z (List.mem_cons_self ..)
    have h2 := ih fun y hy => h y (List.mem_cons_of_mem _ hy)
    rw [vl, List.length_cons, Nat.pow_succ]
    omega
theorem digs_app {a b : List Int} (ha : Digs a) (hb : Digs b) : Digs (a ++ b) := fun z hz => by
  rcases List.mem_append.1 hz with h | h
  · exact ha z h
  · exact hb z h
theorem digs_one {z : Int} (h0 : 0 ≤ z) (h1 : z < 1000000000) : Digs [z] := fun y hy => by
  have e : y = z := by simpa using hy
  subst e; exact ⟨h0, h1⟩
theorem digs_nil : Digs [] := fun _ h => by cases h
theorem digs_take {l : List Int} (h : Digs l) (k : Nat) : Digs (l.take k) := fun z hz => h z (List.mem_of_mem_take hz)
theorem digs_drop {l : List Int} (h : Digs l) (k : Nat) : Digs (l.drop k) := fun z hz => h z (List.mem_of_mem_drop hz)

/-- A list of digits whose last one is not 0 is the list of its value. -/
theorem lim_vl {l : List Int} (h : Digs l) (hl : l.getLast? ≠ some 0) : lim (vl l) = l := by
  induction l with
  | nil => rw [vl, lim_0]
  | cons z r ih =>
    have h1 := h z (List.mem_cons_self ..)
    have h2 : Digs r := fun y hy => h y (List.mem_cons_of_mem _ hy)
    by_cases hr : r = []
    · subst hr
      have hz : z ≠ 0 := fun e => hl (by rw [e]; rfl)
      have e : vl [z] = z.toNat := by simp [vl]
      rw [e, lim_s (by omega), show z.toNat / 1000000000 = 0 by omega, lim_0, show z.toNat % 1000000000 = z.toNat by omega]
      congr 1
      omega
    · have hl' : r.getLast? ≠ some 0 := by
        intro e; apply hl; rw [List.getLast?_cons, e]; rfl
      have ih' := ih h2 hl'
      have hp : vl r ≠ 0 := by
        intro e; rw [e, lim_0] at ih'; exact hr ih'.symm
      rw [vl, lim_s (by omega), show (z.toNat + 1000000000 * vl r) / 1000000000 = vl r by omega, show (z.toNat + 1000000000 * vl r) % 1000000000 = z.toNat by omega, ih']
      congr 1
      omega
theorem lim_zero_end (l : List Int) : lim (vl (l ++ [0])) = lim (vl l) := by
  rw [vl_app]; simp [vl]
/-- A list of digits of a length whose value is great enough is the list of its value. -/
theorem lim_big {l : List Int} (h : Digs l) (hv : l = [] ∨ 1000000000 ^ (l.length - 1) ≤ vl l) : lim (vl l) = l := by
  refine lim_vl h fun e => ?_
  rcases hv with rfl | hv
  · cases e
  · obtain ⟨k, hk⟩ := List.getLast?_eq_some_iff.1 e
    subst hk
    have h1 : vl k < 1000000000 ^ k.length := vl_lt fun z hz => h z (List.mem_append_left _ hz)
    rw [vl_app] at hv
    simp [vl] at hv
    omega
theorem len_lim (n k : Nat) : (lim n).length ≤ k ↔ n < 1000000000 ^ k := by
  induction k generalizing n with
  | zero =>
    rw [Nat.pow_zero, Nat.le_zero, List.length_eq_zero_iff, lim_nil]; omega
  | succ k ih =>
    by_cases h : n = 0
    · subst h; rw [lim_0]; exact ⟨fun _ => Nat.pow_pos (by decide), fun _ => Nat.zero_le _⟩
    · rw [lim_s h, List.length_cons, Nat.succ_le_succ_iff, ih, Nat.pow_succ]
      omega
theorem len_pos {n : Nat} (h : n ≠ 0) : 1000000000 ^ ((lim n).length - 1) ≤ n := by
  have k := len_lim n ((lim n).length - 1)
  have p : 0 < (lim n).length := by
    rw [List.length_pos_iff]; exact fun e => h (lim_nil.1 e)
  omega

/-- A valid number. -/
def okL (l : List Int) : Bool := decide (l.length ≤ 64) && (l.all fun z => decide (0 ≤ z) && decide (z < 1000000000)) && !(l.getLast? == some 0)
theorem okL_t {l : List Int} (h : okL l = true) : l.length ≤ 64 ∧ Digs l ∧ l.getLast? ≠ some 0 := by
  simp only [okL, Bool.and_eq_true, decide_eq_true_eq, List.all_eq_true] at h
  obtain ⟨⟨h1, h2⟩, h3⟩ := h
  exact ⟨h1, h2, by simpa using h3⟩
theorem okL_mk {l : List Int} (h1 : l.length ≤ 64) (h2 : Digs l) (h3 : l.getLast? ≠ some 0) : okL l = true := by
  simp only [okL, Bool.and_eq_true, decide_eq_true_eq, List.all_eq_true]
  exact ⟨⟨h1, h2⟩, by simpa using h3⟩
/-- The number of a list: 0 where it is not valid. -/
def nv (l : List Int) : Nat := if okL l = true then vl l else 0
/-- The valid list of the number of a list. -/
def numL (l : List Int) : List Int := if okL l = true then l else []
theorem numL_lim (l : List Int) : numL l = lim (nv l) := by
  unfold numL nv
  split
  · rename_i h
    obtain ⟨_, h2, h3⟩ := okL_t h
    rw [lim_vl h2 h3]
  · rw [lim_0]
theorem nv_lt (l : List Int) : nv l < 1000000000 ^ 64 := by
  unfold nv
  split
  · rename_i h
    obtain ⟨h1, h2, _⟩ := okL_t h
    exact Nat.lt_of_lt_of_le (vl_lt h2) (Nat.pow_le_pow_right (by decide) h1)
  · exact Nat.pow_pos (by decide)
theorem last_lim' (n : Nat) : (lim n).getLast? ≠ some 0 := by
  by_cases h : n = 0
  · subst h; rw [lim_0]; intro e; cases e
  · obtain ⟨z, h1, h2⟩ := last_lim n h
    rw [h1]; intro e; injection e with e; exact h2 e
theorem okL_lim {n : Nat} (h : n < 1000000000 ^ 64) : okL (lim n) = true := okL_mk ((len_lim n 64).2 h) (digs_lim n) (last_lim' n)
theorem nv_lim {n : Nat} (h : n < 1000000000 ^ 64) : nv (lim n) = n := by unfold nv; rw [if_pos (okL_lim h), vl_lim]
theorem numL_len (l : List Int) : (numL l).length ≤ 64 := by rw [numL_lim, len_lim]; exact nv_lt l
theorem digs_numL (l : List Int) : Digs (numL l) := by rw [numL_lim]; exact digs_lim _
theorem vl_numL (l : List Int) : vl (numL l) = nv l := by rw [numL_lim, vl_lim]
theorem lim_inj {a b : Nat} (h : lim a = lim b) : a = b := by rw [← vl_lim a, ← vl_lim b, h]
theorem okL_eq {a b : List Int} (ha : okL a = true) (hb : okL b = true) (h : nv a = nv b) : a = b := by
  have e1 : numL a = a := by unfold numL; rw [if_pos ha]
  have e2 : numL b = b := by unfold numL; rw [if_pos hb]
  rw [← e1, ← e2, numL_lim, numL_lim, h]
end Go.Proofs.YtcadeijloobbmaaGreat
