/-
  Plain mathematics of values: when a value is valid, and the order of all values, which is an order of their codes (lists of rational numbers), so it is total. No program, no world.
-/
import Derived.Test.YteonkiajgfkieaaGreatDoorOrdM
namespace Go.Proofs.YteonkiajgfkieaaGreatDoor

/-- A value: kind, two numbers, a string's bytes, the values inside. -/
inductive Vl where
  | mk (k n d : Int) (s : List UInt8) (l : List Vl) : Vl
def Vl.kd : Vl → Int | .mk k _ _ _ _ => k
def Vl.nn : Vl → Int | .mk _ n _ _ _ => n
def Vl.dd : Vl → Int | .mk _ _ d _ _ => d
def Vl.ss : Vl → List UInt8 | .mk _ _ _ s _ => s
def Vl.ll : Vl → List Vl | .mk _ _ _ _ l => l

/-- The fields that a kind does not use are zero. -/
def bareV (n d : Int) (s : List UInt8) (l : List Vl) (bn bd bs bl : Bool) : Bool := (bn || n == 0) && (bd || d == 0) && (bs || s.isEmpty) && (bl || l.isEmpty)
/-- A string may be a value. -/
def okStr (s : List UInt8) : Bool := s.all (fun c => decide (32 ≤ c.toNat) && decide (c.toNat ≤ 126)) && decide (s.length ≤ 100)
/-- What is asked of a value that holds none. -/
def okFlat (k n d : Int) (s : List UInt8) (l : List Vl) : Bool :=
  if k = 0 then bareV n d s l false false false false
  else if k = 1 then bareV n d s l true false false false && (n == 0 || n == 1)
  else if k = 2 then bareV n d s l true false false false && (decide (-1000000000000000 ≤ n) && decide (n ≤ 1000000000000000))
  else if k = 3 then bareV n d s l true true false false && decide (2 ≤ d) && okF n d
  else if k = 4 then bareV n d s l false false true false && okStr s
  else if k = 5 ∨ k = 6 then bareV n d s l true false false false && decide (1 ≤ n) && decide (n ≤ 1000000)
  else false
mutual
/-- A value is valid where so many more lists may be nested. -/
def okV : Nat → Vl → Bool
  | m, .mk k n d s l =>
    if k = 7 then bareV n d s l false false false true && decide (l.length % 2 = 1) && decide (l.length ≤ 25) && okVp true l
    else if k = 8 then bareV n d s l false false false true && decide (1 ≤ m) && decide (l.length ≤ 64) && okVs (m - 1) l
    else okFlat k n d s l
/-- All are valid. -/
def okVs : Nat → List Vl → Bool
  | _, [] => true
  | m, v :: r => okV m v && okVs m r
/-- Nodes and edges in turn. -/
def okVp : Bool → List Vl → Bool
  | _, [] => true
  | b, v :: r => (v.kd == if b then 5 else 6) && okV 0 v && okVp (!b) r
end
/-- A value is valid. -/
def okX (v : Vl) : Bool := okV 8 v

/-- A number's fraction. -/
def isNum (v : Vl) : Bool := okX v && (v.kd == 2 || v.kd == 3)
def nmN (v : Vl) : Int := if isNum v = true then v.nn else 0
def nmD (v : Vl) : Int := if isNum v = true then (if v.kd = 2 then 1 else v.dd) else 0
def classV (k : Int) : Int := if k = 0 then 0 else if k = 1 then 1 else if k = 2 ∨ k = 3 then 2 else if k = 4 then 3 else if k = 5 then 4 else if k = 6 then 5 else if k = 8 then 6 else 7

/-- One comparison behind another. -/
def thn (x y : Int) : Int := if x = 0 then y else x
def intc (x y : Int) : Int := if x < y then -1 else if y < x then 1 else 0
def strc : List UInt8 → List UInt8 → Int
  | [], [] => 0
  | [], _ :: _ => -1
  | _ :: _, [] => 1
  | x :: r, y :: t => thn (intc x.toNat y.toNat) (strc r t)
mutual
/-- The order of values. -/
def ordV : Vl → Vl → Int
  | .mk k n d s l, b =>
    if okX (.mk k n d s l) ≠ okX b then (if okX (.mk k n d s l) = true then -1 else 1)
    else if okX b = true ∧ classV k ≠ classV b.kd then intc (classV k) (classV b.kd)
    else if okX b = true ∧ isNum (.mk k n d s l) = true then cmpQ (fz (nmN (.mk k n d s l)) (nmD (.mk k n d s l))) (fz (nmN b) (nmD b))
    else thn (intc k b.kd) (thn (intc n b.nn) (thn (intc d b.dd) (thn (strc s b.ss) (ordL l b.ll))))
/-- The order of lists of values. -/
def ordL : List Vl → List Vl → Int
  | [], [] => 0
  | [], _ :: _ => -1
  | _ :: _, [] => 1
  | x :: r, y :: t => thn (ordV x y) (ordL r t)
end

/-! Codes. -/
def lexQ : List Rat → List Rat → Int
  | [], [] => 0
  | [], _ :: _ => -1
  | _ :: _, [] => 1
  | x :: r, y :: t => thn (cmpQ x y) (lexQ r t)
def encS : List UInt8 → List Rat
  | [] => [0]
  | c :: r => (((c.toNat : Int) + 1 : Int) : Rat) :: encS r
mutual
def encV : Vl → List Rat
  | .mk k n d s l =>
    (if okX (.mk k n d s l) = true then (0 : Rat) else 1) ::
    (if okX (.mk k n d s l) = true then ((classV k : Int) : Rat) else 0) ::
    (if isNum (.mk k n d s l) = true then [fz (nmN (.mk k n d s l)) (nmD (.mk k n d s l))]
     else ((k : Int) : Rat) :: ((n : Int) : Rat) :: ((d : Int) : Rat) :: (encS s ++ encL l))
def encL : List Vl → List Rat
  | [] => [0]
  | x :: r => 1 :: (encV x ++ encL r)
end

theorem thn_assoc (x y z : Int) : thn (thn x y) z = thn x (thn y z) := by
  unfold thn; split <;> simp [*]
theorem thn_0 (x : Int) : thn 0 x = x := rfl
theorem thn_n {x : Int} (h : x ≠ 0) (y : Int) : thn x y = x := if_neg h
theorem intc_cast (x y : Int) : cmpQ (x : Rat) (y : Rat) = intc x y := by
  unfold cmpQ intc
  simp only [Rat.intCast_lt_intCast]
theorem cmp_eqv {x y : Rat} (h : x = y) : cmpQ x y = 0 := cmp_0.2 h
theorem intc_self (x : Int) : intc x x = 0 := by unfold intc; simp
theorem lexS : ∀ (s t : List UInt8) (r r' : List Rat), lexQ (encS s ++ r) (encS t ++ r') = thn (strc s t) (lexQ r r')
  | [], [], r, r' => by
    show thn (cmpQ 0 0) (lexQ r r') = _
    rw [cmp_self]; rfl
  | [], c :: t, r, r' => by
    show thn (cmpQ 0 _) _ = _
    have k : cmpQ 0 ((((c.toNat : Int) + 1 : Int)) : Rat) = -1 := by
      rw [show (0 : Rat) = ((0 : Int) : Rat) from rfl, intc_cast]
      unfold intc; rw [if_pos (by omega)]
    rw [k]; rfl
  | c :: s, [], r, r' => by
    show thn (cmpQ _ 0) _ = _
    have k : cmpQ ((((c.toNat : Int) + 1 : Int)) : Rat) 0 = 1 := by
      rw [show (0 : Rat) = ((0 : Int) : Rat) from rfl, intc_cast]
      unfold intc; rw [if_neg (by omega), if_pos (by omega)]
    rw [k]; rfl
  | c :: s, c' :: t, r, r' => by
    show thn (cmpQ _ _) (lexQ (encS s ++ r) (encS t ++ r')) = thn (thn _ _) _
    rw [lexS s t r r', intc_cast, thn_assoc]
    congr 1
    unfold intc
    split <;> split <;> (try split) <;> (try split) <;> first | rfl | omega

theorem num_class {v : Vl} (h : okX v = true) : isNum v = true ↔ classV v.kd = 2 := by
  unfold isNum classV
  rw [h, Bool.true_and, Bool.or_eq_true, beq_iff_eq, beq_iff_eq]
  constructor
  · rintro (e | e) <;> simp [e]
  · intro e
    repeat' split at e
    all_goals first | (simp at e; done) | (rename_i g; exact g) | omega
theorem num_ok {v : Vl} (h : okX v = false) : isNum v = false := by unfold isNum; rw [h]; rfl
/-- Fields compared, as codes. -/
theorem lex3 (k n d k' n' d' : Int) (A B : List Rat) : lexQ (((k : Int) : Rat) :: ((n : Int) : Rat) :: ((d : Int) : Rat) :: A) (((k' : Int) : Rat) :: ((n' : Int) : Rat) :: ((d' : Int) : Rat) :: B) = thn (intc k k') (thn (intc n n') (thn (intc d d') (lexQ A B))) := by
  show thn _ (thn _ (thn _ _)) = _
  rw [intc_cast, intc_cast, intc_cast]
theorem lex_cons (x y : Rat) (A B : List Rat) : lexQ (x :: A) (y :: B) = thn (cmpQ x y) (lexQ A B) := rfl
mutual
theorem enc_ord : ∀ (a b : Vl) (r r' : List Rat), lexQ (encV a ++ r) (encV b ++ r') = thn (ordV a b) (lexQ r r')
  | .mk k n d s l, .mk k' n' d' s' l', r, r' => by
    have ih := encL_ord l l' r r'
    unfold encV ordV
    cases ha : okX (.mk k n d s l) <;> cases hb : okX (.mk k' n' d' s' l')
    · -- neither is valid
      rw [num_ok ha, num_ok hb]
      simp only [Bool.false_eq_true, if_false, ne_eq, not_true_eq_false, false_and, List.cons_append, List.append_assoc]
      rw [lex_cons, cmp_self, thn_0, lex_cons, cmp_self, thn_0, lex3, lexS, ih]
      simp only [thn_assoc]
      rfl
    · simp only [Bool.false_eq_true, if_false, if_true, ne_eq, not_false_eq_true, List.cons_append]
      rw [lex_cons, show cmpQ (1 : Rat) 0 = 1 by decide +kernel]
      rfl
    · simp only [Bool.false_eq_true, if_false, if_true, ne_eq, not_false_eq_true, List.cons_append, reduceCtorEq]
      rw [lex_cons, show cmpQ (0 : Rat) 1 = -1 by decide +kernel]
      rfl
    · -- both are valid
      simp only [if_true, ne_eq, not_true_eq_false, if_false, true_and, List.cons_append]
      rw [lex_cons, cmp_self, thn_0, lex_cons, intc_cast]
      have na := num_class ha
      have nb := num_class hb
      by_cases hc : classV k = classV (Vl.mk k' n' d' s' l').kd
      · have hc' : classV k = classV k' := hc
        have e1 : ¬ ¬ classV k = classV (Vl.mk k' n' d' s' l').kd := fun t => t hc
        cases hn : isNum (.mk k n d s l)
        · have hm : isNum (.mk k' n' d' s' l') = false := by
            cases e : isNum (.mk k' n' d' s' l')
            · rfl
            · have t := nb.1 e
              have u := na.2 (hc.trans t)
              rw [hn] at u; cases u
          simp only [e1, hm, if_false, Bool.false_eq_true, List.cons_append, List.append_assoc]
          rw [hc', intc_self, thn_0, lex3, lexS, ih]
          simp only [thn_assoc]
          rfl
        · have hm : isNum (.mk k' n' d' s' l') = true := nb.2 (hc.symm.trans (na.1 hn))
          simp only [e1, hm, if_false, if_true, List.cons_append, List.nil_append]
          rw [hc', intc_self, thn_0, lex_cons]
      · rw [if_pos hc]
        have hne : intc (classV k) (classV k') ≠ 0 := by
          have hc' : ¬ classV k = classV k' := hc
          unfold intc
          split
          · decide
          · split
            · decide
            · omega
        rw [thn_n hne]
        show _ = thn (intc (classV k) (classV k')) _
        rw [thn_n hne]
theorem encL_ord : ∀ (a b : List Vl) (r r' : List Rat), lexQ (encL a ++ r) (encL b ++ r') = thn (ordL a b) (lexQ r r')
  | [], [], r, r' => by
    unfold encL ordL
    show thn (cmpQ 0 0) _ = _
    rw [cmp_self]
    rfl
  | [], y :: t, r, r' => by
    unfold encL ordL
    show thn (cmpQ 0 1) _ = _
    rw [show cmpQ (0 : Rat) 1 = -1 by decide +kernel]; rfl
  | x :: s, [], r, r' => by
    unfold encL ordL
    show thn (cmpQ 1 0) _ = _
    rw [show cmpQ (1 : Rat) 0 = 1 by decide +kernel]; rfl
  | x :: s, y :: t, r, r' => by
    have h1 := enc_ord x y (encL s ++ r) (encL t ++ r')
    have h2 := encL_ord s t r r'
    unfold ordL
    rw [show encL (x :: s) = 1 :: (encV x ++ encL s) by rw [encL], show encL (y :: t) = 1 :: (encV y ++ encL t) by rw [encL]]
    rw [List.cons_append, List.cons_append, lex_cons, cmp_self, thn_0, List.append_assoc, List.append_assoc, h1, h2, thn_assoc]
end

/-! The order of codes. -/
theorem thn_neg (x y : Int) : thn (-x) (-y) = - thn x y := by
  unfold thn
  by_cases h : x = 0
  · rw [if_pos h, if_pos (by omega)]
  · rw [if_neg h, if_neg (by omega)]
theorem lex_swap : ∀ a b : List Rat, lexQ b a = - lexQ a b
  | [], [] => rfl
  | [], _ :: _ => rfl
  | _ :: _, [] => rfl
  | x :: r, y :: t => by
    rw [lex_cons, lex_cons, lex_swap r t, cmp_swap y x, thn_neg]
theorem lex_self : ∀ a : List Rat, lexQ a a = 0
  | [] => rfl
  | x :: r => by rw [lex_cons, cmp_self, thn_0, lex_self r]
theorem lex_trans : ∀ a b c : List Rat, lexQ a b ≤ 0 → lexQ b c ≤ 0 → lexQ a c ≤ 0
  | [], _, [], _, _ => by unfold lexQ; decide
  | [], _, _ :: _, _, _ => by unfold lexQ; decide
  | _ :: _, [], _, h, _ => by unfold lexQ at h; exact absurd h (by decide)
  | _ :: _, _ :: _, [], _, h => by unfold lexQ at h; exact absurd h (by decide)
  | x :: r, y :: t, z :: u, h, k => by
    rw [lex_cons] at h k ⊢
    have ih := lex_trans r t u
    have c1 := cmp_three x y
    have c2 := cmp_three y z
    have c3 := cmp_three x z
    unfold thn at *
    by_cases e1 : cmpQ x y = 0
    · have hx := cmp_0.1 e1
      subst hx
      rw [if_pos e1] at h
      by_cases e2 : cmpQ x z = 0
      · rw [if_pos e2] at k ⊢
        exact ih h k
      · rw [if_neg e2] at k ⊢
        exact k
    · rw [if_neg e1] at h
      by_cases e2 : cmpQ y z = 0
      · have hy := cmp_0.1 e2
        subst hy
        rw [if_neg e1]
        exact h
      · rw [if_neg e2] at k
        have tr := cmp_trans h k
        by_cases e3 : cmpQ x z = 0
        · have hz := cmp_0.1 e3
          subst hz
          have sw := cmp_swap x y
          omega
        · rw [if_neg e3]
          exact tr
theorem thn_r (x : Int) : thn x 0 = x := by unfold thn; split <;> simp [*]
theorem ord_lex (a b : Vl) : ordV a b = lexQ (encV a) (encV b) := by
  have h := enc_ord a b [] []
  rw [List.append_nil, List.append_nil] at h
  rw [h]
  exact (thn_r _).symm
theorem ordL_lex (a b : List Vl) : ordL a b = lexQ (encL a) (encL b) := by
  have h := encL_ord a b [] []
  rw [List.append_nil, List.append_nil] at h
  rw [h]
  exact (thn_r _).symm
theorem ord_swap (a b : Vl) : ordV b a = - ordV a b := by rw [ord_lex, ord_lex, lex_swap]
theorem ord_self (a : Vl) : ordV a a = 0 := by rw [ord_lex, lex_self]
theorem ord_trans {a b c : Vl} (h : ordV a b ≤ 0) (k : ordV b c ≤ 0) : ordV a c ≤ 0 := by
  rw [ord_lex] at *
  exact lex_trans _ _ _ h k
theorem ordL_swap (a b : List Vl) : ordL b a = - ordL a b := by rw [ordL_lex, ordL_lex, lex_swap]
theorem ordL_self (a : List Vl) : ordL a a = 0 := by rw [ordL_lex, lex_self]
theorem ordL_trans {a b c : List Vl} (h : ordL a b ≤ 0) (k : ordL b c ≤ 0) : ordL a c ≤ 0 := by
  rw [ordL_lex] at *
  exact lex_trans _ _ _ h k

/-! Order 0: the same value. -/
theorem thn_z {x y : Int} : thn x y = 0 ↔ x = 0 ∧ y = 0 := by
  unfold thn
  by_cases h : x = 0
  · rw [if_pos h]; simp [h]
  · rw [if_neg h]; simp [h]
theorem intc_z {x y : Int} : intc x y = 0 ↔ x = y := by
  unfold intc
  split
  · constructor <;> intro h <;> omega
  · split
    · constructor <;> intro h <;> omega
    · constructor <;> intro h <;> omega
theorem strc_z : ∀ {s t : List UInt8}, strc s t = 0 → s = t
  | [], [], _ => rfl
  | [], _ :: _, h => by unfold strc at h; exact absurd h (by decide)
  | _ :: _, [], h => by unfold strc at h; exact absurd h (by decide)
  | x :: r, y :: t, h => by
    unfold strc at h
    obtain ⟨a, b⟩ := thn_z.1 h
    rw [intc_z] at a
    have e : x = y := UInt8.toNat_inj.1 (by omega)
    rw [e, strc_z b]
/-- What a valid number holds. -/
theorem num_rat {k n d : Int} {s : List UInt8} {l : List Vl} (h : isNum (.mk k n d s l) = true) :
    s = [] ∧ l = [] ∧ okF (nmN (.mk k n d s l)) (nmD (.mk k n d s l)) = true ∧ ((k = 2 ∧ d = 0 ∧ nmN (.mk k n d s l) = n ∧ nmD (.mk k n d s l) = 1) ∨ (k = 3 ∧ 2 ≤ d ∧ nmN (.mk k n d s l) = n ∧ nmD (.mk k n d s l) = d)) := by
  have hn : nmN (.mk k n d s l) = n := by unfold nmN; rw [if_pos h]; rfl
  have hd : nmD (.mk k n d s l) = if k = 2 then 1 else d := by unfold nmD; rw [if_pos h]; rfl
  rw [hn, hd]
  unfold isNum okX at h
  rw [Bool.and_eq_true, Bool.or_eq_true, beq_iff_eq, beq_iff_eq] at h
  obtain ⟨hv, hk⟩ := h
  rcases hk with hk | hk
  · have hk : k = 2 := hk
    subst hk
    unfold okV okFlat bareV at hv
    simp at hv
    obtain ⟨⟨⟨e1, e2⟩, e3⟩, e4, e5⟩ := hv
    refine ⟨e2, e3, ?_, .inl ⟨rfl, e1, rfl, by simp⟩⟩
    rw [if_pos rfl]
    have o : OkF n 1 := ⟨by decide, by decide, e4, e5, Nat.gcd_one_right _⟩
    exact o.b
  · have hk : k = 3 := hk
    subst hk
    unfold okV okFlat bareV at hv
    simp at hv
    obtain ⟨⟨⟨e2, e3⟩, e4⟩, e5⟩ := hv
    refine ⟨e2, e3, ?_, .inr ⟨rfl, e4, rfl, by simp⟩⟩
    rw [if_neg (by decide)]
    exact e5
theorem vl_eta (v : Vl) : v = .mk v.kd v.nn v.dd v.ss v.ll := by cases v; rfl
mutual
theorem ord_eq : ∀ {a b : Vl}, ordV a b = 0 → a = b
  | .mk k n d s l, b, h => by
    have eb := vl_eta b
    have ih := @ordL_eq l b.ll
    generalize b.kd = k' at *
    generalize b.nn = n' at *
    generalize b.dd = d' at *
    generalize b.ss = s' at *
    generalize b.ll = l' at *
    subst eb
    unfold ordV at h
    by_cases h1 : okX (.mk k n d s l) ≠ okX (.mk k' n' d' s' l')
    · rw [if_pos h1] at h
      split at h <;> exact absurd h (by decide)
    rw [if_neg h1] at h
    have hx : okX (.mk k n d s l) = okX (.mk k' n' d' s' l') := Decidable.not_not.1 h1
    by_cases h2 : okX (.mk k' n' d' s' l') = true ∧ classV k ≠ classV (Vl.mk k' n' d' s' l').kd
    · rw [if_pos h2] at h
      exact absurd (intc_z.1 h) h2.2
    rw [if_neg h2] at h
    by_cases h3 : okX (.mk k' n' d' s' l') = true ∧ isNum (.mk k n d s l) = true
    · rw [if_pos h3] at h
      have hc : classV k = classV k' := Decidable.not_not.1 (fun t => h2 ⟨h3.1, t⟩)
      have hm : isNum (.mk k' n' d' s' l') = true := (num_class h3.1).2 (hc.symm.trans ((num_class (hx.trans h3.1)).1 h3.2))
      obtain ⟨r1, r2, r3, r4⟩ := num_rat h3.2
      obtain ⟨q1, q2, q3, q4⟩ := num_rat hm
      have e := (cmp_eq r3 q3).1 h
      rw [r1, r2, q1, q2]
      rcases r4 with ⟨a1, a2, a3, a4⟩ | ⟨a1, a2, a3, a4⟩ <;> rcases q4 with ⟨b1, b2, b3, b4⟩ | ⟨b1, b2, b3, b4⟩
      · rw [a1, b1, a2, b2, ← a3, ← b3, e.1]
      · have := e.2; omega
      · have := e.2; omega
      · rw [a1, b1, ← a3, ← b3, e.1, ← a4, ← b4, e.2]
    · rw [if_neg h3] at h
      obtain ⟨e1, h⟩ := thn_z.1 h
      obtain ⟨e2, h⟩ := thn_z.1 h
      obtain ⟨e3, h⟩ := thn_z.1 h
      obtain ⟨e4, h⟩ := thn_z.1 h
      have f1 : k = k' := intc_z.1 e1
      have f2 : n = n' := intc_z.1 e2
      have f3 : d = d' := intc_z.1 e3
      have f4 : s = s' := strc_z e4
      have f5 : l = l' := ih h
      rw [f1, f2, f3, f4, f5]
theorem ordL_eq : ∀ {a b : List Vl}, ordL a b = 0 → a = b
  | [], [], _ => rfl
  | [], _ :: _, h => by unfold ordL at h; exact absurd h (by decide)
  | _ :: _, [], h => by unfold ordL at h; exact absurd h (by decide)
  | x :: r, y :: t, h => by
    unfold ordL at h
    obtain ⟨a, b⟩ := thn_z.1 h
    rw [ord_eq a, ordL_eq b]
end
end Go.Proofs.YteonkiajgfkieaaGreatDoor
