/-
  Plain mathematics of the rules of a schema: their order, which of them are valid, which lists of them are schemas, adding and dropping. No program, no world.
-/
import Derived.WalkKit
import GoSem.Op.String
namespace Go.Proofs.YtadnaakbhgacgaaDoor

/-! Comparisons. -/
def thn (x y : Int) : Int := if x = 0 then y else x
def intc (x y : Int) : Int := if x < y then -1 else if y < x then 1 else 0
def strc : List UInt8 → List UInt8 → Int
  | [], [] => 0
  | [], _ :: _ => -1
  | _ :: _, [] => 1
  | x :: r, y :: t => thn (intc x.toNat y.toNat) (strc r t)
theorem thn_0 (x : Int) : thn 0 x = x := rfl
theorem thn_n {x : Int} (h : x ≠ 0) (y : Int) : thn x y = x := if_neg h
theorem thn_r (x : Int) : thn x 0 = x := by unfold thn; split <;> simp [*]
theorem intc_self (x : Int) : intc x x = 0 := by unfold intc; simp
theorem thn_neg (x y : Int) : thn (-x) (-y) = - thn x y := by
  unfold thn
  by_cases h : x = 0
  · rw [if_pos h, if_pos (by omega)]
  · rw [if_neg h, if_neg (by omega)]
theorem thn_z {x y : Int} : thn x y = 0 ↔ x = 0 ∧ y = 0 := by
  unfold thn
  by_cases h : x = 0
  · rw [if_pos h]; simp [h]
  · rw [if_neg h]; simp [h]
theorem intc_z {x y : Int} : intc x y = 0 ↔ x = y := by
  unfold intc
  split
  · constructor <;> intro h <;> omega
  · split
    · constructor <;> intro h <;> omega
    · constructor <;> intro h <;> omega
theorem intc_swap (x y : Int) : intc y x = - intc x y := by
  unfold intc
  by_cases h : x < y
  · rw [if_neg (by omega), if_pos h, if_pos h]; rfl
  · rw [if_neg h]
    by_cases k : y < x
    · rw [if_pos k, if_neg h, if_pos k]
    · rw [if_neg k, if_neg h, if_neg k]; rfl
theorem intc_three (x y : Int) : intc x y = -1 ∨ intc x y = 0 ∨ intc x y = 1 := by
  unfold intc; split
  · exact .inl rfl
  · split
    · exact .inr (.inr rfl)
    · exact .inr (.inl rfl)
theorem strc_z : ∀ {s t : List UInt8}, strc s t = 0 ↔ s = t
  | [], [] => by unfold strc; simp
  | [], _ :: _ => by unfold strc; simp
  | _ :: _, [] => by unfold strc; simp
  | x :: r, y :: t => by
    unfold strc
    rw [thn_z, intc_z, strc_z (s := r) (t := t), List.cons.injEq]
    constructor
    · rintro ⟨a, b⟩; exact ⟨UInt8.toNat_inj.1 (by omega), b⟩
    · rintro ⟨a, b⟩; exact ⟨by rw [a], b⟩
theorem strc_swap : ∀ (s t : List UInt8), strc t s = - strc s t
  | [], [] => rfl
  | [], _ :: _ => rfl
  | _ :: _, [] => rfl
  | x :: r, y :: t => by unfold strc; rw [intc_swap, strc_swap r t, thn_neg]
theorem strc_three : ∀ (s t : List UInt8), strc s t = -1 ∨ strc s t = 0 ∨ strc s t = 1
  | [], [] => .inr (.inl rfl)
  | [], _ :: _ => .inl rfl
  | _ :: _, [] => .inr (.inr rfl)
  | x :: r, y :: t => by
    unfold strc thn
    split
    · exact strc_three r t
    · rename_i h
      rcases intc_three x.toNat y.toNat with k | k | k
      · exact .inl k
      · exact absurd k h
      · exact .inr (.inr k)
/-- c compares as a total order does. -/
structure Cmp3 {α : Type} (c : α → α → Int) : Prop where
  three : ∀ a b, c a b = -1 ∨ c a b = 0 ∨ c a b = 1
  swap : ∀ a b, c b a = - c a b
  zero : ∀ a b, c a b = 0 ↔ a = b
  trans : ∀ x y z, c x y ≤ 0 → c y z ≤ 0 → c x z ≤ 0
theorem intc_cmp : Cmp3 intc := ⟨intc_three, intc_swap, fun _ _ => intc_z, fun x y z h k => by
  unfold intc at *
  split at h <;> split at k <;> split <;> (try split) <;> (try split at h) <;> (try split at k) <;> omega⟩
theorem strc_trans : ∀ (a b c : List UInt8), strc a b ≤ 0 → strc b c ≤ 0 → strc a c ≤ 0
  | [], _, [], _, _ => by unfold strc; decide
  | [], _, _ :: _, _, _ => by unfold strc; decide
  | _ :: _, [], _, h, _ => by unfold strc at h; exact absurd h (by decide)
  | _ :: _, _ :: _, [], _, h => by unfold strc at h; exact absurd h (by decide)
  | x :: r, y :: t, z :: u, h, k => by
    unfold strc at h k ⊢
    have ih := strc_trans r t u
    have tr := intc_cmp.trans x.toNat y.toNat z.toNat
    have z1 := @intc_z x.toNat y.toNat
    have z2 := @intc_z y.toNat z.toNat
    have z3 := @intc_z x.toNat z.toNat
    have s1 := intc_swap x.toNat y.toNat
    unfold thn at *
    by_cases e1 : intc x.toNat y.toNat = 0
    · have hx := z1.1 e1
      rw [if_pos e1] at h
      rw [hx]
      by_cases e2 : intc y.toNat z.toNat = 0
      · rw [if_pos e2] at k ⊢
        exact ih h k
      · rw [if_neg e2] at k ⊢
        exact k
    · rw [if_neg e1] at h
      by_cases e2 : intc y.toNat z.toNat = 0
      · have hy := z2.1 e2
        rw [← hy, if_neg e1]
        exact h
      · rw [if_neg e2] at k
        have t3 := tr h k
        by_cases e3 : intc x.toNat z.toNat = 0
        · have hz := z3.1 e3
          rw [← hz] at k
          omega
        · rw [if_neg e3]
          exact t3
theorem strc_cmp : Cmp3 strc := ⟨strc_three, strc_swap, fun _ _ => strc_z, strc_trans⟩
/-- One comparison behind another, each of a part. -/
theorem Cmp3.thn_ {α β γ : Type} {c : β → β → Int} {d : γ → γ → Int} {f : α → β} {g : α → γ} (hc : Cmp3 c) (hd : Cmp3 d) :
    (∀ a b : α, thn (c (f a) (f b)) (d (g a) (g b)) = -1 ∨ thn (c (f a) (f b)) (d (g a) (g b)) = 0 ∨ thn (c (f a) (f b)) (d (g a) (g b)) = 1) ∧
    (∀ a b : α, thn (c (f b) (f a)) (d (g b) (g a)) = - thn (c (f a) (f b)) (d (g a) (g b))) ∧
    (∀ a b : α, thn (c (f a) (f b)) (d (g a) (g b)) = 0 ↔ f a = f b ∧ g a = g b) ∧
    (∀ x y z : α, thn (c (f x) (f y)) (d (g x) (g y)) ≤ 0 → thn (c (f y) (f z)) (d (g y) (g z)) ≤ 0 → thn (c (f x) (f z)) (d (g x) (g z)) ≤ 0) := by
  refine ⟨fun a b => ?_, fun a b => ?_, fun a b => ?_, fun x y z h k => ?_⟩
  · unfold thn; split
    · exact hd.three _ _
    · exact hc.three _ _
  · rw [hc.swap, hd.swap, thn_neg]
  · rw [thn_z, hc.zero, hd.zero]
  · have z1 := hc.zero (f x) (f y)
    have z2 := hc.zero (f y) (f z)
    have z3 := hc.zero (f x) (f z)
    have s1 := hc.swap (f x) (f y)
    have tr := hc.trans (f x) (f y) (f z)
    have td := hd.trans (g x) (g y) (g z)
    unfold thn at *
    by_cases e1 : c (f x) (f y) = 0
    · have hx := z1.1 e1
      rw [if_pos e1] at h
      rw [hx]
      by_cases e2 : c (f y) (f z) = 0
      · rw [if_pos e2] at k ⊢; exact td h k
      · rw [if_neg e2] at k ⊢; exact k
    · rw [if_neg e1] at h
      by_cases e2 : c (f y) (f z) = 0
      · have hy := z2.1 e2
        rw [← hy, if_neg e1]; exact h
      · rw [if_neg e2] at k
        have t3 := tr h k
        by_cases e3 : c (f x) (f z) = 0
        · have hz := z3.1 e3
          rw [← hz] at k
          omega
        · rw [if_neg e3]; exact t3

/-- A rule: its kind, its number, its name, its key, the labels of its ends. -/
structure Rl where
  kd : Int
  nn : Int
  nm : List UInt8
  ky : List UInt8
  fr : List UInt8
  tt : List UInt8
/-- The order of rules. -/
def ordR (a b : Rl) : Int := thn (intc a.kd b.kd) (thn (strc a.nm b.nm) (thn (strc a.ky b.ky) (thn (intc a.nn b.nn) (thn (strc a.fr b.fr) (strc a.tt b.tt)))))
theorem ordR_cmp : Cmp3 ordR := by
  have c5 := Cmp3.thn_ (α := Rl) (f := Rl.fr) (g := Rl.tt) strc_cmp strc_cmp
  have k5 : Cmp3 (α := List UInt8 × List UInt8) (fun a b => thn (strc a.1 b.1) (strc a.2 b.2)) := by
    have h := Cmp3.thn_ (α := List UInt8 × List UInt8) (f := Prod.fst) (g := Prod.snd) strc_cmp strc_cmp
    exact ⟨h.1, h.2.1, fun a b => (h.2.2.1 a b).trans ⟨fun ⟨p, q⟩ => Prod.ext p q, fun e => by rw [e]; exact ⟨rfl, rfl⟩⟩, h.2.2.2⟩
  have k4 : Cmp3 (α := Int × List UInt8 × List UInt8) (fun a b => thn (intc a.1 b.1) (thn (strc a.2.1 b.2.1) (strc a.2.2 b.2.2))) := by
    have h := Cmp3.thn_ (α := Int × List UInt8 × List UInt8) (f := Prod.fst) (g := Prod.snd) intc_cmp k5
    exact ⟨h.1, h.2.1, fun a b => (h.2.2.1 a b).trans ⟨fun ⟨p, q⟩ => Prod.ext p q, fun e => by rw [e]; exact ⟨rfl, rfl⟩⟩, h.2.2.2⟩
  have k3 : Cmp3 (α := List UInt8 × Int × List UInt8 × List UInt8) (fun a b => thn (strc a.1 b.1) (thn (intc a.2.1 b.2.1) (thn (strc a.2.2.1 b.2.2.1) (strc a.2.2.2 b.2.2.2)))) := by
    have h := Cmp3.thn_ (α := List UInt8 × Int × List UInt8 × List UInt8) (f := Prod.fst) (g := Prod.snd) strc_cmp k4
    exact ⟨h.1, h.2.1, fun a b => (h.2.2.1 a b).trans ⟨fun ⟨p, q⟩ => Prod.ext p q, fun e => by rw [e]; exact ⟨rfl, rfl⟩⟩, h.2.2.2⟩
  have k2 : Cmp3 (α := List UInt8 × List UInt8 × Int × List UInt8 × List UInt8) (fun a b => thn (strc a.1 b.1) (thn (strc a.2.1 b.2.1) (thn (intc a.2.2.1 b.2.2.1) (thn (strc a.2.2.2.1 b.2.2.2.1) (strc a.2.2.2.2 b.2.2.2.2))))) := by
    have h := Cmp3.thn_ (α := List UInt8 × List UInt8 × Int × List UInt8 × List UInt8) (f := Prod.fst) (g := Prod.snd) strc_cmp k3
    exact ⟨h.1, h.2.1, fun a b => (h.2.2.1 a b).trans ⟨fun ⟨p, q⟩ => Prod.ext p q, fun e => by rw [e]; exact ⟨rfl, rfl⟩⟩, h.2.2.2⟩
  have h := Cmp3.thn_ (α := Rl) (f := Rl.kd) (g := fun r => (r.nm, r.ky, r.nn, r.fr, r.tt)) intc_cmp k2
  refine ⟨h.1, h.2.1, fun a b => (h.2.2.1 a b).trans ⟨fun ⟨p, q⟩ => ?_, fun e => by rw [e]; exact ⟨rfl, rfl⟩⟩, h.2.2.2⟩
  cases a; cases b
  simp only [Prod.mk.injEq] at q
  obtain ⟨q1, q2, q3, q4, q5⟩ := q
  simp only at p
  subst p q1 q2 q3 q4 q5
  rfl

/-! Names. -/
def letV (c : UInt8) : Bool := (decide (97 ≤ c.toNat) && decide (c.toNat ≤ 122)) || (decide (65 ≤ c.toNat) && decide (c.toNat ≤ 90))
def digV (c : UInt8) : Bool := decide (48 ≤ c.toNat) && decide (c.toNat ≤ 57)
def chrV (c : UInt8) : Bool := letV c || digV c || decide (c.toNat = 95)
def nameV (s : List UInt8) : Bool := !s.isEmpty && decide (s.length ≤ 20) && letV (s.headD 0) && s.all chrV
theorem chr_let {c : UInt8} (h : letV c = true) : chrV c = true := by unfold chrV; rw [h]; rfl

/-! What is wrong with a rule. -/
def keyK (k : Int) : Bool := decide (1 ≤ k) && decide (k ≤ 5)
def kindK (k : Int) : Bool := k == 3 || k == 5
def isK (k : Int) : Bool := decide (1 ≤ k) && decide (k ≤ 7)
def kwV (n : Int) : Bool := n == 1 || n == 2 || n == 4
def numR (r : Rl) : Bool := if kindK r.kd = true then kwV r.nn else if (r.kd == 7) = true then decide (0 ≤ r.nn) && decide (r.nn ≤ 4000) else r.nn == 0
def moreR (r : Rl) : Bool := (keyK r.kd || r.ky.isEmpty) && (r.kd == 6 || (r.fr.isEmpty && r.tt.isEmpty))
def endR (s : List UInt8) : Bool := s.isEmpty || nameV s
def nmsR (r : Rl) : Bool := nameV r.nm && ((!keyK r.kd || nameV r.ky) && (endR r.fr && endR r.tt))
def chkR (r : Rl) : Int := if (isK r.kd && (moreR r && numR r)) = true then (if nmsR r = true then 0 else 6) else 1
def fltR (k : Int) : Int := if k = 1 then 13 else if k = 2 ∨ k = 4 then 14 else if k = 3 ∨ k = 5 then 15 else if k = 6 then 16 else if k = 7 then 17 else 0

/-! Schemas. -/
def befR (p : Option Rl) (r : Rl) : Bool := match p with | none => true | some q => decide (ordR q r < 0)
def vlR : Option Rl → List Rl → Bool
  | _, [] => true
  | p, r :: t => (chkR r == 0 && befR p r) && vlR (some r) t
def valS (s : List Rl) : Bool := decide (s.length ≤ 40) && vlR none s
def prevR (s : List Rl) (i : Nat) : Option Rl := if i = 0 then none else s[i - 1]?
theorem prevR_s (s : List Rl) (i : Nat) (h : i < s.length) : prevR s (i + 1) = some s[i] := by
  unfold prevR
  rw [if_neg (by omega), Nat.add_sub_cancel, List.getElem?_eq_getElem h]
theorem vlR_step (s : List Rl) (i : Nat) (h : i < s.length) : vlR (prevR s i) (s.drop i) = ((chkR s[i] == 0 && befR (prevR s i) s[i]) && vlR (prevR s (i + 1)) (s.drop (i + 1))) := by
  rw [List.drop_eq_getElem_cons h, prevR_s s i h]
  rfl
theorem vlR_end (s : List Rl) (p : Option Rl) (i : Nat) (h : s.length ≤ i) : vlR p (s.drop i) = true := by
  rw [List.drop_of_length_le h]; rfl
/-- Increasing. -/
def IncR (s : List Rl) : Prop := s.Pairwise fun a b => ordR a b < 0
theorem ord_lt_trans {a b c : Rl} (h : ordR a b < 0) (k : ordR b c < 0) : ordR a c < 0 := by
  have t := ordR_cmp.trans a b c (by omega) (by omega)
  by_cases e : ordR a c = 0
  · have := (ordR_cmp.zero a c).1 e
    subst this
    have := ordR_cmp.swap a b
    omega
  · omega
theorem vlR_iff : ∀ (p : Option Rl) (s : List Rl), vlR p s = true ↔ (∀ r ∈ s, chkR r = 0) ∧ IncR s ∧ ∀ r, s.head? = some r → befR p r = true
  | _, [] => by simp [vlR, IncR]
  | p, r :: t => by
    unfold vlR
    rw [Bool.and_eq_true, Bool.and_eq_true, beq_iff_eq, vlR_iff (some r) t]
    constructor
    · rintro ⟨⟨h1, h2⟩, h3, h4, h5⟩
      refine ⟨fun x hx => ?_, ?_, fun x hx => by cases hx; exact h2⟩
      · rcases List.mem_cons.1 hx with e | e
        · rw [e]; exact h1
        · exact h3 x e
      · refine List.pairwise_cons.2 ⟨fun x hx => ?_, h4⟩
        cases t with
        | nil => cases hx
        | cons y u =>
          have h6 : ordR r y < 0 := by simpa [befR] using h5 y rfl
          rcases List.mem_cons.1 hx with e | e
          · rw [e]; exact h6
          · exact ord_lt_trans h6 ((List.pairwise_cons.1 h4).1 x e)
    · rintro ⟨h1, h2, h3⟩
      refine ⟨⟨h1 r (List.mem_cons_self ..), h3 r rfl⟩, fun x hx => h1 x (List.mem_cons_of_mem _ hx), (List.pairwise_cons.1 h2).2, fun x hx => ?_⟩
      have := (List.pairwise_cons.1 h2).1 x (List.mem_of_mem_head? hx)
      simpa [befR] using this
theorem valS_iff {s : List Rl} : valS s = true ↔ s.length ≤ 40 ∧ (∀ r ∈ s, chkR r = 0) ∧ IncR s := by
  unfold valS
  rw [Bool.and_eq_true, decide_eq_true_eq, vlR_iff]
  constructor
  · rintro ⟨h1, h2, h3, -⟩; exact ⟨h1, h2, h3⟩
  · rintro ⟨h1, h2, h3⟩; exact ⟨h1, h2, h3, fun _ _ => rfl⟩

/-! The place of a rule in a schema. -/
def atR (s : List Rl) (r : Rl) : Nat := (s.takeWhile fun x => decide (ordR x r < 0)).length
def hasR (s : List Rl) (r : Rl) : Bool := s.any fun x => ordR x r == 0
def addL (s : List Rl) (r : Rl) : List Rl := s.take (atR s r) ++ r :: s.drop (atR s r)
def dropL (s : List Rl) (r : Rl) : List Rl := s.take (atR s r) ++ s.drop (atR s r + 1)
/-- What Add returns: the error, the list. -/
def addE (s : List Rl) (r : Rl) : Int := if valS s = true then (if chkR r = 0 then (if hasR s r = true then 7 else if s.length = 40 then 20 else 0) else chkR r) else 19
def drpE (s : List Rl) (r : Rl) : Int := if valS s = true then (if chkR r = 0 then (if hasR s r = true then 0 else 23) else chkR r) else 19
def addR (s : List Rl) (r : Rl) : List Rl := if addE s r = 0 then addL s r else []
def drpR (s : List Rl) (r : Rl) : List Rl := if drpE s r = 0 then dropL s r else []
theorem atR_le (s : List Rl) (r : Rl) : atR s r ≤ s.length := (List.takeWhile_sublist _).length_le
theorem atR_eq {s : List Rl} {r : Rl} {k : Nat} (hk : k ≤ s.length) (h1 : ∀ (j : Nat) (h : j < s.length), j < k → ordR s[j] r < 0) (h2 : ∀ (j : Nat) (h : j < s.length), k ≤ j → 0 ≤ ordR s[j] r) : atR s r = k := by
  unfold atR
  have e : s = s.take k ++ s.drop k := (List.take_append_drop k s).symm
  rw [e, List.takeWhile_append_of_pos (by
    intro x hx
    obtain ⟨j, hj, rfl⟩ := List.getElem_of_mem hx
    rw [List.length_take] at hj
    rw [List.getElem_take]
    exact decide_eq_true (h1 j (by omega) (by omega)))]
  have hd : (s.drop k).takeWhile (fun x => decide (ordR x r < 0)) = [] := by
    rcases Nat.lt_or_ge k s.length with g | g
    · rw [List.drop_eq_getElem_cons g, List.takeWhile_cons, if_neg]
      rw [decide_eq_true_eq]
      have := h2 k g (Nat.le_refl _)
      omega
    · rw [List.drop_of_length_le g]; rfl
  rw [hd, List.append_nil, List.length_take]
  omega
theorem hasR_eq {s : List Rl} {r : Rl} {k : Nat} (hi : IncR s) (h1 : ∀ (j : Nat) (h : j < s.length), j < k → ordR s[j] r < 0) (h2 : ∀ (j : Nat) (h : j < s.length), k ≤ j → 0 ≤ ordR s[j] r) :
    hasR s r = if g : k < s.length then ordR s[k] r == 0 else false := by
  unfold hasR
  rw [Bool.eq_iff_iff, List.any_eq_true]
  constructor
  · rintro ⟨x, hx, he⟩
    obtain ⟨j, hj, rfl⟩ := List.getElem_of_mem hx
    have he' : ordR s[j] r = 0 := by simpa using he
    have hkj : ¬ j < k := fun g => by have := h1 j hj g; omega
    have hk : k < s.length := by omega
    rw [dif_pos hk, beq_iff_eq]
    rcases Nat.lt_or_eq_of_le (show k ≤ j by omega) with g | g
    · have a := List.pairwise_iff_getElem.1 hi _ _ hk hj g
      have b := h2 k hk (Nat.le_refl _)
      have e := (ordR_cmp.zero _ _).1 he'
      rw [e] at a
      omega
    · subst g; exact he'
  · intro h
    by_cases hk : k < s.length
    · rw [dif_pos hk] at h
      exact ⟨_, List.getElem_mem hk, h⟩
    · rw [dif_neg hk] at h; cases h
/-- Where the binary search stands. -/
def BsR (s : List Rl) (r : Rl) (i j : Nat) : Prop := i ≤ j ∧ j ≤ s.length ∧ (∀ (k : Nat) (h : k < s.length), k < i → ordR s[k] r < 0) ∧ ∀ (k : Nat) (h : k < s.length), j ≤ k → 0 ≤ ordR s[k] r
theorem bsR_mid {s : List Rl} {r : Rl} {i j : Nat} (hp : IncR s) (h : BsR s r i j) (hij : i < j) (hm : (i + j) / 2 < s.length) :
    (ordR s[(i + j) / 2] r < 0 → BsR s r ((i + j) / 2 + 1) j) ∧ (0 ≤ ordR s[(i + j) / 2] r → BsR s r i ((i + j) / 2)) := by
  obtain ⟨h1, h2, h3, h4⟩ := h
  refine ⟨fun hx => ⟨by omega, h2, fun k hk hk' => ?_, h4⟩, fun hx => ⟨by omega, by omega, h3, fun k hk hk' => ?_⟩⟩
  · rcases Nat.lt_or_eq_of_le (show k ≤ (i + j) / 2 by omega) with g | g
    · exact ord_lt_trans (List.pairwise_iff_getElem.1 hp k _ hk hm g) hx
    · subst g; exact hx
  · rcases Nat.lt_or_eq_of_le hk' with g | g
    · have a := List.pairwise_iff_getElem.1 hp _ k hm hk g
      rcases Int.lt_or_le (ordR s[k] r) 0 with q | q
      · have := ord_lt_trans a q; omega
      · exact q
    · subst g; exact hx
theorem bsR_end {s : List Rl} {r : Rl} {i : Nat} (hp : IncR s) (h : BsR s r i i) : i = atR s r ∧ hasR s r = if g : i < s.length then ordR s[i] r == 0 else false :=
  ⟨(atR_eq h.2.1 h.2.2.1 h.2.2.2).symm, hasR_eq hp h.2.2.1 h.2.2.2⟩
end Go.Proofs.YtadnaakbhgacgaaDoor
