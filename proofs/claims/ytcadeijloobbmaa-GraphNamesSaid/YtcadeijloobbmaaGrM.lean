/-
  Plain mathematics of graphs: names, labels and keys in order, when a graph is valid, adjacency in order, equality of graphs, how heavy a graph is. No program, no world.
-/
import Derived.Test.YtcadeijloobbmaaValM
import GoSem.Op.String
namespace Go.Proofs.Ytcadeijloobbmaa

/-- A property: its key, its value. -/
structure Pp where
  k : List UInt8
  v : Vl
/-- A node: its id, its labels, its properties. -/
structure Nd where
  id : Int
  ls : List (List UInt8)
  ps : List Pp
/-- An edge: its id, its two ends, its type, its properties. -/
structure Ed where
  id : Int
  fr : Int
  to : Int
  ty : List UInt8
  ps : List Pp
/-- A graph: nodes, edges, the next ids. -/
structure Gr where
  ns : List Nd
  es : List Ed
  nn : Int
  ne : Int

/-! Names. -/
def letV (c : UInt8) : Bool := (decide (97 ≤ c.toNat) && decide (c.toNat ≤ 122)) || (decide (65 ≤ c.toNat) && decide (c.toNat ≤ 90))
def digV (c : UInt8) : Bool := decide (48 ≤ c.toNat) && decide (c.toNat ≤ 57)
def chrV (c : UInt8) : Bool := letV c || digV c || decide (c.toNat = 95)
def nameV (s : List UInt8) : Bool := !s.isEmpty && decide (s.length ≤ 20) && letV (s.headD 0) && s.all chrV
theorem chr_let {c : UInt8} (h : letV c = true) : chrV c = true := by unfold chrV; rw [h]; rfl

/-! Lists side by side. -/
def al2 {α β : Type} (f : α → β → Bool) : List α → List β → Bool
  | [], [] => true
  | x :: r, y :: t => f x y && al2 f r t
  | _, _ => false
theorem al2_drop {α β : Type} (f : α → β → Bool) (a : List α) (b : List β) (i : Nat) (h : i < a.length) (h' : i < b.length) : al2 f (a.drop i) (b.drop i) = (f a[i] b[i] && al2 f (a.drop (i + 1)) (b.drop (i + 1))) := by
  rw [List.drop_eq_getElem_cons h, List.drop_eq_getElem_cons h']
  rfl
theorem al2_end {α β : Type} (f : α → β → Bool) (a : List α) (b : List β) (i : Nat) (h : a.length ≤ i) (h' : b.length ≤ i) : al2 f (a.drop i) (b.drop i) = true := by
  rw [List.drop_of_length_le h, List.drop_of_length_le h']; rfl
theorem al2_len {α β : Type} (f : α → β → Bool) : ∀ (a : List α) (b : List β), a.length ≠ b.length → al2 f a b = false
  | [], [], h => absurd rfl h
  | [], _ :: _, _ => rfl
  | _ :: _, [], _ => rfl
  | x :: r, y :: t, h => by
    show (f x y && al2 f r t) = false
    rw [al2_len f r t (fun e => h (by simp [e])), Bool.and_false]
theorem al2_self {α : Type} (f : α → α → Bool) : ∀ (a : List α), (∀ x, x ∈ a → f x x = true) → al2 f a a = true
  | [], _ => rfl
  | x :: r, h => by
    show (f x x && al2 f r r) = true
    rw [h x (by simp), al2_self f r (fun y hy => h y (List.mem_cons_of_mem _ hy))]; rfl
theorem al2_iff {α : Type} {f : α → α → Bool} (hf : ∀ x y, f x y = true → x = y) : ∀ (a b : List α), al2 f a b = true → a = b
  | [], [], _ => rfl
  | [], _ :: _, h => by cases h
  | _ :: _, [], h => by cases h
  | x :: r, y :: t, h => by
    have h' : (f x y && al2 f r t) = true := h
    rw [Bool.and_eq_true] at h'
    rw [hf x y h'.1, al2_iff hf r t h'.2]

/-! Order. -/
/-- Each greater than the one before it. -/
def risV : List (List UInt8) → Bool
  | [] => true
  | a :: l => (match l with | [] => true | b :: _ => Op.bytesLess a b) && risV l
theorem ris_step (l : List (List UInt8)) (i : Nat) (h : i + 1 < l.length) : risV (l.drop i) = (Op.bytesLess l[i] l[i + 1] && risV (l.drop (i + 1))) := by
  rw [List.drop_eq_getElem_cons (show i < l.length by omega), List.drop_eq_getElem_cons h]
  rfl
theorem ris_end (l : List (List UInt8)) (i : Nat) (h : l.length ≤ i + 1) : risV (l.drop i) = true := by
  by_cases k : i < l.length
  · rw [List.drop_eq_getElem_cons k, List.drop_of_length_le h]; rfl
  · rw [List.drop_of_length_le (by omega)]; rfl

/-! What is wrong with a graph. -/
def plnV (x : Vl) : Bool := okX x && (x.kd == 1 || x.kd == 2 || x.kd == 4)
def keysV (ps : List Pp) : List (List UInt8) := ps.map Pp.k
/-- What is wrong with labels and properties. -/
def parV (ls : List (List UInt8)) (ps : List Pp) : Int :=
  if 8 < ls.length ∨ 16 < ps.length then 4
  else if (ls.all nameV && (keysV ps).all nameV) = false then 6
  else if (risV ls && risV (keysV ps)) = false then 26
  else if ps.all (fun p => plnV p.v) = false then 8 else 0
/-- It stands behind an id that is not smaller. -/
def badP (prev : Option Int) (x : Int) : Bool := match prev with | none => false | some p => decide (x ≤ p)
def ndV (nn : Int) (prev : Option Int) (n : Nd) : Int :=
  if badP prev n.id = true then 26 else if n.id < 1 ∨ nn ≤ n.id then 1 else parV n.ls n.ps
def nsV (nn : Int) : Option Int → List Nd → Int
  | _, [] => 0
  | prev, n :: r => if ndV nn prev n = 0 then nsV nn (some n.id) r else ndV nn prev n
def hasN (ns : List Nd) (x : Int) : Bool := ns.any fun n => n.id == x
def edV (ns : List Nd) (ne : Int) (prev : Option Int) (e : Ed) : Int :=
  if badP prev e.id = true then 26 else if e.id < 1 ∨ ne ≤ e.id then 1
  else if (hasN ns e.fr && hasN ns e.to) = false then 10
  else if nameV e.ty = false then 6 else parV [] e.ps
def esV (ns : List Nd) (ne : Int) : Option Int → List Ed → Int
  | _, [] => 0
  | prev, e :: r => if edV ns ne prev e = 0 then esV ns ne (some e.id) r else edV ns ne prev e
def sizV (g : Gr) : Bool := decide (g.ns.length ≤ 2000) && decide (g.es.length ≤ 4000)
def nxtV (x : Int) : Bool := decide (1 ≤ x) && decide (x ≤ 1000001)
def chkV (g : Gr) : Int :=
  if sizV g = false then 4
  else if (nxtV g.nn && nxtV g.ne) = false then 1
  else if nsV g.nn none g.ns = 0 then esV g.ns g.ne none g.es else nsV g.nn none g.ns
/-- The id that stands ahead of place i. -/
def prevN (ns : List Nd) (i : Nat) : Option Int := if i = 0 then none else (ns[i - 1]?).map Nd.id
def prevE (es : List Ed) (i : Nat) : Option Int := if i = 0 then none else (es[i - 1]?).map Ed.id
theorem prevN_s (ns : List Nd) (i : Nat) (h : i < ns.length) : prevN ns (i + 1) = some ns[i].id := by
  unfold prevN
  rw [if_neg (by omega), Nat.add_sub_cancel, List.getElem?_eq_getElem h]; rfl
theorem prevE_s (es : List Ed) (i : Nat) (h : i < es.length) : prevE es (i + 1) = some es[i].id := by
  unfold prevE
  rw [if_neg (by omega), Nat.add_sub_cancel, List.getElem?_eq_getElem h]; rfl
theorem nsV_drop (nn : Int) (ns : List Nd) (i : Nat) (h : i < ns.length) :
    nsV nn (prevN ns i) (ns.drop i) = if ndV nn (prevN ns i) ns[i] = 0 then nsV nn (prevN ns (i + 1)) (ns.drop (i + 1)) else ndV nn (prevN ns i) ns[i] := by
  rw [prevN_s ns i h, List.drop_eq_getElem_cons h]; rfl
theorem esV_drop (ns : List Nd) (ne : Int) (es : List Ed) (i : Nat) (h : i < es.length) :
    esV ns ne (prevE es i) (es.drop i) = if edV ns ne (prevE es i) es[i] = 0 then esV ns ne (prevE es (i + 1)) (es.drop (i + 1)) else edV ns ne (prevE es i) es[i] := by
  rw [prevE_s es i h, List.drop_eq_getElem_cons h]; rfl
theorem ns_gt : ∀ (nn : Int) (l : List Nd) (p : Int), nsV nn (some p) l = 0 → l.Pairwise (fun a b => a.id < b.id) ∧ ∀ n ∈ l, p < n.id
  | _, [], _, _ => ⟨List.Pairwise.nil, fun _ h => by cases h⟩
  | nn, n :: r, p, h => by
    have h' : (if ndV nn (some p) n = 0 then nsV nn (some n.id) r else ndV nn (some p) n) = 0 := h
    by_cases e : ndV nn (some p) n = 0
    · rw [if_pos e] at h'
      obtain ⟨k1, k2⟩ := ns_gt nn r n.id h'
      have hp : p < n.id := by
        unfold ndV badP at e
        by_cases g : n.id ≤ p
        · simp [g] at e
        · omega
      refine ⟨List.pairwise_cons.2 ⟨k2, k1⟩, fun m hm => ?_⟩
      rcases List.mem_cons.1 hm with rfl | hm
      · exact hp
      · have := k2 m hm; omega
    · rw [if_neg e] at h'; exact absurd h' e
/-- The ids of nodes without a fault increase. -/
theorem ns_inc {nn : Int} {l : List Nd} (h : nsV nn none l = 0) : l.Pairwise (fun a b => a.id < b.id) := by
  cases l with
  | nil => exact List.Pairwise.nil
  | cons n r =>
    have h' : (if ndV nn none n = 0 then nsV nn (some n.id) r else ndV nn none n) = 0 := h
    by_cases e : ndV nn none n = 0
    · rw [if_pos e] at h'
      obtain ⟨k1, k2⟩ := ns_gt nn r n.id h'
      exact List.pairwise_cons.2 ⟨k2, k1⟩
    · rw [if_neg e] at h'; exact absurd h' e

/-! First of a list. -/
def nodV (ns : List Nd) (x : Int) : Option Nd := ns.find? fun n => n.id == x
def edgV (es : List Ed) (x : Int) : Option Ed := es.find? fun e => e.id == x
def prpV (ps : List Pp) (k : List UInt8) : Vl := ((ps.find? fun p => p.k == k).map Pp.v).getD (.mk 0 0 0 [] [])
def hasS (l : List (List UInt8)) (s : List UInt8) : Bool := l.any fun x => x == s
def hasT (ty : List UInt8) (types : List (List UInt8)) : Bool := types.isEmpty || hasS types ty
theorem nod_some (ns : List Nd) (x : Int) : (nodV ns x).isSome = hasN ns x := by
  unfold nodV hasN; rw [Bool.eq_iff_iff, List.find?_isSome, List.any_eq_true]

/-! Adjacency. -/
/-- Where an edge leads from a node. -/
def acrV (e : Ed) (id dir : Int) : Option Int :=
  if (dir = 1 ∨ dir = 3) ∧ e.fr = id then some e.to else if (dir = 2 ∨ dir = 3) ∧ e.to = id then some e.fr else none
/-- The entries at a node: the node reached and the edge, in the order of the edges. -/
def stpV (es : List Ed) (id : Int) (types : List (List UInt8)) (dir : Int) : List (Int × Int) :=
  es.filterMap fun e => if hasT e.ty types = true then (acrV e id dir).map fun t => (t, e.id) else none
def adjL (a b : Int × Int) : Bool := decide (a.1 < b.1) || (decide (a.1 = b.1) && decide (a.2 < b.2))
def adjc (a b : Int × Int) : Int := thn (intc a.1 b.1) (intc a.2 b.2)
def srtV (l : List (Int × Int)) : List (Int × Int) := l.mergeSort fun a b => !adjL b a
def adjV (es : List Ed) (id : Int) (types : List (List UInt8)) (dir : Int) : List (Int × Int) := srtV (stpV es id types dir)
theorem adjL_asym {a b : Int × Int} (h : adjL a b = true) : adjL b a = false := by
  unfold adjL at *
  simp only [Bool.or_eq_true, Bool.and_eq_true, decide_eq_true_eq, Bool.or_eq_false_iff, Bool.and_eq_false_iff, decide_eq_false_iff_not] at *
  omega
theorem adjL_eq {a b : Int × Int} (h : adjL a b = false) (h' : adjL b a = false) : a = b := by
  unfold adjL at *
  simp only [Bool.or_eq_false_iff, Bool.and_eq_false_iff, decide_eq_false_iff_not] at *
  obtain ⟨a1, a2⟩ := a
  obtain ⟨b1, b2⟩ := b
  simp only [Prod.mk.injEq] at *
  omega
theorem adjL_trans {a b c : Int × Int} (h : adjL b a = false) (h' : adjL c b = false) : adjL c a = false := by
  unfold adjL at *
  simp only [Bool.or_eq_false_iff, Bool.and_eq_false_iff, decide_eq_false_iff_not] at *
  omega
theorem adjc_lt (a b : Int × Int) : decide (adjc a b < 0) = adjL a b := by
  unfold adjc adjL thn intc
  rw [Bool.eq_iff_iff]
  simp only [decide_eq_true_eq, Bool.or_eq_true, Bool.and_eq_true]
  repeat' split
  all_goals omega
/-- In order: none is smaller than one before it. -/
def SrtP (l : List (Int × Int)) : Prop := l.Pairwise fun a b => adjL b a = false
theorem srt_uniq : ∀ {l m : List (Int × Int)}, SrtP l → SrtP m → l.Perm m → l = m := by
  intro l m hl hm hp
  exact hp.eq_of_pairwise (le := fun a b => adjL b a = false) (fun a b _ _ h1 h2 => adjL_eq h2 h1) hl hm
theorem srtV_perm (l : List (Int × Int)) : (srtV l).Perm l := List.mergeSort_perm _ _
theorem srtV_srt (l : List (Int × Int)) : SrtP (srtV l) := by
  have h := List.pairwise_mergeSort (le := fun a b : Int × Int => !adjL b a) (by
    intro a b c h1 h2
    simp only [Bool.not_eq_true'] at *
    exact adjL_trans h1 h2) (by
    intro a b
    cases h : adjL b a
    · rfl
    · rw [adjL_asym h]; rfl) l
  exact h.imp (by intro a b h; simpa using h)
theorem srtV_of {l m : List (Int × Int)} (hm : SrtP m) (hp : m.Perm l) : m = srtV l := srt_uniq hm (srtV_srt l) (hp.trans (srtV_perm l).symm)
theorem adj_mem (es : List Ed) (id : Int) (types : List (List UInt8)) (dir : Int) (x : Int × Int) : x ∈ adjV es id types dir ↔ x ∈ stpV es id types dir := (srtV_perm _).mem_iff
theorem adj_len (es : List Ed) (id : Int) (types : List (List UInt8)) (dir : Int) : (adjV es id types dir).length = (stpV es id types dir).length := (srtV_perm _).length_eq

/-! Equality. -/
def samP (p q : Pp) : Bool := (p.k == q.k) && (ordV p.v q.v == 0)
def samN (a b : Nd) : Bool := (a.id == b.id) && (al2 (fun x y => x == y) a.ls b.ls && al2 samP a.ps b.ps)
def samE (a b : Ed) : Bool := (a.id == b.id) && ((a.fr == b.fr) && ((a.to == b.to) && ((a.ty == b.ty) && al2 samP a.ps b.ps)))
def samG (g h : Gr) : Bool := (g.nn == h.nn) && ((g.ne == h.ne) && (al2 samN g.ns h.ns && al2 samE g.es h.es))

/-! Strings in order, each once. -/
def incS (l : List (List UInt8)) : Prop := l.Pairwise fun a b => Op.bytesLess a b = true
end Go.Proofs.Ytcadeijloobbmaa
