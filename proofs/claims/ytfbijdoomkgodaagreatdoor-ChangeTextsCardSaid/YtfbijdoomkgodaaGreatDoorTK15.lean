/-
  M24; M25; M26; M27: texts of one kind in one file; each part says what it holds.
-/
import Derived.Test.YtfbijdoomkgodaaGreatDoorTK06
import Derived.Test.YtfbijdoomkgodaaGreatDoorTK14
import Derived.Test.YtfbijdoomkgodaaGreatDoorTK01
import Derived.Test.YtfbijdoomkgodaaGreatDoorTM05
import Derived.Orders
import Derived.RegionTactic
import Derived.Maps.AppendAt
import Derived.Laws.AppendOwnNone
import Derived.Test.YtfbijdoomkgodaaGreatDoorTM16

/-! GsL; CpM: texts of one kind in one file; each part says what it holds. -/

/-! The reference of package graph: SameStrs and SameProps of any two slices. What was there does not turn. -/
namespace Go.Proofs.YtfbijdoomkgodaaGreatDoor
open Go.RowKit

end Go.Proofs.YtfbijdoomkgodaaGreatDoor

/-! What a call has built lies in blocks of its own: 'P holds in every world with the same blocks from lo on, but for the block o'. Lists of values so built. No program's function is walked here. -/
namespace Go.Proofs.YtfbijdoomkgodaaGreatDoor
open Go.RowKit

def Kb (lo : Nat) (o : Option Nat) (w : World) (P : World → Prop) : Prop :=
  ∀ w2 : World, (∀ b, lo ≤ b → b < w.heap.size → some b ≠ o → w2.heap[b]? = w.heap[b]?) → P w2
section
variable {lo s : Nat} {o o' : Option Nat} {w w' : World} {P Q : World → Prop}
theorem Kb.now (h : Kb lo o w P) : P w := h w fun _ _ _ _ => rfl
theorem Kb.imp (h : Kb lo o w P) (hp : ∀ x, P x → Q x) : Kb lo o w Q := fun w2 h2 => hp _ (h w2 h2)
theorem Kb.and (h : Kb lo o w P) (k : Kb lo o w Q) : Kb lo o w (fun x => P x ∧ Q x) := fun w2 h2 => ⟨h w2 h2, k w2 h2⟩
/-- Later, when only o's block may have turned. -/
theorem Kb.on (h : Kb lo o w P) (hs : w.heap.size ≤ w'.heap.size) (hb : ∀ b, lo ≤ b → b < w.heap.size → some b ≠ o → w'.heap[b]? = w.heap[b]?) (ho : o' = o ∨ ∀ k, o' = some k → w.heap.size ≤ k) : Kb lo o' w' P := by
  intro w2 h2
  refine h w2 fun b h1 hlt hne => ?_
  rw [h2 b h1 (Nat.lt_of_lt_of_le hlt hs) ?_, hb b h1 hlt hne]
  rcases ho with e | e
  · rw [e]; exact hne
  · intro q
    have := e b q.symm
    omega
theorem Kb.later (h : Kb lo o w P) (hf : Fuw w w') : Kb lo o w' P := h.on hf.size (fun b _ hb _ => Below.block hf b hb) (.inl rfl)
theorem Kb.low (h : Kb s none w P) (hl : lo ≤ s) (ho : ∀ k, o = some k → k < s ∨ w.heap.size ≤ k) : Kb lo o w P := by
  intro w2 h2
  refine h w2 fun b h1 hlt _ => h2 b (by omega) hlt ?_
  intro q
  rcases ho b q.symm with k | k <;> omega
theorem Kb.grown {v v' : Value} (h : Kb lo v.ownBlock w P) (hg : w.grownBy w' v.ownBlock) (hat : v'.ownBlock = v.ownBlock ∨ v'.ownBlock = some w.heap.size) : Kb lo v'.ownBlock w' P :=
  h.on hg.size (fun b _ h2 h3 => hg.block b h2 h3) (by
    rcases hat with e | e
    · exact .inl e
    · refine .inr fun k hk => ?_
      rw [e] at hk; injection hk with hk; omega)
end
/-- A value's five cells. -/
def vC (x : Vl) (ao : Option Addr) (cap : Nat) : List Value := [.int .i64 x.kd, .int .i64 x.nn, .int .i64 x.dd, .string (bs x.ss), .slice ao x.ll.length cap]
abbrev VPm := Vl × Option Addr × Nat
/-- What lies inside the values. -/
def Nst (ps : List VPm) (w : World) : Prop := ∀ p ∈ ps, SlV w p.2.1 p.1.ll p.2.2
theorem Nst.nil (w : World) : Nst [] w := fun _ h => by cases h
theorem Nst.snoc {ps : List VPm} {p : VPm} {w : World} (h : Nst ps w) (k : SlV w p.2.1 p.1.ll p.2.2) : Nst (ps ++ [p]) w := fun q hq => by
  rcases List.mem_append.1 hq with e | e
  · exact h q e
  · rw [List.mem_singleton] at e; subst e; exact k
theorem own_heap {w w' : World} {base e size : Nat} {v : Value} {n : Nat} {xs : List Value} (h : w.ownsRow base e size v n xs) (hb : ∀ g, v.ownBlock = some g → w'.heap[g]? = w.heap[g]?) : w'.ownsRow base e size v n xs := by
  refine ⟨h.1, ?_⟩
  rcases h.2 with h0 | ⟨g, cap, cur, rfl, hg, hh, rest⟩
  · exact .inl h0
  · exact .inr ⟨g, cap, cur, rfl, hg, by rw [hb g rfl]; exact hh, rest⟩
theorem cell_lt' {w : World} {b o : Nat} {v : Value} (h : w.cell? ⟨b, o, none⟩ = some v) : b < w.heap.size := by
  rcases Nat.lt_or_ge b w.heap.size with k | k
  · exact k
  · simp [World.cell?, Array.getElem?_eq_none k] at h
end Go.Proofs.YtfbijdoomkgodaaGreatDoor

/-! CpG; DagA: texts of one kind in one file; each part says what it holds. -/

/-! Slices of structs that a call has built: properties, nodes and edges, each with what lies inside it. No program's function is walked here. -/
namespace Go.Proofs.YtfbijdoomkgodaaGreatDoor
open Go.RowKit

/-- How elements lie in a row: how many cells, which, what is known of the element, of what lies inside it, and what then holds of the cells. -/
structure Lay (α β : Type) where
  size : Nat
  C : α → β → List Value
  I : α → Prop
  J : α → β → World → Prop
  P : World → α → Nat → Nat → Prop
  len : ∀ x m, (C x m).length = size
  pos : 0 < size
  row : ∀ w x m b o, I x → J x m w → (∀ j, j < size → w.cell? ⟨b, o + j, none⟩ = (C x m)[j]?) → P w x b o
section
variable {α β : Type} (Y : Lay α β)
def Lay.cs (ps : List (α × β)) : List Value := ps.flatMap fun p => Y.C p.1 p.2
theorem Lay.cs_app (a b : List (α × β)) : Y.cs (a ++ b) = Y.cs a ++ Y.cs b := by unfold Lay.cs; rw [List.flatMap_append]
theorem Lay.cs_one (p : α × β) : Y.cs [p] = Y.C p.1 p.2 := by unfold Lay.cs; simp
theorem Lay.cs_len : ∀ ps : List (α × β), (Y.cs ps).length = ps.length * Y.size
  | [] => by unfold Lay.cs; simp
  | p :: r => by
    show (Y.C p.1 p.2 ++ Y.cs r).length = _
    rw [List.length_append, Lay.cs_len r, List.length_cons, Y.len, Nat.add_mul, Nat.one_mul, Nat.add_comm]
theorem Lay.cs_get : ∀ (ps : List (α × β)) (i j : Nat) (h : i < ps.length), j < Y.size → (Y.cs ps)[i * Y.size + j]? = (Y.C ps[i].1 ps[i].2)[j]?
  | p :: r, 0, j, _, hj => by
    show (Y.C p.1 p.2 ++ Y.cs r)[0 * Y.size + j]? = _
    rw [Nat.zero_mul, Nat.zero_add, List.getElem?_append_left (by rw [Y.len]; exact hj)]
    rfl
  | p :: r, i + 1, j, h, hj => by
    show (Y.C p.1 p.2 ++ Y.cs r)[(i + 1) * Y.size + j]? = _
    have e : (i + 1) * Y.size + j = Y.size + (i * Y.size + j) := by rw [Nat.add_mul, Nat.one_mul]; omega
    rw [e, List.getElem?_append_right (by rw [Y.len]; omega), Y.len, Nat.add_sub_cancel_left, Lay.cs_get r i j (by simpa using h) hj]
    rfl
/-- What lies inside the elements. -/
def Lay.Ns (ps : List (α × β)) (w : World) : Prop := ∀ p ∈ ps, Y.J p.1 p.2 w
variable {Y}
theorem Lay.sl_own {T : TypeId} {w : World} {base : Nat} {v : Value} {n : Nat} {ps : List (α × β)} (h : w.ownsRow base T Y.size v n (Y.cs ps)) (hv : ∀ p ∈ ps, Y.I p.1) (hn : Y.Ns ps w) :
    ∃ ao cap, v = .slice ao ps.length cap ∧ n = ps.length ∧ Sl Y.size Y.P w ao (ps.map Prod.fst) cap := by
  have hl := h.1
  rw [Y.cs_len] at hl
  obtain rfl : n = ps.length := (Nat.eq_of_mul_eq_mul_right Y.pos hl).symm
  rcases h.2 with ⟨rfl, h0⟩ | ⟨g, cap, cur, rfl, hb, hh, h1, h2, h3, h4⟩
  · have e : ps = [] := List.eq_nil_of_length_eq_zero h0
    subst e
    exact ⟨none, 0, rfl, rfl, Sl.empty _⟩
  · refine ⟨_, cap, rfl, rfl, by rw [List.length_map]; exact h1, h2, (fun k => by cases k), fun _ => ⟨g, 0, rfl, fun i hi => ?_⟩⟩
    rw [List.length_map] at hi
    rw [List.getElem_map]
    have hm : ps[i] ∈ ps := List.getElem_mem hi
    refine Y.row w _ _ g _ (hv _ hm) (hn _ hm) fun j hj => ?_
    have k := h.cellAt (i * Y.size + j) (by
      calc i * Y.size + j < i * Y.size + Y.size := by omega
        _ = (i + 1) * Y.size := by rw [Nat.add_mul, Nat.one_mul]
        _ ≤ ps.length * Y.size := Nat.mul_le_mul_right _ hi)
    rw [Y.cs_get ps i j hi hj] at k
    rwa [Nat.zero_add]
/-! The three. -/
end
abbrev AC := Option Addr × Nat
def pC (p : Pp) (m : AC) : List Value := .string (bs p.k) :: vC p.v m.1 m.2
def LP : Lay Pp AC where
  size := 6
  C := pC
  I p := p.k.length ≤ maxLen ∧ Vin p.v
  J p m w := SlV w m.1 p.v.ll m.2
  P := PC
  len _ _ := rfl
  pos := by decide
  row w p m b o h1 h2 hc := ⟨h1.1, hc 0 (by decide), VC_mk h1.2 (hc 1 (by decide)) (hc 2 (by decide)) (hc 3 (by decide)) (hc 4 (by decide)) (hc 5 (by decide)) h2⟩
def LN : Lay Nd (AC × AC) where
  size := 3
  C n m := [.int .i64 n.id, .slice m.1.1 n.ls.length m.1.2, .slice m.2.1 n.ps.length m.2.2]
  I n := I64 n.id
  J n m w := SlS w m.1.1 n.ls m.1.2 ∧ SlP w m.2.1 n.ps m.2.2
  P := NC
  len _ _ := rfl
  pos := by decide
  row w n m b o h1 h2 hc := ⟨h1, hc 0 (by decide), ⟨_, _, hc 1 (by decide), h2.1⟩, _, _, hc 2 (by decide), h2.2⟩
def LE : Lay Ed AC where
  size := 5
  C e m := [.int .i64 e.id, .int .i64 e.fr, .int .i64 e.to, .string (bs e.ty), .slice m.1 e.ps.length m.2]
  I e := I64 e.id ∧ I64 e.fr ∧ I64 e.to ∧ e.ty.length ≤ maxLen
  J e m w := SlP w m.1 e.ps m.2
  P := EC
  len _ _ := rfl
  pos := by decide
  row w e m b o h1 h2 hc := ⟨h1.1, h1.2.1, h1.2.2.1, h1.2.2.2, hc 0 (by decide), hc 1 (by decide), hc 2 (by decide), hc 3 (by decide), _, _, hc 4 (by decide), h2⟩
end Go.Proofs.YtfbijdoomkgodaaGreatDoor

/-! A region that draws its order, told by what each of its slots holds once it is written: every operation is looked at once, in whatever state the region may be in when it comes up, and not once for each order. No program here. -/
namespace Go.Proofs.YtfbijdoomkgodaaGreatDoor
open Go

/-- The place in the region of the operation that writes slot t. -/
def wrote (ops : Array Oper) (t : Nat) : Option Nat := (List.range ops.size).find? fun i => (ops[i]?).bind (·.dst) == some t
/-- Slot t has its last value: no operation of the region writes it, or the one that does has been. -/
def hasIt (ops : Array Oper) (listed : Array Bool) (t : Nat) : Bool := match wrote ops t with | none => true | some i => listed.getD i false
/-- No two operations write one slot, and all slots lie in the frame. -/
def oneWriter (ops : Array Oper) (N : Nat) : Bool := (List.range ops.size).all fun i => match (ops[i]?).bind (·.dst) with | some d => decide (d < N) && (wrote ops d == some i) | none => true
/-- Each operation waits for earlier ones alone. -/
def backward (ops : Array Oper) : Bool := (List.range ops.size).all fun i => match ops[i]? with | some o => o.after.all fun e => decide (e.on < i) | none => true
/-- What operation i reads: slots that none writes, or that are written by operations for which it waits. -/
def needOk (ops : Array Oper) (N i : Nat) (need : List Nat) : Bool := match ops[i]? with
  | some o => need.all fun t => decide (t < N) && (match wrote ops t with | none => true | some j => o.after.any fun e => e.on == j && Region.binds .any e)
  | none => false

theorem wrote_some {ops : Array Oper} {t i : Nat} (h : wrote ops t = some i) : i < ops.size ∧ (ops[i]?).bind (·.dst) = some t := by
  unfold wrote at h
  have h1 := List.find?_some h
  have h2 := List.mem_of_find?_eq_some h
  exact ⟨List.mem_range.1 h2, by simpa using h1⟩

/-- The midst of a region. -/
structure Mid (ops : Array Oper) (N : Nat) (S : World → Prop) (U : Nat → World → Value → Prop) (listed : Array Bool) (a : Act) (w : World) : Prop where
  size : listed.size = ops.size
  tmps : a.tmps.size = N
  defers : a.defers = []
  st : S w
  val : ∀ t, t < N → hasIt ops listed t = true → U t w (a.tmps.getD t undef)

section
variable {P : Program} {ops : Array Oper} {Q : Exit → Act → World → Prop} {N : Nat} {S : World → Prop} {U : Nat → World → Value → Prop}

theorem Mid.put {listed : Array Bool} {a : Act} {w w' : World} {i d : Nat} {o : Oper} {v : Value} (h : Mid ops N S U listed a w) (h1 : oneWriter ops N = true) (ho : ops[i]? = some o) (hd : o.dst = some d)
    (hS : S w') (hm : ∀ t u, U t w u → U t w' u) (hv : U d w' v) : Mid ops N S U (listed.setIfInBounds i true) (a.put (some d) v) w' := by
  have hi : i < ops.size := (Array.getElem?_eq_some_iff.1 ho).1
  have h2 := List.all_eq_true.1 h1 i (List.mem_range.2 hi)
  have e0 : (ops[i]?).bind (·.dst) = some d := by rw [ho]; exact hd
  rw [e0] at h2
  have h3 : d < N ∧ wrote ops d = some i := by simpa using h2
  refine ⟨by simpa using h.size, by simpa [Act.put] using h.tmps, h.defers, hS, fun t ht hh => ?_⟩
  by_cases htd : t = d
  · subst htd
    have hb : t < a.tmps.size := by rw [h.tmps]; exact ht
    simpa [Act.put, Array.getD_eq_getD_getElem?, hb] using hv
  · have e1 : (a.put (some d) v).tmps.getD t undef = a.tmps.getD t undef := by
      simp [Act.put, Array.getD_eq_getD_getElem?, Ne.symm htd]
    rw [e1]
    refine hm t _ (h.val t ht ?_)
    unfold hasIt at hh ⊢
    cases hw : wrote ops t with
    | none => rfl
    | some j =>
      rw [hw] at hh
      simp only at hh ⊢
      have hji : i ≠ j := by
        rintro rfl
        have := (wrote_some hw).2
        rw [e0] at this
        exact htd (by injection this with k; exact k.symm)
      simpa [Array.getD_eq_getD_getElem?, Array.getElem?_setIfInBounds, hji] using hh

/-- How many operations are still to come. -/
def restD (ops : Array Oper) (listed : Array Bool) : Nat := ((List.range ops.size).filter fun i => !listed.getD i true).length
theorem restD_set {listed : Array Bool} {i : Nat} (hi : i ∈ Region.ready .any ops listed) : restD ops (listed.setIfInBounds i true) < restD ops listed := by
  have h0 := (mem_ready.1 hi).1
  have hs : i < ops.size := by
    obtain ⟨_, o, ho, _⟩ := mem_ready.1 hi
    exact (Array.getElem?_eq_some_iff.1 ho).1
  have hl : i < listed.size := by
    rcases Nat.lt_or_ge i listed.size with k | k
    · exact k
    · rw [Array.getD_eq_getD_getElem?, Array.getElem?_eq_none k] at h0; cases h0
  have gen : ∀ l : List Nat, (l.filter fun j => !(listed.setIfInBounds i true).getD j true).length ≤ (l.filter fun j => !listed.getD j true).length ∧
      (i ∈ l → (l.filter fun j => !(listed.setIfInBounds i true).getD j true).length < (l.filter fun j => !listed.getD j true).length) := by
    intro l
    induction l with
    | nil => exact ⟨Nat.le_refl _, fun h => by cases h⟩
    | cons j l ih =>
      obtain ⟨i1, i2⟩ := ih
      by_cases hji : i = j
      · subst hji
        have e1 : (listed.setIfInBounds i true).getD i true = true := by simp [Array.getD_eq_getD_getElem?, hl]
        simp only [List.filter_cons, e1, h0, Bool.not_true, Bool.not_false, if_true, Bool.false_eq_true, if_false, List.length_cons]
        exact ⟨by omega, fun _ => by omega⟩
      · have e1 : (listed.setIfInBounds i true).getD j true = listed.getD j true := by simp [Array.getD_eq_getD_getElem?, hji]
        simp only [List.filter_cons, e1]
        cases listed.getD j true
        · simp only [Bool.not_false, if_true, List.length_cons]
          refine ⟨by omega, fun h => ?_⟩
          rcases List.mem_cons.1 h with k | k
          · exact absurd k hji
          · have := i2 k; omega
        · simp only [Bool.not_true, Bool.false_eq_true, if_false]
          refine ⟨i1, fun h => ?_⟩
          rcases List.mem_cons.1 h with k | k
          · exact absurd k hji
          · exact i2 k
  exact (gen _).2 (List.mem_range.2 hs)

theorem all_there {listed : Array Bool} (h2 : backward ops = true) (hs : listed.size = ops.size) (hr : Region.ready .any ops listed = []) : ∀ i, i < ops.size → listed.getD i false = true := by
  intro i
  induction i using Nat.strongRecOn with
  | _ i ih =>
    intro hi
    cases hl : listed.getD i false
    · exfalso
      have hmem : i ∈ Region.ready .any ops listed := by
        refine mem_ready.2 ⟨?_, ops[i], Array.getElem?_eq_getElem hi, fun e he _ => ?_⟩
        · have hb : i < listed.size := by omega
          rw [Array.getD_eq_getD_getElem?, Array.getElem?_eq_getElem hb] at hl ⊢
          exact hl
        · have k := List.all_eq_true.1 h2 i (List.mem_range.2 hi)
          rw [Array.getElem?_eq_getElem hi] at k
          have k2 := Array.all_eq_true_iff_forall_mem.1 k e he
          have k3 : e.on < i := by simpa using k2
          exact ih e.on k3 (by omega)
      rw [hr] at hmem
      cases hmem
    · rfl

/-- A frame out of its slots. -/
def frameD (N : Nat) (x : Nat → Value) : Act := ⟨((List.range N).map x).toArray, []⟩
theorem frameD_of {a : Act} (h1 : a.tmps.size = N) (h2 : a.defers = []) : a = frameD N fun t => a.tmps.getD t undef := by
  obtain ⟨⟨l⟩, d⟩ := a
  simp only at h1 h2
  subst h2
  unfold frameD
  congr 1
  apply Array.ext
  · simp; simpa using h1
  · intro i h3 h4
    simp
    rw [List.getElem?_eq_getElem (by simpa using h3)]
    rfl

end
/-- Of which slots it must be told what they hold at the start. -/
def startOk (ops : Array Oper) (N : Nat) (ks L : List Nat) : Bool := (List.range N).all fun t => !hasIt ops (Array.replicate ops.size false) t || ks.getD t 0 == 0 || L.contains t
theorem start_of {ops : Array Oper} {N : Nat} {ks L : List Nat} (h : startOk ops N ks L = true) : ∀ t, t < N → hasIt ops (Array.replicate ops.size false) t = true → ks.getD t 0 = 0 ∨ t ∈ L := by
  intro t ht hh
  have k := List.all_eq_true.1 h t (List.mem_range.2 ht)
  rw [hh] at k
  rcases Bool.or_eq_true_iff.1 k with k | k
  · exact .inl (by simpa using k)
  · exact .inr (List.contains_iff_mem.1 k)
theorem upto_nil {p : Nat → Prop} : ∀ i, i < 0 → p i := fun _ h => absurd h (by omega)
theorem upto_succ {p : Nat → Prop} {n : Nat} (h : ∀ i, i < n → p i) (hn : p n) : ∀ i, i < n + 1 → p i := fun i hi => by
  rcases Nat.lt_or_ge i n with k | k
  · exact h i k
  · have e : i = n := by omega
    subst e
    exact hn
end Go.Proofs.YtfbijdoomkgodaaGreatDoor

/-! DagB; DagC: texts of one kind in one file; each part says what it holds. -/

/-! A region that draws its order and in which some operations turn memory that the others lean on (an append onto a row that was there, a store): what is known may name which operations have been. No program here. -/
namespace Go.Proofs.YtfbijdoomkgodaaGreatDoor
open Go

/-- What operation i waits for. -/
def depsB (ops : Array Oper) (i : Nat) : List Nat := match ops[i]? with | some o => (o.after.toList.filter fun e => Region.binds .any e).map (·.on) | none => []
/-- Those of l, and what they wait for, and so on. -/
def ancL (ops : Array Oper) : Nat → List Nat → List Nat
  | 0, l => l
  | n + 1, l => ancL ops n ((l ++ l.flatMap (depsB ops)).eraseDups)
def ClosedB (ops : Array Oper) (listed : Array Bool) : Prop := ∀ j, listed.getD j false = true → ∀ e ∈ depsB ops j, listed.getD e false = true
theorem anc_listed {ops : Array Oper} {listed : Array Bool} (hc : ClosedB ops listed) : ∀ (n : Nat) (l : List Nat), (∀ i ∈ l, listed.getD i false = true) → ∀ i ∈ ancL ops n l, listed.getD i false = true
  | 0, _, h => h
  | n + 1, l, h => anc_listed hc n _ (fun i hi => by
    rw [List.mem_eraseDups] at hi
    rcases List.mem_append.1 hi with e | e
    · exact h i e
    · obtain ⟨j, hj, he⟩ := List.mem_flatMap.1 e
      exact hc j (h j hj) i he)
theorem deps_ready {ops : Array Oper} {listed : Array Bool} {i : Nat} (hi : i ∈ Region.ready .any ops listed) : ∀ e ∈ depsB ops i, listed.getD e false = true := by
  intro e he
  obtain ⟨_, o, ho, hd⟩ := mem_ready.1 hi
  unfold depsB at he
  rw [ho] at he
  simp only [List.mem_map, List.mem_filter] at he
  obtain ⟨q, ⟨hq, hb⟩, rfl⟩ := he
  exact hd q (Array.mem_toList_iff.1 hq) hb
theorem ready_not {ops : Array Oper} {listed : Array Bool} {i : Nat} (hi : i ∈ Region.ready .any ops listed) : listed.getD i true = false := (mem_ready.1 hi).1
theorem getD_tf {listed : Array Bool} {i : Nat} (h : listed.getD i true = false) : listed.getD i false = false := by
  rcases Nat.lt_or_ge i listed.size with k | k
  · rw [Array.getD_eq_getD_getElem?, Array.getElem?_eq_getElem k] at h ⊢; exact h
  · rw [Array.getD_eq_getD_getElem?, Array.getElem?_eq_none k] at h; cases h
/-- Operation k waits, by others, for i. -/
def isAnc (ops : Array Oper) (k i : Nat) : Bool := (ancL ops ops.size (depsB ops k)).contains i
theorem pre_false {ops : Array Oper} {listed : Array Bool} {k i : Nat} (hc : ClosedB ops listed) (ha : isAnc ops k i = true) (hi : i ∈ Region.ready .any ops listed) : listed.getD k false = false := by
  cases h : listed.getD k false
  · rfl
  · have := anc_listed hc ops.size (depsB ops k) (hc k h) i (List.contains_iff_mem.1 ha)
    rw [getD_tf (ready_not hi)] at this; cases this
theorem post_true {ops : Array Oper} {listed : Array Bool} {k i : Nat} (hc : ClosedB ops listed) (ha : isAnc ops i k = true) (hi : i ∈ Region.ready .any ops listed) : listed.getD k false = true :=
  anc_listed hc ops.size (depsB ops i) (deps_ready hi) k (List.contains_iff_mem.1 ha)

/-- Which operations have been. -/
def been (listed : Array Bool) : Nat → Bool := fun j => listed.getD j false
/-- And now i. -/
def upB (σ : Nat → Bool) (i : Nat) : Nat → Bool := fun j => if i = j then true else σ j
structure MidB (ops : Array Oper) (N : Nat) (S : (Nat → Bool) → World → Prop) (U : (Nat → Bool) → Nat → World → Value → Prop) (V : Nat → Value → Prop) (A : Nat → Value) (listed : Array Bool) (a : Act) (w : World) : Prop where
  size : listed.size = ops.size
  tmps : a.tmps.size = N
  defers : a.defers = []
  cl : ClosedB ops listed
  st : S (been listed) w
  val : ∀ t, t < N → hasIt ops listed t = true → U (been listed) t w (a.tmps.getD t undef)
  old : ∀ t j, wrote ops t = some j → listed.getD j false = false → V t (a.tmps.getD t undef)
  kp : ∀ t, wrote ops t = none → a.tmps.getD t undef = A t
/-- Slot t may hold something before operation i runs. -/
def livB (ops : Array Oper) (i t : Nat) : Bool := match wrote ops t with | none => true | some j => decide (j ≠ i) && !isAnc ops j i

section
variable {P : Program} {ops : Array Oper} {Q : Exit → Act → World → Prop} {N : Nat} {S : (Nat → Bool) → World → Prop} {U : (Nat → Bool) → Nat → World → Value → Prop} {V : Nat → Value → Prop} {A : Nat → Value}
theorem getD_set {listed : Array Bool} {i j : Nat} (hi : i < listed.size) : (listed.setIfInBounds i true).getD j false = if i = j then true else listed.getD j false := by
  by_cases h : i = j
  · subst h; simp [Array.getD_eq_getD_getElem?, hi]
  · simp [Array.getD_eq_getD_getElem?, h]
theorem MidB.put {listed : Array Bool} {a : Act} {w w' : World} {i : Nat} {o : Oper} {v : Value} (h : MidB ops N S U V A listed a w) (h1 : oneWriter ops N = true) (ho : ops[i]? = some o) (hi : i ∈ Region.ready .any ops listed) 
    (hS : S (upB (been listed) i) w') (hm : ∀ t u, livB ops i t = true → U (been listed) t w u → U (upB (been listed) i) t w' u) (hv : ∀ d, o.dst = some d → U (upB (been listed) i) d w' v) : MidB ops N S U V A (listed.setIfInBounds i true) (a.put o.dst v) w' := by
  have his : i < ops.size := (Array.getElem?_eq_some_iff.1 ho).1
  have hil : i < listed.size := by rw [h.size]; exact his
  have h2 := List.all_eq_true.1 h1 i (List.mem_range.2 his)
  have hbn : been (listed.setIfInBounds i true) = upB (been listed) i := by
    funext j
    unfold been upB
    rw [getD_set hil]
  refine ⟨by simpa using h.size, ?_, ?_, fun j hj e he => ?_, ?_, fun t ht hh => ?_, fun t j hw hj => ?_, fun t hw => ?_⟩
  · have := h.tmps
    unfold Act.put
    split <;> simpa using this
  · have := h.defers
    unfold Act.put
    split <;> simpa using this
  · rw [getD_set hil] at hj ⊢
    split
    · rfl
    · rename_i hne
      by_cases hij : i = j
      · subst hij; exact deps_ready hi e he
      · rw [if_neg hij] at hj; exact h.cl j hj e he
  · rw [hbn]; exact hS
  · rw [hbn]
    by_cases htd : o.dst = some t
    · have hbt : t < a.tmps.size := by rw [h.tmps]; exact ht
      have e1 : (a.put o.dst v).tmps.getD t undef = v := by simp [htd, Act.put, Array.getD_eq_getD_getElem?, hbt]
      rw [e1]; exact hv t htd
    · have e1 : (a.put o.dst v).tmps.getD t undef = a.tmps.getD t undef := by
        cases hd : o.dst with
        | none => rfl
        | some d =>
          have : d ≠ t := by rintro rfl; exact htd hd
          simp [Act.put, Array.getD_eq_getD_getElem?, this]
      rw [e1]
      have hlv : hasIt ops listed t = true → livB ops i t = true := fun q => by
        unfold hasIt at q
        unfold livB
        cases hw : wrote ops t with
        | none => rfl
        | some j =>
          rw [hw] at q
          simp only at q ⊢
          have hji : j ≠ i := by
            rintro rfl
            rw [getD_tf (ready_not hi)] at q; cases q
          rw [decide_eq_true hji, Bool.true_and]
          cases hq : isAnc ops j i
          · rfl
          · rw [pre_false h.cl hq hi] at q; cases q
      have hit : hasIt ops listed t = true := ?_
      exact hm t _ (hlv hit) (h.val t ht hit)
      unfold hasIt at hh ⊢
      cases hw : wrote ops t with
      | none => rfl
      | some j =>
        rw [hw] at hh
        simp only at hh ⊢
        rw [getD_set hil] at hh
        by_cases hij : i = j
        · subst hij
          have := (wrote_some hw).2
          rw [ho] at this
          exact absurd this htd
        · rw [if_neg hij] at hh; exact hh
  · rw [getD_set hil] at hj
    by_cases hij : i = j
    · rw [if_pos hij] at hj; cases hj
    · rw [if_neg hij] at hj
      have e1 : (a.put o.dst v).tmps.getD t undef = a.tmps.getD t undef := by
        cases hd : o.dst with
        | none => rfl
        | some d =>
          have : d ≠ t := by
            rintro rfl
            have e0 : (ops[i]?).bind (·.dst) = some d := by rw [ho]; exact hd
            rw [e0] at h2
            have h3 : d < N ∧ wrote ops d = some i := by simpa using h2
            rw [h3.2] at hw
            injection hw with q
            exact hij q
          simp [Act.put, Array.getD_eq_getD_getElem?, this]
      rw [e1]
      exact h.old t j hw hj
  · have e1 : (a.put o.dst v).tmps.getD t undef = a.tmps.getD t undef := by
      cases hd : o.dst with
      | none => rfl
      | some d =>
        have : d ≠ t := by
          rintro rfl
          have e0 : (ops[i]?).bind (·.dst) = some d := by rw [ho]; exact hd
          rw [e0] at h2
          have h3 : d < N ∧ wrote ops d = some i := by simpa using h2
          rw [h3.2] at hw
          cases hw
        simp [Act.put, Array.getD_eq_getD_getElem?, this]
    rw [e1]
    exact h.kp t hw

def StepB (P : Program) (ops : Array Oper) (Q : Exit → Act → World → Prop) (N : Nat) (S : (Nat → Bool) → World → Prop) (U : (Nat → Bool) → Nat → World → Value → Prop) (V : Nat → Value → Prop) (A : Nat → Value) (i : Nat) : Prop :=
  ∀ listed a w, MidB ops N S U V A listed a w → i ∈ Region.ready .any ops listed → wpOp P ops Q i (MidB ops N S U V A (listed.setIfInBounds i true)) a w

theorem any_midB (h2 : backward ops = true) (hstep : ∀ i, i < ops.size → StepB P ops Q N S U V A i)
    (hend : ∀ (x : Nat → Value) w', S (fun j => decide (j < ops.size)) w' → (∀ t, t < N → U (fun j => decide (j < ops.size)) t w' (x t)) → (∀ t, wrote ops t = none → x t = A t) → Q .normal (frameD N x) w') :
    ∀ (fuel : Nat) (listed : Array Bool) (a : Act) (w : World), restD ops listed ≤ fuel → MidB ops N S U V A listed a w → wpAny P .any ops Q fuel listed a w := by
  have fin : ∀ (listed : Array Bool) (a : Act) (w : World), MidB ops N S U V A listed a w → Region.ready .any ops listed = [] → Q .normal a w := fun listed a w hM hr => by
    have hall := all_there h2 hM.size hr
    have e : been listed = fun j => decide (j < ops.size) := by
      funext j
      unfold been
      rcases Nat.lt_or_ge j ops.size with q | q
      · rw [hall j q, decide_eq_true q]
      · rw [decide_eq_false (by omega), Array.getD_eq_getD_getElem?, Array.getElem?_eq_none (by rw [hM.size]; exact q)]; rfl
    have hs := hM.st
    have hv := hM.val
    rw [e] at hs hv
    rw [frameD_of hM.tmps hM.defers]
    exact hend _ w hs (fun t ht => hv t ht (by
      unfold hasIt
      cases hw : wrote ops t with
      | none => rfl
      | some i => exact hall i (wrote_some hw).1)) hM.kp
  intro fuel
  induction fuel with
  | zero =>
    intro listed a w hl hM
    have hr : Region.ready .any ops listed = [] := by
      cases hq : Region.ready .any ops listed with
      | nil => rfl
      | cons i rs =>
        have := restD_set (ops := ops) (listed := listed) (i := i) (by rw [hq]; exact List.mem_cons_self)
        omega
    exact ⟨hr, fin listed a w hM hr⟩
  | succ fuel ih =>
    intro listed a w hl hM
    refine ⟨fin listed a w hM, fun i hi => ?_⟩
    have hs : i < ops.size := by
      obtain ⟨_, o, ho, _⟩ := mem_ready.1 hi
      exact (Array.getElem?_eq_some_iff.1 ho).1
    have hl2 := restD_set hi
    exact wpOp_mono (fun a w h => ih _ a w (by omega) h) (hstep i hs listed a w hM hi)

theorem region_midB {id : Nat} {a : Act} {w : World} (hm : P.follows .mixedOrders = true) (h2 : backward ops = true) (h1 : oneWriter ops N = true)
    (h0 : MidB ops N S U V (fun t => a.tmps.getD t undef) (Array.replicate ops.size false) a w.drew) (hstep : oneWriter ops N = true → ∀ i, i < ops.size → StepB P ops Q N S U V (fun t => a.tmps.getD t undef) i)
    (hend : ∀ (x : Nat → Value) w', S (fun j => decide (j < ops.size)) w' → (∀ t, t < N → U (fun j => decide (j < ops.size)) t w' (x t)) → (∀ t, wrote ops t = none → x t = a.tmps.getD t undef) → Q .normal (frameD N x) w') :
    (Code.region id ops true).wp P Q a w := by
  refine wp_region_any hm ?_
  refine any_midB h2 (hstep h1) hend ops.size _ a _ ?_ h0
  unfold restD
  exact Nat.le_trans (List.length_filter_le _ _) (by simp)
theorem closed_start (ops : Array Oper) : ClosedB ops (Array.replicate ops.size false) := by
  intro j hj
  rw [Array.getD_eq_getD_getElem?, Array.getElem?_replicate] at hj
  split at hj <;> cases hj
theorem start_been (ops : Array Oper) : been (Array.replicate ops.size false) = fun _ => false := by
  funext k
  unfold been
  rw [Array.getD_eq_getD_getElem?, Array.getElem?_replicate]
  split <;> rfl
/-- The start of the region. -/
theorem midB_start {a : Act} {w : World} (h1 : a.tmps.size = N) (h2 : a.defers = []) (hS : S (fun _ => false) w) (hU : ∀ t, t < N → hasIt ops (Array.replicate ops.size false) t = true → U (fun _ => false) t w (a.tmps.getD t undef)) (hV : ∀ t, V t (a.tmps.getD t undef)) : MidB ops N S U V (fun t => a.tmps.getD t undef) (Array.replicate ops.size false) a w :=
  ⟨by simp, h1, h2, closed_start ops, by rw [start_been]; exact hS, by rw [start_been]; exact hU, fun t _ _ _ => hV t, fun _ _ => rfl⟩
/-- Slots that are read before the region writes them. -/
def oldOk (ops : Array Oper) (i : Nat) (olds : List Nat) : Bool := olds.all fun t => match wrote ops t with | some j => isAnc ops j i | none => false
theorem midB_old {listed : Array Bool} {a : Act} {w : World} {i : Nat} {olds : List Nat} (hM : MidB ops N S U V A listed a w) (hi : i ∈ Region.ready .any ops listed) (hn : oldOk ops i olds = true) :
    ∀ t ∈ olds, V t (a.tmps.getD t undef) := by
  intro t ht
  have q := List.all_eq_true.1 hn t ht
  cases hw : wrote ops t with
  | none => rw [hw] at q; cases q
  | some j =>
    rw [hw] at q
    exact hM.old t j hw (pre_false hM.cl q hi)

theorem midB_need {listed : Array Bool} {a : Act} {w : World} {i : Nat} {need : List Nat} (hM : MidB ops N S U V A listed a w) (hi : i ∈ Region.ready .any ops listed) (hn : needOk ops N i need = true) :
    ∀ t ∈ need, U (been listed) t w (a.tmps.getD t undef) := by
  intro t ht
  unfold needOk at hn
  obtain ⟨_, o, ho, hdep⟩ := mem_ready.1 hi
  rw [ho] at hn
  have q := List.all_eq_true.1 hn t ht
  have k1 : t < N := by
    have := (Bool.and_eq_true_iff.1 q).1
    simpa using this
  refine hM.val t k1 ?_
  unfold hasIt
  have k2 := (Bool.and_eq_true_iff.1 q).2
  cases hw : wrote ops t with
  | none => rfl
  | some j =>
    rw [hw] at k2
    simp only at k2 ⊢
    obtain ⟨r, hr, hk⟩ := Array.any_eq_true.1 k2
    have hk2 := Bool.and_eq_true_iff.1 hk
    have e1 : (o.after[r]).on = j := by simpa using hk2.1
    rw [← e1]
    exact hdep _ (Array.getElem_mem hr) hk2.2
/-- What an operation has to show: with the slots that it needs, where those of pre are still to come and those of post have been. -/
theorem stepB_of {i : Nat} {o : Oper} {d : Option Nat} (pre post need olds : List Nat) (h1 : oneWriter ops N = true) (ho : ops[i]? = some o) (hd : o.dst = d) (hn : needOk ops N i need = true) (hno : oldOk ops i olds = true)
    (hpre : (pre.all fun k => (k == i) || isAnc ops k i) = true) (hpost : (post.all fun k => isAnc ops i k) = true)
    (h : ∀ (σ : Nat → Bool), (∀ k ∈ pre, σ k = false) → (∀ k ∈ post, σ k = true) → ∀ (x : Nat → Value) (w : World), S σ w → (∀ t ∈ need, U σ t w (x t)) → (∀ t ∈ olds, V t (x t)) → (∀ t, wrote ops t = none → x t = A t) → ∀ Lv : Nat → Prop, (∀ t, Lv t → livB ops i t = true) → ∀ K : Act → World → Prop,
      (∀ v w', S (upB σ i) w' → (∀ t u, Lv t → U σ t w u → U (upB σ i) t w' u) → (∀ e, d = some e → U (upB σ i) e w' v) → K ((frameD N x).put d v) w') → wpOp P ops Q i K (frameD N x) w) : StepB P ops Q N S U V A i := by
  intro listed a w hMid hi
  have hx := frameD_of hMid.tmps hMid.defers
  have hne := midB_need hMid hi hn
  have hg := h (been listed) (fun k hk => by
    have q := List.all_eq_true.1 hpre k hk
    rcases Bool.or_eq_true_iff.1 q with e | e
    · rw [eq_of_beq e]; exact getD_tf (ready_not hi)
    · exact pre_false hMid.cl e hi) (fun k hk => post_true hMid.cl (List.all_eq_true.1 hpost k hk) hi) (fun t => a.tmps.getD t undef) w hMid.st hne (midB_old hMid hi hno) hMid.kp (fun t => livB ops i t = true) (fun _ h => h) (MidB ops N S U V A (listed.setIfInBounds i true)) (fun v w' hS hm hv => by
    rw [← hx, ← hd]
    exact hMid.put h1 ho hi hS hm (fun e he => hv e (hd ▸ he)))
  rw [← hx] at hg
  exact hg
end
end Go.Proofs.YtfbijdoomkgodaaGreatDoor

/-! append as one operation of a drawn region that is told slot by slot. No program here. -/
namespace Go.Proofs.YtfbijdoomkgodaaGreatDoor
open Go

section
variable {P : Program} {ops : Array Oper} {Q : Exit → Act → World → Prop} (w : World)
end
end Go.Proofs.YtfbijdoomkgodaaGreatDoor

/-! CpS; GtA: texts of one kind in one file; each part says what it holds. -/

/-! Strings appended onto an empty row of the call's own; blocks and rows beside a store. No program's function is walked here. -/
namespace Go.Proofs.YtfbijdoomkgodaaGreatDoor
open Go.RowKit

theorem Bk.grow {w w' : World} {B : Nat} {cs : Array Value} {t : TypeId} {row : Option Nat} (h : Bk w B cs t) (hg : w.grownBy w' row) (hne : some B ≠ row) : Bk w' B cs t := (hg.block B h.lt hne).trans h
section
variable {P : Program} {ops : Array Oper} {Q : Exit → Act → World → Prop} (w : World)
end
theorem heap_far {w : World} {B b j : Nat} {v : Value} (h : B ≠ b) : (w.setCell ⟨B, j, none⟩ v).heap[b]? = w.heap[b]? := by
  simp [World.setCell, Array.getElem?_modify, h]
/-- What lies inside a node: labels in a row of the call's own, properties. -/
def NodeIn (n : Nd) (m : AC × AC) (lo : Nat) (w : World) : Prop := SlS w m.1.1 n.ls m.1.2 ∧ SlP w m.2.1 n.ps m.2.2 ∧ w.ownsRow lo 9 1 (.slice m.1.1 n.ls.length m.1.2) n.ls.length (sC n.ls)
abbrev NMe := (AC × AC) × Nat × Nat
/-- A node whose inside lies in the blocks from lo to hi. -/
def LNi : Lay Nd NMe where
  size := 3
  C n m := [.int .i64 n.id, .slice m.1.1.1 n.ls.length m.1.1.2, .slice m.1.2.1 n.ps.length m.1.2.2]
  I n := I64 n.id
  J n m w := ∀ w2 : World, (∀ b, m.2.1 ≤ b → b < m.2.2 → w2.heap[b]? = w.heap[b]?) → NodeIn n m.1 m.2.1 w2
  P := NC
  len _ _ := rfl
  pos := by decide
  row w n m b o h1 h2 hc := by
    obtain ⟨k1, k2, -⟩ := h2 w fun _ _ _ => rfl
    exact ⟨h1, hc 0 (by decide), ⟨_, _, hc 1 (by decide), k1⟩, _, _, hc 2 (by decide), k2⟩
theorem LNi.on {n : Nd} {m : NMe} {w w' : World} (h : LNi.J n m w) (hb : ∀ b, m.2.1 ≤ b → b < m.2.2 → w'.heap[b]? = w.heap[b]?) : LNi.J n m w' := fun w2 h2 => h w2 fun b h1 h3 => (h2 b h1 h3).trans (hb b h1 h3)
end Go.Proofs.YtfbijdoomkgodaaGreatDoor

/-! Package graph: Same of any two graphs in memory; slices.EqualFunc given what its function answers of each pair. Nothing that was there turns. -/
namespace Go.Proofs.YtfbijdoomkgodaaGreatDoor
open Go.RowKit

/-- A row of structs, told by their cells. -/
structure CRow (size : Nat) (w : World) (ao : Option Addr) (us : List (List Value)) : Prop where
  len : us.length ≤ 9223372036854775807
  sz : ∀ (i : Nat) (h : i < us.length), us[i].length = size
  at_ : 0 < us.length → ∃ b o, ao = some ⟨b, o, none⟩ ∧ ∀ (i : Nat) (h : i < us.length) (j : Nat), j < size → w.cell? ⟨b, o + i * size + j, none⟩ = us[i][j]?
theorem CRow.on {size : Nat} {w w' : World} {ao : Option Addr} {us : List (List Value)} (h : CRow size w ao us) (hf : Fuw w w') : CRow size w' ao us :=
  ⟨h.len, h.sz, fun hp => by
    obtain ⟨b, o, e, hc⟩ := h.at_ hp
    refine ⟨b, o, e, fun i hi j hj => ?_⟩
    have k := hc i hi j hj
    rw [List.getElem?_eq_getElem (by rw [h.sz i hi]; exact hj)] at k ⊢
    exact cellOnw hf k⟩
end Go.Proofs.YtfbijdoomkgodaaGreatDoor
