/-
  CpG; DagA: texts of one kind in one file; each part says what it holds.
-/
import Derived.Test.YtkcmakfmeioakaaGreatM24
import Derived.Test.YtkcmakfmeioakaaGreatM05
import Derived.Orders
import Derived.RegionTactic

/-! Slices of structs that a call has built: properties, nodes and edges, each with what lies inside it. No program's function is walked here. -/
namespace Go.Proofs.YtkcmakfmeioakaaGreat
open Go.RowKit

/-- How elements lie in a row: how many cells, which, what is known of the element, of what lies inside it, and what then holds of the cells. -/
structure Lay (α β : Type) where
  size : Nat
  C : α → β → List Value
  I : α → Prop
  J : α → β → World → Prop
  P : World → α → Nat → Nat → Prop
  len : ∀ x m, (C x m).length = size
  pos : 0 < size
  row : ∀ w x m b o, I x → J x m w → (∀ j, j < size → w.cell? ⟨b, o + j, none⟩ = (C x m)[j]?) → P w x b o
section
variable {α β : Type} (Y : Lay α β)
def Lay.cs (ps : List (α × β)) : List Value := ps.flatMap fun p => Y.C p.1 p.2
theorem Lay.cs_app (a b : List (α × β)) : Y.cs (a ++ b) = Y.cs a ++ Y.cs b := by unfold Lay.cs; rw [List.flatMap_append]
theorem Lay.cs_one (p : α × β) : Y.cs [p] = Y.C p.1 p.2 := by unfold Lay.cs; simp
theorem Lay.cs_len : ∀ ps : List (α × β), (Y.cs ps).length = ps.length * Y.size
  | [] => by unfold Lay.cs; simp
  | p :: r => by
    show (Y.C p.1 p.2 ++ Y.cs r).length = _
    rw [List.length_append, Lay.cs_len r, List.length_cons, Y.len, Nat.add_mul, Nat.one_mul, Nat.add_comm]
theorem Lay.cs_get : ∀ (ps : List (α × β)) (i j : Nat) (h : i < ps.length), j < Y.size → (Y.cs ps)[i * Y.size + j]? = (Y.C ps[i].1 ps[i].2)[j]?
  | p :: r, 0, j, _, hj => by
    show (Y.C p.1 p.2 ++ Y.cs r)[0 * Y.size + j]? = _
    rw [Nat.zero_mul, Nat.zero_add, List.getElem?_append_left (by rw [Y.len]; exact hj)]
    rfl
  | p :: r, i + 1, j, h, hj => by
    show (Y.C p.1 p.2 ++ Y.cs r)[(i + 1) * Y.size + j]? = _
    have e : (i + 1) * Y.size + j = Y.size + (i * Y.size + j) := by rw [Nat.add_mul, Nat.one_mul]; omega
    rw [e, List.getElem?_append_right (by rw [Y.len]; omega), Y.len, Nat.add_sub_cancel_left, Lay.cs_get r i j (by simpa using h) hj]
    rfl
/-- What lies inside the elements. -/
def Lay.Ns (ps : List (α × β)) (w : World) : Prop := ∀ p ∈ ps, Y.J p.1 p.2 w
theorem Lay.Ns_nil (w : World) : Y.Ns [] w := fun _ h => by cases h
variable {Y}
theorem Lay.Ns_snoc {ps : List (α × β)} {p : α × β} {w : World} (h : Y.Ns ps w) (k : Y.J p.1 p.2 w) : Y.Ns (ps ++ [p]) w := fun q hq => by
  rcases List.mem_append.1 hq with e | e
  · exact h q e
  · rw [List.mem_singleton] at e; subst e; exact k
theorem Lay.sl_own {T : TypeId} {w : World} {base : Nat} {v : Value} {n : Nat} {ps : List (α × β)} (h : w.ownsRow base T Y.size v n (Y.cs ps)) (hv : ∀ p ∈ ps, Y.I p.1) (hn : Y.Ns ps w) :
    ∃ ao cap, v = .slice ao ps.length cap ∧ n = ps.length ∧ Sl Y.size Y.P w ao (ps.map Prod.fst) cap := by
  have hl := h.1
  rw [Y.cs_len] at hl
  obtain rfl : n = ps.length := (Nat.eq_of_mul_eq_mul_right Y.pos hl).symm
  rcases h.2 with ⟨rfl, h0⟩ | ⟨g, cap, cur, rfl, hb, hh, h1, h2, h3, h4⟩
  · have e : ps = [] := List.eq_nil_of_length_eq_zero h0
    subst e
    exact ⟨none, 0, rfl, rfl, Sl.empty _⟩
  · refine ⟨_, cap, rfl, rfl, by rw [List.length_map]; exact h1, h2, (fun k => by cases k), fun _ => ⟨g, 0, rfl, fun i hi => ?_⟩⟩
    rw [List.length_map] at hi
    rw [List.getElem_map]
    have hm : ps[i] ∈ ps := List.getElem_mem hi
    refine Y.row w _ _ g _ (hv _ hm) (hn _ hm) fun j hj => ?_
    have k := h.cellAt (i * Y.size + j) (by
      calc i * Y.size + j < i * Y.size + Y.size := by omega
        _ = (i + 1) * Y.size := by rw [Nat.add_mul, Nat.one_mul]
        _ ≤ ps.length * Y.size := Nat.mul_le_mul_right _ hi)
    rw [Y.cs_get ps i j hi hj] at k
    rwa [Nat.zero_add]
/-- A list so built. -/
def Lay.Built (Y : Lay α β) (lo : Nat) (l : List α) (v : Value) (w : World) : Prop := ∃ ao cap, v = .slice ao l.length cap ∧ Kb lo none w (fun w2 => Sl Y.size Y.P w2 ao l cap)
theorem Lay.built_own {T : TypeId} {w : World} {base : Nat} {v : Value} {n : Nat} {ps : List (α × β)} (h : w.ownsRow base T Y.size v n (Y.cs ps)) (hv : ∀ p ∈ ps, Y.I p.1) (hn : Kb base v.ownBlock w (Y.Ns ps)) : Y.Built base (ps.map Prod.fst) v w := by
  obtain ⟨ao, cap, e, e2, -⟩ := Lay.sl_own h hv hn.now
  refine ⟨ao, cap, by rw [List.length_map]; exact e, fun w2 h2 => ?_⟩
  have ho : w2.ownsRow base T Y.size v n (Y.cs ps) := own_heap h fun g hg => h2 g (h.lt g hg).1 (h.lt g hg).2 (by intro q; cases q)
  obtain ⟨ao', cap', e', -, hs⟩ := Lay.sl_own ho hv (hn w2 fun b h1 hlt _ => h2 b h1 hlt (by intro q; cases q))
  rw [e] at e'
  cases e'
  exact hs
end
theorem take_fsts {α β : Type} {l : List α} {ps : List (α × β)} {i : Nat} (h : l.take i = ps.map Prod.fst) (hi : i < l.length) (m : β) : l.take (i + 1) = (ps ++ [(l[i], m)]).map Prod.fst := by
  rw [List.take_succ_eq_append_getElem hi, h, List.map_append]; rfl
/-! The three. -/
abbrev AC := Option Addr × Nat
def pC (p : Pp) (m : AC) : List Value := .string (bs p.k) :: vC p.v m.1 m.2
def LP : Lay Pp AC where
  size := 6
  C := pC
  I p := p.k.length ≤ maxLen ∧ Vin p.v
  J p m w := SlV w m.1 p.v.ll m.2
  P := PC
  len _ _ := rfl
  pos := by decide
  row w p m b o h1 h2 hc := ⟨h1.1, hc 0 (by decide), VC_mk h1.2 (hc 1 (by decide)) (hc 2 (by decide)) (hc 3 (by decide)) (hc 4 (by decide)) (hc 5 (by decide)) h2⟩
def LN : Lay Nd (AC × AC) where
  size := 3
  C n m := [.int .i64 n.id, .slice m.1.1 n.ls.length m.1.2, .slice m.2.1 n.ps.length m.2.2]
  I n := I64 n.id
  J n m w := SlS w m.1.1 n.ls m.1.2 ∧ SlP w m.2.1 n.ps m.2.2
  P := NC
  len _ _ := rfl
  pos := by decide
  row w n m b o h1 h2 hc := ⟨h1, hc 0 (by decide), ⟨_, _, hc 1 (by decide), h2.1⟩, _, _, hc 2 (by decide), h2.2⟩
def LE : Lay Ed AC where
  size := 5
  C e m := [.int .i64 e.id, .int .i64 e.fr, .int .i64 e.to, .string (bs e.ty), .slice m.1 e.ps.length m.2]
  I e := I64 e.id ∧ I64 e.fr ∧ I64 e.to ∧ e.ty.length ≤ maxLen
  J e m w := SlP w m.1 e.ps m.2
  P := EC
  len _ _ := rfl
  pos := by decide
  row w e m b o h1 h2 hc := ⟨h1.1, h1.2.1, h1.2.2.1, h1.2.2.2, hc 0 (by decide), hc 1 (by decide), hc 2 (by decide), hc 3 (by decide), _, _, hc 4 (by decide), h2⟩
theorem PC_in {w : World} {p : Pp} {b o : Nat} (h : PC w p b o) : LP.I p := ⟨h.1, (VC_of h.2.2).1⟩
theorem NC_in {w : World} {n : Nd} {b o : Nat} (h : NC w n b o) : LN.I n := h.1
theorem EC_in {w : World} {e : Ed} {b o : Nat} (h : EC w e b o) : LE.I e := ⟨h.1, h.2.1, h.2.2.1, h.2.2.2.1⟩
theorem Sl.ins {α : Type} {size : Nat} {P : World → α → Nat → Nat → Prop} {I : α → Prop} {w : World} {ao : Option Addr} {l : List α} {cap : Nat} (h : Sl size P w ao l cap) (hi : ∀ x b o, P w x b o → I x) : ∀ x ∈ l, I x := fun x hx => by
  obtain ⟨j, hj, rfl⟩ := List.getElem_of_mem hx
  obtain ⟨b, o, -, k⟩ := h.get hj
  exact hi _ _ _ k
end Go.Proofs.YtkcmakfmeioakaaGreat

/-! A region that draws its order, told by what each of its slots holds once it is written: every operation is looked at once, in whatever state the region may be in when it comes up, and not once for each order. No program here. -/
namespace Go.Proofs.YtkcmakfmeioakaaGreat
open Go

/-- The place in the region of the operation that writes slot t. -/
def wrote (ops : Array Oper) (t : Nat) : Option Nat := (List.range ops.size).find? fun i => (ops[i]?).bind (·.dst) == some t
/-- Slot t has its last value: no operation of the region writes it, or the one that does has been. -/
def hasIt (ops : Array Oper) (listed : Array Bool) (t : Nat) : Bool := match wrote ops t with | none => true | some i => listed.getD i false
/-- No two operations write one slot, and all slots lie in the frame. -/
def oneWriter (ops : Array Oper) (N : Nat) : Bool := (List.range ops.size).all fun i => match (ops[i]?).bind (·.dst) with | some d => decide (d < N) && (wrote ops d == some i) | none => true
/-- Each operation waits for earlier ones alone. -/
def backward (ops : Array Oper) : Bool := (List.range ops.size).all fun i => match ops[i]? with | some o => o.after.all fun e => decide (e.on < i) | none => true
/-- What operation i reads: slots that none writes, or that are written by operations for which it waits. -/
def needOk (ops : Array Oper) (N i : Nat) (need : List Nat) : Bool := match ops[i]? with
  | some o => need.all fun t => decide (t < N) && (match wrote ops t with | none => true | some j => o.after.any fun e => e.on == j && Region.binds .any e)
  | none => false

theorem wrote_some {ops : Array Oper} {t i : Nat} (h : wrote ops t = some i) : i < ops.size ∧ (ops[i]?).bind (·.dst) = some t := by
  unfold wrote at h
  have h1 := List.find?_some h
  have h2 := List.mem_of_find?_eq_some h
  exact ⟨List.mem_range.1 h2, by simpa using h1⟩

/-- The midst of a region. -/
structure Mid (ops : Array Oper) (N : Nat) (S : World → Prop) (U : Nat → World → Value → Prop) (listed : Array Bool) (a : Act) (w : World) : Prop where
  size : listed.size = ops.size
  tmps : a.tmps.size = N
  defers : a.defers = []
  st : S w
  val : ∀ t, t < N → hasIt ops listed t = true → U t w (a.tmps.getD t undef)

section
variable {P : Program} {ops : Array Oper} {Q : Exit → Act → World → Prop} {N : Nat} {S : World → Prop} {U : Nat → World → Value → Prop}

theorem Mid.put {listed : Array Bool} {a : Act} {w w' : World} {i d : Nat} {o : Oper} {v : Value} (h : Mid ops N S U listed a w) (h1 : oneWriter ops N = true) (ho : ops[i]? = some o) (hd : o.dst = some d)
    (hS : S w') (hm : ∀ t u, U t w u → U t w' u) (hv : U d w' v) : Mid ops N S U (listed.setIfInBounds i true) (a.put (some d) v) w' := by
  have hi : i < ops.size := (Array.getElem?_eq_some_iff.1 ho).1
  have h2 := List.all_eq_true.1 h1 i (List.mem_range.2 hi)
  have e0 : (ops[i]?).bind (·.dst) = some d := by rw [ho]; exact hd
  rw [e0] at h2
  have h3 : d < N ∧ wrote ops d = some i := by simpa using h2
  refine ⟨by simpa using h.size, by simpa [Act.put] using h.tmps, h.defers, hS, fun t ht hh => ?_⟩
  by_cases htd : t = d
  · subst htd
    have hb : t < a.tmps.size := by rw [h.tmps]; exact ht
    simpa [Act.put, Array.getD_eq_getD_getElem?, hb] using hv
  · have e1 : (a.put (some d) v).tmps.getD t undef = a.tmps.getD t undef := by
      simp [Act.put, Array.getD_eq_getD_getElem?, Ne.symm htd]
    rw [e1]
    refine hm t _ (h.val t ht ?_)
    unfold hasIt at hh ⊢
    cases hw : wrote ops t with
    | none => rfl
    | some j =>
      rw [hw] at hh
      simp only at hh ⊢
      have hji : i ≠ j := by
        rintro rfl
        have := (wrote_some hw).2
        rw [e0] at this
        exact htd (by injection this with k; exact k.symm)
      simpa [Array.getD_eq_getD_getElem?, Array.getElem?_setIfInBounds, hji] using hh

/-- Operation i may come up in whatever state the region is in. -/
def Step (P : Program) (ops : Array Oper) (Q : Exit → Act → World → Prop) (N : Nat) (S : World → Prop) (U : Nat → World → Value → Prop) (i : Nat) : Prop :=
  ∀ listed a w, Mid ops N S U listed a w → i ∈ Region.ready .any ops listed → wpOp P ops Q i (Mid ops N S U (listed.setIfInBounds i true)) a w

/-- How many operations are still to come. -/
def restD (ops : Array Oper) (listed : Array Bool) : Nat := ((List.range ops.size).filter fun i => !listed.getD i true).length
theorem restD_set {listed : Array Bool} {i : Nat} (hi : i ∈ Region.ready .any ops listed) : restD ops (listed.setIfInBounds i true) < restD ops listed := by
  have h0 := (mem_ready.1 hi).1
  have hs : i < ops.size := by
    obtain ⟨_, o, ho, _⟩ := mem_ready.1 hi
    exact (Array.getElem?_eq_some_iff.1 ho).1
  have hl : i < listed.size := by
    rcases Nat.lt_or_ge i listed.size with k | k
    · exact k
    · rw [Array.getD_eq_getD_getElem?, Array.getElem?_eq_none k] at h0; cases h0
  have gen : ∀ l : List Nat, (l.filter fun j => !(listed.setIfInBounds i true).getD j true).length ≤ (l.filter fun j => !listed.getD j true).length ∧
      (i ∈ l → (l.filter fun j => !(listed.setIfInBounds i true).getD j true).length < (l.filter fun j => !listed.getD j true).length) := by
    intro l
    induction l with
    | nil => exact ⟨Nat.le_refl _, fun h => by cases h⟩
    | cons j l ih =>
      obtain ⟨i1, i2⟩ := ih
      by_cases hji : i = j
      · subst hji
        have e1 : (listed.setIfInBounds i true).getD i true = true := by simp [Array.getD_eq_getD_getElem?, hl]
        simp only [List.filter_cons, e1, h0, Bool.not_true, Bool.not_false, if_true, Bool.false_eq_true, if_false, List.length_cons]
        exact ⟨by omega, fun _ => by omega⟩
      · have e1 : (listed.setIfInBounds i true).getD j true = listed.getD j true := by simp [Array.getD_eq_getD_getElem?, hji]
        simp only [List.filter_cons, e1]
        cases listed.getD j true
        · simp only [Bool.not_false, if_true, List.length_cons]
          refine ⟨by omega, fun h => ?_⟩
          rcases List.mem_cons.1 h with k | k
          · exact absurd k hji
          · have := i2 k; omega
        · simp only [Bool.not_true, Bool.false_eq_true, if_false]
          refine ⟨i1, fun h => ?_⟩
          rcases List.mem_cons.1 h with k | k
          · exact absurd k hji
          · exact i2 k
  exact (gen _).2 (List.mem_range.2 hs)

theorem all_there {listed : Array Bool} (h2 : backward ops = true) (hs : listed.size = ops.size) (hr : Region.ready .any ops listed = []) : ∀ i, i < ops.size → listed.getD i false = true := by
  intro i
  induction i using Nat.strongRecOn with
  | _ i ih =>
    intro hi
    cases hl : listed.getD i false
    · exfalso
      have hmem : i ∈ Region.ready .any ops listed := by
        refine mem_ready.2 ⟨?_, ops[i], Array.getElem?_eq_getElem hi, fun e he _ => ?_⟩
        · have hb : i < listed.size := by omega
          rw [Array.getD_eq_getD_getElem?, Array.getElem?_eq_getElem hb] at hl ⊢
          exact hl
        · have k := List.all_eq_true.1 h2 i (List.mem_range.2 hi)
          rw [Array.getElem?_eq_getElem hi] at k
          have k2 := Array.all_eq_true_iff_forall_mem.1 k e he
          have k3 : e.on < i := by simpa using k2
          exact ih e.on k3 (by omega)
      rw [hr] at hmem
      cases hmem
    · rfl

theorem any_mid (h2 : backward ops = true) (hstep : ∀ i, i < ops.size → Step P ops Q N S U i)
    (hend : ∀ a' w', a'.tmps.size = N → a'.defers = [] → S w' → (∀ t, t < N → U t w' (a'.tmps.getD t undef)) → Q .normal a' w') :
    ∀ (fuel : Nat) (listed : Array Bool) (a : Act) (w : World), restD ops listed ≤ fuel → Mid ops N S U listed a w → wpAny P .any ops Q fuel listed a w := by
  have fin : ∀ (listed : Array Bool) (a : Act) (w : World), Mid ops N S U listed a w → Region.ready .any ops listed = [] → Q .normal a w := fun listed a w hM hr =>
    hend a w hM.tmps hM.defers hM.st fun t ht => hM.val t ht (by
      unfold hasIt
      cases hw : wrote ops t with
      | none => rfl
      | some i => exact all_there h2 hM.size hr i (wrote_some hw).1)
  intro fuel
  induction fuel with
  | zero =>
    intro listed a w hl hM
    have hr : Region.ready .any ops listed = [] := by
      cases hq : Region.ready .any ops listed with
      | nil => rfl
      | cons i rs =>
        have := restD_set (ops := ops) (listed := listed) (i := i) (by rw [hq]; exact List.mem_cons_self)
        omega
    exact ⟨hr, fin listed a w hM hr⟩
  | succ fuel ih =>
    intro listed a w hl hM
    refine ⟨fin listed a w hM, fun i hi => ?_⟩
    have hs : i < ops.size := by
      obtain ⟨_, o, ho, _⟩ := mem_ready.1 hi
      exact (Array.getElem?_eq_some_iff.1 ho).1
    have hl2 := restD_set hi
    exact wpOp_mono (fun a w h => ih _ a w (by omega) h) (hstep i hs listed a w hM hi)

theorem region_mid {id : Nat} {a : Act} {w : World} (hm : P.follows .mixedOrders = true) (h2 : backward ops = true)
    (h0 : Mid ops N S U (Array.replicate ops.size false) a w.drew) (hstep : ∀ i, i < ops.size → Step P ops Q N S U i)
    (hend : ∀ a' w', a'.tmps.size = N → a'.defers = [] → S w' → (∀ t, t < N → U t w' (a'.tmps.getD t undef)) → Q .normal a' w') :
    (Code.region id ops true).wp P Q a w := by
  refine wp_region_any hm ?_
  refine any_mid h2 hstep hend ops.size _ a _ ?_ h0
  unfold restD
  exact Nat.le_trans (List.length_filter_le _ _) (by simp)

/-- A frame out of its slots. -/
def frameD (N : Nat) (x : Nat → Value) : Act := ⟨((List.range N).map x).toArray, []⟩
theorem frameD_of {a : Act} (h1 : a.tmps.size = N) (h2 : a.defers = []) : a = frameD N fun t => a.tmps.getD t undef := by
  obtain ⟨⟨l⟩, d⟩ := a
  simp only at h1 h2
  subst h2
  unfold frameD
  congr 1
  apply Array.ext
  · simp; simpa using h1
  · intro i h3 h4
    simp
    rw [List.getElem?_eq_getElem (by simpa using h3)]
    rfl

theorem step_of {i d : Nat} {o : Oper} (need : List Nat) (h1 : oneWriter ops N = true) (ho : ops[i]? = some o) (hd : o.dst = some d) (hn : needOk ops N i need = true)
    (h : ∀ (x : Nat → Value) (w : World), S w → (∀ t ∈ need, U t w (x t)) → ∀ K : Act → World → Prop,
      (∀ v w', S w' → (∀ t u, U t w u → U t w' u) → U d w' v → K ((frameD N x).put (some d) v) w') → wpOp P ops Q i K (frameD N x) w) : Step P ops Q N S U i := by
  intro listed a w hM hi
  have hx := frameD_of hM.tmps hM.defers
  rw [hx]
  rw [hx] at hM
  refine h _ w hM.st (fun t ht => ?_) _ fun v w' hS hm hv => hM.put h1 ho hd hS hm hv
  unfold needOk at hn
  rw [ho] at hn
  have k := List.all_eq_true.1 hn t ht
  have k1 : t < N := by
    have := (Bool.and_eq_true_iff.1 k).1
    simpa using this
  have hv := hM.val t k1 (by
    unfold hasIt
    have k2 := (Bool.and_eq_true_iff.1 k).2
    cases hw : wrote ops t with
    | none => rfl
    | some j =>
      rw [hw] at k2
      simp only at k2 ⊢
      obtain ⟨_, o', ho', hdep⟩ := mem_ready.1 hi
      have eo : o' = o := by rw [ho] at ho'; injection ho' with e; exact e.symm
      subst eo
      obtain ⟨q, hq, hk⟩ := Array.any_eq_true.1 k2
      have hk2 := Bool.and_eq_true_iff.1 hk
      have e1 : (o'.after[q]).on = j := by simpa using hk2.1
      rw [← e1]
      exact hdep _ (Array.getElem_mem hq) hk2.2)
  have e2 : (frameD N fun t => a.tmps.getD t undef).tmps.getD t undef = a.tmps.getD t undef := by rw [← hx]
  rw [e2] at hv
  exact hv
end
/-- Of which slots it must be told what they hold at the start. -/
def startOk (ops : Array Oper) (N : Nat) (ks L : List Nat) : Bool := (List.range N).all fun t => !hasIt ops (Array.replicate ops.size false) t || ks.getD t 0 == 0 || L.contains t
theorem start_of {ops : Array Oper} {N : Nat} {ks L : List Nat} (h : startOk ops N ks L = true) : ∀ t, t < N → hasIt ops (Array.replicate ops.size false) t = true → ks.getD t 0 = 0 ∨ t ∈ L := by
  intro t ht hh
  have k := List.all_eq_true.1 h t (List.mem_range.2 ht)
  rw [hh] at k
  rcases Bool.or_eq_true_iff.1 k with k | k
  · exact .inl (by simpa using k)
  · exact .inr (List.contains_iff_mem.1 k)
theorem upto_nil {p : Nat → Prop} : ∀ i, i < 0 → p i := fun _ h => absurd h (by omega)
theorem upto_succ {p : Nat → Prop} {n : Nat} (h : ∀ i, i < n → p i) (hn : p n) : ∀ i, i < n + 1 → p i := fun i hi => by
  rcases Nat.lt_or_ge i n with k | k
  · exact h i k
  · have e : i = n := by omega
    subst e
    exact hn
end Go.Proofs.YtkcmakfmeioakaaGreat
