/-
  DagA; DagB; MemB; CpM; CpA: texts of one kind in one file; each part says what it holds.
-/
import Derived.Orders
import Derived.RegionTactic
import Derived.Test.YteonkiajgfkieaaGreatDoorM05
import Derived.Lib.Hide
import Derived.Deep.Cut
import Derived.Deep.CutBlock
import Derived.Deep.CutRange
import Derived.Deep.LoopGhost
import Derived.Deep.RegionHeld3
import Derived.Deep.RegionWith
import Derived.Laws.Cover1
import Derived.Laws.MakeOwn
import Derived.Laws.OwnMore
import Derived.Laws.AppendOwnNone
import Derived.Laws.ResultCell
import Derived.Maps.AppendAt
import Derived.Deep.AppendLies

/-! A region that draws its order, told by what each of its slots holds once it is written: every operation is looked at once, in whatever state the region may be in when it comes up, and not once for each order. No program here. -/
namespace Go.Proofs.YteonkiajgfkieaaGreatDoor
open Go

/-- The place in the region of the operation that writes slot t. -/
def wrote (ops : Array Oper) (t : Nat) : Option Nat := (List.range ops.size).find? fun i => (ops[i]?).bind (·.dst) == some t
/-- Slot t has its last value: no operation of the region writes it, or the one that does has been. -/
def hasIt (ops : Array Oper) (listed : Array Bool) (t : Nat) : Bool := match wrote ops t with | none => true | some i => listed.getD i false
/-- No two operations write one slot, and all slots lie in the frame. -/
def oneWriter (ops : Array Oper) (N : Nat) : Bool := (List.range ops.size).all fun i => match (ops[i]?).bind (·.dst) with | some d => decide (d < N) && (wrote ops d == some i) | none => true
/-- Each operation waits for earlier ones alone. -/
def backward (ops : Array Oper) : Bool := (List.range ops.size).all fun i => match ops[i]? with | some o => o.after.all fun e => decide (e.on < i) | none => true
/-- What operation i reads: slots that none writes, or that are written by operations for which it waits. -/
def needOk (ops : Array Oper) (N i : Nat) (need : List Nat) : Bool := match ops[i]? with
  | some o => need.all fun t => decide (t < N) && (match wrote ops t with | none => true | some j => o.after.any fun e => e.on == j && Region.binds .any e)
  | none => false

theorem wrote_some {ops : Array Oper} {t i : Nat} (h : wrote ops t = some i) : i < ops.size ∧ (ops[i]?).bind (·.dst) = some t := by
  unfold wrote at h
  have h1 := List.find?_some h
  have h2 := List.mem_of_find?_eq_some h
  exact ⟨List.mem_range.1 h2, by simpa using h1⟩

/-- The midst of a region. -/
structure Mid (ops : Array Oper) (N : Nat) (S : World → Prop) (U : Nat → World → Value → Prop) (listed : Array Bool) (a : Act) (w : World) : Prop where
  size : listed.size = ops.size
  tmps : a.tmps.size = N
  defers : a.defers = []
  st : S w
  val : ∀ t, t < N → hasIt ops listed t = true → U t w (a.tmps.getD t undef)

section
variable {P : Program} {ops : Array Oper} {Q : Exit → Act → World → Prop} {N : Nat} {S : World → Prop} {U : Nat → World → Value → Prop}

theorem Mid.put {listed : Array Bool} {a : Act} {w w' : World} {i d : Nat} {o : Oper} {v : Value} (h : Mid ops N S U listed a w) (h1 : oneWriter ops N = true) (ho : ops[i]? = some o) (hd : o.dst = some d)
    (hS : S w') (hm : ∀ t u, U t w u → U t w' u) (hv : U d w' v) : Mid ops N S U (listed.setIfInBounds i true) (a.put (some d) v) w' := by
  have hi : i < ops.size := (Array.getElem?_eq_some_iff.1 ho).1
  have h2 := List.all_eq_true.1 h1 i (List.mem_range.2 hi)
  have e0 : (ops[i]?).bind (·.dst) = some d := by rw [ho]; exact hd
  rw [e0] at h2
  have h3 : d < N ∧ wrote ops d = some i := by simpa using h2
  refine ⟨by simpa using h.size, by simpa [Act.put] using h.tmps, h.defers, hS, fun t ht hh => ?_⟩
  by_cases htd : t = d
  · subst htd
    have hb : t < a.tmps.size := by rw [h.tmps]; exact ht
    simpa [Act.put, Array.getD_eq_getD_getElem?, hb] using hv
  · have e1 : (a.put (some d) v).tmps.getD t undef = a.tmps.getD t undef := by
      simp [Act.put, Array.getD_eq_getD_getElem?, Ne.symm htd]
    rw [e1]
    refine hm t _ (h.val t ht ?_)
    unfold hasIt at hh ⊢
    cases hw : wrote ops t with
    | none => rfl
    | some j =>
      rw [hw] at hh
      simp only at hh ⊢
      have hji : i ≠ j := by
        rintro rfl
        have := (wrote_some hw).2
        rw [e0] at this
        exact htd (by injection this with k; exact k.symm)
      simpa [Array.getD_eq_getD_getElem?, Array.getElem?_setIfInBounds, hji] using hh

/-- Operation i may come up in whatever state the region is in. -/
def Step (P : Program) (ops : Array Oper) (Q : Exit → Act → World → Prop) (N : Nat) (S : World → Prop) (U : Nat → World → Value → Prop) (i : Nat) : Prop :=
  ∀ listed a w, Mid ops N S U listed a w → i ∈ Region.ready .any ops listed → wpOp P ops Q i (Mid ops N S U (listed.setIfInBounds i true)) a w

/-- How many operations are still to come. -/
def restD (ops : Array Oper) (listed : Array Bool) : Nat := ((List.range ops.size).filter fun i => !listed.getD i true).length
theorem restD_set {listed : Array Bool} {i : Nat} (hi : i ∈ Region.ready .any ops listed) : restD ops (listed.setIfInBounds i true) < restD ops listed := by
  have h0 := (mem_ready.1 hi).1
  have hs : i < ops.size := by
    obtain ⟨_, o, ho, _⟩ := mem_ready.1 hi
    exact (Array.getElem?_eq_some_iff.1 ho).1
  have hl : i < listed.size := by
    rcases Nat.lt_or_ge i listed.size with k | k
    · exact k
    · rw [Array.getD_eq_getD_getElem?, Array.getElem?_eq_none k] at h0; cases h0
  have gen : ∀ l : List Nat, (l.filter fun j => !(listed.setIfInBounds i true).getD j true).length ≤ (l.filter fun j => !listed.getD j true).length ∧
      (i ∈ l → (l.filter fun j => !(listed.setIfInBounds i true).getD j true).length < (l.filter fun j => !listed.getD j true).length) := by
    intro l
    induction l with
    | nil => exact ⟨Nat.le_refl _, fun h => by cases h⟩
    | cons j l ih =>
      obtain ⟨i1, i2⟩ := ih
      by_cases hji : i = j
      · subst hji
        have e1 : (listed.setIfInBounds i true).getD i true = true := by simp [Array.getD_eq_getD_getElem?, hl]
        simp only [List.filter_cons, e1, h0, Bool.not_true, Bool.not_false, if_true, Bool.false_eq_true, if_false, List.length_cons]
        exact ⟨by omega, fun _ => by omega⟩
      · have e1 : (listed.setIfInBounds i true).getD j true = listed.getD j true := by simp [Array.getD_eq_getD_getElem?, hji]
        simp only [List.filter_cons, e1]
        cases listed.getD j true
        · simp only [Bool.not_false, if_true, List.length_cons]
          refine ⟨by omega, fun h => ?_⟩
          rcases List.mem_cons.1 h with k | k
          · exact absurd k hji
          · have := i2 k; omega
        · simp only [Bool.not_true, Bool.false_eq_true, if_false]
          refine ⟨i1, fun h => ?_⟩
          rcases List.mem_cons.1 h with k | k
          · exact absurd k hji
          · exact i2 k
  exact (gen _).2 (List.mem_range.2 hs)

theorem all_there {listed : Array Bool} (h2 : backward ops = true) (hs : listed.size = ops.size) (hr : Region.ready .any ops listed = []) : ∀ i, i < ops.size → listed.getD i false = true := by
  intro i
  induction i using Nat.strongRecOn with
  | _ i ih =>
    intro hi
    cases hl : listed.getD i false
    · exfalso
      have hmem : i ∈ Region.ready .any ops listed := by
        refine mem_ready.2 ⟨?_, ops[i], Array.getElem?_eq_getElem hi, fun e he _ => ?_⟩
        · have hb : i < listed.size := by omega
          rw [Array.getD_eq_getD_getElem?, Array.getElem?_eq_getElem hb] at hl ⊢
          exact hl
        · have k := List.all_eq_true.1 h2 i (List.mem_range.2 hi)
          rw [Array.getElem?_eq_getElem hi] at k
          have k2 := Array.all_eq_true_iff_forall_mem.1 k e he
          have k3 : e.on < i := by simpa using k2
          exact ih e.on k3 (by omega)
      rw [hr] at hmem
      cases hmem
    · rfl

theorem any_mid (h2 : backward ops = true) (hstep : ∀ i, i < ops.size → Step P ops Q N S U i)
    (hend : ∀ a' w', a'.tmps.size = N → a'.defers = [] → S w' → (∀ t, t < N → U t w' (a'.tmps.getD t undef)) → Q .normal a' w') :
    ∀ (fuel : Nat) (listed : Array Bool) (a : Act) (w : World), restD ops listed ≤ fuel → Mid ops N S U listed a w → wpAny P .any ops Q fuel listed a w := by
  have fin : ∀ (listed : Array Bool) (a : Act) (w : World), Mid ops N S U listed a w → Region.ready .any ops listed = [] → Q .normal a w := fun listed a w hM hr =>
    hend a w hM.tmps hM.defers hM.st fun t ht => hM.val t ht (by
      unfold hasIt
      cases hw : wrote ops t with
      | none => rfl
      | some i => exact all_there h2 hM.size hr i (wrote_some hw).1)
  intro fuel
  induction fuel with
  | zero =>
    intro listed a w hl hM
    have hr : Region.ready .any ops listed = [] := by
      cases hq : Region.ready .any ops listed with
      | nil => rfl
      | cons i rs =>
        have := restD_set (ops := ops) (listed := listed) (i := i) (by rw [hq]; exact List.mem_cons_self)
        omega
    exact ⟨hr, fin listed a w hM hr⟩
  | succ fuel ih =>
    intro listed a w hl hM
    refine ⟨fin listed a w hM, fun i hi => ?_⟩
    have hs : i < ops.size := by
      obtain ⟨_, o, ho, _⟩ := mem_ready.1 hi
      exact (Array.getElem?_eq_some_iff.1 ho).1
    have hl2 := restD_set hi
    exact wpOp_mono (fun a w h => ih _ a w (by omega) h) (hstep i hs listed a w hM hi)

theorem region_mid {id : Nat} {a : Act} {w : World} (hm : P.follows .mixedOrders = true) (h2 : backward ops = true)
    (h0 : Mid ops N S U (Array.replicate ops.size false) a w.drew) (hstep : ∀ i, i < ops.size → Step P ops Q N S U i)
    (hend : ∀ a' w', a'.tmps.size = N → a'.defers = [] → S w' → (∀ t, t < N → U t w' (a'.tmps.getD t undef)) → Q .normal a' w') :
    (Code.region id ops true).wp P Q a w := by
  refine wp_region_any hm ?_
  refine any_mid h2 hstep hend ops.size _ a _ ?_ h0
  unfold restD
  exact Nat.le_trans (List.length_filter_le _ _) (by simp)

/-- A frame out of its slots. -/
def frameD (N : Nat) (x : Nat → Value) : Act := ⟨((List.range N).map x).toArray, []⟩
theorem frameD_of {a : Act} (h1 : a.tmps.size = N) (h2 : a.defers = []) : a = frameD N fun t => a.tmps.getD t undef := by
  obtain ⟨⟨l⟩, d⟩ := a
  simp only at h1 h2
  subst h2
  unfold frameD
  congr 1
  apply Array.ext
  · simp; simpa using h1
  · intro i h3 h4
    simp
    rw [List.getElem?_eq_getElem (by simpa using h3)]
    rfl

theorem step_of {i d : Nat} {o : Oper} (need : List Nat) (h1 : oneWriter ops N = true) (ho : ops[i]? = some o) (hd : o.dst = some d) (hn : needOk ops N i need = true)
    (h : ∀ (x : Nat → Value) (w : World), S w → (∀ t ∈ need, U t w (x t)) → ∀ K : Act → World → Prop,
      (∀ v w', S w' → (∀ t u, U t w u → U t w' u) → U d w' v → K ((frameD N x).put (some d) v) w') → wpOp P ops Q i K (frameD N x) w) : Step P ops Q N S U i := by
  intro listed a w hM hi
  have hx := frameD_of hM.tmps hM.defers
  rw [hx]
  rw [hx] at hM
  refine h _ w hM.st (fun t ht => ?_) _ fun v w' hS hm hv => hM.put h1 ho hd hS hm hv
  unfold needOk at hn
  rw [ho] at hn
  have k := List.all_eq_true.1 hn t ht
  have k1 : t < N := by
    have := (Bool.and_eq_true_iff.1 k).1
    simpa using this
  have hv := hM.val t k1 (by
    unfold hasIt
    have k2 := (Bool.and_eq_true_iff.1 k).2
    cases hw : wrote ops t with
    | none => rfl
    | some j =>
      rw [hw] at k2
      simp only at k2 ⊢
      obtain ⟨_, o', ho', hdep⟩ := mem_ready.1 hi
      have eo : o' = o := by rw [ho] at ho'; injection ho' with e; exact e.symm
      subst eo
      obtain ⟨q, hq, hk⟩ := Array.any_eq_true.1 k2
      have hk2 := Bool.and_eq_true_iff.1 hk
      have e1 : (o'.after[q]).on = j := by simpa using hk2.1
      rw [← e1]
      exact hdep _ (Array.getElem_mem hq) hk2.2)
  have e2 : (frameD N fun t => a.tmps.getD t undef).tmps.getD t undef = a.tmps.getD t undef := by rw [← hx]
  rw [e2] at hv
  exact hv
end
/-- Of which slots it must be told what they hold at the start. -/
def startOk (ops : Array Oper) (N : Nat) (ks L : List Nat) : Bool := (List.range N).all fun t => !hasIt ops (Array.replicate ops.size false) t || ks.getD t 0 == 0 || L.contains t
theorem start_of {ops : Array Oper} {N : Nat} {ks L : List Nat} (h : startOk ops N ks L = true) : ∀ t, t < N → hasIt ops (Array.replicate ops.size false) t = true → ks.getD t 0 = 0 ∨ t ∈ L := by
  intro t ht hh
  have k := List.all_eq_true.1 h t (List.mem_range.2 ht)
  rw [hh] at k
  rcases Bool.or_eq_true_iff.1 k with k | k
  · exact .inl (by simpa using k)
  · exact .inr (List.contains_iff_mem.1 k)
theorem upto_nil {p : Nat → Prop} : ∀ i, i < 0 → p i := fun _ h => absurd h (by omega)
theorem upto_succ {p : Nat → Prop} {n : Nat} (h : ∀ i, i < n → p i) (hn : p n) : ∀ i, i < n + 1 → p i := fun i hi => by
  rcases Nat.lt_or_ge i n with k | k
  · exact h i k
  · have e : i = n := by omega
    subst e
    exact hn
end Go.Proofs.YteonkiajgfkieaaGreatDoor

/-! A region that draws its order and in which some operations turn memory that the others lean on (an append onto a row that was there, a store): what is known may name which operations have been. No program here. -/
namespace Go.Proofs.YteonkiajgfkieaaGreatDoor
open Go

/-- What operation i waits for. -/
def depsB (ops : Array Oper) (i : Nat) : List Nat := match ops[i]? with | some o => (o.after.toList.filter fun e => Region.binds .any e).map (·.on) | none => []
/-- Those of l, and what they wait for, and so on. -/
def ancL (ops : Array Oper) : Nat → List Nat → List Nat
  | 0, l => l
  | n + 1, l => ancL ops n ((l ++ l.flatMap (depsB ops)).eraseDups)
def ClosedB (ops : Array Oper) (listed : Array Bool) : Prop := ∀ j, listed.getD j false = true → ∀ e ∈ depsB ops j, listed.getD e false = true
theorem anc_listed {ops : Array Oper} {listed : Array Bool} (hc : ClosedB ops listed) : ∀ (n : Nat) (l : List Nat), (∀ i ∈ l, listed.getD i false = true) → ∀ i ∈ ancL ops n l, listed.getD i false = true
  | 0, _, h => h
  | n + 1, l, h => anc_listed hc n _ (fun i hi => by
    rw [List.mem_eraseDups] at hi
    rcases List.mem_append.1 hi with e | e
    · exact h i e
    · obtain ⟨j, hj, he⟩ := List.mem_flatMap.1 e
      exact hc j (h j hj) i he)
theorem deps_ready {ops : Array Oper} {listed : Array Bool} {i : Nat} (hi : i ∈ Region.ready .any ops listed) : ∀ e ∈ depsB ops i, listed.getD e false = true := by
  intro e he
  obtain ⟨_, o, ho, hd⟩ := mem_ready.1 hi
  unfold depsB at he
  rw [ho] at he
  simp only [List.mem_map, List.mem_filter] at he
  obtain ⟨q, ⟨hq, hb⟩, rfl⟩ := he
  exact hd q (Array.mem_toList_iff.1 hq) hb
theorem ready_not {ops : Array Oper} {listed : Array Bool} {i : Nat} (hi : i ∈ Region.ready .any ops listed) : listed.getD i true = false := (mem_ready.1 hi).1
theorem getD_tf {listed : Array Bool} {i : Nat} (h : listed.getD i true = false) : listed.getD i false = false := by
  rcases Nat.lt_or_ge i listed.size with k | k
  · rw [Array.getD_eq_getD_getElem?, Array.getElem?_eq_getElem k] at h ⊢; exact h
  · rw [Array.getD_eq_getD_getElem?, Array.getElem?_eq_none k] at h; cases h
/-- Operation k waits, by others, for i. -/
def isAnc (ops : Array Oper) (k i : Nat) : Bool := (ancL ops ops.size (depsB ops k)).contains i
theorem pre_false {ops : Array Oper} {listed : Array Bool} {k i : Nat} (hc : ClosedB ops listed) (ha : isAnc ops k i = true) (hi : i ∈ Region.ready .any ops listed) : listed.getD k false = false := by
  cases h : listed.getD k false
  · rfl
  · have := anc_listed hc ops.size (depsB ops k) (hc k h) i (List.contains_iff_mem.1 ha)
    rw [getD_tf (ready_not hi)] at this; cases this
theorem post_true {ops : Array Oper} {listed : Array Bool} {k i : Nat} (hc : ClosedB ops listed) (ha : isAnc ops i k = true) (hi : i ∈ Region.ready .any ops listed) : listed.getD k false = true :=
  anc_listed hc ops.size (depsB ops i) (deps_ready hi) k (List.contains_iff_mem.1 ha)

/-- Which operations have been. -/
def been (listed : Array Bool) : Nat → Bool := fun j => listed.getD j false
/-- And now i. -/
def upB (σ : Nat → Bool) (i : Nat) : Nat → Bool := fun j => if i = j then true else σ j
theorem upB_eq (σ : Nat → Bool) (i : Nat) : upB σ i i = true := if_pos rfl
theorem upB_ne {σ : Nat → Bool} {i j : Nat} (h : i ≠ j) : upB σ i j = σ j := if_neg h
structure MidB (ops : Array Oper) (N : Nat) (S : (Nat → Bool) → World → Prop) (U : (Nat → Bool) → Nat → World → Value → Prop) (V : Nat → Value → Prop) (A : Nat → Value) (listed : Array Bool) (a : Act) (w : World) : Prop where
  size : listed.size = ops.size
  tmps : a.tmps.size = N
  defers : a.defers = []
  cl : ClosedB ops listed
  st : S (been listed) w
  val : ∀ t, t < N → hasIt ops listed t = true → U (been listed) t w (a.tmps.getD t undef)
  old : ∀ t j, wrote ops t = some j → listed.getD j false = false → V t (a.tmps.getD t undef)
  kp : ∀ t, wrote ops t = none → a.tmps.getD t undef = A t
/-- Slot t may hold something before operation i runs. -/
def livB (ops : Array Oper) (i t : Nat) : Bool := match wrote ops t with | none => true | some j => decide (j ≠ i) && !isAnc ops j i

section
variable {P : Program} {ops : Array Oper} {Q : Exit → Act → World → Prop} {N : Nat} {S : (Nat → Bool) → World → Prop} {U : (Nat → Bool) → Nat → World → Value → Prop} {V : Nat → Value → Prop} {A : Nat → Value}
theorem getD_set {listed : Array Bool} {i j : Nat} (hi : i < listed.size) : (listed.setIfInBounds i true).getD j false = if i = j then true else listed.getD j false := by
  by_cases h : i = j
  · subst h; simp [Array.getD_eq_getD_getElem?, hi]
  · simp [Array.getD_eq_getD_getElem?, h]
theorem MidB.put {listed : Array Bool} {a : Act} {w w' : World} {i : Nat} {o : Oper} {v : Value} (h : MidB ops N S U V A listed a w) (h1 : oneWriter ops N = true) (ho : ops[i]? = some o) (hi : i ∈ Region.ready .any ops listed) 
    (hS : S (upB (been listed) i) w') (hm : ∀ t u, livB ops i t = true → U (been listed) t w u → U (upB (been listed) i) t w' u) (hv : ∀ d, o.dst = some d → U (upB (been listed) i) d w' v) : MidB ops N S U V A (listed.setIfInBounds i true) (a.put o.dst v) w' := by
  have his : i < ops.size := (Array.getElem?_eq_some_iff.1 ho).1
  have hil : i < listed.size := by rw [h.size]; exact his
  have h2 := List.all_eq_true.1 h1 i (List.mem_range.2 his)
  have hbn : been (listed.setIfInBounds i true) = upB (been listed) i := by
    funext j
    unfold been upB
    rw [getD_set hil]
  refine ⟨by simpa using h.size, ?_, ?_, fun j hj e he => ?_, ?_, fun t ht hh => ?_, fun t j hw hj => ?_, fun t hw => ?_⟩
  · have := h.tmps
    unfold Act.put
    split <;> simpa using this
  · have := h.defers
    unfold Act.put
    split <;> simpa using this
  · rw [getD_set hil] at hj ⊢
    split
    · rfl
    · rename_i hne
      by_cases hij : i = j
      · subst hij; exact deps_ready hi e he
      · rw [if_neg hij] at hj; exact h.cl j hj e he
  · rw [hbn]; exact hS
  · rw [hbn]
    by_cases htd : o.dst = some t
    · have hbt : t < a.tmps.size := by rw [h.tmps]; exact ht
      have e1 : (a.put o.dst v).tmps.getD t undef = v := by simp [htd, Act.put, Array.getD_eq_getD_getElem?, hbt]
      rw [e1]; exact hv t htd
    · have e1 : (a.put o.dst v).tmps.getD t undef = a.tmps.getD t undef := by
        cases hd : o.dst with
        | none => rfl
        | some d =>
          have : d ≠ t := by rintro rfl; exact htd hd
          simp [Act.put, Array.getD_eq_getD_getElem?, this]
      rw [e1]
      have hlv : hasIt ops listed t = true → livB ops i t = true := fun q => by
        unfold hasIt at q
        unfold livB
        cases hw : wrote ops t with
        | none => rfl
        | some j =>
          rw [hw] at q
          simp only at q ⊢
          have hji : j ≠ i := by
            rintro rfl
            rw [getD_tf (ready_not hi)] at q; cases q
          rw [decide_eq_true hji, Bool.true_and]
          cases hq : isAnc ops j i
          · rfl
          · rw [pre_false h.cl hq hi] at q; cases q
      have hit : hasIt ops listed t = true := ?_
      exact hm t _ (hlv hit) (h.val t ht hit)
      unfold hasIt at hh ⊢
      cases hw : wrote ops t with
      | none => rfl
      | some j =>
        rw [hw] at hh
        simp only at hh ⊢
        rw [getD_set hil] at hh
        by_cases hij : i = j
        · subst hij
          have := (wrote_some hw).2
          rw [ho] at this
          exact absurd this htd
        · rw [if_neg hij] at hh; exact hh
  · rw [getD_set hil] at hj
    by_cases hij : i = j
    · rw [if_pos hij] at hj; cases hj
    · rw [if_neg hij] at hj
      have e1 : (a.put o.dst v).tmps.getD t undef = a.tmps.getD t undef := by
        cases hd : o.dst with
        | none => rfl
        | some d =>
          have : d ≠ t := by
            rintro rfl
            have e0 : (ops[i]?).bind (·.dst) = some d := by rw [ho]; exact hd
            rw [e0] at h2
            have h3 : d < N ∧ wrote ops d = some i := by simpa using h2
            rw [h3.2] at hw
            injection hw with q
            exact hij q
          simp [Act.put, Array.getD_eq_getD_getElem?, this]
      rw [e1]
      exact h.old t j hw hj
  · have e1 : (a.put o.dst v).tmps.getD t undef = a.tmps.getD t undef := by
      cases hd : o.dst with
      | none => rfl
      | some d =>
        have : d ≠ t := by
          rintro rfl
          have e0 : (ops[i]?).bind (·.dst) = some d := by rw [ho]; exact hd
          rw [e0] at h2
          have h3 : d < N ∧ wrote ops d = some i := by simpa using h2
          rw [h3.2] at hw
          cases hw
        simp [Act.put, Array.getD_eq_getD_getElem?, this]
    rw [e1]
    exact h.kp t hw

def StepB (P : Program) (ops : Array Oper) (Q : Exit → Act → World → Prop) (N : Nat) (S : (Nat → Bool) → World → Prop) (U : (Nat → Bool) → Nat → World → Value → Prop) (V : Nat → Value → Prop) (A : Nat → Value) (i : Nat) : Prop :=
  ∀ listed a w, MidB ops N S U V A listed a w → i ∈ Region.ready .any ops listed → wpOp P ops Q i (MidB ops N S U V A (listed.setIfInBounds i true)) a w

theorem any_midB (h2 : backward ops = true) (hstep : ∀ i, i < ops.size → StepB P ops Q N S U V A i)
    (hend : ∀ (x : Nat → Value) w', S (fun j => decide (j < ops.size)) w' → (∀ t, t < N → U (fun j => decide (j < ops.size)) t w' (x t)) → (∀ t, wrote ops t = none → x t = A t) → Q .normal (frameD N x) w') :
    ∀ (fuel : Nat) (listed : Array Bool) (a : Act) (w : World), restD ops listed ≤ fuel → MidB ops N S U V A listed a w → wpAny P .any ops Q fuel listed a w := by
  have fin : ∀ (listed : Array Bool) (a : Act) (w : World), MidB ops N S U V A listed a w → Region.ready .any ops listed = [] → Q .normal a w := fun listed a w hM hr => by
    have hall := all_there h2 hM.size hr
    have e : been listed = fun j => decide (j < ops.size) := by
      funext j
      unfold been
      rcases Nat.lt_or_ge j ops.size with q | q
      · rw [hall j q, decide_eq_true q]
      · rw [decide_eq_false (by omega), Array.getD_eq_getD_getElem?, Array.getElem?_eq_none (by rw [hM.size]; exact q)]; rfl
    have hs := hM.st
    have hv := hM.val
    rw [e] at hs hv
    rw [frameD_of hM.tmps hM.defers]
    exact hend _ w hs (fun t ht => hv t ht (by
      unfold hasIt
      cases hw : wrote ops t with
      | none => rfl
      | some i => exact hall i (wrote_some hw).1)) hM.kp
  intro fuel
  induction fuel with
  | zero =>
    intro listed a w hl hM
    have hr : Region.ready .any ops listed = [] := by
      cases hq : Region.ready .any ops listed with
      | nil => rfl
      | cons i rs =>
        have := restD_set (ops := ops) (listed := listed) (i := i) (by rw [hq]; exact List.mem_cons_self)
        omega
    exact ⟨hr, fin listed a w hM hr⟩
  | succ fuel ih =>
    intro listed a w hl hM
    refine ⟨fin listed a w hM, fun i hi => ?_⟩
    have hs : i < ops.size := by
      obtain ⟨_, o, ho, _⟩ := mem_ready.1 hi
      exact (Array.getElem?_eq_some_iff.1 ho).1
    have hl2 := restD_set hi
    exact wpOp_mono (fun a w h => ih _ a w (by omega) h) (hstep i hs listed a w hM hi)

theorem region_midB {id : Nat} {a : Act} {w : World} (hm : P.follows .mixedOrders = true) (h2 : backward ops = true) (h1 : oneWriter ops N = true)
    (h0 : MidB ops N S U V (fun t => a.tmps.getD t undef) (Array.replicate ops.size false) a w.drew) (hstep : oneWriter ops N = true → ∀ i, i < ops.size → StepB P ops Q N S U V (fun t => a.tmps.getD t undef) i)
    (hend : ∀ (x : Nat → Value) w', S (fun j => decide (j < ops.size)) w' → (∀ t, t < N → U (fun j => decide (j < ops.size)) t w' (x t)) → (∀ t, wrote ops t = none → x t = a.tmps.getD t undef) → Q .normal (frameD N x) w') :
    (Code.region id ops true).wp P Q a w := by
  refine wp_region_any hm ?_
  refine any_midB h2 (hstep h1) hend ops.size _ a _ ?_ h0
  unfold restD
  exact Nat.le_trans (List.length_filter_le _ _) (by simp)
theorem closed_start (ops : Array Oper) : ClosedB ops (Array.replicate ops.size false) := by
  intro j hj
  rw [Array.getD_eq_getD_getElem?, Array.getElem?_replicate] at hj
  split at hj <;> cases hj
theorem start_been (ops : Array Oper) : been (Array.replicate ops.size false) = fun _ => false := by
  funext k
  unfold been
  rw [Array.getD_eq_getD_getElem?, Array.getElem?_replicate]
  split <;> rfl
/-- The start of the region. -/
theorem midB_start {a : Act} {w : World} (h1 : a.tmps.size = N) (h2 : a.defers = []) (hS : S (fun _ => false) w) (hU : ∀ t, t < N → hasIt ops (Array.replicate ops.size false) t = true → U (fun _ => false) t w (a.tmps.getD t undef)) (hV : ∀ t, V t (a.tmps.getD t undef)) : MidB ops N S U V (fun t => a.tmps.getD t undef) (Array.replicate ops.size false) a w :=
  ⟨by simp, h1, h2, closed_start ops, by rw [start_been]; exact hS, by rw [start_been]; exact hU, fun t _ _ _ => hV t, fun _ _ => rfl⟩
/-- Slots that are read before the region writes them. -/
def oldOk (ops : Array Oper) (i : Nat) (olds : List Nat) : Bool := olds.all fun t => match wrote ops t with | some j => isAnc ops j i | none => false
theorem midB_old {listed : Array Bool} {a : Act} {w : World} {i : Nat} {olds : List Nat} (hM : MidB ops N S U V A listed a w) (hi : i ∈ Region.ready .any ops listed) (hn : oldOk ops i olds = true) :
    ∀ t ∈ olds, V t (a.tmps.getD t undef) := by
  intro t ht
  have q := List.all_eq_true.1 hn t ht
  cases hw : wrote ops t with
  | none => rw [hw] at q; cases q
  | some j =>
    rw [hw] at q
    exact hM.old t j hw (pre_false hM.cl q hi)

theorem midB_need {listed : Array Bool} {a : Act} {w : World} {i : Nat} {need : List Nat} (hM : MidB ops N S U V A listed a w) (hi : i ∈ Region.ready .any ops listed) (hn : needOk ops N i need = true) :
    ∀ t ∈ need, U (been listed) t w (a.tmps.getD t undef) := by
  intro t ht
  unfold needOk at hn
  obtain ⟨_, o, ho, hdep⟩ := mem_ready.1 hi
  rw [ho] at hn
  have q := List.all_eq_true.1 hn t ht
  have k1 : t < N := by
    have := (Bool.and_eq_true_iff.1 q).1
    simpa using this
  refine hM.val t k1 ?_
  unfold hasIt
  have k2 := (Bool.and_eq_true_iff.1 q).2
  cases hw : wrote ops t with
  | none => rfl
  | some j =>
    rw [hw] at k2
    simp only at k2 ⊢
    obtain ⟨r, hr, hk⟩ := Array.any_eq_true.1 k2
    have hk2 := Bool.and_eq_true_iff.1 hk
    have e1 : (o.after[r]).on = j := by simpa using hk2.1
    rw [← e1]
    exact hdep _ (Array.getElem_mem hr) hk2.2
/-- What an operation has to show: with the slots that it needs, where those of pre are still to come and those of post have been. -/
theorem stepB_of {i : Nat} {o : Oper} {d : Option Nat} (pre post need olds : List Nat) (h1 : oneWriter ops N = true) (ho : ops[i]? = some o) (hd : o.dst = d) (hn : needOk ops N i need = true) (hno : oldOk ops i olds = true)
    (hpre : (pre.all fun k => (k == i) || isAnc ops k i) = true) (hpost : (post.all fun k => isAnc ops i k) = true)
    (h : ∀ (σ : Nat → Bool), (∀ k ∈ pre, σ k = false) → (∀ k ∈ post, σ k = true) → ∀ (x : Nat → Value) (w : World), S σ w → (∀ t ∈ need, U σ t w (x t)) → (∀ t ∈ olds, V t (x t)) → (∀ t, wrote ops t = none → x t = A t) → ∀ Lv : Nat → Prop, (∀ t, Lv t → livB ops i t = true) → ∀ K : Act → World → Prop,
      (∀ v w', S (upB σ i) w' → (∀ t u, Lv t → U σ t w u → U (upB σ i) t w' u) → (∀ e, d = some e → U (upB σ i) e w' v) → K ((frameD N x).put d v) w') → wpOp P ops Q i K (frameD N x) w) : StepB P ops Q N S U V A i := by
  intro listed a w hMid hi
  have hx := frameD_of hMid.tmps hMid.defers
  have hne := midB_need hMid hi hn
  have hg := h (been listed) (fun k hk => by
    have q := List.all_eq_true.1 hpre k hk
    rcases Bool.or_eq_true_iff.1 q with e | e
    · rw [eq_of_beq e]; exact getD_tf (ready_not hi)
    · exact pre_false hMid.cl e hi) (fun k hk => post_true hMid.cl (List.all_eq_true.1 hpost k hk) hi) (fun t => a.tmps.getD t undef) w hMid.st hne (midB_old hMid hi hno) hMid.kp (fun t => livB ops i t = true) (fun _ h => h) (MidB ops N S U V A (listed.setIfInBounds i true)) (fun v w' hS hm hv => by
    rw [← hx, ← hd]
    exact hMid.put h1 ho hi hS hm (fun e he => hv e (hd ▸ he)))
  rw [← hx] at hg
  exact hg
end
end Go.Proofs.YteonkiajgfkieaaGreatDoor

/-! Blocks that a call has made. Nothing turns while nothing that was there turns. No program's function is walked here. -/
namespace Go.Proofs.YteonkiajgfkieaaGreatDoor
open Go.RowKit

/-- Block B holds just these cells. -/
def Bk (w : World) (B : Nat) (cs : Array Value) (t : TypeId) : Prop := w.heap[B]? = some (.cells cs t (0, 0))
section
variable {w w' : World} {B : Nat} {cs : Array Value} {t : TypeId}
theorem Bk.lt (h : Bk w B cs t) : B < w.heap.size := by
  unfold Bk at h
  rcases Nat.lt_or_ge B w.heap.size with k | k
  · exact k
  · rw [Array.getElem?_eq_none k] at h; cases h
theorem Bk.on (h : Bk w B cs t) (hf : Fuw w w') : Bk w' B cs t := by
  have k := h.lt
  unfold Bk at *
  rw [Below.block hf B k]; exact h
theorem Bk.below (h : Bk w B cs t) {n : Nat} (hf : Below n w w') (hB : B < n) : Bk w' B cs t := by
  unfold Bk at *
  rw [Below.block hf B hB]; exact h
theorem Bk.c (h : Bk w B cs t) (j : Nat) : w.cell? ⟨B, j, none⟩ = cs[j]? := cell_of_row w B j cs t (0, 0) h
theorem Bk.f (h : Bk w B cs t) (j : Nat) : w.frozen? ⟨B, j, none⟩ = false := by unfold Bk at h; simp [World.frozen?, h]
theorem Bk.new (w : World) (cs : Array Value) (t : TypeId) : Bk (w.alloc (.cells cs t)) w.heap.size cs t := by
  show (w.heap.push _)[w.heap.size]? = _
  rw [Array.getElem?_push, if_pos rfl]
theorem Bk.set_ (h : Bk w B cs t) (i : Nat) (u : Value) : Bk (w.setCell ⟨B, i, none⟩ u) B (cs.setIfInBounds i u) t := by
  unfold Bk at h ⊢
  simp [World.setCell, Array.getElem?_modify, h]
theorem Bk.far (h : Bk w B cs t) {p : Addr} (hp : B ≠ p.block) (u : Value) : Bk (w.setCell p u) B cs t := (Below.heap_setCell w p u B hp).trans h
end
theorem fuwA (w : World) (o : Obj) : Fuw w (w.alloc o) := (Fuw.refl w).alloc o
theorem fuwS {w w1 : World} {g j : Nat} {u : Value} (hf : Fuw w w1) (hg : w.heap.size ≤ g) : Fuw w (w1.setCell ⟨g, j, none⟩ u) := Below.setCell hf hg u
theorem fuw_dr (w : World) (n : Nat) : Fuw w (w.drewN n) := ⟨rfl, rfl, rfl, Nat.le_refl _, fun _ _ => rfl⟩
theorem bs_data (s : List UInt8) : (bs s).data.toList = s := by simp [bs]
theorem bs_of (s : ByteArray) : s = bs s.data.toList := by simp [bs]
theorem own_on {w w' : World} {base e size : Nat} {v : Value} {n : Nat} {xs : List Value} (h : w.ownsRow base e size v n xs) (hf : Fuw w w') : w'.ownsRow base e size v n xs := by
  refine ⟨h.1, ?_⟩
  rcases h.2 with h0 | ⟨g, cap, cur, hv, hg, hh, rest⟩
  · exact .inl h0
  · refine .inr ⟨g, cap, cur, hv, hg, ?_, rest⟩
    have hlt : g < w.heap.size := by
      rcases Nat.lt_or_ge g w.heap.size with k | k
      · exact k
      · rw [Array.getElem?_eq_none k] at hh; cases hh
    rw [Below.block hf g hlt]; exact hh
end Go.Proofs.YteonkiajgfkieaaGreatDoor

/-! What a call has built lies in blocks of its own: 'P holds in every world with the same blocks from lo on, but for the block o'. Lists of values so built. No program's function is walked here. -/
namespace Go.Proofs.YteonkiajgfkieaaGreatDoor
open Go.RowKit

def Kb (lo : Nat) (o : Option Nat) (w : World) (P : World → Prop) : Prop :=
  ∀ w2 : World, (∀ b, lo ≤ b → b < w.heap.size → some b ≠ o → w2.heap[b]? = w.heap[b]?) → P w2
section
variable {lo s : Nat} {o o' : Option Nat} {w w' : World} {P Q : World → Prop}
theorem Kb.now (h : Kb lo o w P) : P w := h w fun _ _ _ _ => rfl
theorem Kb.imp (h : Kb lo o w P) (hp : ∀ x, P x → Q x) : Kb lo o w Q := fun w2 h2 => hp _ (h w2 h2)
theorem Kb.and (h : Kb lo o w P) (k : Kb lo o w Q) : Kb lo o w (fun x => P x ∧ Q x) := fun w2 h2 => ⟨h w2 h2, k w2 h2⟩
theorem Kb.triv (hp : ∀ x, P x) : Kb lo o w P := fun w2 _ => hp w2
/-- Later, when only o's block may have turned. -/
theorem Kb.on (h : Kb lo o w P) (hs : w.heap.size ≤ w'.heap.size) (hb : ∀ b, lo ≤ b → b < w.heap.size → some b ≠ o → w'.heap[b]? = w.heap[b]?) (ho : o' = o ∨ ∀ k, o' = some k → w.heap.size ≤ k) : Kb lo o' w' P := by
  intro w2 h2
  refine h w2 fun b h1 hlt hne => ?_
  rw [h2 b h1 (Nat.lt_of_lt_of_le hlt hs) ?_, hb b h1 hlt hne]
  rcases ho with e | e
  · rw [e]; exact hne
  · intro q
    have := e b q.symm
    omega
theorem Kb.later (h : Kb lo o w P) (hf : Fuw w w') : Kb lo o w' P := h.on hf.size (fun b _ hb _ => Below.block hf b hb) (.inl rfl)
theorem Kb.low (h : Kb s none w P) (hl : lo ≤ s) (ho : ∀ k, o = some k → k < s ∨ w.heap.size ≤ k) : Kb lo o w P := by
  intro w2 h2
  refine h w2 fun b h1 hlt _ => h2 b (by omega) hlt ?_
  intro q
  rcases ho b q.symm with k | k <;> omega
theorem Kb.grown {v v' : Value} (h : Kb lo v.ownBlock w P) (hg : w.grownBy w' v.ownBlock) (hat : v'.ownBlock = v.ownBlock ∨ v'.ownBlock = some w.heap.size) : Kb lo v'.ownBlock w' P :=
  h.on hg.size (fun b _ h2 h3 => hg.block b h2 h3) (by
    rcases hat with e | e
    · exact .inl e
    · refine .inr fun k hk => ?_
      rw [e] at hk; injection hk with hk; omega)
end
/-- A value's five cells. -/
def vC (x : Vl) (ao : Option Addr) (cap : Nat) : List Value := [.int .i64 x.kd, .int .i64 x.nn, .int .i64 x.dd, .string (bs x.ss), .slice ao x.ll.length cap]
abbrev VPm := Vl × Option Addr × Nat
def vCs (ps : List VPm) : List Value := ps.flatMap fun p => vC p.1 p.2.1 p.2.2
theorem vCs_app (a b : List VPm) : vCs (a ++ b) = vCs a ++ vCs b := by unfold vCs; rw [List.flatMap_append]
theorem vCs_one (p : VPm) : vCs [p] = vC p.1 p.2.1 p.2.2 := by unfold vCs; simp
theorem vCs_len : ∀ ps : List VPm, (vCs ps).length = ps.length * 5
  | [] => rfl
  | p :: r => by
    show (vC p.1 p.2.1 p.2.2 ++ vCs r).length = _
    rw [List.length_append, vCs_len r, List.length_cons]
    show 5 + _ = _
    omega
theorem vCs_get : ∀ (ps : List VPm) (i j : Nat) (h : i < ps.length), j < 5 → (vCs ps)[i * 5 + j]? = (vC ps[i].1 ps[i].2.1 ps[i].2.2)[j]?
  | p :: r, 0, j, _, hj => by
    show (vC p.1 p.2.1 p.2.2 ++ vCs r)[0 * 5 + j]? = _
    rw [Nat.zero_mul, Nat.zero_add, List.getElem?_append_left (by show j < 5; exact hj)]
    rfl
  | p :: r, i + 1, j, h, hj => by
    show (vC p.1 p.2.1 p.2.2 ++ vCs r)[(i + 1) * 5 + j]? = _
    rw [List.getElem?_append_right (by show 5 ≤ _; omega)]
    have k := vCs_get r i j (by simpa using h) hj
    rw [show (i + 1) * 5 + j - (vC p.1 p.2.1 p.2.2).length = i * 5 + j by show _ - 5 = _; omega, k]
    rfl
theorem VE_mk {w : World} : ∀ {l : List Vl} {b o : Nat}, (∀ (i : Nat) (h : i < l.length), VC w l[i] b (o + i * 5)) → VE w l b o
  | [], _, _, _ => by unfold VE; trivial
  | v :: r, b, o, h => by
    unfold VE
    refine ⟨(by have k := h 0 (by simp); rw [Nat.zero_mul, Nat.add_zero] at k; exact k), VE_mk fun i hi => ?_⟩
    have k := h (i + 1) (by simpa using hi)
    rwa [show o + (i + 1) * 5 = o + 5 + i * 5 by omega] at k
/-- What lies inside the values. -/
def Nst (ps : List VPm) (w : World) : Prop := ∀ p ∈ ps, SlV w p.2.1 p.1.ll p.2.2
theorem Nst.nil (w : World) : Nst [] w := fun _ h => by cases h
theorem Nst.snoc {ps : List VPm} {p : VPm} {w : World} (h : Nst ps w) (k : SlV w p.2.1 p.1.ll p.2.2) : Nst (ps ++ [p]) w := fun q hq => by
  rcases List.mem_append.1 hq with e | e
  · exact h q e
  · rw [List.mem_singleton] at e; subst e; exact k
theorem own_heap {w w' : World} {base e size : Nat} {v : Value} {n : Nat} {xs : List Value} (h : w.ownsRow base e size v n xs) (hb : ∀ g, v.ownBlock = some g → w'.heap[g]? = w.heap[g]?) : w'.ownsRow base e size v n xs := by
  refine ⟨h.1, ?_⟩
  rcases h.2 with h0 | ⟨g, cap, cur, rfl, hg, hh, rest⟩
  · exact .inl h0
  · exact .inr ⟨g, cap, cur, rfl, hg, by rw [hb g rfl]; exact hh, rest⟩
theorem slV_own {w : World} {base : Nat} {v : Value} {n : Nat} {ps : List VPm} (h : w.ownsRow base 34 5 v n (vCs ps)) (hv : ∀ p ∈ ps, Vin p.1) (hn : Nst ps w) : ∃ ao cap, v = .slice ao ps.length cap ∧ n = ps.length ∧ SlV w ao (ps.map Prod.fst) cap := by
  have hl := h.1
  rw [vCs_len] at hl
  obtain rfl : n = ps.length := by omega
  rcases h.2 with ⟨rfl, h0⟩ | ⟨g, cap, cur, rfl, hb, hh, h1, h2, h3, h4⟩
  · have e : ps = [] := List.eq_nil_of_length_eq_zero h0
    subst e
    exact ⟨none, 0, rfl, rfl, ⟨Nat.le_refl _, Nat.zero_le _, fun _ => rfl, fun k => absurd k (by decide)⟩⟩
  · refine ⟨_, cap, rfl, rfl, by rw [List.length_map]; exact h1, h2, (fun k => by cases k), fun _ => ⟨g, 0, rfl, VE_mk fun i hi => ?_⟩⟩
    rw [List.length_map] at hi
    rw [List.getElem_map]
    have hc : ∀ j, j < 5 → w.cell? ⟨g, 0 + i * 5 + j, none⟩ = (vC ps[i].1 ps[i].2.1 ps[i].2.2)[j]? := fun j hj => by
      have k := h.cellAt (i * 5 + j) (by omega)
      rw [vCs_get ps i j hi hj] at k
      rwa [Nat.zero_add]
    have hm : ps[i] ∈ ps := List.getElem_mem hi
    exact VC_mk (hv _ hm) (hc 0 (by decide)) (hc 1 (by decide)) (hc 2 (by decide)) (hc 3 (by decide)) (hc 4 (by decide)) (hn _ hm)
/-- A list of values so built. -/
def BuiltV (lo : Nat) (l : List Vl) (v : Value) (w : World) : Prop := ∃ ao cap, v = .slice ao l.length cap ∧ Kb lo none w (fun w2 => SlV w2 ao l cap)
theorem built_own {w : World} {base : Nat} {v : Value} {n : Nat} {ps : List VPm} (h : w.ownsRow base 34 5 v n (vCs ps)) (hv : ∀ p ∈ ps, Vin p.1) (hn : Kb base v.ownBlock w (Nst ps)) : BuiltV base (ps.map Prod.fst) v w := by
  obtain ⟨ao, cap, e, e2, -⟩ := slV_own h hv hn.now
  refine ⟨ao, cap, by rw [List.length_map]; exact e, fun w2 h2 => ?_⟩
  have ho : w2.ownsRow base 34 5 v n (vCs ps) := own_heap h fun g hg => h2 g (h.lt g hg).1 (h.lt g hg).2 (by intro q; cases q)
  obtain ⟨ao', cap', e', -, hs⟩ := slV_own ho hv (hn w2 fun b h1 hlt _ => h2 b h1 hlt (by intro q; cases q))
  rw [e] at e'
  cases e'
  exact hs
/-- A value's cells with what lies inside it. -/
def VCa (x : Vl) (a : Option Addr) (k : Nat) (b o : Nat) (w : World) : Prop := w.cell? ⟨b, o, none⟩ = some (.int .i64 x.kd) ∧ w.cell? ⟨b, o + 1, none⟩ = some (.int .i64 x.nn) ∧ w.cell? ⟨b, o + 2, none⟩ = some (.int .i64 x.dd) ∧ w.cell? ⟨b, o + 3, none⟩ = some (.string (bs x.ss)) ∧ w.cell? ⟨b, o + 4, none⟩ = some (.slice a x.ll.length k) ∧ SlV w a x.ll k
theorem cell_lt' {w : World} {b o : Nat} {v : Value} (h : w.cell? ⟨b, o, none⟩ = some v) : b < w.heap.size := by
  rcases Nat.lt_or_ge b w.heap.size with k | k
  · exact k
  · simp [World.cell?, Array.getElem?_eq_none k] at h
/-- What holds whatever lies below lo speaks of blocks from lo on. -/
theorem kb_lo {lo b o : Nat} {w : World} (h : Kb lo none w (fun w2 => ∃ u, w2.cell? ⟨b, o, none⟩ = some u)) : lo ≤ b := by
  rcases Nat.lt_or_ge b lo with k | k
  · exfalso
    obtain ⟨u, hu⟩ := h { w with heap := w.heap.setIfInBounds b (.cells #[] 0 (0, 0)) } (fun c h1 _ _ => by
      show (w.heap.setIfInBounds b _)[c]? = _
      rw [Array.getElem?_setIfInBounds_ne (by omega)])
    have hb := cell_lt' hu
    have e : (w.heap.setIfInBounds b (.cells #[] 0 (0, 0)))[b]? = some (.cells #[] 0 (0, 0)) := by
      rw [Array.getElem?_setIfInBounds_self]
      rw [if_pos (by simpa using hb)]
    simp [World.cell?, e] at hu
  · exact k
theorem cell_heap {w w2 : World} {b : Nat} (h : w2.heap[b]? = w.heap[b]?) (o : Nat) : w2.cell? ⟨b, o, none⟩ = w.cell? ⟨b, o, none⟩ := World.cell?_of_block h
theorem built_one {lo : Nat} {x : Vl} {v : Value} {w : World} (h : BuiltV lo [x] v w) : ∃ b o c a k, v = .slice (some ⟨b, o, none⟩) 1 c ∧ Kb lo none w (VCa x a k b o) := by
  obtain ⟨ao, cap, rfl, hk⟩ := h
  obtain ⟨b, o, e, hv⟩ := hk.now.get (i := 0) (by simp)
  subst e
  have hc : Kb lo none w (fun w2 => VC w2 x b o) := hk.imp fun w2 h2 => by
    obtain ⟨b', o', e, hv⟩ := h2.get (i := 0) (by simp)
    cases e
    simpa using hv
  have hlo : lo ≤ b := kb_lo (o := o) (hc.imp fun w2 h2 => ⟨_, (VC_of h2).2.1⟩)
  obtain ⟨-, c0, c1, c2, c3, a, k, c4, hs⟩ := VC_of hc.now
  have hlt := cell_lt' c0
  refine ⟨b, o, cap, a, k, rfl, fun w2 h2 => ?_⟩
  have hb := h2 b hlo hlt (by intro q; cases q)
  obtain ⟨-, -, -, -, -, a', k', d4, hs'⟩ := VC_of (hc w2 h2)
  have e4 : w2.cell? ⟨b, o + 4, none⟩ = w.cell? ⟨b, o + 4, none⟩ := cell_heap hb _
  rw [e4, c4] at d4
  injection d4 with d4
  injection d4 with e1 _ e3
  subst e1 e3
  exact ⟨(cell_heap hb _).trans c0, (cell_heap hb _).trans c1, (cell_heap hb _).trans c2, (cell_heap hb _).trans c3, (cell_heap hb _).trans c4, hs'⟩
/-- A value in a block, as a list of one. -/
theorem slv_one {w : World} {B : Nat} {x : Vl} {a : Option Addr} {k : Nat} (h : Bk w B #[.int .i64 x.kd, .int .i64 x.nn, .int .i64 x.dd, .string (bs x.ss), .slice a x.ll.length k] 34) (hi : Vin x) (hs : SlV w a x.ll k) : SlV w (some ⟨B, 0, none⟩) [x] 1 := by
  refine ⟨Nat.le_refl _, by decide, (fun q => by cases q), fun _ => ⟨B, 0, rfl, VE_mk fun i hi' => ?_⟩⟩
  have e : i = 0 := by simp at hi'; omega
  subst e
  exact VC_mk hi (h.c 0) (h.c 1) (h.c 2) (h.c 3) (h.c 4) hs
/-- Lists are of moderate length, down to the bottom. -/
def shB : Nat := 1000000
mutual
def shV : Vl → Bool
  | .mk _ _ _ _ l => decide (l.length ≤ shB) && shL l
def shL : List Vl → Bool
  | [] => true
  | v :: r => shV v && shL r
end
theorem shV_ll {x : Vl} (h : shV x = true) : x.ll.length ≤ 1000000 ∧ shL x.ll = true := by
  cases x with
  | mk k n d s l =>
    unfold shV at h
    rw [Bool.and_eq_true, decide_eq_true_eq] at h
    exact h
theorem shL_mem : ∀ {l : List Vl}, shL l = true → ∀ x ∈ l, shV x = true
  | [], _, _, h => by cases h
  | v :: r, hl, x, h => by
    unfold shL at hl
    rw [Bool.and_eq_true] at hl
    rcases List.mem_cons.1 h with rfl | h
    · exact hl.1
    · exact shL_mem hl.2 x h
end Go.Proofs.YteonkiajgfkieaaGreatDoor

/-! The reference of package value: Copy, for every list of values in memory: the same values in new memory. Nothing that was there turns. -/
namespace Go.Proofs.YteonkiajgfkieaaGreatDoor
open Go.RowKit

def RetCp (w : World) (l : List Vl) (e : Ending) (w' : World) : Prop := ∃ v, e = .returned v ∧ BuiltV w.heap.size l v w' ∧ Fuw w w'
def CopyAt (l : List Vl) : Prop := ∀ (ao : Option Addr) (cap : Nat) (w : World), SlV w ao l cap → Calls Tryz.prog 30 #[.slice ao l.length cap] w (RetCp w l)
theorem infoV : (Tryz.prog.info? 34).map (fun i => (i.zero, i.size, i.bytes)) = some (some (.agg #[.int .i64 0, .int .i64 0, .int .i64 0, .string ⟨#[]⟩, .slice none 0 0]), 5, 64) := by kernel_rfl
theorem one_V (x : Vl) (ao : Option Addr) (cap : Nat) : ∀ u ∈ vC x ao cap, u.oneCell' = true := by
  intro u hu
  unfold vC at hu
  simp only [List.mem_cons, List.not_mem_nil, or_false] at hu
  rcases hu with rfl | rfl | rfl | rfl | rfl <;> rfl
theorem bk_put4 {w : World} {B : Nat} {x : Vl} {a a' : Option Addr} {k k' : Nat} (h : Bk w B #[.int .i64 x.kd, .int .i64 x.nn, .int .i64 x.dd, .string (bs x.ss), .slice a x.ll.length k] 34) :
    Bk (w.setCell ⟨B, 4, none⟩ (.slice a' x.ll.length k')) B #[.int .i64 x.kd, .int .i64 x.nn, .int .i64 x.dd, .string (bs x.ss), .slice a' x.ll.length k'] 34 := h.set_ 4 _
theorem kb_store {lo B j : Nat} {u : Value} {w : World} {P : World → Prop} (h : Kb lo none w P) (hB : B < lo) : Kb lo none (w.setCell ⟨B, j, none⟩ u) P :=
  h.on (by simp) (fun b h1 _ _ => by simp [World.setCell, Array.getElem?_modify, show B ≠ b by omega]) (.inl rfl)
theorem take_fst {l : List Vl} {ps : List VPm} {i : Nat} (h : l.take i = ps.map Prod.fst) (hi : i < l.length) (a : Option Addr) (k : Nat) : l.take (i + 1) = (ps ++ [(l[i], a, k)]).map Prod.fst := by
  rw [List.take_succ_eq_append_getElem hi, h, List.map_append]; rfl
set_option maxHeartbeats 3200000 in
set_option maxRecDepth 100000 in
theorem copy_by (l : List Vl) (hn : l.length ≤ 1000000) (hL : ∀ x ∈ l, CopyAt x.ll) : CopyAt l := by
  intro ao cap w hs
  have h2 := hs.le
  have h3 := hs.max
  unfold maxLen at h3
  have HS := Lib.hid hs
  have HI := Lib.hid (show ∀ x ∈ l, Vin x from fun x hx => by
    obtain ⟨j, hj, rfl⟩ := List.getElem_of_mem hx
    obtain ⟨b, o, -, hv⟩ := hs.get hj
    exact (VC_of hv).1)
  have HL := Lib.hid hL
  obtain ⟨i0, hi, hz0, hz1, hz2⟩ := info_parts infoV
  clear hs hL
  go_enter Tryz.func30, Tryz.ntmps30
  go_wp2
  go_loopw [3, 4] (fun ov iv wr => ∃ (i : Nat) (ps : List VPm), iv = .int .i64 i ∧ i ≤ l.length ∧ wr.ownsRow w.heap.size 34 5 ov ps.length (vCs ps) ∧ Hid (l.take i = ps.map Prod.fst) ∧ Hid (Kb w.heap.size ov.ownBlock wr (Nst ps)) ∧ Hid (Fuw w wr)) (fun _ iv _ => l.length - (RowKit.intOf iv).toNat)
  case atStart => exact ⟨0, [], rfl, Nat.zero_le _, World.ownsRow_nil _ _ _ _, rfl, Kb.triv Nst.nil, Fuw.refl _⟩
  case round =>
    obtain ⟨i, ps, rfl, hii, hown, HT, HK, hf⟩ := hrel
    have hps : ps.length = i := by
      have := congrArg List.length HT.out
      rw [List.length_take, List.length_map] at this
      omega
    by_cases hlt : i < l.length
    · obtain ⟨b, o, rfl, hv⟩ := (HS.out.onw hf.out).get hlt
      obtain ⟨hy, c0, c1, c2, c3, a1, k1, c4, hs1⟩ := VC_of hv
      have HC := Lib.hid (fun w' (h : Fuw wr w') => HL.out l[i] (List.getElem_mem hlt) a1 k1 w' (hs1.onw h))
      have HTT := Lib.hid (fun a k => take_fst HT.out hlt a k)
      have hpl : ps.length ≤ 1000000 := by omega
      have HPS := Lib.hid hps
      clear hv hs1 hy HT hps
      generalize l[i] = x at *
      go_upto_region 6 with fail
      obtain ⟨W, hW⟩ : ∃ W, W = wr.alloc (.cells #[.int .i64 x.kd, .int .i64 x.nn, .int .i64 x.dd, .string (bs x.ss), .slice a1 x.ll.length k1] 34) := ⟨_, rfl⟩
      have fW : Fuw wr W := by rw [hW]; exact fuwA _ _
      have bW : Bk W wr.heap.size #[.int .i64 x.kd, .int .i64 x.nn, .int .i64 x.dd, .string (bs x.ss), .slice a1 x.ll.length k1] 34 := by rw [hW]; exact Bk.new _ _ _
      rw [← hW]
      clear hW c0 c1 c2 c3 c4
      have d4 := bW.c 4
      have HBW := Lib.hid bW
      have FW := Lib.hid fW
      clear bW fW
      go_wp2_with fail
      go_at_call 30; refine (HC.out _ FW.out).mono ?_; rintro e w1 ⟨v1, rfl, ⟨a2, k2, rfl, hk1⟩, f1⟩
      have b1 := HBW.out.on f1
      have HB1 := Lib.hid b1
      have d4' := b1.c 4
      have q4 := b1.f 4
      have F1 := Lib.hid (FW.out.trans f1)
      have HK1 := Lib.hid (kb_store (j := 4) (u := .slice a2 x.ll.length k2) hk1 HBW.out.lt)
      have HZ1 := Lib.hid f1.size
      clear d4 b1 f1 hk1
      go_upto_region 7 with fail
      obtain ⟨V, hV⟩ : ∃ V, V = w1.setCell ⟨wr.heap.size, 4, none⟩ (.slice a2 x.ll.length k2) := ⟨_, rfl⟩
      have HKV := Lib.hid (show Kb W.heap.size none V (fun w2 => SlV w2 a2 x.ll k2) from by rw [hV]; exact HK1.out)
      have FV := Lib.hid (show Fuw wr V from by rw [hV]; exact fuwS F1.out (Nat.le_refl _))
      have bV : Bk V wr.heap.size #[.int .i64 x.kd, .int .i64 x.nn, .int .i64 x.dd, .string (bs x.ss), .slice a2 x.ll.length k2] 34 := by rw [hV]; exact bk_put4 HB1.out
      rw [← hV]
      have HSW := Lib.hid (show wr.heap.size ≤ W.heap.size ∧ W.heap.size ≤ V.heap.size from ⟨FW.out.size, by rw [hV]; have := HZ1.out; simp; omega⟩)
      clear hV d4' q4 HK1
      have c0 := bV.c 0
      have c1 := bV.c 1
      have c2 := bV.c 2
      have c3 := bV.c 3
      have c4 := bV.c 4
      clear bV
      have hownV := own_on hown FV.out
      go_wp2_with (at_builtin; refine wpList_append_own_at _ rfl (.tmp 20) (.tmp 22) 22 rfl w.heap.size 34 i0 _ 5 64 Tryz.underlying22 hi hz0 hz1 hz2 rfl (by decide) _ ps.length (vCs ps) rfl (hownV.alloc _) ⟨V.heap.size, 0, none⟩ 1 1 (vC x a2 k2) rfl rfl (World.news_of_block (heap_alloc_new V _)) (one_V _ _ _) (by unfold maxLen; omega) (by omega) (by have := hf.out.size; have := FV.out.size; simp; omega) ?_; intro v3 w3 hown3 hgrow _ hat)
      have F3 := Lib.hid (show Fuw w w3 from Below.grown ((hf.out.trans FV.out).alloc _) hgrow ((hf.out.trans FV.out).alloc _).size (fun k hk => (hown.lt k hk).1))
      have hown4 : w3.ownsRow w.heap.size 34 5 v3 (ps ++ [(x, a2, k2)]).length (vCs (ps ++ [(x, a2, k2)])) := by
        rw [vCs_app, vCs_one, List.length_append]; exact hown3
      have HK3 := Lib.hid (show Kb w.heap.size v3.ownBlock w3 (Nst (ps ++ [(x, a2, k2)])) from
        ((((HK.out.later FV.out).later (fuwA V _)).and (((HKV.out.later (fuwA V _)).low (o := _) (by have := hf.out.size; have := HSW.out; omega) (fun k hk => .inl (Nat.lt_of_lt_of_le (hown.lt k hk).2 HSW.out.1))))).imp (fun _ h => Nst.snoc h.1 h.2)).grown hgrow hat)
      have HT4 := Lib.hid (HTT.out a2 k2)
      clear hown3 hown hownV hgrow hat c0 c1 c2 c3 c4 HTT HC
      generalize ps ++ [(x, a2, k2)] = qs at *
      go_wp2
      go_roundw
      case rel => exact ⟨i + 1, qs, by go_num, by omega, hown4, HT4, HK3, F3⟩
      case measure => simp [RowKit.intOf]; omega
    · have HB := Lib.hid (built_own hown (fun p hp => HI.out _ (List.mem_of_mem_take (i := i) (HT.out ▸ List.mem_map_of_mem hp))) HK.out)
      have HE := Lib.hid (show ps.map Prod.fst = l by rw [← HT.out, List.take_of_length_le (by omega)])
      rw [HE.out] at HB
      clear hown hps
      go_wp2
      go_ret
      exact ⟨_, rfl, HB.out, hf.out⟩
mutual
theorem copy_v : ∀ x : Vl, shV x = true → CopyAt x.ll
  | .mk k n d s l, h => by
    have h' := shV_ll h
    exact copy_by l h'.1 (copy_l l h'.2)
theorem copy_l : ∀ l : List Vl, shL l = true → ∀ x ∈ l, CopyAt x.ll
  | [], _, _, h => by cases h
  | v :: r, hl, x, h => by
    unfold shL at hl
    rw [Bool.and_eq_true] at hl
    rcases List.mem_cons.1 h with e | h
    · rw [e]; exact copy_v v hl.1
    · exact copy_l r hl.2 x h
end
/-- Copy of every list of values in memory. -/
theorem copy_any (l : List Vl) (hn : l.length ≤ 1000000) (h : shL l = true) : CopyAt l := copy_by l hn (copy_l l h)
end Go.Proofs.YteonkiajgfkieaaGreatDoor
