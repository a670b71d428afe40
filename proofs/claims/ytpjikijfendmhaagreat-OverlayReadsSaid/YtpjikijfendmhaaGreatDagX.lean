/-
  DagA, DagB, DagC, DagD: texts of one kind in one file; each part says what it holds.
-/
import Derived.Orders
import Derived.RegionTactic
import Derived.Maps.AppendAt
import Derived.Laws.AppendOwnNone

/-! A region that draws its order, told by what each of its slots holds once it is written: every operation is looked at once, in whatever state the region may be in when it comes up, and not once for each order. No program here. -/
namespace Go.Proofs.YtpjikijfendmhaaGreat
open Go

/-- The place in the region of the operation that writes slot t. -/
def wrote (ops : Array Oper) (t : Nat) : Option Nat := (List.range ops.size).find? fun i => (ops[i]?).bind (·.dst) == some t
/-- Slot t has its last value: no operation of the region writes it, or the one that does has been. -/
def hasIt (ops : Array Oper) (listed : Array Bool) (t : Nat) : Bool := match wrote ops t with | none => true | some i => listed.getD i false
/-- No two operations write one slot, and all slots lie in the frame. -/
def oneWriter (ops : Array Oper) (N : Nat) : Bool := (List.range ops.size).all fun i => match (ops[i]?).bind (·.dst) with | some d => decide (d < N) && (wrote ops d == some i) | none => true
/-- Each operation waits for earlier ones alone. -/
def backward (ops : Array Oper) : Bool := (List.range ops.size).all fun i => match ops[i]? with | some o => o.after.all fun e => decide (e.on < i) | none => true
/-- What operation i reads: slots that none writes, or that are written by operations for which it waits. -/
def needOk (ops : Array Oper) (N i : Nat) (need : List Nat) : Bool := match ops[i]? with
  | some o => need.all fun t => decide (t < N) && (match wrote ops t with | none => true | some j => o.after.any fun e => e.on == j && Region.binds .any e)
  | none => false

theorem wrote_some {ops : Array Oper} {t i : Nat} (h : wrote ops t = some i) : i < ops.size ∧ (ops[i]?).bind (·.dst) = some t := by
  unfold wrote at h
  have h1 := List.find?_some h
  have h2 := List.mem_of_find?_eq_some h
  exact ⟨List.mem_range.1 h2, by simpa using h1⟩

/-- The midst of a region. -/
structure Mid (ops : Array Oper) (N : Nat) (S : World → Prop) (U : Nat → World → Value → Prop) (listed : Array Bool) (a : Act) (w : World) : Prop where
  size : listed.size = ops.size
  tmps : a.tmps.size = N
  defers : a.defers = []
  st : S w
  val : ∀ t, t < N → hasIt ops listed t = true → U t w (a.tmps.getD t undef)

section
variable {P : Program} {ops : Array Oper} {Q : Exit → Act → World → Prop} {N : Nat} {S : World → Prop} {U : Nat → World → Value → Prop}

theorem Mid.put {listed : Array Bool} {a : Act} {w w' : World} {i d : Nat} {o : Oper} {v : Value} (h : Mid ops N S U listed a w) (h1 : oneWriter ops N = true) (ho : ops[i]? = some o) (hd : o.dst = some d)
    (hS : S w') (hm : ∀ t u, U t w u → U t w' u) (hv : U d w' v) : Mid ops N S U (listed.setIfInBounds i true) (a.put (some d) v) w' := by
  have hi : i < ops.size := (Array.getElem?_eq_some_iff.1 ho).1
  have h2 := List.all_eq_true.1 h1 i (List.mem_range.2 hi)
  have e0 : (ops[i]?).bind (·.dst) = some d := by rw [ho]; exact hd
  rw [e0] at h2
  have h3 : d < N ∧ wrote ops d = some i := by simpa using h2
  refine ⟨by simpa using h.size, by simpa [Act.put] using h.tmps, h.defers, hS, fun t ht hh => ?_⟩
  by_cases htd : t = d
  · subst htd
    have hb : t < a.tmps.size := by rw [h.tmps]; exact ht
    simpa [Act.put, Array.getD_eq_getD_getElem?, hb] using hv
  · have e1 : (a.put (some d) v).tmps.getD t undef = a.tmps.getD t undef := by
      simp [Act.put, Array.getD_eq_getD_getElem?, Ne.symm htd]
    rw [e1]
    refine hm t _ (h.val t ht ?_)
    unfold hasIt at hh ⊢
    cases hw : wrote ops t with
    | none => rfl
    | some j =>
      rw [hw] at hh
      simp only at hh ⊢
      have hji : i ≠ j := by
        rintro rfl
        have := (wrote_some hw).2
        rw [e0] at this
        exact htd (by injection this with k; exact k.symm)
      simpa [Array.getD_eq_getD_getElem?, Array.getElem?_setIfInBounds, hji] using hh

/-- Operation i may come up in whatever state the region is in. -/
def Step (P : Program) (ops : Array Oper) (Q : Exit → Act → World → Prop) (N : Nat) (S : World → Prop) (U : Nat → World → Value → Prop) (i : Nat) : Prop :=
  ∀ listed a w, Mid ops N S U listed a w → i ∈ Region.ready .any ops listed → wpOp P ops Q i (Mid ops N S U (listed.setIfInBounds i true)) a w

/-- How many operations are still to come. -/
def restD (ops : Array Oper) (listed : Array Bool) : Nat := ((List.range ops.size).filter fun i => !listed.getD i true).length
theorem restD_set {listed : Array Bool} {i : Nat} (hi : i ∈ Region.ready .any ops listed) : restD ops (listed.setIfInBounds i true) < restD ops listed := by
  have h0 := (mem_ready.1 hi).1
  have hs : i < ops.size := by
    obtain ⟨_, o, ho, _⟩ := mem_ready.1 hi
    exact (Array.getElem?_eq_some_iff.1 ho).1
  have hl : i < listed.size := by
    rcases Nat.lt_or_ge i listed.size with k | k
    · exact k
    · rw [Array.getD_eq_getD_getElem?, Array.getElem?_eq_none k] at h0; cases h0
  have gen : ∀ l : List Nat, (l.filter fun j => !(listed.setIfInBounds i true).getD j true).length ≤ (l.filter fun j => !listed.getD j true).length ∧
      (i ∈ l → (l.filter fun j => !(listed.setIfInBounds i true).getD j true).length < (l.filter fun j => !listed.getD j true).length) := by
    intro l
    induction l with
    | nil => exact ⟨Nat.le_refl _, fun h => by cases h⟩
    | cons j l ih =>
      obtain ⟨i1, i2⟩ := ih
      by_cases hji : i = j
      · subst hji
        have e1 : (listed.setIfInBounds i true).getD i true = true := by simp [Array.getD_eq_getD_getElem?, hl]
        simp only [List.filter_cons, e1, h0, Bool.not_true, Bool.not_false, if_true, Bool.false_eq_true, if_false, List.length_cons]
        exact ⟨by omega, fun _ => by omega⟩
      · have e1 : (listed.setIfInBounds i true).getD j true = listed.getD j true := by simp [Array.getD_eq_getD_getElem?, hji]
        simp only [List.filter_cons, e1]
        cases listed.getD j true
        · simp only [Bool.not_false, if_true, List.length_cons]
          refine ⟨by omega, fun h => ?_⟩
          rcases List.mem_cons.1 h with k | k
          · exact absurd k hji
          · have := i2 k; omega
        · simp only [Bool.not_true, Bool.false_eq_true, if_false]
          refine ⟨i1, fun h => ?_⟩
          rcases List.mem_cons.1 h with k | k
          · exact absurd k hji
          · exact i2 k
  exact (gen _).2 (List.mem_range.2 hs)

theorem all_there {listed : Array Bool} (h2 : backward ops = true) (hs : listed.size = ops.size) (hr : Region.ready .any ops listed = []) : ∀ i, i < ops.size → listed.getD i false = true := by
  intro i
  induction i using Nat.strongRecOn with
  | _ i ih =>
    intro hi
    cases hl : listed.getD i false
    · exfalso
      have hmem : i ∈ Region.ready .any ops listed := by
        refine mem_ready.2 ⟨?_, ops[i], Array.getElem?_eq_getElem hi, fun e he _ => ?_⟩
        · have hb : i < listed.size := by omega
          rw [Array.getD_eq_getD_getElem?, Array.getElem?_eq_getElem hb] at hl ⊢
          exact hl
        · have k := List.all_eq_true.1 h2 i (List.mem_range.2 hi)
          rw [Array.getElem?_eq_getElem hi] at k
          have k2 := Array.all_eq_true_iff_forall_mem.1 k e he
          have k3 : e.on < i := by simpa using k2
          exact ih e.on k3 (by omega)
      rw [hr] at hmem
      cases hmem
    · rfl

theorem any_mid (h2 : backward ops = true) (hstep : ∀ i, i < ops.size → Step P ops Q N S U i)
    (hend : ∀ a' w', a'.tmps.size = N → a'.defers = [] → S w' → (∀ t, t < N → U t w' (a'.tmps.getD t undef)) → Q .normal a' w') :
    ∀ (fuel : Nat) (listed : Array Bool) (a : Act) (w : World), restD ops listed ≤ fuel → Mid ops N S U listed a w → wpAny P .any ops Q fuel listed a w := by
  have fin : ∀ (listed : Array Bool) (a : Act) (w : World), Mid ops N S U listed a w → Region.ready .any ops listed = [] → Q .normal a w := fun listed a w hM hr =>
    hend a w hM.tmps hM.defers hM.st fun t ht => hM.val t ht (by
      unfold hasIt
      cases hw : wrote ops t with
      | none => rfl
      | some i => exact all_there h2 hM.size hr i (wrote_some hw).1)
  intro fuel
  induction fuel with
  | zero =>
    intro listed a w hl hM
    have hr : Region.ready .any ops listed = [] := by
      cases hq : Region.ready .any ops listed with
      | nil => rfl
      | cons i rs =>
        have := restD_set (ops := ops) (listed := listed) (i := i) (by rw [hq]; exact List.mem_cons_self)
        omega
    exact ⟨hr, fin listed a w hM hr⟩
  | succ fuel ih =>
    intro listed a w hl hM
    refine ⟨fin listed a w hM, fun i hi => ?_⟩
    have hs : i < ops.size := by
      obtain ⟨_, o, ho, _⟩ := mem_ready.1 hi
      exact (Array.getElem?_eq_some_iff.1 ho).1
    have hl2 := restD_set hi
    exact wpOp_mono (fun a w h => ih _ a w (by omega) h) (hstep i hs listed a w hM hi)

theorem region_mid {id : Nat} {a : Act} {w : World} (hm : P.follows .mixedOrders = true) (h2 : backward ops = true)
    (h0 : Mid ops N S U (Array.replicate ops.size false) a w.drew) (hstep : ∀ i, i < ops.size → Step P ops Q N S U i)
    (hend : ∀ a' w', a'.tmps.size = N → a'.defers = [] → S w' → (∀ t, t < N → U t w' (a'.tmps.getD t undef)) → Q .normal a' w') :
    (Code.region id ops true).wp P Q a w := by
  refine wp_region_any hm ?_
  refine any_mid h2 hstep hend ops.size _ a _ ?_ h0
  unfold restD
  exact Nat.le_trans (List.length_filter_le _ _) (by simp)

/-- A frame out of its slots. -/
def frameD (N : Nat) (x : Nat → Value) : Act := ⟨((List.range N).map x).toArray, []⟩
theorem frameD_of {a : Act} (h1 : a.tmps.size = N) (h2 : a.defers = []) : a = frameD N fun t => a.tmps.getD t undef := by
  obtain ⟨⟨l⟩, d⟩ := a
  simp only at h1 h2
  subst h2
  unfold frameD
  congr 1
  apply Array.ext
  · simp; simpa using h1
  · intro i h3 h4
    simp
    rw [List.getElem?_eq_getElem (by simpa using h3)]
    rfl

theorem step_of {i d : Nat} {o : Oper} (need : List Nat) (h1 : oneWriter ops N = true) (ho : ops[i]? = some o) (hd : o.dst = some d) (hn : needOk ops N i need = true)
    (h : ∀ (x : Nat → Value) (w : World), S w → (∀ t ∈ need, U t w (x t)) → ∀ K : Act → World → Prop,
      (∀ v w', S w' → (∀ t u, U t w u → U t w' u) → U d w' v → K ((frameD N x).put (some d) v) w') → wpOp P ops Q i K (frameD N x) w) : Step P ops Q N S U i := by
  intro listed a w hM hi
  have hx := frameD_of hM.tmps hM.defers
  rw [hx]
  rw [hx] at hM
  refine h _ w hM.st (fun t ht => ?_) _ fun v w' hS hm hv => hM.put h1 ho hd hS hm hv
  unfold needOk at hn
  rw [ho] at hn
  have k := List.all_eq_true.1 hn t ht
  have k1 : t < N := by
    have := (Bool.and_eq_true_iff.1 k).1
    simpa using this
  have hv := hM.val t k1 (by
    unfold hasIt
    have k2 := (Bool.and_eq_true_iff.1 k).2
    cases hw : wrote ops t with
    | none => rfl
    | some j =>
      rw [hw] at k2
      simp only at k2 ⊢
      obtain ⟨_, o', ho', hdep⟩ := mem_ready.1 hi
      have eo : o' = o := by rw [ho] at ho'; injection ho' with e; exact e.symm
      subst eo
      obtain ⟨q, hq, hk⟩ := Array.any_eq_true.1 k2
      have hk2 := Bool.and_eq_true_iff.1 hk
      have e1 : (o'.after[q]).on = j := by simpa using hk2.1
      rw [← e1]
      exact hdep _ (Array.getElem_mem hq) hk2.2)
  have e2 : (frameD N fun t => a.tmps.getD t undef).tmps.getD t undef = a.tmps.getD t undef := by rw [← hx]
  rw [e2] at hv
  exact hv
end
/-- Of which slots it must be told what they hold at the start. -/
def startOk (ops : Array Oper) (N : Nat) (ks L : List Nat) : Bool := (List.range N).all fun t => !hasIt ops (Array.replicate ops.size false) t || ks.getD t 0 == 0 || L.contains t
theorem start_of {ops : Array Oper} {N : Nat} {ks L : List Nat} (h : startOk ops N ks L = true) : ∀ t, t < N → hasIt ops (Array.replicate ops.size false) t = true → ks.getD t 0 = 0 ∨ t ∈ L := by
  intro t ht hh
  have k := List.all_eq_true.1 h t (List.mem_range.2 ht)
  rw [hh] at k
  rcases Bool.or_eq_true_iff.1 k with k | k
  · exact .inl (by simpa using k)
  · exact .inr (List.contains_iff_mem.1 k)
theorem uptoD_nil {p : Nat → Prop} : ∀ i, i < 0 → p i := fun _ h => absurd h (by omega)
theorem uptoD_succ {p : Nat → Prop} {n : Nat} (h : ∀ i, i < n → p i) (hn : p n) : ∀ i, i < n + 1 → p i := fun i hi => by
  rcases Nat.lt_or_ge i n with k | k
  · exact h i k
  · have e : i = n := by omega
    subst e
    exact hn
end Go.Proofs.YtpjikijfendmhaaGreat

/-! A region that draws its order and in which some operations turn memory that the others lean on (an append onto a row that was there, a store): what is known may name which operations have been. No program here. -/
namespace Go.Proofs.YtpjikijfendmhaaGreat
open Go

/-- What operation i waits for. -/
def depsB (ops : Array Oper) (i : Nat) : List Nat := match ops[i]? with | some o => (o.after.toList.filter fun e => Region.binds .any e).map (·.on) | none => []
/-- Those of l, and what they wait for, and so on. -/
def ancL (ops : Array Oper) : Nat → List Nat → List Nat
  | 0, l => l
  | n + 1, l => ancL ops n ((l ++ l.flatMap (depsB ops)).eraseDups)
def ClosedB (ops : Array Oper) (listed : Array Bool) : Prop := ∀ j, listed.getD j false = true → ∀ e ∈ depsB ops j, listed.getD e false = true
theorem anc_listed {ops : Array Oper} {listed : Array Bool} (hc : ClosedB ops listed) : ∀ (n : Nat) (l : List Nat), (∀ i ∈ l, listed.getD i false = true) → ∀ i ∈ ancL ops n l, listed.getD i false = true
  | 0, _, h => h
  | n + 1, l, h => anc_listed hc n _ (fun i hi => by
    rw [List.mem_eraseDups] at hi
    rcases List.mem_append.1 hi with e | e
    · exact h i e
    · obtain ⟨j, hj, he⟩ := List.mem_flatMap.1 e
      exact hc j (h j hj) i he)
theorem deps_ready {ops : Array Oper} {listed : Array Bool} {i : Nat} (hi : i ∈ Region.ready .any ops listed) : ∀ e ∈ depsB ops i, listed.getD e false = true := by
  intro e he
  obtain ⟨_, o, ho, hd⟩ := mem_ready.1 hi
  unfold depsB at he
  rw [ho] at he
  simp only [List.mem_map, List.mem_filter] at he
  obtain ⟨q, ⟨hq, hb⟩, rfl⟩ := he
  exact hd q (Array.mem_toList_iff.1 hq) hb
theorem ready_not {ops : Array Oper} {listed : Array Bool} {i : Nat} (hi : i ∈ Region.ready .any ops listed) : listed.getD i true = false := (mem_ready.1 hi).1
theorem getD_tf {listed : Array Bool} {i : Nat} (h : listed.getD i true = false) : listed.getD i false = false := by
  rcases Nat.lt_or_ge i listed.size with k | k
  · rw [Array.getD_eq_getD_getElem?, Array.getElem?_eq_getElem k] at h ⊢; exact h
  · rw [Array.getD_eq_getD_getElem?, Array.getElem?_eq_none k] at h; cases h
/-- Operation k waits, by others, for i. -/
def isAnc (ops : Array Oper) (k i : Nat) : Bool := (ancL ops ops.size (depsB ops k)).contains i
theorem pre_false {ops : Array Oper} {listed : Array Bool} {k i : Nat} (hc : ClosedB ops listed) (ha : isAnc ops k i = true) (hi : i ∈ Region.ready .any ops listed) : listed.getD k false = false := by
  cases h : listed.getD k false
  · rfl
  · have := anc_listed hc ops.size (depsB ops k) (hc k h) i (List.contains_iff_mem.1 ha)
    rw [getD_tf (ready_not hi)] at this; cases this
theorem post_true {ops : Array Oper} {listed : Array Bool} {k i : Nat} (hc : ClosedB ops listed) (ha : isAnc ops i k = true) (hi : i ∈ Region.ready .any ops listed) : listed.getD k false = true :=
  anc_listed hc ops.size (depsB ops i) (deps_ready hi) k (List.contains_iff_mem.1 ha)

/-- Which operations have been. -/
def been (listed : Array Bool) : Nat → Bool := fun j => listed.getD j false
/-- And now i. -/
def upB (σ : Nat → Bool) (i : Nat) : Nat → Bool := fun j => if i = j then true else σ j
theorem upB_eq (σ : Nat → Bool) (i : Nat) : upB σ i i = true := if_pos rfl
theorem upB_ne {σ : Nat → Bool} {i j : Nat} (h : i ≠ j) : upB σ i j = σ j := if_neg h
structure MidB (ops : Array Oper) (N : Nat) (S : (Nat → Bool) → World → Prop) (U : (Nat → Bool) → Nat → World → Value → Prop) (V : Nat → Value → Prop) (A : Nat → Value) (listed : Array Bool) (a : Act) (w : World) : Prop where
  size : listed.size = ops.size
  tmps : a.tmps.size = N
  defers : a.defers = []
  cl : ClosedB ops listed
  st : S (been listed) w
  val : ∀ t, t < N → hasIt ops listed t = true → U (been listed) t w (a.tmps.getD t undef)
  old : ∀ t j, wrote ops t = some j → listed.getD j false = false → V t (a.tmps.getD t undef)
  kp : ∀ t, wrote ops t = none → a.tmps.getD t undef = A t
/-- Slot t may hold something before operation i runs. -/
def livB (ops : Array Oper) (i t : Nat) : Bool := match wrote ops t with | none => true | some j => decide (j ≠ i) && !isAnc ops j i

section
variable {P : Program} {ops : Array Oper} {Q : Exit → Act → World → Prop} {N : Nat} {S : (Nat → Bool) → World → Prop} {U : (Nat → Bool) → Nat → World → Value → Prop} {V : Nat → Value → Prop} {A : Nat → Value}
theorem getD_set {listed : Array Bool} {i j : Nat} (hi : i < listed.size) : (listed.setIfInBounds i true).getD j false = if i = j then true else listed.getD j false := by
  by_cases h : i = j
  · subst h; simp [Array.getD_eq_getD_getElem?, hi]
  · simp [Array.getD_eq_getD_getElem?, h]
theorem MidB.put {listed : Array Bool} {a : Act} {w w' : World} {i : Nat} {o : Oper} {v : Value} (h : MidB ops N S U V A listed a w) (h1 : oneWriter ops N = true) (ho : ops[i]? = some o) (hi : i ∈ Region.ready .any ops listed) 
    (hS : S (upB (been listed) i) w') (hm : ∀ t u, livB ops i t = true → U (been listed) t w u → U (upB (been listed) i) t w' u) (hv : ∀ d, o.dst = some d → U (upB (been listed) i) d w' v) : MidB ops N S U V A (listed.setIfInBounds i true) (a.put o.dst v) w' := by
  have his : i < ops.size := (Array.getElem?_eq_some_iff.1 ho).1
  have hil : i < listed.size := by rw [h.size]; exact his
  have h2 := List.all_eq_true.1 h1 i (List.mem_range.2 his)
  have hbn : been (listed.setIfInBounds i true) = upB (been listed) i := by
    funext j
    unfold been upB
    rw [getD_set hil]
  refine ⟨by simpa using h.size, ?_, ?_, fun j hj e he => ?_, ?_, fun t ht hh => ?_, fun t j hw hj => ?_, fun t hw => ?_⟩
  · have := h.tmps
    unfold Act.put
    split <;> simpa using this
  · have := h.defers
    unfold Act.put
    split <;> simpa using this
  · rw [getD_set hil] at hj ⊢
    split
    · rfl
    · rename_i hne
      by_cases hij : i = j
      · subst hij; exact deps_ready hi e he
      · rw [if_neg hij] at hj; exact h.cl j hj e he
  · rw [hbn]; exact hS
  · rw [hbn]
    by_cases htd : o.dst = some t
    · have hbt : t < a.tmps.size := by rw [h.tmps]; exact ht
      have e1 : (a.put o.dst v).tmps.getD t undef = v := by simp [htd, Act.put, Array.getD_eq_getD_getElem?, hbt]
      rw [e1]; exact hv t htd
    · have e1 : (a.put o.dst v).tmps.getD t undef = a.tmps.getD t undef := by
        cases hd : o.dst with
        | none => rfl
        | some d =>
          have : d ≠ t := by rintro rfl; exact htd hd
          simp [Act.put, Array.getD_eq_getD_getElem?, this]
      rw [e1]
      have hlv : hasIt ops listed t = true → livB ops i t = true := fun q => by
        unfold hasIt at q
        unfold livB
        cases hw : wrote ops t with
        | none => rfl
        | some j =>
          rw [hw] at q
          simp only at q ⊢
          have hji : j ≠ i := by
            rintro rfl
            rw [getD_tf (ready_not hi)] at q; cases q
          rw [decide_eq_true hji, Bool.true_and]
          cases hq : isAnc ops j i
          · rfl
          · rw [pre_false h.cl hq hi] at q; cases q
      have hit : hasIt ops listed t = true := ?_
      exact hm t _ (hlv hit) (h.val t ht hit)
      unfold hasIt at hh ⊢
      cases hw : wrote ops t with
      | none => rfl
      | some j =>
        rw [hw] at hh
        simp only at hh ⊢
        rw [getD_set hil] at hh
        by_cases hij : i = j
        · subst hij
          have := (wrote_some hw).2
          rw [ho] at this
          exact absurd this htd
        · rw [if_neg hij] at hh; exact hh
  · rw [getD_set hil] at hj
    by_cases hij : i = j
    · rw [if_pos hij] at hj; cases hj
    · rw [if_neg hij] at hj
      have e1 : (a.put o.dst v).tmps.getD t undef = a.tmps.getD t undef := by
        cases hd : o.dst with
        | none => rfl
        | some d =>
          have : d ≠ t := by
            rintro rfl
            have e0 : (ops[i]?).bind (·.dst) = some d := by rw [ho]; exact hd
            rw [e0] at h2
            have h3 : d < N ∧ wrote ops d = some i := by simpa using h2
            rw [h3.2] at hw
            injection hw with q
            exact hij q
          simp [Act.put, Array.getD_eq_getD_getElem?, this]
      rw [e1]
      exact h.old t j hw hj
  · have e1 : (a.put o.dst v).tmps.getD t undef = a.tmps.getD t undef := by
      cases hd : o.dst with
      | none => rfl
      | some d =>
        have : d ≠ t := by
          rintro rfl
          have e0 : (ops[i]?).bind (·.dst) = some d := by rw [ho]; exact hd
          rw [e0] at h2
          have h3 : d < N ∧ wrote ops d = some i := by simpa using h2
          rw [h3.2] at hw
          cases hw
        simp [Act.put, Array.getD_eq_getD_getElem?, this]
    rw [e1]
    exact h.kp t hw

def StepB (P : Program) (ops : Array Oper) (Q : Exit → Act → World → Prop) (N : Nat) (S : (Nat → Bool) → World → Prop) (U : (Nat → Bool) → Nat → World → Value → Prop) (V : Nat → Value → Prop) (A : Nat → Value) (i : Nat) : Prop :=
  ∀ listed a w, MidB ops N S U V A listed a w → i ∈ Region.ready .any ops listed → wpOp P ops Q i (MidB ops N S U V A (listed.setIfInBounds i true)) a w

theorem any_midB (h2 : backward ops = true) (hstep : ∀ i, i < ops.size → StepB P ops Q N S U V A i)
    (hend : ∀ (x : Nat → Value) w', S (fun j => decide (j < ops.size)) w' → (∀ t, t < N → U (fun j => decide (j < ops.size)) t w' (x t)) → (∀ t, wrote ops t = none → x t = A t) → Q .normal (frameD N x) w') :
    ∀ (fuel : Nat) (listed : Array Bool) (a : Act) (w : World), restD ops listed ≤ fuel → MidB ops N S U V A listed a w → wpAny P .any ops Q fuel listed a w := by
  have fin : ∀ (listed : Array Bool) (a : Act) (w : World), MidB ops N S U V A listed a w → Region.ready .any ops listed = [] → Q .normal a w := fun listed a w hM hr => by
    have hall := all_there h2 hM.size hr
    have e : been listed = fun j => decide (j < ops.size) := by
      funext j
      unfold been
      rcases Nat.lt_or_ge j ops.size with q | q
      · rw [hall j q, decide_eq_true q]
      · rw [decide_eq_false (by omega), Array.getD_eq_getD_getElem?, Array.getElem?_eq_none (by rw [hM.size]; exact q)]; rfl
    have hs := hM.st
    have hv := hM.val
    rw [e] at hs hv
    rw [frameD_of hM.tmps hM.defers]
    exact hend _ w hs (fun t ht => hv t ht (by
      unfold hasIt
      cases hw : wrote ops t with
      | none => rfl
      | some i => exact hall i (wrote_some hw).1)) hM.kp
  intro fuel
  induction fuel with
  | zero =>
    intro listed a w hl hM
    have hr : Region.ready .any ops listed = [] := by
      cases hq : Region.ready .any ops listed with
      | nil => rfl
      | cons i rs =>
        have := restD_set (ops := ops) (listed := listed) (i := i) (by rw [hq]; exact List.mem_cons_self)
        omega
    exact ⟨hr, fin listed a w hM hr⟩
  | succ fuel ih =>
    intro listed a w hl hM
    refine ⟨fin listed a w hM, fun i hi => ?_⟩
    have hs : i < ops.size := by
      obtain ⟨_, o, ho, _⟩ := mem_ready.1 hi
      exact (Array.getElem?_eq_some_iff.1 ho).1
    have hl2 := restD_set hi
    exact wpOp_mono (fun a w h => ih _ a w (by omega) h) (hstep i hs listed a w hM hi)

theorem region_midB {id : Nat} {a : Act} {w : World} (hm : P.follows .mixedOrders = true) (h2 : backward ops = true) (h1 : oneWriter ops N = true)
    (h0 : MidB ops N S U V (fun t => a.tmps.getD t undef) (Array.replicate ops.size false) a w.drew) (hstep : oneWriter ops N = true → ∀ i, i < ops.size → StepB P ops Q N S U V (fun t => a.tmps.getD t undef) i)
    (hend : ∀ (x : Nat → Value) w', S (fun j => decide (j < ops.size)) w' → (∀ t, t < N → U (fun j => decide (j < ops.size)) t w' (x t)) → (∀ t, wrote ops t = none → x t = a.tmps.getD t undef) → Q .normal (frameD N x) w') :
    (Code.region id ops true).wp P Q a w := by
  refine wp_region_any hm ?_
  refine any_midB h2 (hstep h1) hend ops.size _ a _ ?_ h0
  unfold restD
  exact Nat.le_trans (List.length_filter_le _ _) (by simp)
theorem closed_start (ops : Array Oper) : ClosedB ops (Array.replicate ops.size false) := by
  intro j hj
  rw [Array.getD_eq_getD_getElem?, Array.getElem?_replicate] at hj
  split at hj <;> cases hj
theorem start_been (ops : Array Oper) : been (Array.replicate ops.size false) = fun _ => false := by
  funext k
  unfold been
  rw [Array.getD_eq_getD_getElem?, Array.getElem?_replicate]
  split <;> rfl
/-- The start of the region. -/
theorem midB_start {a : Act} {w : World} (h1 : a.tmps.size = N) (h2 : a.defers = []) (hS : S (fun _ => false) w) (hU : ∀ t, t < N → hasIt ops (Array.replicate ops.size false) t = true → U (fun _ => false) t w (a.tmps.getD t undef)) (hV : ∀ t, V t (a.tmps.getD t undef)) : MidB ops N S U V (fun t => a.tmps.getD t undef) (Array.replicate ops.size false) a w :=
  ⟨by simp, h1, h2, closed_start ops, by rw [start_been]; exact hS, by rw [start_been]; exact hU, fun t _ _ _ => hV t, fun _ _ => rfl⟩
/-- Slots that are read before the region writes them. -/
def oldOk (ops : Array Oper) (i : Nat) (olds : List Nat) : Bool := olds.all fun t => match wrote ops t with | some j => isAnc ops j i | none => false
theorem midB_old {listed : Array Bool} {a : Act} {w : World} {i : Nat} {olds : List Nat} (hM : MidB ops N S U V A listed a w) (hi : i ∈ Region.ready .any ops listed) (hn : oldOk ops i olds = true) :
    ∀ t ∈ olds, V t (a.tmps.getD t undef) := by
  intro t ht
  have q := List.all_eq_true.1 hn t ht
  cases hw : wrote ops t with
  | none => rw [hw] at q; cases q
  | some j =>
    rw [hw] at q
    exact hM.old t j hw (pre_false hM.cl q hi)

theorem midB_need {listed : Array Bool} {a : Act} {w : World} {i : Nat} {need : List Nat} (hM : MidB ops N S U V A listed a w) (hi : i ∈ Region.ready .any ops listed) (hn : needOk ops N i need = true) :
    ∀ t ∈ need, U (been listed) t w (a.tmps.getD t undef) := by
  intro t ht
  unfold needOk at hn
  obtain ⟨_, o, ho, hdep⟩ := mem_ready.1 hi
  rw [ho] at hn
  have q := List.all_eq_true.1 hn t ht
  have k1 : t < N := by
    have := (Bool.and_eq_true_iff.1 q).1
    simpa using this
  refine hM.val t k1 ?_
  unfold hasIt
  have k2 := (Bool.and_eq_true_iff.1 q).2
  cases hw : wrote ops t with
  | none => rfl
  | some j =>
    rw [hw] at k2
    simp only at k2 ⊢
    obtain ⟨r, hr, hk⟩ := Array.any_eq_true.1 k2
    have hk2 := Bool.and_eq_true_iff.1 hk
    have e1 : (o.after[r]).on = j := by simpa using hk2.1
    rw [← e1]
    exact hdep _ (Array.getElem_mem hr) hk2.2
/-- What an operation has to show: with the slots that it needs, where those of pre are still to come and those of post have been. -/
theorem stepB_of {i : Nat} {o : Oper} {d : Option Nat} (pre post need olds : List Nat) (h1 : oneWriter ops N = true) (ho : ops[i]? = some o) (hd : o.dst = d) (hn : needOk ops N i need = true) (hno : oldOk ops i olds = true)
    (hpre : (pre.all fun k => (k == i) || isAnc ops k i) = true) (hpost : (post.all fun k => isAnc ops i k) = true)
    (h : ∀ (σ : Nat → Bool), (∀ k ∈ pre, σ k = false) → (∀ k ∈ post, σ k = true) → ∀ (x : Nat → Value) (w : World), S σ w → (∀ t ∈ need, U σ t w (x t)) → (∀ t ∈ olds, V t (x t)) → (∀ t, wrote ops t = none → x t = A t) → ∀ Lv : Nat → Prop, (∀ t, Lv t → livB ops i t = true) → ∀ K : Act → World → Prop,
      (∀ v w', S (upB σ i) w' → (∀ t u, Lv t → U σ t w u → U (upB σ i) t w' u) → (∀ e, d = some e → U (upB σ i) e w' v) → K ((frameD N x).put d v) w') → wpOp P ops Q i K (frameD N x) w) : StepB P ops Q N S U V A i := by
  intro listed a w hMid hi
  have hx := frameD_of hMid.tmps hMid.defers
  have hne := midB_need hMid hi hn
  have hg := h (been listed) (fun k hk => by
    have q := List.all_eq_true.1 hpre k hk
    rcases Bool.or_eq_true_iff.1 q with e | e
    · rw [eq_of_beq e]; exact getD_tf (ready_not hi)
    · exact pre_false hMid.cl e hi) (fun k hk => post_true hMid.cl (List.all_eq_true.1 hpost k hk) hi) (fun t => a.tmps.getD t undef) w hMid.st hne (midB_old hMid hi hno) hMid.kp (fun t => livB ops i t = true) (fun _ h => h) (MidB ops N S U V A (listed.setIfInBounds i true)) (fun v w' hS hm hv => by
    rw [← hx, ← hd]
    exact hMid.put h1 ho hi hS hm (fun e he => hv e (hd ▸ he)))
  rw [← hx] at hg
  exact hg
end
end Go.Proofs.YtpjikijfendmhaaGreat

/-! append as one operation of a drawn region that is told slot by slot. No program here. -/
namespace Go.Proofs.YtpjikijfendmhaaGreat
open Go

section
variable {P : Program} {ops : Array Oper} {Q : Exit → Act → World → Prop} (w : World)
theorem wpOp_append {i : Nat} {op : Oper} {a : Act} {K : Act → World → Prop} (hoi : ops[i]? = some op) (hgd : op.guard = none) (s x : Operand) (t : TypeId)
    (ho : op.op = .call { callee := .builtin .append, args := #[s, x], argTypes := #[t, t] })
    (base : Nat) (e : TypeId) (i0 : TypeInfo) (z : Value) (size bytes : Nat) (ht : P.underlying t = some (.slice e)) (hi : P.info? e = some i0) (hz : i0.zero = some z)
    (hsize : i0.size = size) (hby : i0.bytes = bytes) (hzs : z.cells.size = size) (hsz : 0 < size)
    (v : Value) (n : Nat) (xs : List Value) (hs : a.eval s = v) (hown : w.ownsRow base e size v n xs)
    (ad : Addr) (m c : Nat) (news : List Value) (hx : a.eval x = .slice (some ad) m c) (hl : news.length = m * size) (hnews : ∀ j u, news[j]? = some u → w.cell? (ad.add j) = some u) (h1 : ∀ u ∈ news, u.oneCell' = true)
    (h63 : n + m ≤ maxLen) (hbytes : (n + m) * bytes ≤ 140737488355328) (hbase : base ≤ w.heap.size)
    (h : ∀ v' w', w'.ownsRow base e size v' (n + m) (xs ++ news) → w.grownBy w' v.ownBlock → (v'.ownBlock = v.ownBlock ∨ v'.ownBlock = some w.heap.size) → K (a.put op.dst v') w') : wpOp P ops Q i K a w := by
  obtain ⟨v', w', hr, h2, h3, _, h5⟩ := run_append_own_at (P := P) w base t op.type e i0 z size bytes ht hi hz hsize hby hzs hsz v n xs hown ad m c news hl hnews h1 h63 hbytes hbase
  refine wpOp_step hoi fun K' hK' => ?_
  have hw : Region.wanted op (yielded ops a.tmps) = true := by simp [Region.wanted, hgd]
  rw [if_pos hw]
  unfold Oper.wp execOp
  simp only [ho, resolve, invoke, builtin, Sem.run_bind, Sem.run_pure, Result.andThen_ok, List.map_toArray, List.map_cons, List.map_nil, hs, hx, hr]
  exact hK' _ _ (h v' w' h2 h3 h5)
theorem wpOp_append_none {i : Nat} {op : Oper} {a : Act} {K : Act → World → Prop} (hoi : ops[i]? = some op) (hgd : op.guard = none) (s x : Operand) (t : TypeId)
    (ho : op.op = .call { callee := .builtin .append, args := #[s, x], argTypes := #[t, t] })
    (base : Nat) (e : TypeId) (i0 : TypeInfo) (size : Nat) (ht : P.underlying t = some (.slice e)) (hi : P.info? e = some i0)
    (v : Value) (n : Nat) (xs : List Value) (hs : a.eval s = v) (hown : w.ownsRow base e size v n xs) (hx : a.eval x = .slice none 0 0)
    (h : K (a.put op.dst v) w) : wpOp P ops Q i K a w := by
  have hrun := run_append_owned_none (P := P) (w := w) base t op.type e i0 size ht hi v n xs hown
  refine wpOp_step hoi fun K' hK' => ?_
  have hw : Region.wanted op (yielded ops a.tmps) = true := by simp [Region.wanted, hgd]
  rw [if_pos hw]
  unfold Oper.wp
  simp [execOp, ho, resolve, invoke, builtin, hs, hx, hrun, Result.andThen]
  exact hK' _ _ h
end
/-- Of no slot that may hold something before operation i runs is anything said behind it. -/
def deadOk (ops : Array Oper) (i : Nat) (ks : List Nat) : Bool := (List.range ks.length).all fun t => !livB ops i t || ks.getD t 0 == 0
theorem dead_of {ops : Array Oper} {i : Nat} {ks : List Nat} (h : deadOk ops i ks = true) {t : Nat} (ht : livB ops i t = true) : ks.getD t 0 = 0 := by
  rcases Nat.lt_or_ge t ks.length with k | k
  · have q := List.all_eq_true.1 h t (List.mem_range.2 k)
    rw [ht] at q
    simpa using q
  · rw [List.getD_eq_getElem?_getD, List.getElem?_eq_none k]; rfl
end Go.Proofs.YtpjikijfendmhaaGreat

/-! A step of a drawn region that turns memory, told with what each slot holds at that moment. No program here. -/
namespace Go.Proofs.YtpjikijfendmhaaGreat
open Go

section
variable {P : Program} {ops : Array Oper} {Q : Exit → Act → World → Prop} {N : Nat} {S : (Nat → Bool) → World → Prop} {U : (Nat → Bool) → Nat → World → Value → Prop} {V : Nat → Value → Prop} {A : Nat → Value}
theorem MidB.put2 {listed : Array Bool} {a : Act} {w w' : World} {i : Nat} {o : Oper} {v : Value} (h : MidB ops N S U V A listed a w) (h1 : oneWriter ops N = true) (ho : ops[i]? = some o) (hi : i ∈ Region.ready .any ops listed) 
    (hS : S (upB (been listed) i) w') (hm : ∀ t, livB ops i t = true → U (been listed) t w (a.tmps.getD t undef) → U (upB (been listed) i) t w' (a.tmps.getD t undef)) (hv : ∀ d, o.dst = some d → U (upB (been listed) i) d w' v) : MidB ops N S U V A (listed.setIfInBounds i true) (a.put o.dst v) w' := by
  have his : i < ops.size := (Array.getElem?_eq_some_iff.1 ho).1
  have hil : i < listed.size := by rw [h.size]; exact his
  have h2 := List.all_eq_true.1 h1 i (List.mem_range.2 his)
  have hbn : been (listed.setIfInBounds i true) = upB (been listed) i := by
    funext j
    unfold been upB
    rw [getD_set hil]
  refine ⟨by simpa using h.size, ?_, ?_, fun j hj e he => ?_, ?_, fun t ht hh => ?_, fun t j hw hj => ?_, fun t hw => ?_⟩
  · have := h.tmps
    unfold Act.put
    split <;> simpa using this
  · have := h.defers
    unfold Act.put
    split <;> simpa using this
  · rw [getD_set hil] at hj ⊢
    split
    · rfl
    · rename_i hne
      by_cases hij : i = j
      · subst hij; exact deps_ready hi e he
      · rw [if_neg hij] at hj; exact h.cl j hj e he
  · rw [hbn]; exact hS
  · rw [hbn]
    by_cases htd : o.dst = some t
    · have hbt : t < a.tmps.size := by rw [h.tmps]; exact ht
      have e1 : (a.put o.dst v).tmps.getD t undef = v := by simp [htd, Act.put, Array.getD_eq_getD_getElem?, hbt]
      rw [e1]; exact hv t htd
    · have e1 : (a.put o.dst v).tmps.getD t undef = a.tmps.getD t undef := by
        cases hd : o.dst with
        | none => rfl
        | some d =>
          have : d ≠ t := by rintro rfl; exact htd hd
          simp [Act.put, Array.getD_eq_getD_getElem?, this]
      rw [e1]
      have hlv : hasIt ops listed t = true → livB ops i t = true := fun q => by
        unfold hasIt at q
        unfold livB
        cases hw : wrote ops t with
        | none => rfl
        | some j =>
          rw [hw] at q
          simp only at q ⊢
          have hji : j ≠ i := by
            rintro rfl
            rw [getD_tf (ready_not hi)] at q; cases q
          rw [decide_eq_true hji, Bool.true_and]
          cases hq : isAnc ops j i
          · rfl
          · rw [pre_false h.cl hq hi] at q; cases q
      have hit : hasIt ops listed t = true := ?_
      exact hm t (hlv hit) (h.val t ht hit)
      unfold hasIt at hh ⊢
      cases hw : wrote ops t with
      | none => rfl
      | some j =>
        rw [hw] at hh
        simp only at hh ⊢
        rw [getD_set hil] at hh
        by_cases hij : i = j
        · subst hij
          have := (wrote_some hw).2
          rw [ho] at this
          exact absurd this htd
        · rw [if_neg hij] at hh; exact hh
  · rw [getD_set hil] at hj
    by_cases hij : i = j
    · rw [if_pos hij] at hj; cases hj
    · rw [if_neg hij] at hj
      have e1 : (a.put o.dst v).tmps.getD t undef = a.tmps.getD t undef := by
        cases hd : o.dst with
        | none => rfl
        | some d =>
          have : d ≠ t := by
            rintro rfl
            have e0 : (ops[i]?).bind (·.dst) = some d := by rw [ho]; exact hd
            rw [e0] at h2
            have h3 : d < N ∧ wrote ops d = some i := by simpa using h2
            rw [h3.2] at hw
            injection hw with q
            exact hij q
          simp [Act.put, Array.getD_eq_getD_getElem?, this]
      rw [e1]
      exact h.old t j hw hj
  · have e1 : (a.put o.dst v).tmps.getD t undef = a.tmps.getD t undef := by
      cases hd : o.dst with
      | none => rfl
      | some d =>
        have : d ≠ t := by
          rintro rfl
          have e0 : (ops[i]?).bind (·.dst) = some d := by rw [ho]; exact hd
          rw [e0] at h2
          have h3 : d < N ∧ wrote ops d = some i := by simpa using h2
          rw [h3.2] at hw
          cases hw
        simp [Act.put, Array.getD_eq_getD_getElem?, this]
    rw [e1]
    exact h.kp t hw

theorem stepB_of2 {i : Nat} {o : Oper} {d : Option Nat} (pre post need olds : List Nat) (h1 : oneWriter ops N = true) (ho : ops[i]? = some o) (hd : o.dst = d) (hn : needOk ops N i need = true) (hno : oldOk ops i olds = true)
    (hpre : (pre.all fun k => (k == i) || isAnc ops k i) = true) (hpost : (post.all fun k => isAnc ops i k) = true)
    (h : ∀ (σ : Nat → Bool), (∀ k ∈ pre, σ k = false) → (∀ k ∈ post, σ k = true) → ∀ (x : Nat → Value) (w : World), S σ w → (∀ t ∈ need, U σ t w (x t)) → (∀ t ∈ olds, V t (x t)) → (∀ t, wrote ops t = none → x t = A t) → ∀ Lv : Nat → Prop, (∀ t, Lv t → livB ops i t = true) → ∀ K : Act → World → Prop,
      (∀ v w', S (upB σ i) w' → (∀ t, Lv t → U σ t w (x t) → U (upB σ i) t w' (x t)) → (∀ e, d = some e → U (upB σ i) e w' v) → K ((frameD N x).put d v) w') → wpOp P ops Q i K (frameD N x) w) : StepB P ops Q N S U V A i := by
  intro listed a w hMid hi
  have hx := frameD_of hMid.tmps hMid.defers
  have hne := midB_need hMid hi hn
  have hg := h (been listed) (fun k hk => by
    have q := List.all_eq_true.1 hpre k hk
    rcases Bool.or_eq_true_iff.1 q with e | e
    · rw [eq_of_beq e]; exact getD_tf (ready_not hi)
    · exact pre_false hMid.cl e hi) (fun k hk => post_true hMid.cl (List.all_eq_true.1 hpost k hk) hi) (fun t => a.tmps.getD t undef) w hMid.st hne (midB_old hMid hi hno) hMid.kp (fun t => livB ops i t = true) (fun _ h => h) (MidB ops N S U V A (listed.setIfInBounds i true)) (fun v w' hS hm hv => by
    rw [← hx, ← hd]
    exact hMid.put2 h1 ho hi hS hm (fun e he => hv e (hd ▸ he)))
  rw [← hx] at hg
  exact hg
end
end Go.Proofs.YtpjikijfendmhaaGreat
