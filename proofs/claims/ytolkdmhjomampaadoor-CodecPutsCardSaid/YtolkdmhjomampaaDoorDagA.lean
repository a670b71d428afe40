/-
  A region that draws its order, told by what each of its slots holds once it is written: every operation is looked at once, in whatever state the region may be in when it comes up, and not once for each order. No program here.
-/
import Derived.Orders
import Derived.RegionTactic
namespace Go.Proofs.YtolkdmhjomampaaDoor
open Go

/-- The place in the region of the operation that writes slot t. -/
def wrote (ops : Array Oper) (t : Nat) : Option Nat := (List.range ops.size).find? fun i => (ops[i]?).bind (·.dst) == some t
/-- Slot t has its last value: no operation of the region writes it, or the one that does has been. -/
def hasIt (ops : Array Oper) (listed : Array Bool) (t : Nat) : Bool := match wrote ops t with | none => true | some i => listed.getD i false
/-- No two operations write one slot, and all slots lie in the frame. -/
def oneWriter (ops : Array Oper) (N : Nat) : Bool := (List.range ops.size).all fun i => match (ops[i]?).bind (·.dst) with | some d => decide (d < N) && (wrote ops d == some i) | none => true
/-- Each operation waits for earlier ones alone. -/
def backward (ops : Array Oper) : Bool := (List.range ops.size).all fun i => match ops[i]? with | some o => o.after.all fun e => decide (e.on < i) | none => true
/-- What operation i reads: slots that none writes, or that are written by operations for which it waits. -/
def needOk (ops : Array Oper) (N i : Nat) (need : List Nat) : Bool := match ops[i]? with
  | some o => need.all fun t => decide (t < N) && (match wrote ops t with | none => true | some j => o.after.any fun e => e.on == j && Region.binds .any e)
  | none => false

theorem wrote_some {ops : Array Oper} {t i : Nat} (h : wrote ops t = some i) : i < ops.size ∧ (ops[i]?).bind (·.dst) = some t := by
  unfold wrote at h
  have h1 := List.find?_some h
  have h2 := List.mem_of_find?_eq_some h
  exact ⟨List.mem_range.1 h2, by simpa using h1⟩

/-- The midst of a region. -/
structure Mid (ops : Array Oper) (N : Nat) (S : World → Prop) (U : Nat → World → Value → Prop) (listed : Array Bool) (a : Act) (w : World) : Prop where
  size : listed.size = ops.size
  tmps : a.tmps.size = N
  defers : a.defers = []
  st : S w
  val : ∀ t, t < N → hasIt ops listed t = true → U t w (a.tmps.getD t undef)

section
variable {P : Program} {ops : Array Oper} {Q : Exit → Act → World → Prop} {N : Nat} {S : World → Prop} {U : Nat → World → Value → Prop}

theorem Mid.put {listed : Array Bool} {a : Act} {w w' : World} {i d : Nat} {o : Oper} {v : Value} (h : Mid ops N S U listed a w) (h1 : oneWriter ops N = true) (ho : ops[i]? = some o) (hd : o.dst = some d)
    (hS : S w') (hm : ∀ t u, U t w u → U t w' u) (hv : U d w' v) : Mid ops N S U (listed.setIfInBounds i true) (a.put (some d) v) w' := by
  have hi : i < ops.size := (Array.getElem?_eq_some_iff.1 ho).1
  have h2 := List.all_eq_true.1 h1 i (List.mem_range.2 hi)
  have e0 : (ops[i]?).bind (·.dst) = some d := by rw [ho]; exact hd
  rw [e0] at h2
  have h3 : d < N ∧ wrote ops d = some i := by simpa using h2
  refine ⟨by simpa using h.size, by simpa [Act.put] using h.tmps, h.defers, hS, fun t ht hh => ?_⟩
  by_cases htd : t = d
  · subst htd
    have hb : t < a.tmps.size := by rw [h.tmps]; exact ht
    simpa [Act.put, Array.getD_eq_getD_getElem?, hb] using hv
  · have e1 : (a.put (some d) v).tmps.getD t undef = a.tmps.getD t undef := by
      simp [Act.put, Array.getD_eq_getD_getElem?, Ne.symm htd]
    rw [e1]
    refine hm t _ (h.val t ht ?_)
    unfold hasIt at hh ⊢
    cases hw : wrote ops t with
    | none => rfl
    | some j =>
      rw [hw] at hh
      simp only at hh ⊢
      have hji : i ≠ j := by
        rintro rfl
        have := (wrote_some hw).2
        rw [e0] at this
        exact htd (by injection this with k; exact k.symm)
      simpa [Array.getD_eq_getD_getElem?, Array.getElem?_setIfInBounds, hji] using hh

/-- Operation i may come up in whatever state the region is in. -/
def Step (P : Program) (ops : Array Oper) (Q : Exit → Act → World → Prop) (N : Nat) (S : World → Prop) (U : Nat → World → Value → Prop) (i : Nat) : Prop :=
  ∀ listed a w, Mid ops N S U listed a w → i ∈ Region.ready .any ops listed → wpOp P ops Q i (Mid ops N S U (listed.setIfInBounds i true)) a w

/-- How many operations are still to come. -/
def restD (ops : Array Oper) (listed : Array Bool) : Nat := ((List.range ops.size).filter fun i => !listed.getD i true).length
theorem restD_set {listed : Array Bool} {i : Nat} (hi : i ∈ Region.ready .any ops listed) : restD ops (listed.setIfInBounds i true) < restD ops listed := by
  have h0 := (mem_ready.1 hi).1
  have hs : i < ops.size := by
    obtain ⟨_, o, ho, _⟩ := mem_ready.1 hi
    exact (Array.getElem?_eq_some_iff.1 ho).1
  have hl : i < listed.size := by
    rcases Nat.lt_or_ge i listed.size with k | k
    · exact k
    · rw [Array.getD_eq_getD_getElem?, Array.getElem?_eq_none k] at h0; cases h0
  have gen : ∀ l : List Nat, (l.filter fun j => !(listed.setIfInBounds i true).getD j true).length ≤ (l.filter fun j => !listed.getD j true).length ∧
      (i ∈ l → (l.filter fun j => !(listed.setIfInBounds i true).getD j true).length < (l.filter fun j => !listed.getD j true).length) := by
    intro l
    induction l with
    | nil => exact ⟨Nat.le_refl _, fun h => by cases h⟩
    | cons j l ih =>
      obtain ⟨i1, i2⟩ := ih
      by_cases hji : i = j
      · subst hji
        have e1 : (listed.setIfInBounds i true).getD i true = true := by simp [Array.getD_eq_getD_getElem?, hl]
        simp only [List.filter_cons, e1, h0, Bool.not_true, Bool.not_false, if_true, Bool.false_eq_true, if_false, List.length_cons]
        exact ⟨by omega, fun _ => by omega⟩
      · have e1 : (listed.setIfInBounds i true).getD j true = listed.getD j true := by simp [Array.getD_eq_getD_getElem?, hji]
        simp only [List.filter_cons, e1]
        cases listed.getD j true
        · simp only [Bool.not_false, if_true, List.length_cons]
          refine ⟨by omega, fun h => ?_⟩
          rcases List.mem_cons.1 h with k | k
          · exact absurd k hji
          · have := i2 k; omega
        · simp only [Bool.not_true, Bool.false_eq_true, if_false]
          refine ⟨i1, fun h => ?_⟩
          rcases List.mem_cons.1 h with k | k
          · exact absurd k hji
          · exact i2 k
  exact (gen _).2 (List.mem_range.2 hs)

theorem all_there {listed : Array Bool} (h2 : backward ops = true) (hs : listed.size = ops.size) (hr : Region.ready .any ops listed = []) : ∀ i, i < ops.size → listed.getD i false = true := by
  intro i
  induction i using Nat.strongRecOn with
  | _ i ih =>
    intro hi
    cases hl : listed.getD i false
    · exfalso
      have hmem : i ∈ Region.ready .any ops listed := by
        refine mem_ready.2 ⟨?_, ops[i], Array.getElem?_eq_getElem hi, fun e he _ => ?_⟩
        · have hb : i < listed.size := by omega
          rw [Array.getD_eq_getD_getElem?, Array.getElem?_eq_getElem hb] at hl ⊢
          exact hl
        · have k := List.all_eq_true.1 h2 i (List.mem_range.2 hi)
          rw [Array.getElem?_eq_getElem hi] at k
          have k2 := Array.all_eq_true_iff_forall_mem.1 k e he
          have k3 : e.on < i := by simpa using k2
          exact ih e.on k3 (by omega)
      rw [hr] at hmem
      cases hmem
    · rfl

theorem any_mid (h2 : backward ops = true) (hstep : ∀ i, i < ops.size → Step P ops Q N S U i)
    (hend : ∀ a' w', a'.tmps.size = N → a'.defers = [] → S w' → (∀ t, t < N → U t w' (a'.tmps.getD t undef)) → Q .normal a' w') :
    ∀ (fuel : Nat) (listed : Array Bool) (a : Act) (w : World), restD ops listed ≤ fuel → Mid ops N S U listed a w → wpAny P .any ops Q fuel listed a w := by
  have fin : ∀ (listed : Array Bool) (a : Act) (w : World), Mid ops N S U listed a w → Region.ready .any ops listed = [] → Q .normal a w := fun listed a w hM hr =>
    hend a w hM.tmps hM.defers hM.st fun t ht => hM.val t ht (by
      unfold hasIt
      cases hw : wrote ops t with
      | none => rfl
      | some i => exact all_there h2 hM.size hr i (wrote_some hw).1)
  intro fuel
  induction fuel with
  | zero =>
    intro listed a w hl hM
    have hr : Region.ready .any ops listed = [] := by
      cases hq : Region.ready .any ops listed with
      | nil => rfl
      | cons i rs =>
        have := restD_set (ops := ops) (listed := listed) (i := i) (by rw [hq]; exact List.mem_cons_self)
        omega
    exact ⟨hr, fin listed a w hM hr⟩
  | succ fuel ih =>
    intro listed a w hl hM
    refine ⟨fin listed a w hM, fun i hi => ?_⟩
    have hs : i < ops.size := by
      obtain ⟨_, o, ho, _⟩ := mem_ready.1 hi
      exact (Array.getElem?_eq_some_iff.1 ho).1
    have hl2 := restD_set hi
    exact wpOp_mono (fun a w h => ih _ a w (by omega) h) (hstep i hs listed a w hM hi)

theorem region_mid {id : Nat} {a : Act} {w : World} (hm : P.follows .mixedOrders = true) (h2 : backward ops = true)
    (h0 : Mid ops N S U (Array.replicate ops.size false) a w.drew) (hstep : ∀ i, i < ops.size → Step P ops Q N S U i)
    (hend : ∀ a' w', a'.tmps.size = N → a'.defers = [] → S w' → (∀ t, t < N → U t w' (a'.tmps.getD t undef)) → Q .normal a' w') :
    (Code.region id ops true).wp P Q a w := by
  refine wp_region_any hm ?_
  refine any_mid h2 hstep hend ops.size _ a _ ?_ h0
  unfold restD
  exact Nat.le_trans (List.length_filter_le _ _) (by simp)

/-- A frame out of its slots. -/
def frameD (N : Nat) (x : Nat → Value) : Act := ⟨((List.range N).map x).toArray, []⟩
theorem frameD_of {a : Act} (h1 : a.tmps.size = N) (h2 : a.defers = []) : a = frameD N fun t => a.tmps.getD t undef := by
  obtain ⟨⟨l⟩, d⟩ := a
  simp only at h1 h2
  subst h2
  unfold frameD
  congr 1
  apply Array.ext
  · simp; simpa using h1
  · intro i h3 h4
    simp
    rw [List.getElem?_eq_getElem (by simpa using h3)]
    rfl

theorem step_of {i d : Nat} {o : Oper} (need : List Nat) (h1 : oneWriter ops N = true) (ho : ops[i]? = some o) (hd : o.dst = some d) (hn : needOk ops N i need = true)
    (h : ∀ (x : Nat → Value) (w : World), S w → (∀ t ∈ need, U t w (x t)) → ∀ K : Act → World → Prop,
      (∀ v w', S w' → (∀ t u, U t w u → U t w' u) → U d w' v → K ((frameD N x).put (some d) v) w') → wpOp P ops Q i K (frameD N x) w) : Step P ops Q N S U i := by
  intro listed a w hM hi
  have hx := frameD_of hM.tmps hM.defers
  rw [hx]
  rw [hx] at hM
  refine h _ w hM.st (fun t ht => ?_) _ fun v w' hS hm hv => hM.put h1 ho hd hS hm hv
  unfold needOk at hn
  rw [ho] at hn
  have k := List.all_eq_true.1 hn t ht
  have k1 : t < N := by
    have := (Bool.and_eq_true_iff.1 k).1
    simpa using this
  have hv := hM.val t k1 (by
    unfold hasIt
    have k2 := (Bool.and_eq_true_iff.1 k).2
    cases hw : wrote ops t with
    | none => rfl
    | some j =>
      rw [hw] at k2
      simp only at k2 ⊢
      obtain ⟨_, o', ho', hdep⟩ := mem_ready.1 hi
      have eo : o' = o := by rw [ho] at ho'; injection ho' with e; exact e.symm
      subst eo
      obtain ⟨q, hq, hk⟩ := Array.any_eq_true.1 k2
      have hk2 := Bool.and_eq_true_iff.1 hk
      have e1 : (o'.after[q]).on = j := by simpa using hk2.1
      rw [← e1]
      exact hdep _ (Array.getElem_mem hq) hk2.2)
  have e2 : (frameD N fun t => a.tmps.getD t undef).tmps.getD t undef = a.tmps.getD t undef := by rw [← hx]
  rw [e2] at hv
  exact hv
end
/-- Of which slots it must be told what they hold at the start. -/
def startOk (ops : Array Oper) (N : Nat) (ks L : List Nat) : Bool := (List.range N).all fun t => !hasIt ops (Array.replicate ops.size false) t || ks.getD t 0 == 0 || L.contains t
theorem start_of {ops : Array Oper} {N : Nat} {ks L : List Nat} (h : startOk ops N ks L = true) : ∀ t, t < N → hasIt ops (Array.replicate ops.size false) t = true → ks.getD t 0 = 0 ∨ t ∈ L := by
  intro t ht hh
  have k := List.all_eq_true.1 h t (List.mem_range.2 ht)
  rw [hh] at k
  rcases Bool.or_eq_true_iff.1 k with k | k
  · exact .inl (by simpa using k)
  · exact .inr (List.contains_iff_mem.1 k)
theorem upto_nil {p : Nat → Prop} : ∀ i, i < 0 → p i := fun _ h => absurd h (by omega)
theorem upto_succ {p : Nat → Prop} {n : Nat} (h : ∀ i, i < n → p i) (hn : p n) : ∀ i, i < n + 1 → p i := fun i hi => by
  rcases Nat.lt_or_ge i n with k | k
  · exact h i k
  · have e : i = n := by omega
    subst e
    exact hn
end Go.Proofs.YtolkdmhjomampaaDoor
