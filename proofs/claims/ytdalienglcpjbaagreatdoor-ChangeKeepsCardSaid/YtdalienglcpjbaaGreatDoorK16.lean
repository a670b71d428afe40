/-
  M26; M27: texts of one kind in one file; each part says what it holds.
-/
import Derived.Test.YtdalienglcpjbaaGreatDoorK15
import Derived.Maps.AppendAt
import Derived.Laws.AppendOwnNone
import Derived.Test.YtdalienglcpjbaaGreatDoorM16

/-! DagB; DagC: texts of one kind in one file; each part says what it holds. -/

/-! A region that draws its order and in which some operations turn memory that the others lean on (an append onto a row that was there, a store): what is known may name which operations have been. No program here. -/
namespace Go.Proofs.YtdalienglcpjbaaGreatDoor
open Go

/-- What operation i waits for. -/
def depsB (ops : Array Oper) (i : Nat) : List Nat := match ops[i]? with | some o => (o.after.toList.filter fun e => Region.binds .any e).map (·.on) | none => []
/-- Those of l, and what they wait for, and so on. -/
def ancL (ops : Array Oper) : Nat → List Nat → List Nat
  | 0, l => l
  | n + 1, l => ancL ops n ((l ++ l.flatMap (depsB ops)).eraseDups)
def ClosedB (ops : Array Oper) (listed : Array Bool) : Prop := ∀ j, listed.getD j false = true → ∀ e ∈ depsB ops j, listed.getD e false = true
theorem anc_listed {ops : Array Oper} {listed : Array Bool} (hc : ClosedB ops listed) : ∀ (n : Nat) (l : List Nat), (∀ i ∈ l, listed.getD i false = true) → ∀ i ∈ ancL ops n l, listed.getD i false = true
  | 0, _, h => h
  | n + 1, l, h => anc_listed hc n _ (fun i hi => by
    rw [List.mem_eraseDups] at hi
    rcases List.mem_append.1 hi with e | e
    · exact h i e
    · obtain ⟨j, hj, he⟩ := List.mem_flatMap.1 e
      exact hc j (h j hj) i he)
theorem deps_ready {ops : Array Oper} {listed : Array Bool} {i : Nat} (hi : i ∈ Region.ready .any ops listed) : ∀ e ∈ depsB ops i, listed.getD e false = true := by
  intro e he
  obtain ⟨_, o, ho, hd⟩ := mem_ready.1 hi
  unfold depsB at he
  rw [ho] at he
  simp only [List.mem_map, List.mem_filter] at he
  obtain ⟨q, ⟨hq, hb⟩, rfl⟩ := he
  exact hd q (Array.mem_toList_iff.1 hq) hb
theorem ready_not {ops : Array Oper} {listed : Array Bool} {i : Nat} (hi : i ∈ Region.ready .any ops listed) : listed.getD i true = false := (mem_ready.1 hi).1
theorem getD_tf {listed : Array Bool} {i : Nat} (h : listed.getD i true = false) : listed.getD i false = false := by
  rcases Nat.lt_or_ge i listed.size with k | k
  · rw [Array.getD_eq_getD_getElem?, Array.getElem?_eq_getElem k] at h ⊢; exact h
  · rw [Array.getD_eq_getD_getElem?, Array.getElem?_eq_none k] at h; cases h
/-- Operation k waits, by others, for i. -/
def isAnc (ops : Array Oper) (k i : Nat) : Bool := (ancL ops ops.size (depsB ops k)).contains i
theorem pre_false {ops : Array Oper} {listed : Array Bool} {k i : Nat} (hc : ClosedB ops listed) (ha : isAnc ops k i = true) (hi : i ∈ Region.ready .any ops listed) : listed.getD k false = false := by
  cases h : listed.getD k false
  · rfl
  · have := anc_listed hc ops.size (depsB ops k) (hc k h) i (List.contains_iff_mem.1 ha)
    rw [getD_tf (ready_not hi)] at this; cases this
theorem post_true {ops : Array Oper} {listed : Array Bool} {k i : Nat} (hc : ClosedB ops listed) (ha : isAnc ops i k = true) (hi : i ∈ Region.ready .any ops listed) : listed.getD k false = true :=
  anc_listed hc ops.size (depsB ops i) (deps_ready hi) k (List.contains_iff_mem.1 ha)

/-- Which operations have been. -/
def been (listed : Array Bool) : Nat → Bool := fun j => listed.getD j false
/-- And now i. -/
def upB (σ : Nat → Bool) (i : Nat) : Nat → Bool := fun j => if i = j then true else σ j
theorem upB_eq (σ : Nat → Bool) (i : Nat) : upB σ i i = true := if_pos rfl
theorem upB_ne {σ : Nat → Bool} {i j : Nat} (h : i ≠ j) : upB σ i j = σ j := if_neg h
structure MidB (ops : Array Oper) (N : Nat) (S : (Nat → Bool) → World → Prop) (U : (Nat → Bool) → Nat → World → Value → Prop) (V : Nat → Value → Prop) (A : Nat → Value) (listed : Array Bool) (a : Act) (w : World) : Prop where
  size : listed.size = ops.size
  tmps : a.tmps.size = N
  defers : a.defers = []
  cl : ClosedB ops listed
  st : S (been listed) w
  val : ∀ t, t < N → hasIt ops listed t = true → U (been listed) t w (a.tmps.getD t undef)
  old : ∀ t j, wrote ops t = some j → listed.getD j false = false → V t (a.tmps.getD t undef)
  kp : ∀ t, wrote ops t = none → a.tmps.getD t undef = A t
/-- Slot t may hold something before operation i runs. -/
def livB (ops : Array Oper) (i t : Nat) : Bool := match wrote ops t with | none => true | some j => decide (j ≠ i) && !isAnc ops j i

section
variable {P : Program} {ops : Array Oper} {Q : Exit → Act → World → Prop} {N : Nat} {S : (Nat → Bool) → World → Prop} {U : (Nat → Bool) → Nat → World → Value → Prop} {V : Nat → Value → Prop} {A : Nat → Value}
theorem getD_set {listed : Array Bool} {i j : Nat} (hi : i < listed.size) : (listed.setIfInBounds i true).getD j false = if i = j then true else listed.getD j false := by
  by_cases h : i = j
  · subst h; simp [Array.getD_eq_getD_getElem?, hi]
  · simp [Array.getD_eq_getD_getElem?, h]
theorem MidB.put {listed : Array Bool} {a : Act} {w w' : World} {i : Nat} {o : Oper} {v : Value} (h : MidB ops N S U V A listed a w) (h1 : oneWriter ops N = true) (ho : ops[i]? = some o) (hi : i ∈ Region.ready .any ops listed) 
    (hS : S (upB (been listed) i) w') (hm : ∀ t u, livB ops i t = true → U (been listed) t w u → U (upB (been listed) i) t w' u) (hv : ∀ d, o.dst = some d → U (upB (been listed) i) d w' v) : MidB ops N S U V A (listed.setIfInBounds i true) (a.put o.dst v) w' := by
  have his : i < ops.size := (Array.getElem?_eq_some_iff.1 ho).1
  have hil : i < listed.size := by rw [h.size]; exact his
  have h2 := List.all_eq_true.1 h1 i (List.mem_range.2 his)
  have hbn : been (listed.setIfInBounds i true) = upB (been listed) i := by
    funext j
    unfold been upB
    rw [getD_set hil]
  refine ⟨by simpa using h.size, ?_, ?_, fun j hj e he => ?_, ?_, fun t ht hh => ?_, fun t j hw hj => ?_, fun t hw => ?_⟩
  · have := h.tmps
    unfold Act.put
    split <;> simpa using this
  · have := h.defers
    unfold Act.put
    split <;> simpa using this
  · rw [getD_set hil] at hj ⊢
    split
    · rfl
    · rename_i hne
      by_cases hij : i = j
      · subst hij; exact deps_ready hi e he
      · rw [if_neg hij] at hj; exact h.cl j hj e he
  · rw [hbn]; exact hS
  · rw [hbn]
    by_cases htd : o.dst = some t
    · have hbt : t < a.tmps.size := by rw [h.tmps]; exact ht
      have e1 : (a.put o.dst v).tmps.getD t undef = v := by simp [htd, Act.put, Array.getD_eq_getD_getElem?, hbt]
      rw [e1]; exact hv t htd
    · have e1 : (a.put o.dst v).tmps.getD t undef = a.tmps.getD t undef := by
        cases hd : o.dst with
        | none => rfl
        | some d =>
          have : d ≠ t := by rintro rfl; exact htd hd
          simp [Act.put, Array.getD_eq_getD_getElem?, this]
      rw [e1]
      have hlv : hasIt ops listed t = true → livB ops i t = true := fun q => by
        unfold hasIt at q
        unfold livB
        cases hw : wrote ops t with
        | none => rfl
        | some j =>
          rw [hw] at q
          simp only at q ⊢
          have hji : j ≠ i := by
            rintro rfl
            rw [getD_tf (ready_not hi)] at q; cases q
          rw [decide_eq_true hji, Bool.true_and]
          cases hq : isAnc ops j i
          · rfl
          · rw [pre_false h.cl hq hi] at q; cases q
      have hit : hasIt ops listed t = true := ?_
      exact hm t _ (hlv hit) (h.val t ht hit)
      unfold hasIt at hh ⊢
      cases hw : wrote ops t with
      | none => rfl
      | some j =>
        rw [hw] at hh
        simp only at hh ⊢
        rw [getD_set hil] at hh
        by_cases hij : i = j
        · subst hij
          have := (wrote_some hw).2
          rw [ho] at this
          exact absurd this htd
        · rw [if_neg hij] at hh; exact hh
  · rw [getD_set hil] at hj
    by_cases hij : i = j
    · rw [if_pos hij] at hj; cases hj
    · rw [if_neg hij] at hj
      have e1 : (a.put o.dst v).tmps.getD t undef = a.tmps.getD t undef := by
        cases hd : o.dst with
        | none => rfl
        | some d =>
          have : d ≠ t := by
            rintro rfl
            have e0 : (ops[i]?).bind (·.dst) = some d := by rw [ho]; exact hd
            rw [e0] at h2
            have h3 : d < N ∧ wrote ops d = some i := by simpa using h2
            rw [h3.2] at hw
            injection hw with q
            exact hij q
          simp [Act.put, Array.getD_eq_getD_getElem?, this]
      rw [e1]
      exact h.old t j hw hj
  · have e1 : (a.put o.dst v).tmps.getD t undef = a.tmps.getD t undef := by
      cases hd : o.dst with
      | none => rfl
      | some d =>
        have : d ≠ t := by
          rintro rfl
          have e0 : (ops[i]?).bind (·.dst) = some d := by rw [ho]; exact hd
          rw [e0] at h2
          have h3 : d < N ∧ wrote ops d = some i := by simpa using h2
          rw [h3.2] at hw
          cases hw
        simp [Act.put, Array.getD_eq_getD_getElem?, this]
    rw [e1]
    exact h.kp t hw

def StepB (P : Program) (ops : Array Oper) (Q : Exit → Act → World → Prop) (N : Nat) (S : (Nat → Bool) → World → Prop) (U : (Nat → Bool) → Nat → World → Value → Prop) (V : Nat → Value → Prop) (A : Nat → Value) (i : Nat) : Prop :=
  ∀ listed a w, MidB ops N S U V A listed a w → i ∈ Region.ready .any ops listed → wpOp P ops Q i (MidB ops N S U V A (listed.setIfInBounds i true)) a w

theorem any_midB (h2 : backward ops = true) (hstep : ∀ i, i < ops.size → StepB P ops Q N S U V A i)
    (hend : ∀ (x : Nat → Value) w', S (fun j => decide (j < ops.size)) w' → (∀ t, t < N → U (fun j => decide (j < ops.size)) t w' (x t)) → (∀ t, wrote ops t = none → x t = A t) → Q .normal (frameD N x) w') :
    ∀ (fuel : Nat) (listed : Array Bool) (a : Act) (w : World), restD ops listed ≤ fuel → MidB ops N S U V A listed a w → wpAny P .any ops Q fuel listed a w := by
  have fin : ∀ (listed : Array Bool) (a : Act) (w : World), MidB ops N S U V A listed a w → Region.ready .any ops listed = [] → Q .normal a w := fun listed a w hM hr => by
    have hall := all_there h2 hM.size hr
    have e : been listed = fun j => decide (j < ops.size) := by
      funext j
      unfold been
      rcases Nat.lt_or_ge j ops.size with q | q
      · rw [hall j q, decide_eq_true q]
      · rw [decide_eq_false (by omega), Array.getD_eq_getD_getElem?, Array.getElem?_eq_none (by rw [hM.size]; exact q)]; rfl
    have hs := hM.st
    have hv := hM.val
    rw [e] at hs hv
    rw [frameD_of hM.tmps hM.defers]
    exact hend _ w hs (fun t ht => hv t ht (by
      unfold hasIt
      cases hw : wrote ops t with
      | none => rfl
      | some i => exact hall i (wrote_some hw).1)) hM.kp
  intro fuel
  induction fuel with
  | zero =>
    intro listed a w hl hM
    have hr : Region.ready .any ops listed = [] := by
      cases hq : Region.ready .any ops listed with
      | nil => rfl
      | cons i rs =>
        have := restD_set (ops := ops) (listed := listed) (i := i) (by rw [hq]; exact List.mem_cons_self)
        omega
    exact ⟨hr, fin listed a w hM hr⟩
  | succ fuel ih =>
    intro listed a w hl hM
    refine ⟨fin listed a w hM, fun i hi => ?_⟩
    have hs : i < ops.size := by
      obtain ⟨_, o, ho, _⟩ := mem_ready.1 hi
      exact (Array.getElem?_eq_some_iff.1 ho).1
    have hl2 := restD_set hi
    exact wpOp_mono (fun a w h => ih _ a w (by omega) h) (hstep i hs listed a w hM hi)

theorem region_midB {id : Nat} {a : Act} {w : World} (hm : P.follows .mixedOrders = true) (h2 : backward ops = true) (h1 : oneWriter ops N = true)
    (h0 : MidB ops N S U V (fun t => a.tmps.getD t undef) (Array.replicate ops.size false) a w.drew) (hstep : oneWriter ops N = true → ∀ i, i < ops.size → StepB P ops Q N S U V (fun t => a.tmps.getD t undef) i)
    (hend : ∀ (x : Nat → Value) w', S (fun j => decide (j < ops.size)) w' → (∀ t, t < N → U (fun j => decide (j < ops.size)) t w' (x t)) → (∀ t, wrote ops t = none → x t = a.tmps.getD t undef) → Q .normal (frameD N x) w') :
    (Code.region id ops true).wp P Q a w := by
  refine wp_region_any hm ?_
  refine any_midB h2 (hstep h1) hend ops.size _ a _ ?_ h0
  unfold restD
  exact Nat.le_trans (List.length_filter_le _ _) (by simp)
theorem closed_start (ops : Array Oper) : ClosedB ops (Array.replicate ops.size false) := by
  intro j hj
  rw [Array.getD_eq_getD_getElem?, Array.getElem?_replicate] at hj
  split at hj <;> cases hj
theorem start_been (ops : Array Oper) : been (Array.replicate ops.size false) = fun _ => false := by
  funext k
  unfold been
  rw [Array.getD_eq_getD_getElem?, Array.getElem?_replicate]
  split <;> rfl
/-- The start of the region. -/
theorem midB_start {a : Act} {w : World} (h1 : a.tmps.size = N) (h2 : a.defers = []) (hS : S (fun _ => false) w) (hU : ∀ t, t < N → hasIt ops (Array.replicate ops.size false) t = true → U (fun _ => false) t w (a.tmps.getD t undef)) (hV : ∀ t, V t (a.tmps.getD t undef)) : MidB ops N S U V (fun t => a.tmps.getD t undef) (Array.replicate ops.size false) a w :=
  ⟨by simp, h1, h2, closed_start ops, by rw [start_been]; exact hS, by rw [start_been]; exact hU, fun t _ _ _ => hV t, fun _ _ => rfl⟩
/-- Slots that are read before the region writes them. -/
def oldOk (ops : Array Oper) (i : Nat) (olds : List Nat) : Bool := olds.all fun t => match wrote ops t with | some j => isAnc ops j i | none => false
theorem midB_old {listed : Array Bool} {a : Act} {w : World} {i : Nat} {olds : List Nat} (hM : MidB ops N S U V A listed a w) (hi : i ∈ Region.ready .any ops listed) (hn : oldOk ops i olds = true) :
    ∀ t ∈ olds, V t (a.tmps.getD t undef) := by
  intro t ht
  have q := List.all_eq_true.1 hn t ht
  cases hw : wrote ops t with
  | none => rw [hw] at q; cases q
  | some j =>
    rw [hw] at q
    exact hM.old t j hw (pre_false hM.cl q hi)

theorem midB_need {listed : Array Bool} {a : Act} {w : World} {i : Nat} {need : List Nat} (hM : MidB ops N S U V A listed a w) (hi : i ∈ Region.ready .any ops listed) (hn : needOk ops N i need = true) :
    ∀ t ∈ need, U (been listed) t w (a.tmps.getD t undef) := by
  intro t ht
  unfold needOk at hn
  obtain ⟨_, o, ho, hdep⟩ := mem_ready.1 hi
  rw [ho] at hn
  have q := List.all_eq_true.1 hn t ht
  have k1 : t < N := by
    have := (Bool.and_eq_true_iff.1 q).1
    simpa using this
  refine hM.val t k1 ?_
  unfold hasIt
  have k2 := (Bool.and_eq_true_iff.1 q).2
  cases hw : wrote ops t with
  | none => rfl
  | some j =>
    rw [hw] at k2
    simp only at k2 ⊢
    obtain ⟨r, hr, hk⟩ := Array.any_eq_true.1 k2
    have hk2 := Bool.and_eq_true_iff.1 hk
    have e1 : (o.after[r]).on = j := by simpa using hk2.1
    rw [← e1]
    exact hdep _ (Array.getElem_mem hr) hk2.2
/-- What an operation has to show: with the slots that it needs, where those of pre are still to come and those of post have been. -/
theorem stepB_of {i : Nat} {o : Oper} {d : Option Nat} (pre post need olds : List Nat) (h1 : oneWriter ops N = true) (ho : ops[i]? = some o) (hd : o.dst = d) (hn : needOk ops N i need = true) (hno : oldOk ops i olds = true)
    (hpre : (pre.all fun k => (k == i) || isAnc ops k i) = true) (hpost : (post.all fun k => isAnc ops i k) = true)
    (h : ∀ (σ : Nat → Bool), (∀ k ∈ pre, σ k = false) → (∀ k ∈ post, σ k = true) → ∀ (x : Nat → Value) (w : World), S σ w → (∀ t ∈ need, U σ t w (x t)) → (∀ t ∈ olds, V t (x t)) → (∀ t, wrote ops t = none → x t = A t) → ∀ Lv : Nat → Prop, (∀ t, Lv t → livB ops i t = true) → ∀ K : Act → World → Prop,
      (∀ v w', S (upB σ i) w' → (∀ t u, Lv t → U σ t w u → U (upB σ i) t w' u) → (∀ e, d = some e → U (upB σ i) e w' v) → K ((frameD N x).put d v) w') → wpOp P ops Q i K (frameD N x) w) : StepB P ops Q N S U V A i := by
  intro listed a w hMid hi
  have hx := frameD_of hMid.tmps hMid.defers
  have hne := midB_need hMid hi hn
  have hg := h (been listed) (fun k hk => by
    have q := List.all_eq_true.1 hpre k hk
    rcases Bool.or_eq_true_iff.1 q with e | e
    · rw [eq_of_beq e]; exact getD_tf (ready_not hi)
    · exact pre_false hMid.cl e hi) (fun k hk => post_true hMid.cl (List.all_eq_true.1 hpost k hk) hi) (fun t => a.tmps.getD t undef) w hMid.st hne (midB_old hMid hi hno) hMid.kp (fun t => livB ops i t = true) (fun _ h => h) (MidB ops N S U V A (listed.setIfInBounds i true)) (fun v w' hS hm hv => by
    rw [← hx, ← hd]
    exact hMid.put h1 ho hi hS hm (fun e he => hv e (hd ▸ he)))
  rw [← hx] at hg
  exact hg
end
end Go.Proofs.YtdalienglcpjbaaGreatDoor

/-! append as one operation of a drawn region that is told slot by slot. No program here. -/
namespace Go.Proofs.YtdalienglcpjbaaGreatDoor
open Go

section
variable {P : Program} {ops : Array Oper} {Q : Exit → Act → World → Prop} (w : World)
theorem wpOp_append {i : Nat} {op : Oper} {a : Act} {K : Act → World → Prop} (hoi : ops[i]? = some op) (hgd : op.guard = none) (s x : Operand) (t : TypeId)
    (ho : op.op = .call { callee := .builtin .append, args := #[s, x], argTypes := #[t, t] })
    (base : Nat) (e : TypeId) (i0 : TypeInfo) (z : Value) (size bytes : Nat) (ht : P.underlying t = some (.slice e)) (hi : P.info? e = some i0) (hz : i0.zero = some z)
    (hsize : i0.size = size) (hby : i0.bytes = bytes) (hzs : z.cells.size = size) (hsz : 0 < size)
    (v : Value) (n : Nat) (xs : List Value) (hs : a.eval s = v) (hown : w.ownsRow base e size v n xs)
    (ad : Addr) (m c : Nat) (news : List Value) (hx : a.eval x = .slice (some ad) m c) (hl : news.length = m * size) (hnews : ∀ j u, news[j]? = some u → w.cell? (ad.add j) = some u) (h1 : ∀ u ∈ news, u.oneCell' = true)
    (h63 : n + m ≤ maxLen) (hbytes : (n + m) * bytes ≤ 140737488355328) (hbase : base ≤ w.heap.size)
    (h : ∀ v' w', w'.ownsRow base e size v' (n + m) (xs ++ news) → w.grownBy w' v.ownBlock → (v'.ownBlock = v.ownBlock ∨ v'.ownBlock = some w.heap.size) → K (a.put op.dst v') w') : wpOp P ops Q i K a w := by
  obtain ⟨v', w', hr, h2, h3, _, h5⟩ := run_append_own_at (P := P) w base t op.type e i0 z size bytes ht hi hz hsize hby hzs hsz v n xs hown ad m c news hl hnews h1 h63 hbytes hbase
  refine wpOp_step hoi fun K' hK' => ?_
  have hw : Region.wanted op (yielded ops a.tmps) = true := by simp [Region.wanted, hgd]
  rw [if_pos hw]
  unfold Oper.wp execOp
  simp only [ho, resolve, invoke, builtin, Sem.run_bind, Sem.run_pure, Result.andThen_ok, List.map_toArray, List.map_cons, List.map_nil, hs, hx, hr]
  exact hK' _ _ (h v' w' h2 h3 h5)
theorem wpOp_append_none {i : Nat} {op : Oper} {a : Act} {K : Act → World → Prop} (hoi : ops[i]? = some op) (hgd : op.guard = none) (s x : Operand) (t : TypeId)
    (ho : op.op = .call { callee := .builtin .append, args := #[s, x], argTypes := #[t, t] })
    (base : Nat) (e : TypeId) (i0 : TypeInfo) (size : Nat) (ht : P.underlying t = some (.slice e)) (hi : P.info? e = some i0)
    (v : Value) (n : Nat) (xs : List Value) (hs : a.eval s = v) (hown : w.ownsRow base e size v n xs) (hx : a.eval x = .slice none 0 0)
    (h : K (a.put op.dst v) w) : wpOp P ops Q i K a w := by
  have hrun := run_append_owned_none (P := P) (w := w) base t op.type e i0 size ht hi v n xs hown
  refine wpOp_step hoi fun K' hK' => ?_
  have hw : Region.wanted op (yielded ops a.tmps) = true := by simp [Region.wanted, hgd]
  rw [if_pos hw]
  unfold Oper.wp
  simp [execOp, ho, resolve, invoke, builtin, hs, hx, hrun, Result.andThen]
  exact hK' _ _ h
end
/-- Of no slot that may hold something before operation i runs is anything said behind it. -/
def deadOk (ops : Array Oper) (i : Nat) (ks : List Nat) : Bool := (List.range ks.length).all fun t => !livB ops i t || ks.getD t 0 == 0
theorem dead_of {ops : Array Oper} {i : Nat} {ks : List Nat} (h : deadOk ops i ks = true) {t : Nat} (ht : livB ops i t = true) : ks.getD t 0 = 0 := by
  rcases Nat.lt_or_ge t ks.length with k | k
  · have q := List.all_eq_true.1 h t (List.mem_range.2 k)
    rw [ht] at q
    simpa using q
  · rw [List.getD_eq_getElem?_getD, List.getElem?_eq_none k]; rfl
end Go.Proofs.YtdalienglcpjbaaGreatDoor

/-! CpS; GtA: texts of one kind in one file; each part says what it holds. -/

/-! Strings appended onto an empty row of the call's own; blocks and rows beside a store. No program's function is walked here. -/
namespace Go.Proofs.YtdalienglcpjbaaGreatDoor
open Go.RowKit

theorem Bk.grow {w w' : World} {B : Nat} {cs : Array Value} {t : TypeId} {row : Option Nat} (h : Bk w B cs t) (hg : w.grownBy w' row) (hne : some B ≠ row) : Bk w' B cs t := (hg.block B h.lt hne).trans h
theorem own_far {w : World} {base e size : Nat} {v : Value} {n : Nat} {xs : List Value} (h : w.ownsRow base e size v n xs) {B j : Nat} (hB : B < base) (u : Value) : (w.setCell ⟨B, j, none⟩ u).ownsRow base e size v n xs :=
  own_heap h fun g hg => by
    have := (h.lt g hg).1
    simp [World.setCell, Array.getElem?_modify, show B ≠ g by omega]
theorem kb_far {lo B j : Nat} {o : Option Nat} {u : Value} {w : World} {P : World → Prop} (h : Kb lo o w P) (hB : B < lo) : Kb lo o (w.setCell ⟨B, j, none⟩ u) P :=
  h.on (by simp) (fun b h1 _ _ => by simp [World.setCell, Array.getElem?_modify, show B ≠ b by omega]) (.inl rfl)
theorem slS_nil (w : World) (b o cap : Nat) (h : cap ≤ maxLen) : SlS w (some ⟨b, o, none⟩) [] cap := ⟨Nat.zero_le _, h, (fun q => by cases q), fun q => absurd q (by simp)⟩
theorem newsS {w : World} {l : List (List UInt8)} {cap : Nat} {ad : Addr} (h : SlS w (some ad) l cap) : ∀ j u, (sC l)[j]? = some u → w.cell? (ad.add j) = some u := by
  intro j u hu
  by_cases hj : j < l.length
  · rw [sC_get hj] at hu
    obtain ⟨b, o, e, -, hc⟩ := h.get hj
    cases e
    rw [Go.WideShapes.add_plain, ← hu, ← hc, Nat.mul_one]
  · rw [List.getElem?_eq_none (by rw [sC_len]; omega)] at hu; cases hu
theorem oneS (l : List (List UInt8)) : ∀ u ∈ sC l, u.oneCell' = true := by
  intro u hu
  unfold sC at hu
  obtain ⟨s, -, rfl⟩ := List.mem_map.1 hu
  rfl
section
variable {P : Program} {ops : Array Oper} {Q : Exit → Act → World → Prop} (w : World)
theorem run_append_empty (base : Nat) (t ty e : TypeId) (i : TypeInfo) (z : Value) (size bytes : Nat) (ht : P.underlying t = some (.slice e)) (hi : P.info? e = some i) (hz : i.zero = some z)
    (hsize : i.size = size) (hby : i.bytes = bytes) (hzs : z.cells.size = size) (hsz : 0 < size)
    (g : Nat) (hg : w.heap[g]? = some (.cells #[] e (0, 0))) (hbg : base ≤ g)
    (a : Addr) (m c : Nat) (news : List Value) (hl : news.length = m * size) (hnews : ∀ j u, news[j]? = some u → w.cell? (a.add j) = some u) (h1 : ∀ u ∈ news, u.oneCell' = true)
    (h63 : m ≤ maxLen) (hbytes : m * bytes ≤ 140737488355328) (hbase : base ≤ w.heap.size) :
    ∃ v' w', (Builtin.append_ #[t, t] ty #[.slice (some ⟨g, 0, none⟩) 0 0, .slice (some a) m c]).run P w = .ok v' w' ∧ w'.ownsRow base e size v' m news ∧ Fuw w w' := by
  have hown : w.ownsRow base e size (.slice (some ⟨g, 0, none⟩) 0 0) 0 [] := ⟨by simp, .inr ⟨g, 0, #[], rfl, hbg, hg, Nat.le_refl _, Nat.zero_le _, by simp, by simp⟩⟩
  obtain ⟨v', w', hr, h2, h3, _, h5⟩ := run_append_own_at (P := P) w base t ty e i z size bytes ht hi hz hsize hby hzs hsz (.slice (some ⟨g, 0, none⟩) 0 0) 0 [] hown a m c news hl hnews h1 (by omega) (by rw [Nat.zero_add]; exact hbytes) hbase
  rw [Nat.zero_add, List.nil_append] at h2
  refine ⟨v', w', hr, h2, ?_⟩
  subst hsize
  have hglt : g < w.heap.size := by
    rcases Nat.lt_or_ge g w.heap.size with q | q
    · exact q
    · rw [Array.getElem?_eq_none q] at hg; cases hg
  -- the row g is empty: it holds what it held
  have hgg : w'.heap[g]? = w.heap[g]? := by
    rcases Nat.eq_zero_or_pos m with hm | hm
    · subst hm
      have hn : news = [] := List.eq_nil_of_length_eq_zero (by simpa using hl)
      subst hn
      have hr2 := run_append_room (P := P) w t ty e i ht hi g 0 0 #[] hg a 0 c [] (by simp) (by simp) (by simp) (by simp) (by simp)
      rw [hr] at hr2
      injection hr2 with _ e2
      rw [e2, setRow_heap w g #[] _ e _ hg, hg]
      simp
    · have hr2 := run_append_grow (P := P) w t ty e i z ht hi hz ⟨g, 0, none⟩ 0 0 [] (by simp) (by simp) a m c news hl hnews (by omega) (by simp only [maxLen] at h63; omega) (growslice_fits (by omega) (by rw [Nat.zero_add, hby]; exact hbytes))
      rw [hr] at hr2
      injection hr2 with _ e2
      rw [e2]
      exact heap_alloc_old w.drew _ hglt
  exact ⟨h3.os, h3.tape, h3.output, h3.size, fun b hb => by
    by_cases hbg : b = g
    · rw [hbg]; exact hgg
    · exact h3.block b hb (by intro q; injection q with q; exact hbg q)⟩
theorem wpOp_append_empty {i : Nat} {op : Oper} {a : Act} {K : Act → World → Prop} (hoi : ops[i]? = some op) (hgd : op.guard = none) (s x : Operand) (t : TypeId)
    (ho : op.op = .call { callee := .builtin .append, args := #[s, x], argTypes := #[t, t] })
    (base : Nat) (e : TypeId) (i0 : TypeInfo) (z : Value) (size bytes : Nat) (ht : P.underlying t = some (.slice e)) (hi : P.info? e = some i0) (hz : i0.zero = some z)
    (hsize : i0.size = size) (hby : i0.bytes = bytes) (hzs : z.cells.size = size) (hsz : 0 < size)
    (g : Nat) (hs : a.eval s = .slice (some ⟨g, 0, none⟩) 0 0) (hg : w.heap[g]? = some (.cells #[] e (0, 0))) (hbg : base ≤ g)
    (ad : Addr) (m c : Nat) (news : List Value) (hx : a.eval x = .slice (some ad) m c) (hl : news.length = m * size) (hnews : ∀ j u, news[j]? = some u → w.cell? (ad.add j) = some u) (h1 : ∀ u ∈ news, u.oneCell' = true)
    (h63 : m ≤ maxLen) (hbytes : m * bytes ≤ 140737488355328) (hbase : base ≤ w.heap.size)
    (h : ∀ v' w', w'.ownsRow base e size v' m news → Fuw w w' → K (a.put op.dst v') w') : wpOp P ops Q i K a w := by
  obtain ⟨v', w', hr, h2, h3⟩ := run_append_empty (P := P) w base t op.type e i0 z size bytes ht hi hz hsize hby hzs hsz g hg hbg ad m c news hl hnews h1 h63 hbytes hbase
  refine wpOp_step hoi fun K' hK' => ?_
  have hw : Region.wanted op (yielded ops a.tmps) = true := by simp [Region.wanted, hgd]
  rw [if_pos hw]
  unfold Oper.wp execOp
  simp only [ho, resolve, invoke, builtin, Sem.run_bind, Sem.run_pure, Result.andThen_ok, List.map_toArray, List.map_cons, List.map_nil, hs, hx, hr]
  exact hK' _ _ (h v' w' h2 h3)
end
/-- A list in a row of the call's own: what lies inside the elements does not lie in the row. -/
def OwnL {α β : Type} (Y : Lay α β) (T : TypeId) (base : Nat) (l : List α) (v : Value) (w : World) : Prop :=
  ∃ ps : List (α × β), l = ps.map Prod.fst ∧ w.ownsRow base T Y.size v ps.length (Y.cs ps) ∧ Kb base v.ownBlock w (Y.Ns ps)
theorem ownl_form {α β : Type} {Y : Lay α β} {T : TypeId} {base : Nat} {l : List α} {v : Value} {w : World} (h : OwnL Y T base l v w) (hv : ∀ x ∈ l, Y.I x) : ∃ ao cap, v = .slice ao l.length cap := by
  obtain ⟨ps, rfl, h2, h3⟩ := h
  obtain ⟨ao, cap, e, -, -⟩ := Lay.sl_own h2 (fun p hp => hv _ (List.mem_map_of_mem hp)) h3.now
  exact ⟨ao, cap, by rw [List.length_map]; exact e⟩
theorem ownl_far {α β : Type} {Y : Lay α β} {T : TypeId} {base : Nat} {l : List α} {v : Value} {w : World} (h : OwnL Y T base l v w) {B j : Nat} (hB : B < base) (u : Value) : OwnL Y T base l v (w.setCell ⟨B, j, none⟩ u) := by
  obtain ⟨ps, h1, h2, h3⟩ := h
  exact ⟨ps, h1, own_far h2 hB u, kb_far h3 hB⟩
theorem heap_far {w : World} {B b j : Nat} {v : Value} (h : B ≠ b) : (w.setCell ⟨B, j, none⟩ v).heap[b]? = w.heap[b]? := by
  simp [World.setCell, Array.getElem?_modify, h]
theorem own_slice {w : World} {base e size : Nat} {v : Value} {n : Nat} {xs : List Value} (h : w.ownsRow base e size v n xs) : ∃ a k, v = .slice a n k := by
  rcases h.2 with ⟨rfl, rfl⟩ | ⟨g, cap, cur, rfl, _⟩
  · exact ⟨none, 0, rfl⟩
  · exact ⟨_, cap, rfl⟩
theorem bk_lt {w : World} {B : Nat} {cs : Array Value} {t : TypeId} (h : Bk w B cs t) : B + 1 ≤ w.heap.size := h.lt
/-- What lies inside a node: labels in a row of the call's own, properties. -/
def NodeIn (n : Nd) (m : AC × AC) (lo : Nat) (w : World) : Prop := SlS w m.1.1 n.ls m.1.2 ∧ SlP w m.2.1 n.ps m.2.2 ∧ w.ownsRow lo 9 1 (.slice m.1.1 n.ls.length m.1.2) n.ls.length (sC n.ls)
abbrev NMe := (AC × AC) × Nat × Nat
/-- A node whose inside lies in the blocks from lo to hi. -/
def LNi : Lay Nd NMe where
  size := 3
  C n m := [.int .i64 n.id, .slice m.1.1.1 n.ls.length m.1.1.2, .slice m.1.2.1 n.ps.length m.1.2.2]
  I n := I64 n.id
  J n m w := ∀ w2 : World, (∀ b, m.2.1 ≤ b → b < m.2.2 → w2.heap[b]? = w.heap[b]?) → NodeIn n m.1 m.2.1 w2
  P := NC
  len _ _ := rfl
  pos := by decide
  row w n m b o h1 h2 hc := by
    obtain ⟨k1, k2, -⟩ := h2 w fun _ _ _ => rfl
    exact ⟨h1, hc 0 (by decide), ⟨_, _, hc 1 (by decide), k1⟩, _, _, hc 2 (by decide), k2⟩
theorem LNi.on {n : Nd} {m : NMe} {w w' : World} (h : LNi.J n m w) (hb : ∀ b, m.2.1 ≤ b → b < m.2.2 → w'.heap[b]? = w.heap[b]?) : LNi.J n m w' := fun w2 h2 => h w2 fun b h1 h3 => (h2 b h1 h3).trans (hb b h1 h3)
/-- Nodes in a row of the call's own, each node's inside in blocks of its own. -/
structure OwnNs (base : Nat) (v : Value) (w : World) (ps : List (Nd × NMe)) : Prop where
  own : w.ownsRow base 57 3 v ps.length (LNi.cs ps)
  ins : LNi.Ns ps w
  ord : ps.Pairwise fun p q => p.2.2.2 ≤ q.2.2.1
  rng : ∀ p ∈ ps, base ≤ p.2.2.1 ∧ p.2.2.2 ≤ w.heap.size ∧ ∀ k, v.ownBlock = some k → k < p.2.2.1 ∨ p.2.2.2 ≤ k
def OwnN (base : Nat) (l : List Nd) (v : Value) (w : World) : Prop := ∃ ps, l = ps.map Prod.fst ∧ OwnNs base v w ps
theorem ownns_on {base : Nat} {v : Value} {w w' : World} {ps : List (Nd × NMe)} (h : OwnNs base v w ps) (hf : Fuw w w') : OwnNs base v w' ps :=
  ⟨own_on h.own hf, fun p hp => LNi.on (h.ins p hp) fun b _ h2 => Below.block hf b (Nat.lt_of_lt_of_le h2 (h.rng p hp).2.1), h.ord, fun p hp => ⟨(h.rng p hp).1, Nat.le_trans (h.rng p hp).2.1 hf.size, (h.rng p hp).2.2⟩⟩
theorem ownns_far {base : Nat} {v : Value} {w : World} {ps : List (Nd × NMe)} (h : OwnNs base v w ps) {B j : Nat} (hB : B < base) (u : Value) : OwnNs base v (w.setCell ⟨B, j, none⟩ u) ps :=
  ⟨own_far h.own hB u, fun p hp => LNi.on (h.ins p hp) fun b h1 _ => heap_far (by have := (h.rng p hp).1; omega), h.ord, fun p hp => ⟨(h.rng p hp).1, by have := (h.rng p hp).2.1; simpa using this, (h.rng p hp).2.2⟩⟩
theorem ownn_far {base : Nat} {l : List Nd} {v : Value} {w : World} (h : OwnN base l v w) {B j : Nat} (hB : B < base) (u : Value) : OwnN base l v (w.setCell ⟨B, j, none⟩ u) := by
  obtain ⟨ps, h1, h2⟩ := h
  exact ⟨ps, h1, ownns_far h2 hB u⟩
theorem ownn_form {base : Nat} {l : List Nd} {v : Value} {w : World} (h : OwnN base l v w) : ∃ ao cap, v = .slice ao l.length cap := by
  obtain ⟨ps, rfl, h2⟩ := h
  rcases h2.own.2 with ⟨rfl, h0⟩ | ⟨g, cap, cur, rfl, _⟩
  · exact ⟨none, 0, by rw [List.length_map, h0]⟩
  · exact ⟨_, cap, by rw [List.length_map]⟩
theorem ownn_sl {base : Nat} {l : List Nd} {v : Value} {w : World} (h : OwnN base l v w) (hi : ∀ x ∈ l, I64 x.id) : ∃ ao cap, v = .slice ao l.length cap ∧ SlN w ao l cap := by
  obtain ⟨ps, rfl, h2⟩ := h
  obtain ⟨ao, cap, e, -, hs⟩ := Lay.sl_own (Y := LNi) h2.own (fun p hp => hi _ (List.mem_map_of_mem hp)) h2.ins
  exact ⟨ao, cap, by rw [List.length_map]; exact e, hs⟩
/-- One node more. -/
theorem ownns_snoc {base : Nat} {ov v3 : Value} {w5 w3 : World} {ps : List (Nd × NMe)} {n : Nd} {m : AC × AC} {s : Nat} (h : OwnNs base ov w5 ps) (hk : Kb s none w5 (NodeIn n m s)) (hbs : base ≤ s) (hps : ∀ p ∈ ps, p.2.2.2 ≤ s) (hov : ∀ k, ov.ownBlock = some k → k < s)
    (hown : w3.ownsRow base 57 3 v3 (ps.length + 1) (LNi.cs ps ++ LNi.C n (m, s, w5.heap.size))) (hg : w5.grownBy w3 ov.ownBlock) (hat : v3.ownBlock = ov.ownBlock ∨ v3.ownBlock = some w5.heap.size) : OwnNs base v3 w3 (ps ++ [(n, (m, s, w5.heap.size))]) := by
  refine ⟨by rw [Lay.cs_app, Lay.cs_one, List.length_append]; exact hown, Lay.Ns_snoc (fun p hp => LNi.on (h.ins p hp) fun b h1 h2 => hg.block b (Nat.lt_of_lt_of_le h2 (h.rng p hp).2.1) (fun q => ?_)) ?_, ?_, fun p hp => ?_⟩
  · rcases (h.rng p hp).2.2 b q.symm with k | k <;> omega
  · intro w2 h2
    refine hk w2 fun b h1 h3 _ => (h2 b h1 h3).trans (hg.block b h3 fun q => ?_)
    have := hov b q.symm
    omega
  · refine List.pairwise_append.2 ⟨h.ord, List.pairwise_singleton _ _, fun p hp q hq => ?_⟩
    rw [List.mem_singleton] at hq
    subst hq
    exact hps p hp
  · rcases List.mem_append.1 hp with e | e
    · refine ⟨(h.rng p e).1, Nat.le_trans (h.rng p e).2.1 hg.size, fun k hk => ?_⟩
      rcases hat with q | q
      · rw [q] at hk; exact (h.rng p e).2.2 k hk
      · rw [q] at hk
        injection hk with hk
        exact .inr (by have := (h.rng p e).2.1; omega)
    · rw [List.mem_singleton] at e
      subst e
      refine ⟨hbs, hg.size, fun k hk => ?_⟩
      rcases hat with q | q
      · rw [q] at hk; exact .inl (hov k hk)
      · rw [q] at hk
        injection hk with hk
        exact .inr (by show w5.heap.size ≤ k; omega)
theorem built_strs2 {w : World} {base : Nat} {v : Value} {n : Nat} {l : List (List UInt8)} (h : w.ownsRow base 9 1 v n (sC l)) (hm : ∀ s ∈ l, s.length ≤ maxLen) : ∃ a k, v = .slice a l.length k ∧ Kb base none w (fun w2 => SlS w2 a l k ∧ w2.ownsRow base 9 1 (.slice a l.length k) l.length (sC l)) := by
  obtain ⟨ao, cap, e, e2, -⟩ := slS_of_own h hm
  subst e e2
  refine ⟨ao, cap, rfl, fun w2 h2 => ?_⟩
  have ho : w2.ownsRow base 9 1 (.slice ao l.length cap) l.length (sC l) := own_heap h fun g hg => h2 g (h.lt g hg).1 (h.lt g hg).2 (by intro q; cases q)
  obtain ⟨ao', cap', e', -, hs⟩ := slS_of_own ho hm
  cases e'
  exact ⟨hs, ho⟩
/-- A graph of moderate size. -/
structure ModG (g : Gr) : Prop where
  n : g.ns.length ≤ 1000000
  e : g.es.length ≤ 1000000
  nl : ∀ n ∈ g.ns, n.ls.length ≤ 1000000 ∧ n.ps.length ≤ 1000000 ∧ ∀ p ∈ n.ps, shV p.v = true
  el : ∀ e ∈ g.es, e.ps.length ≤ 1000000 ∧ ∀ p ∈ e.ps, shV p.v = true
end Go.Proofs.YtdalienglcpjbaaGreatDoor

/-! Package graph: Same of any two graphs in memory; slices.EqualFunc given what its function answers of each pair. Nothing that was there turns. -/
namespace Go.Proofs.YtdalienglcpjbaaGreatDoor
open Go.RowKit

/-- A row of structs, told by their cells. -/
structure CRow (size : Nat) (w : World) (ao : Option Addr) (us : List (List Value)) : Prop where
  len : us.length ≤ 9223372036854775807
  sz : ∀ (i : Nat) (h : i < us.length), us[i].length = size
  at_ : 0 < us.length → ∃ b o, ao = some ⟨b, o, none⟩ ∧ ∀ (i : Nat) (h : i < us.length) (j : Nat), j < size → w.cell? ⟨b, o + i * size + j, none⟩ = us[i][j]?
theorem CRow.on {size : Nat} {w w' : World} {ao : Option Addr} {us : List (List Value)} (h : CRow size w ao us) (hf : Fuw w w') : CRow size w' ao us :=
  ⟨h.len, h.sz, fun hp => by
    obtain ⟨b, o, e, hc⟩ := h.at_ hp
    refine ⟨b, o, e, fun i hi j hj => ?_⟩
    have k := hc i hi j hj
    rw [List.getElem?_eq_getElem (by rw [h.sz i hi]; exact hj)] at k ⊢
    exact cellOnw hf k⟩
end Go.Proofs.YtdalienglcpjbaaGreatDoor
