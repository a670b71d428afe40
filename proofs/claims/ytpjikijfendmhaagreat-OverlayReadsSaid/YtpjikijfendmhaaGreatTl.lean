/-
  A region that draws its order and ends in stores: a load may be taken first where the condition that it wants holds behind each operation that does not wait for it. No program here.
-/
import Derived.OrdersHeld
import Derived.RegionTactic
import Derived.Test.YtpjikijfendmhaaGreatCoMem
namespace Go.Proofs.YtpjikijfendmhaaGreat
open Go

/-- Does operation j wait, by way of others, for number i? -/
def waitsFor (ops : Array Oper) (i : Nat) : Nat → Nat → Bool
  | 0, j => j == i
  | n + 1, j => j == i || (match ops[j]? with | some o => o.after.any fun e => Region.binds .any e && waitsFor ops i n e.on | none => false)
/-- What has come up has those behind it for which it waits. -/
def Cl (ops : Array Oper) (L : Array Bool) : Prop := ∀ (k : Nat) (o : Oper), ops[k]? = some o → L.getD k false = true → ∀ e ∈ o.after, Region.binds .any e = true → L.getD e.on false = true
def clB (ops : Array Oper) (L : Array Bool) : Bool := (List.range ops.size).all fun k => !L.getD k false || (match ops[k]? with | some o => o.after.all fun e => !Region.binds .any e || L.getD e.on false | none => true)
theorem cl_of {ops : Array Oper} {L : Array Bool} (h : clB ops L = true) : Cl ops L := by
  intro k o ho hk e he hb
  have q := List.all_eq_true.1 h k (List.mem_range.2 (Array.getElem?_eq_some_iff.1 ho).1)
  rw [ho] at q
  simp only [hk, Bool.not_true, Bool.false_or] at q
  have := Array.all_eq_true_iff_forall_mem.1 q e he
  rw [hb] at this
  simpa using this
theorem Cl.set {ops : Array Oper} {L : Array Bool} {j : Nat} (h : Cl ops L) (hj : j ∈ Region.ready .any ops L) : Cl ops (L.setIfInBounds j true) := by
  intro k o ho hk e he hb
  by_cases g : j = k
  · subst g
    obtain ⟨_, o', ho', ha⟩ := mem_ready.1 hj
    rw [ho] at ho'
    obtain rfl := Option.some.inj ho'
    exact getD_set_true (ha e he hb)
  · rw [getD_set_ne false g] at hk
    exact getD_set_true (h k o ho hk e he hb)
theorem Cl.back {ops : Array Oper} {L : Array Bool} (h : Cl ops L) {i : Nat} : ∀ (n j : Nat), waitsFor ops i n j = true → L.getD j false = true → L.getD i false = true
  | 0, j, hw, hl => by
    have e : j = i := by simpa [waitsFor] using hw
    rw [← e]; exact hl
  | n + 1, j, hw, hl => by
    unfold waitsFor at hw
    rw [Bool.or_eq_true] at hw
    rcases hw with e | hw
    · have e : j = i := by simpa using e
      rw [← e]; exact hl
    · cases ho : ops[j]? with
      | none => rw [ho] at hw; cases hw
      | some o =>
        rw [ho] at hw
        have hw' : (o.after.any fun e => Region.binds .any e && waitsFor ops i n e.on) = true := hw
        obtain ⟨q, hq, hb⟩ := Array.any_eq_true.1 hw'
        rw [Bool.and_eq_true] at hb
        exact h.back n _ hb.2 (h j o ho hl _ (Array.getElem_mem hq) hb.1)

/-- Has one of N come up? -/
def some1 (N : List Nat) (L : Array Bool) : Bool := N.any fun k => L.getD k false
theorem some1_iff {N : List Nat} {L : Array Bool} : some1 N L = true ↔ ∃ k ∈ N, L.getD k false = true := List.any_eq_true
theorem some1_set {N : List Nat} {L : Array Bool} (i : Nat) (h : some1 N L = true) : some1 N (L.setIfInBounds i true) = true := by
  obtain ⟨k, hk, h⟩ := some1_iff.1 h
  exact some1_iff.2 ⟨k, hk, getD_set_true h⟩
theorem some1_of_set {N : List Nat} {L : Array Bool} {i : Nat} (hi : i ∉ N) (h : some1 N (L.setIfInBounds i true) = true) : some1 N L = true := by
  obtain ⟨k, hk, h⟩ := some1_iff.1 h
  refine some1_iff.2 ⟨k, hk, ?_⟩
  rwa [getD_set_ne false (fun e => hi (by rw [e]; exact hk))] at h

section
variable {P : Program} {ops : Array Oper} {Q : Exit → Act → World → Prop} {S : World → Prop} {N : List Nat}
/-- Whatever order is picked: the condition holds until one of N has come up. -/
def Lst (P : Program) (ops : Array Oper) (Q : Exit → Act → World → Prop) (N : List Nat) (S : World → Prop) : Nat → Array Bool → Act → World → Prop
  | 0, L, a, w => Region.ready .any ops L = [] ∧ Q .normal a w
  | n + 1, L, a, w => (Region.ready .any ops L = [] → Q .normal a w) ∧ ∀ i ∈ Region.ready .any ops L, wpOp P ops Q i (fun a' w' => (some1 N (L.setIfInBounds i true) = true ∨ S w') ∧ Lst P ops Q N S n (L.setIfInBounds i true) a' w') a w
theorem Lst.any : ∀ (n : Nat) (L : Array Bool) (a : Act) (w : World), Lst P ops Q N S n L a w → wpAny P .any ops Q n L a w
  | 0, _, _, _, h => h
  | n + 1, _, _, _, h => ⟨h.1, fun i hi => wpOp_mono (fun a' w' k => Lst.any n _ a' w' k.2) (h.2 i hi)⟩
theorem lst_start {id : Nat} {a : Act} {w : World} (N : List Nat) (S : World → Prop) (hm : P.follows .mixedOrders = true) (h : Lst P ops Q N S ops.size (Array.replicate ops.size false) a w.drew) : (Code.region id ops true).wp P Q a w :=
  wp_region_any hm (Lst.any _ _ _ _ h)
theorem lst_done {L : Array Bool} {a : Act} {w : World} (hr : Region.ready .any ops L = []) (h : Q .normal a w) : ∀ n, Lst P ops Q N S n L a w
  | 0 => ⟨hr, h⟩
  | _ + 1 => ⟨fun _ => h, fun i hi => by rw [hr] at hi; cases hi⟩
/-- What yields its value in every world that meets S' may come first, where S' holds behind each other operation until this one has come. -/
theorem lst_first {i : Nat} {o : Oper} {v : Value} {S' : World → Prop} (hi : ops[i]? = some o) (hiN : i ∉ N) (hsel : ∀ (j : Nat) (o : Oper) cs b, ops[j]? = some o → o.op ≠ .select cs b)
    (hN : (∀ w, S' w) ∨ ((∀ w, S w → S' w) ∧ ∀ j ∈ N, waitsFor ops i ops.size j = true)) (hQ : ∀ c a w, Q (.panic c) (a.put o.dst v) w → Q (.panic c) a w) (n : Nat) : ∀ (L : Array Bool) (a : Act) (w : World), Cl ops L →
    (∀ j oj, ops[j]? = some oj → j ≠ i → L.getD j true = false → (∀ e ∈ oj.after, Region.binds .any e = true → e.on ≠ i) → o.apart ops oj = true) →
    i ∈ Region.ready .any ops L → YieldsIf P ops S' o v a → S' w → (some1 N L = true ∨ S w) → Lst P ops Q N S n (L.setIfInBounds i true) (a.put o.dst v) w → Lst P ops Q N S (n + 1) L a w := by
  induction n with
  | zero =>
    intro L a w _ _ hr hy hS hD H
    refine ⟨fun e => absurd hr (by rw [e]; simp), fun j hj => ?_⟩
    rcases Nat.decEq j i with g | rfl
    · exact absurd (ready_mono hj g) (by rw [H.1]; simp)
    · exact hy.wpOp hi hS ⟨hD.imp (some1_set _) id, H⟩
  | succ n ih =>
    intro L a w hcl hfr hr hy hS hD H
    refine ⟨fun e => absurd hr (by rw [e]; simp), fun j hj => ?_⟩
    rcases Nat.decEq j i with g | rfl
    case isTrue => exact hy.wpOp hi hS ⟨hD.imp (some1_set _) id, H⟩
    obtain ⟨hju, oj, hoj, haf⟩ := mem_ready.1 hj
    have hiu := (mem_ready.1 hr).1
    have hio : ¬ L.getD i false = true := by
      intro q
      rw [Array.getD_eq_getD_getElem?] at hiu q
      cases hq : L[i]? with
      | none => rw [hq] at hiu; cases hiu
      | some b => rw [hq] at hiu q; simp at hiu q; rw [hiu] at q; cases q
    have hno : ∀ e ∈ oj.after, Region.binds .any e = true → e.on ≠ i := fun e he hb k => hio (by have := haf e he hb; rwa [k] at this)
    have hstill : i ∈ Region.ready .any ops (L.setIfInBounds j true) := ready_mono hr (fun k => g k.symm)
    refine wpOp_mono (fun a' w' q => ?_) (wpOp_putIf hoj (hfr j oj hoj g hju hno) (fun cs b => hsel i o cs b hi) (fun cs b => hsel j oj cs b hoj) hQ hy (H.2 j (ready_mono hj g)))
    obtain ⟨hy', hD', H'⟩ := q
    rw [Array.setIfInBounds_comm _ _ (fun k => g k.symm)] at H' hD'
    have hD2 : some1 N (L.setIfInBounds j true) = true ∨ S w' := hD'.imp (some1_of_set hiN) id
    have hSw : S' w' := by
      rcases hN with hN | ⟨hS2, hN⟩
      · exact hN w'
      · refine hS2 w' (hD2.resolve_left fun q => ?_)
        obtain ⟨k, hk, hkl⟩ := some1_iff.1 q
        have h2 : (L.setIfInBounds j true).getD i false = true := (hcl.set hj).back ops.size k (hN k hk) hkl
        rw [getD_set_ne false g] at h2
        exact hio h2
    refine ⟨hD2, ih _ a' w' (hcl.set hj) (fun k ok hk hki hun hn => hfr k ok hk hki ?_ hn) hstill hy' hSw hD2 H'⟩
    by_cases e : j = k
    · subst e; exact hju
    · rw [getD_set_ne true e] at hun; exact hun
/-! The moves. -/
def outN (ops : Array Oper) (i : Nat) (N : List Nat) : Bool := !N.contains i && N.all fun j => waitsFor ops i ops.size j
/-- A load: what it reads stands in S. -/
theorem takeL {i : Nat} {d : Option Tmp} {o : Oper} {v : Value} {n : Nat} {L : Array Bool} {a : Act} {w : World} (hi : ops[i]? = some o) (hd : o.dst = d)
    (hs : Region.noSelect ops = true) (hc : clB ops L = true) (hN : outN ops i N = true) (hf : Region.free .any ops L i = true) (hr : (Region.ready .any ops L).contains i = true)
    (hQ : ∀ c a w, Q (.panic c) (a.put d v) w → Q (.panic c) a w) (hy : YieldsIf P ops S o v a) (hS : S w)
    (h : Lst P ops Q N S n (L.setIfInBounds i true) (a.put d v) w) : Lst P ops Q N S (n + 1) L a w := by
  subst hd
  unfold outN at hN
  rw [Bool.and_eq_true] at hN
  exact lst_first hi (by simpa using hN.1) (Region.noSelect_spec hs) (.inr ⟨fun _ h => h, fun j hj => List.all_eq_true.1 hN.2 j hj⟩) hQ n L a w (cl_of hc) (Region.free_spec hi hf) (by simpa using hr) hy hS (.inr hS) h
/-- What looks at no world. -/
theorem takeP {i : Nat} {d : Option Tmp} {o : Oper} {v : Value} {n : Nat} {L : Array Bool} {a : Act} {w : World} (hi : ops[i]? = some o) (hd : o.dst = d)
    (hs : Region.noSelect ops = true) (hc : clB ops L = true) (hN : N.contains i = false) (hf : Region.free .any ops L i = true) (hr : (Region.ready .any ops L).contains i = true)
    (hQ : ∀ c a w, Q (.panic c) (a.put d v) w → Q (.panic c) a w) (hy : YieldsIf P ops (fun _ => True) o v a) (hS : some1 N L = true ∨ S w)
    (h : Lst P ops Q N S n (L.setIfInBounds i true) (a.put d v) w) : Lst P ops Q N S (n + 1) L a w := by
  subst hd
  exact lst_first hi (by simpa using hN) (Region.noSelect_spec hs) (.inl fun _ => trivial) hQ n L a w (cl_of hc) (Region.free_spec hi hf) (by simpa using hr) hy trivial hS h
/-- One alone may come up; behind it the condition is shown anew. -/
theorem oneL {i : Nat} {o : Oper} {n : Nat} {L : Array Bool} {a : Act} {w : World} (hi : ops[i]? = some o) (hr : Region.ready .any ops L = [i])
    (h : ∀ K : Act → World → Prop, (∀ a' w', S w' → Lst P ops Q N S n (L.setIfInBounds i true) a' w' → K a' w') → if Region.wanted o (yielded ops a.tmps) = true then Oper.wp P o a w K Q else K (a.put o.dst undef) w) : Lst P ops Q N S (n + 1) L a w := by
  refine ⟨fun e => absurd hr (by rw [e]; simp), fun j hj => ?_⟩
  obtain rfl : j = i := by rw [hr] at hj; simpa using hj
  exact wpOp_step hi fun K hK => h K fun a' w' hS hw => hK a' w' ⟨.inr hS, hw⟩
/-- One of N, or one behind them: nothing is asked. -/
theorem outL {i : Nat} {o : Oper} {n : Nat} {L : Array Bool} {a : Act} {w : World} (hi : ops[i]? = some o) (hr : Region.ready .any ops L = [i]) (hn : some1 N (L.setIfInBounds i true) = true)
    (h : ∀ K : Act → World → Prop, (∀ a' w', Lst P ops Q N S n (L.setIfInBounds i true) a' w' → K a' w') → if Region.wanted o (yielded ops a.tmps) = true then Oper.wp P o a w K Q else K (a.put o.dst undef) w) : Lst P ops Q N S (n + 1) L a w := by
  refine ⟨fun e => absurd hr (by rw [e]; simp), fun j hj => ?_⟩
  obtain rfl : j = i := by rw [hr] at hj; simpa using hj
  exact wpOp_step hi fun K hK => h K fun a' w' hw => hK a' w' ⟨.inl hn, hw⟩
end
end Go.Proofs.YtpjikijfendmhaaGreat
