/-
  Plain mathematics of a valid graph's adjacency: entries at all nodes together are the edges, each once in each direction. No program, no world.
-/
import Derived.Test.YtcadeijloobbmaaGrM
namespace Go.Proofs.Ytcadeijloobbmaa

theorem chk_ok {g : Gr} (h : chkV g = 0) : nsV g.nn none g.ns = 0 ∧ esV g.ns g.ne none g.es = 0 := by
  unfold chkV at h
  by_cases h1 : sizV g = false
  · rw [if_pos h1] at h; exact absurd h (by decide)
  · rw [if_neg h1] at h
    by_cases h2 : (nxtV g.nn && nxtV g.ne) = false
    · rw [if_pos h2] at h; exact absurd h (by decide)
    · rw [if_neg h2] at h
      by_cases h3 : nsV g.nn none g.ns = 0
      · rw [if_pos h3] at h; exact ⟨h3, h⟩
      · rw [if_neg h3] at h; exact absurd h h3
theorem ed_ends {ns : List Nd} {ne : Int} {prev : Option Int} {e : Ed} (h : edV ns ne prev e = 0) : hasN ns e.fr = true ∧ hasN ns e.to = true := by
  unfold edV at h
  by_cases h1 : badP prev e.id = true
  · rw [if_pos h1] at h; exact absurd h (by decide)
  · rw [if_neg h1] at h
    by_cases h2 : e.id < 1 ∨ ne ≤ e.id
    · rw [if_pos h2] at h; exact absurd h (by decide)
    · rw [if_neg h2] at h
      by_cases h3 : (hasN ns e.fr && hasN ns e.to) = false
      · rw [if_pos h3] at h; exact absurd h (by decide)
      · have : (hasN ns e.fr && hasN ns e.to) = true := by simpa using h3
        rwa [Bool.and_eq_true] at this
theorem es_ends {ns : List Nd} {ne : Int} : ∀ (es : List Ed) (prev : Option Int), esV ns ne prev es = 0 → ∀ e ∈ es, hasN ns e.fr = true ∧ hasN ns e.to = true
  | [], _, _, _, he => by cases he
  | x :: r, prev, h, e, he => by
    have h' : (if edV ns ne prev x = 0 then esV ns ne (some x.id) r else edV ns ne prev x) = 0 := h
    by_cases hx : edV ns ne prev x = 0
    · rw [if_pos hx] at h'
      rcases List.mem_cons.1 he with rfl | he
      · exact ed_ends hx
      · exact es_ends r _ h' e he
    · rw [if_neg hx] at h'; exact absurd h' hx
/-- One node has the id. -/
theorem one_id : ∀ (ns : List Nd) (x : Int), ns.Pairwise (fun a b => a.id < b.id) → hasN ns x = true → ns.countP (fun n => n.id == x) = 1
  | [], x, _, h => by cases h
  | n :: r, x, hp, h => by
    obtain ⟨h1, h2⟩ := List.pairwise_cons.1 hp
    by_cases e : n.id = x
    · have hz : r.countP (fun n => n.id == x) = 0 := by
        rw [List.countP_eq_zero]
        intro m hm
        have := h1 m hm
        simp; omega
      rw [List.countP_cons, hz]; simp [e]
    · have hr : hasN r x = true := by
        unfold hasN at *
        rw [List.any_cons] at h
        simpa [e] using h
      rw [List.countP_cons, one_id r x h2 hr]
      simp [e]
/-- Entries at a node. -/
def dV (es : List Ed) (ts : List (List UInt8)) (dir : Int) (n : Nd) : Nat := (stpV es n.id ts dir).length
def lV (es : List Ed) (ts : List (List UInt8)) (n : Nd) : Nat := (stpV es n.id ts 1).countP (fun x => x.1 == n.id)
def cV (es : List Ed) (ts : List (List UInt8)) : Nat := es.countP (fun e => hasT e.ty ts)
def loV (es : List Ed) (ts : List (List UInt8)) : Nat := es.countP (fun e => hasT e.ty ts && (e.fr == e.to))
def sumV (f : Nd → Nat) (ns : List Nd) : Nat := (ns.map f).sum
theorem sum_cons (f : Nd → Nat) (n : Nd) (r : List Nd) : sumV f (n :: r) = f n + sumV f r := rfl
theorem sum_add (f g : Nd → Nat) : ∀ ns : List Nd, sumV (fun n => f n + g n) ns = sumV f ns + sumV g ns
  | [] => rfl
  | n :: r => by rw [sum_cons, sum_cons, sum_cons, sum_add f g r]; omega
theorem sum_eq {f g : Nd → Nat} : ∀ {ns : List Nd}, (∀ n ∈ ns, f n = g n) → sumV f ns = sumV g ns
  | [], _ => rfl
  | n :: r, h => by rw [sum_cons, sum_cons, h n (by simp), sum_eq (fun m hm => h m (List.mem_cons_of_mem _ hm))]
theorem sum_count (p : Nd → Bool) : ∀ ns : List Nd, sumV (fun n => if p n = true then 1 else 0) ns = ns.countP p
  | [] => rfl
  | n :: r => by
    rw [sum_cons, List.countP_cons, sum_count p r]
    cases p n <;> simp <;> omega
theorem sum_zero : ∀ ns : List Nd, sumV (fun _ => 0) ns = 0
  | [] => rfl
  | n :: r => by rw [sum_cons, sum_zero r]
theorem stp_cons (e : Ed) (es : List Ed) (id : Int) (ts : List (List UInt8)) (dir : Int) : stpV (e :: es) id ts dir = (if hasT e.ty ts = true then (match acrV e id dir with | some t => [(t, e.id)] | none => []) else []) ++ stpV es id ts dir := by
  unfold stpV
  rw [List.filterMap_cons]
  cases hasT e.ty ts
  · rfl
  · cases acrV e id dir <;> rfl
theorem acr_1 (e : Ed) (id : Int) : acrV e id 1 = if e.fr = id then some e.to else none := by unfold acrV; simp
theorem acr_2 (e : Ed) (id : Int) : acrV e id 2 = if e.to = id then some e.fr else none := by unfold acrV; simp
theorem acr_3 (e : Ed) (id : Int) : acrV e id 3 = if e.fr = id then some e.to else if e.to = id then some e.fr else none := by unfold acrV; simp
theorem d1_cons (e : Ed) (es : List Ed) (ts : List (List UInt8)) (n : Nd) : dV (e :: es) ts 1 n = (if (hasT e.ty ts && (n.id == e.fr)) = true then 1 else 0) + dV es ts 1 n := by
  unfold dV
  rw [stp_cons, acr_1, List.length_append]
  by_cases h : e.fr = n.id
  · cases hasT e.ty ts <;> simp [h]
  · have h' : ¬ n.id = e.fr := fun g => h g.symm
    cases hasT e.ty ts <;> simp [h, h']
theorem d2_cons (e : Ed) (es : List Ed) (ts : List (List UInt8)) (n : Nd) : dV (e :: es) ts 2 n = (if (hasT e.ty ts && (n.id == e.to)) = true then 1 else 0) + dV es ts 2 n := by
  unfold dV
  rw [stp_cons, acr_2, List.length_append]
  by_cases h : e.to = n.id
  · cases hasT e.ty ts <;> simp [h]
  · have h' : ¬ n.id = e.to := fun g => h g.symm
    cases hasT e.ty ts <;> simp [h, h']
theorem l_cons (e : Ed) (es : List Ed) (ts : List (List UInt8)) (n : Nd) : lV (e :: es) ts n = (if ((hasT e.ty ts && (e.fr == e.to)) && (n.id == e.fr)) = true then 1 else 0) + lV es ts n := by
  unfold lV
  rw [stp_cons, acr_1, List.countP_append]
  by_cases h : e.fr = n.id
  · by_cases g : e.to = n.id
    · cases hasT e.ty ts <;> simp [h, g]
    · have g' : ¬ n.id = e.to := fun q => g q.symm
      cases hasT e.ty ts <;> simp [h, g, g']
  · have h' : ¬ n.id = e.fr := fun g => h g.symm
    cases hasT e.ty ts <;> simp [h, h']
theorem d3_cons (e : Ed) (es : List Ed) (ts : List (List UInt8)) (n : Nd) : dV (e :: es) ts 3 n + (if ((hasT e.ty ts && (e.fr == e.to)) && (n.id == e.fr)) = true then 1 else 0) = ((if (hasT e.ty ts && (n.id == e.fr)) = true then 1 else 0) + (if (hasT e.ty ts && (n.id == e.to)) = true then 1 else 0)) + dV es ts 3 n := by
  unfold dV
  rw [stp_cons, acr_3, List.length_append]
  by_cases h : e.fr = n.id
  · by_cases g : e.to = n.id
    · cases hasT e.ty ts <;> simp [h, g] <;> omega
    · have g' : ¬ n.id = e.to := fun q => g q.symm
      cases hasT e.ty ts <;> simp [h, g']
  · have h' : ¬ n.id = e.fr := fun g => h g.symm
    by_cases g : e.to = n.id
    · cases hasT e.ty ts <;> simp [h, h', g]
    · have g' : ¬ n.id = e.to := fun q => g q.symm
      cases hasT e.ty ts <;> simp [h, h', g, g']
section
variable {ns : List Nd} (hp : ns.Pairwise (fun a b => a.id < b.id))
include hp
theorem sum_id {x : Int} (h : hasN ns x = true) (b : Bool) : sumV (fun n => if (b && (n.id == x)) = true then 1 else 0) ns = if b = true then 1 else 0 := by
  cases b
  · rw [sum_eq (g := fun _ => 0) (fun n _ => by simp), sum_zero]; rfl
  · rw [sum_eq (g := fun n => if (n.id == x) = true then 1 else 0) (fun n _ => by simp), sum_count, one_id ns x hp h]; rfl
theorem sum_d1 (ts : List (List UInt8)) : ∀ es : List Ed, (∀ e ∈ es, hasN ns e.fr = true ∧ hasN ns e.to = true) → sumV (dV es ts 1) ns = cV es ts
  | [], _ => sum_zero ns
  | e :: r, h => by
    rw [sum_eq (g := fun n => (if (hasT e.ty ts && (n.id == e.fr)) = true then 1 else 0) + dV r ts 1 n) (fun n _ => d1_cons e r ts n), sum_add, sum_id hp (h e (by simp)).1, sum_d1 ts r (fun x hx => h x (List.mem_cons_of_mem _ hx))]
    unfold cV
    rw [List.countP_cons]; omega
theorem sum_d2 (ts : List (List UInt8)) : ∀ es : List Ed, (∀ e ∈ es, hasN ns e.fr = true ∧ hasN ns e.to = true) → sumV (dV es ts 2) ns = cV es ts
  | [], _ => sum_zero ns
  | e :: r, h => by
    rw [sum_eq (g := fun n => (if (hasT e.ty ts && (n.id == e.to)) = true then 1 else 0) + dV r ts 2 n) (fun n _ => d2_cons e r ts n), sum_add, sum_id hp (h e (by simp)).2, sum_d2 ts r (fun x hx => h x (List.mem_cons_of_mem _ hx))]
    unfold cV
    rw [List.countP_cons]; omega
theorem sum_l (ts : List (List UInt8)) : ∀ es : List Ed, (∀ e ∈ es, hasN ns e.fr = true ∧ hasN ns e.to = true) → sumV (lV es ts) ns = loV es ts
  | [], _ => sum_zero ns
  | e :: r, h => by
    rw [sum_eq (g := fun n => (if ((hasT e.ty ts && (e.fr == e.to)) && (n.id == e.fr)) = true then 1 else 0) + lV r ts n) (fun n _ => l_cons e r ts n), sum_add, sum_id hp (h e (by simp)).1, sum_l ts r (fun x hx => h x (List.mem_cons_of_mem _ hx))]
    unfold loV
    rw [List.countP_cons]; omega
theorem sum_d3 (ts : List (List UInt8)) : ∀ es : List Ed, (∀ e ∈ es, hasN ns e.fr = true ∧ hasN ns e.to = true) → sumV (dV es ts 3) ns + loV es ts = 2 * cV es ts
  | [], _ => sum_zero ns
  | e :: r, h => by
    have ih := sum_d3 ts r (fun x hx => h x (List.mem_cons_of_mem _ hx))
    have k : sumV (fun n => dV (e :: r) ts 3 n + (if ((hasT e.ty ts && (e.fr == e.to)) && (n.id == e.fr)) = true then 1 else 0)) ns = sumV (fun n => ((if (hasT e.ty ts && (n.id == e.fr)) = true then 1 else 0) + (if (hasT e.ty ts && (n.id == e.to)) = true then 1 else 0)) + dV r ts 3 n) ns := sum_eq (fun n _ => d3_cons e r ts n)
    rw [sum_add, sum_add, sum_add, sum_id hp (h e (by simp)).1, sum_id hp (h e (by simp)).1, sum_id hp (h e (by simp)).2] at k
    unfold loV cV at *
    rw [List.countP_cons, List.countP_cons]
    omega
end
theorem d_le (es : List Ed) (ts : List (List UInt8)) (dir : Int) (n : Nd) : dV es ts dir n ≤ es.length := by
  unfold dV stpV; exact List.length_filterMap_le _ _
theorem sum_drop (f : Nd → Nat) (ns : List Nd) (i : Nat) (h : i < ns.length) : sumV f (ns.drop i) = f ns[i] + sumV f (ns.drop (i + 1)) := by
  rw [List.drop_eq_getElem_cons h]; rfl
theorem sum_end (f : Nd → Nat) (ns : List Nd) (i : Nat) (h : ns.length ≤ i) : sumV f (ns.drop i) = 0 := by
  rw [List.drop_of_length_le h]; rfl
/-- An outgoing entry is an incoming one of its other end. -/
theorem mir_in {es : List Ed} {ts : List (List UInt8)} {id : Int} {x : Int × Int} (h : x ∈ adjV es id ts 1) : (id, x.2) ∈ adjV es x.1 ts 2 := by
  rw [adj_mem] at *
  unfold stpV at *
  rw [List.mem_filterMap] at *
  obtain ⟨e, he, h⟩ := h
  refine ⟨e, he, ?_⟩
  cases ht : hasT e.ty ts with
  | false => rw [ht, if_neg (by decide)] at h; cases h
  | true =>
    rw [ht, if_pos rfl, acr_1] at h
    by_cases g : e.fr = id
    · rw [if_pos g] at h
      have hx : x = (e.to, e.id) := by simpa using h.symm
      subst hx
      rw [if_pos rfl, acr_2, if_pos rfl, g]; rfl
    · rw [if_neg g] at h; cases h
end Go.Proofs.Ytcadeijloobbmaa
