
/-
  The law's base, the chapter's example; what stays readable while an overlay's box turns. Nothing that was there turns.
-/
import Derived.Test.YtpjikijfendmhaaGreatOvQ
import Derived.Test.YtpjikijfendmhaaGreatOvR
namespace Go.Proofs.YtpjikijfendmhaaGreat
open Go.RowKit

theorem load_cm (w : World) (B : Nat) (c : Cm) (A : CA) (h : Bk w B (colC c A) 24) : (loadVar 24 ⟨B, 0, none⟩).run Tryz.prog w = .ok (colv c A) w := by
  have d1 : w.cell? ⟨B, 0, none⟩ = some (.slice A.a1 c.ns.length A.k1) := h.c 0
  have d2 : w.cell? ⟨B, 1, none⟩ = some (.slice A.a2 c.fs.length A.k2) := h.c 1
  have d3 : w.cell? ⟨B, 2, none⟩ = some (.slice A.a3 c.ts.length A.k3) := h.c 2
  have d4 : w.cell? ⟨B, 3, none⟩ = some (.slice A.a4 c.es.length A.k4) := h.c 3
  unfold colv colC
  go_simp
theorem c_ret {fn : Func} {p : Tmp} (hres : fn.results = #[.cell p 24]) {tmps : Array Value} {B : Nat} {c : Cm} {A : CA} {w : World} {Q : Ending → World → Prop}
    (hp : tmps.getD p undef = .pointer (some ⟨B, 0, none⟩)) (h : Bk w B (colC c A) 24) (hQ : Q (.returned (colv c A)) w) : bodyPost Tryz.prog fn Q Exit.ret { tmps := tmps, defers := [] } w := by
  refine bodyPost_ret (v := colv c A) ?_ rfl hQ
  have e : (asAddr (.pointer (some ⟨B, 0, none⟩))).run Tryz.prog w = .ok ⟨B, 0, none⟩ w := by go_simp
  rw [results_cell hres, hp, e]
  simp only [Result.andThen]
  exact load_cm w B c A h
theorem slI_bk {w : World} {B : Nat} {l : List Int} {t : TypeId} (h : Bk w B (cs l).toArray t) (hi : ∀ x ∈ l, I64 x) (hl : l.length ≤ 1000) (hp : 0 < l.length) : SlI w (some ⟨B, 0, none⟩) l l.length := by
  refine ⟨Nat.le_refl _, by unfold maxLen; omega, (fun e => by cases e), fun _ => ⟨B, 0, rfl, fun i hi' => ⟨hi _ (List.getElem_mem hi'), ?_⟩⟩⟩
  have := h.c i
  rw [List.getElem?_toArray, cs_get hi'] at this
  rw [Nat.mul_one, Nat.zero_add]; exact this
/-- Cells that hold slices alone. -/
def Slc (cs : Array Value) : Prop := ∀ (j : Nat) (v : Value), cs[j]? = some v → ∃ (a : Option Addr) (n k : Nat), v = Value.slice a n k
section
variable {w : World} {B : Nat} {cs : Array Value} {t : TypeId}
theorem int_far (h : Bk w B cs t) (hc : Slc cs) {b o : Nat} {x : Int} (hx : w.cell? ⟨b, o, none⟩ = some (.int .i64 x)) (j : Nat) (u : Value) : (w.setCell ⟨B, j, none⟩ u).cell? ⟨b, o, none⟩ = some (.int .i64 x) := by
  have hb : b ≠ B := fun e => by
    subst e
    rw [h.c o] at hx
    obtain ⟨a, n, k, e⟩ := hc o _ hx
    cases e
  rw [← hx]
  have e := Below.heap_setCell w ⟨B, j, none⟩ u b hb
  simp only [World.cell?, e]
theorem slI_far (h : Bk w B cs t) (hc : Slc cs) {ao : Option Addr} {l : List Int} {cap : Nat} (hs : SlI w ao l cap) (j : Nat) (u : Value) : SlI (w.setCell ⟨B, j, none⟩ u) ao l cap := hs.onP fun _ _ _ k => ⟨k.1, int_far h hc k.2 j u⟩
theorem slJ_far (h : Bk w B cs t) (hc : Slc cs) {ao : Option Addr} {l : List Aj} {cap : Nat} (hs : SlJ w ao l cap) (j : Nat) (u : Value) : SlJ (w.setCell ⟨B, j, none⟩ u) ao l cap :=
  hs.onP fun _ _ _ k => ⟨k.1, k.2.1, k.2.2.1, int_far h hc k.2.2.2.1 j u, int_far h hc k.2.2.2.2.1 j u, int_far h hc k.2.2.2.2.2 j u⟩
theorem oin_far (h : Bk w B cs t) (hc : Slc cs) {o : Ov} {A : OA} (hs : OIn w o A) (j : Nat) (u : Value) : OIn (w.setCell ⟨B, j, none⟩ u) o A :=
  ⟨⟨slI_far h hc hs.c.n j u, slI_far h hc hs.c.f j u, slI_far h hc hs.c.t j u, slI_far h hc hs.c.e j u⟩, slJ_far h hc hs.a j u, slI_far h hc hs.d j u⟩
theorem Slc.set {j : Nat} {a : Option Addr} {n k : Nat} (hc : Slc cs) : Slc (cs.setIfInBounds j (.slice a n k)) := by
  intro i v hv
  rw [Array.getElem?_setIfInBounds] at hv
  split at hv
  · split at hv
    · cases hv; exact ⟨a, n, k, rfl⟩
    · cases hv
  · exact hc i v hv
end
theorem slc_ov (o : Ov) (A : OA) : Slc (ovC o A) := by
  intro j v hv
  unfold ovC at hv
  rcases j with _ | _ | _ | _ | _ | _ | j
  all_goals first
    | (simp only [List.getElem?_toArray, List.getElem?_cons_zero, List.getElem?_cons_succ] at hv; cases hv; exact ⟨_, _, _, rfl⟩)
    | (simp at hv)
def set6 (w : World) (B : Nat) (o : Ov) (A : OA) : World :=
  (((((w.setCell ⟨B, 0, none⟩ (.slice A.c.a1 o.c.ns.length A.c.k1)).setCell ⟨B, 1, none⟩ (.slice A.c.a2 o.c.fs.length A.c.k2)).setCell ⟨B, 2, none⟩ (.slice A.c.a3 o.c.ts.length A.c.k3)).setCell ⟨B, 3, none⟩ (.slice A.c.a4 o.c.es.length A.c.k4)).setCell ⟨B, 4, none⟩ (.slice A.a5 o.ads.length A.k5)).setCell ⟨B, 5, none⟩ (.slice A.a6 o.dls.length A.k6)
/-- An overlay stored into an overlay's box. -/
theorem set6_ok {w0 w : World} {B : Nat} {o o' : Ov} {A A' : OA} (h : OB w B o A) (hb : w0.heap.size ≤ B) (hf : Fuw w0 w) : OB (set6 w B o' A') B o' A' ∧ Fuw w0 (set6 w B o' A') ∧ ∀ (p : Ov) (X : OA), OIn w p X → OIn (set6 w B o' A') p X := by
  refine ⟨⟨(((((h.k.set_ 0 _).set_ 1 _).set_ 2 _).set_ 3 _).set_ 4 _).set_ 5 _⟩, fuwS (fuwS (fuwS (fuwS (fuwS (fuwS hf hb) hb) hb) hb) hb) hb, fun p X hp => ?_⟩
  have k0 := slc_ov o A
  have h0 := h.k
  have h1 := h0.set_ 0 (.slice A'.c.a1 o'.c.ns.length A'.c.k1)
  have h2 := h1.set_ 1 (.slice A'.c.a2 o'.c.fs.length A'.c.k2)
  have h3 := h2.set_ 2 (.slice A'.c.a3 o'.c.ts.length A'.c.k3)
  have h4 := h3.set_ 3 (.slice A'.c.a4 o'.c.es.length A'.c.k4)
  have h5 := h4.set_ 4 (.slice A'.a5 o'.ads.length A'.k5)
  exact oin_far h5 k0.set.set.set.set.set (oin_far h4 k0.set.set.set.set (oin_far h3 k0.set.set.set (oin_far h2 k0.set.set (oin_far h1 k0.set (oin_far h0 k0 hp 0 _) 1 _) 2 _) 3 _) 4 _) 5 _
/-- The chapter's example. -/
def bc : Cm := ⟨[1], [0, 2], [2, 3], [5, 4]⟩
def ex0 : Ov := ⟨bc, [], []⟩
def ex1 : Ov := ⟨bc, [], [5]⟩
def ex2 : Ov := ⟨bc, [(1, 1, 9)], [5]⟩
def ex3 : Ov := ⟨bc, [(1, 1, 9)], []⟩
theorem ex_new : newV bc = (ex0, 0) := by kernel_rfl
theorem ex_del : delV ex0 5 = (ex1, 0) := by kernel_rfl
theorem ex_ins : insV ex1 (1, 1, 9) = (ex2, 0) := by kernel_rfl
theorem ex_two : insV ex2 (2, 2, 4) = (emO, 7) := by kernel_rfl
theorem ex_non : delV ex2 7 = (emO, 11) := by kernel_rfl
theorem ex_bck : insV ex2 (1, 2, 5) = (ex3, 0) := by kernel_rfl
theorem ex_val : valO ex2 = true := by kernel_rfl
theorem ex_ent : entS ex2 = [(1, 1, 9), (1, 3, 4)] := by
  rw [entS_ok (valO_iff.1 ex_val), show entO ex2 = [(1, 3, 4), (1, 1, 9)] by kernel_rfl]
  refine (srtJ_uniq (List.Perm.swap _ _ _) ?_).symm
  decide
theorem tiny_ex : Tiny ex0 ∧ Tiny ex1 ∧ Tiny ex2 := ⟨⟨by decide, by decide, by decide, by decide, by decide, by decide⟩, ⟨by decide, by decide, by decide, by decide, by decide, by decide⟩, ⟨by decide, by decide, by decide, by decide, by decide, by decide⟩⟩
set_option maxHeartbeats 3200000 in
set_option maxRecDepth 100000 in
theorem base_any (w : World) : Calls Tryz.prog 26 #[] w (fun e w' => ∃ A, e = .returned (colv bc A) ∧ CIn w' bc A ∧ Fuw w w') := by
  go_enter Tryz.func26, Tryz.ntmps26
  go_wp2
  have p0 := Bk.new w #[.slice (some ⟨w.heap.size + 1, 0, none⟩) 1 1, .slice (some ⟨w.heap.size + 1 + 1, 0, none⟩) 2 2, .slice (some ⟨w.heap.size + 1 + 1 + 1, 0, none⟩) 2 2, .slice (some ⟨w.heap.size + 1 + 1 + 1 + 1, 0, none⟩) 2 2] 24
  have f0 := fuwA w (.cells #[.slice (some ⟨w.heap.size + 1, 0, none⟩) 1 1, .slice (some ⟨w.heap.size + 1 + 1, 0, none⟩) 2 2, .slice (some ⟨w.heap.size + 1 + 1 + 1, 0, none⟩) 2 2, .slice (some ⟨w.heap.size + 1 + 1 + 1 + 1, 0, none⟩) 2 2] 24)
  have s0 : (w.alloc (.cells #[.slice (some ⟨w.heap.size + 1, 0, none⟩) 1 1, .slice (some ⟨w.heap.size + 1 + 1, 0, none⟩) 2 2, .slice (some ⟨w.heap.size + 1 + 1 + 1, 0, none⟩) 2 2, .slice (some ⟨w.heap.size + 1 + 1 + 1 + 1, 0, none⟩) 2 2] 24)).heap.size = w.heap.size + 1 := by simp
  generalize w.alloc (.cells #[.slice (some ⟨w.heap.size + 1, 0, none⟩) 1 1, .slice (some ⟨w.heap.size + 1 + 1, 0, none⟩) 2 2, .slice (some ⟨w.heap.size + 1 + 1 + 1, 0, none⟩) 2 2, .slice (some ⟨w.heap.size + 1 + 1 + 1 + 1, 0, none⟩) 2 2] 24) = W1 at *
  have p1 := Bk.new W1 #[.int .i64 1] 3
  have f1 := fuwA W1 (.cells #[.int .i64 1] 3)
  have s1 : (W1.alloc (.cells #[.int .i64 1] 3)).heap.size = w.heap.size + 1 + 1 := by simp [s0]
  rw [s0] at p1
  generalize W1.alloc (.cells #[.int .i64 1] 3) = W2 at *
  have p2 := Bk.new W2 #[.int .i64 0, .int .i64 2] 3
  have f2 := fuwA W2 (.cells #[.int .i64 0, .int .i64 2] 3)
  have s2 : (W2.alloc (.cells #[.int .i64 0, .int .i64 2] 3)).heap.size = w.heap.size + 1 + 1 + 1 := by simp [s1]
  rw [s1] at p2
  generalize W2.alloc (.cells #[.int .i64 0, .int .i64 2] 3) = W3 at *
  have p3 := Bk.new W3 #[.int .i64 2, .int .i64 3] 3
  have f3 := fuwA W3 (.cells #[.int .i64 2, .int .i64 3] 3)
  have s3 : (W3.alloc (.cells #[.int .i64 2, .int .i64 3] 3)).heap.size = w.heap.size + 1 + 1 + 1 + 1 := by simp [s2]
  rw [s2] at p3
  generalize W3.alloc (.cells #[.int .i64 2, .int .i64 3] 3) = W4 at *
  have p4 := Bk.new W4 #[.int .i64 5, .int .i64 4] 3
  have f4 := fuwA W4 (.cells #[.int .i64 5, .int .i64 4] 3)
  rw [s3] at p4
  generalize W4.alloc (.cells #[.int .i64 5, .int .i64 4] 3) = W5 at *
  have hi : ∀ l : List Int, (∀ x ∈ l, 0 ≤ x ∧ x ≤ 9) → ∀ x ∈ l, I64 x := fun l h x hx => by have := h x hx; exact ⟨by omega, by omega⟩
  refine c_ret rfl rfl (c := bc) (A := ⟨some ⟨w.heap.size + 1, 0, none⟩, some ⟨w.heap.size + 1 + 1, 0, none⟩, some ⟨w.heap.size + 1 + 1 + 1, 0, none⟩, some ⟨w.heap.size + 1 + 1 + 1 + 1, 0, none⟩, 1, 2, 2, 2⟩) ((((p0.on f1).on f2).on f3).on f4) ⟨_, rfl, ⟨?_, ?_, ?_, ?_⟩, (((f0.trans f1).trans f2).trans f3).trans f4⟩
  · exact slI_bk (l := [1]) (((p1.on f2).on f3).on f4) (hi _ (by decide)) (by decide) (by decide)
  · exact slI_bk (l := [0, 2]) ((p2.on f3).on f4) (hi _ (by decide)) (by decide) (by decide)
  · exact slI_bk (l := [2, 3]) (p3.on f4) (hi _ (by decide)) (by decide) (by decide)
  · exact slI_bk (l := [5, 4]) p4 (hi _ (by decide)) (by decide) (by decide)
end Go.Proofs.YtpjikijfendmhaaGreat
