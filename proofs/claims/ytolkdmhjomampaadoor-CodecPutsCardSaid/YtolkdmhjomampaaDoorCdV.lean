/-
  Package codec: reading values: null and an integer, and the fields of a list whose elements are known. Nothing that was there turns.
-/
import Derived.Test.YtolkdmhjomampaaDoorCdE
import Derived.Test.YtolkdmhjomampaaDoorLvE
namespace Go.Proofs.YtolkdmhjomampaaDoor
open Go.RowKit

theorem results_cell2 {fn : Func} {p u v : Tmp} {ty : TypeId} (h : fn.results = #[.cell p ty, .tmp u, .tmp v]) (tmps : Array Value) (P : Program) (w : World) :
    (results fn tmps).run P w =
      ((asAddr (tmps.getD p undef)).run P w).andThen fun a w₁ => ((loadVar ty a).run P w₁).andThen fun x w₂ => .ok (.tuple #[x, tmps.getD u undef, tmps.getD v undef]) w₂ := by
  simp only [results, h]
  simp [Sem.run_bind, Result.andThen]
/-- A value's cells. -/
def va (k n : Int) (ao : Option Addr) (len cap : Nat) : Array Value := #[.int .i64 k, .int .i64 n, .int .i64 0, .string ⟨#[]⟩, .slice ao len cap]
/-- A value, an offset and a code. -/
def RetVv (w : World) (a : Array Value) (E C : Int) (e : Ending) (w' : World) : Prop := e = .returned (.tuple #[.agg a, .int .i64 E, .int .i64 C]) ∧ Fuw w w'
theorem ld_val (w : World) (b : Nat) (k n : Int) (ao : Option Addr) (len cap : Nat) (h0 : w.cell? ⟨b, 0, none⟩ = some (.int .i64 k)) (h1 : w.cell? ⟨b, 1, none⟩ = some (.int .i64 n)) (h2 : w.cell? ⟨b, 2, none⟩ = some (.int .i64 0)) (h3 : w.cell? ⟨b, 3, none⟩ = some (.string ⟨#[]⟩)) (h4 : w.cell? ⟨b, 4, none⟩ = some (.slice ao len cap)) :
    (loadVar 24 ⟨b, 0, none⟩).run Tryd.prog w = .ok (.agg #[.int .i64 k, .int .i64 n, .int .i64 0, .string ⟨#[]⟩, .slice ao len cap]) w := by
  go_simp
theorem vv_ret {fn : Func} {p u v : Tmp} (hres : fn.results = #[.cell p 24, .tmp u, .tmp v]) {tmps : Array Value} {B : Nat} {k n E C : Int} {ao : Option Addr} {len cap : Nat} {w W : World}
    (hp : tmps.getD p undef = .pointer (some ⟨B, 0, none⟩)) (hu : tmps.getD u undef = .int .i64 E) (hv : tmps.getD v undef = .int .i64 C) (h : W.heap[B]? = some (.cells (va k n ao len cap) 24 (0, 0))) (hf : Fuw w W) :
    bodyPost Tryd.prog fn (RetVv w (va k n ao len cap) E C) Exit.ret { tmps := tmps, defers := [] } W := by
  refine bodyPost_ret (v := .tuple #[.agg (va k n ao len cap), .int .i64 E, .int .i64 C]) ?_ rfl ⟨rfl, hf⟩
  have e : (asAddr (.pointer (some ⟨B, 0, none⟩))).run Tryd.prog W = .ok ⟨B, 0, none⟩ W := by go_simp
  unfold va at *
  have L := ld_val W B k n ao len cap (by simp [World.cell?, h]) (by simp [World.cell?, h]) (by simp [World.cell?, h]) (by simp [World.cell?, h]) (by simp [World.cell?, h])
  rw [results_cell2 hres, hp, hu, hv, e]
  simp only [Result.andThen]
  rw [L]
theorem val_put' (W : World) (B : Nat) (a0 a1 a2 a3 a4 b0 b1 b2 b3 b4 : Value) (t : TypeId) (fz : Nat × Nat) (h : W.heap[B]? = some (.cells #[a0, a1, a2, a3, a4] t fz)) :
    (((((W.setCell ⟨B, 0, none⟩ b0).setCell ⟨B, 1, none⟩ b1).setCell ⟨B, 2, none⟩ b2).setCell ⟨B, 3, none⟩ b3).setCell ⟨B, 4, none⟩ b4).heap[B]? = some (.cells #[b0, b1, b2, b3, b4] t fz) := by
  simp [World.setCell, Array.getElem?_modify, h]
theorem fuw_set {w w1 : World} {g j : Nat} {u : Value} (hf : Fuw w w1) (hg : w.heap.size ≤ g) : Fuw w (w1.setCell ⟨g, j, none⟩ u) := Below.setCell hf hg u
theorem fuw_put5 {w W : World} {B : Nat} (hf : Fuw w W) (hB : w.heap.size ≤ B) (b0 b1 b2 b3 b4 : Value) : Fuw w (((((W.setCell ⟨B, 0, none⟩ b0).setCell ⟨B, 1, none⟩ b1).setCell ⟨B, 2, none⟩ b2).setCell ⟨B, 3, none⟩ b3).setCell ⟨B, 4, none⟩ b4) :=
  fuw_set (fuw_set (fuw_set (fuw_set (fuw_set hf hB) hB) hB) hB) hB
theorem bz0 (w : World) : (w.alloc (.cells #[.int .i64 0, .int .i64 0, .int .i64 0, .string ⟨#[]⟩, .slice none 0 0] 24)).heap[w.heap.size]? = some (.cells (va 0 0 none 0 0) 24 (0, 0)) ∧ Fuw w (w.alloc (.cells #[.int .i64 0, .int .i64 0, .int .i64 0, .string ⟨#[]⟩, .slice none 0 0] 24)) := by
  refine ⟨?_, (Fuw.refl w).alloc _⟩
  show (w.heap.push _)[w.heap.size]? = _
  rw [Array.getElem?_push, if_pos rfl]
  rfl
/-- What a box reads as. -/
theorem bz_cells {w : World} {B : Nat} {k n : Int} {ao : Option Addr} {len cap : Nat} (h : w.heap[B]? = some (.cells (va k n ao len cap) 24 (0, 0))) :
    w.cell? ⟨B, 0, none⟩ = some (.int .i64 k) ∧ w.cell? ⟨B, 1, none⟩ = some (.int .i64 n) ∧ w.cell? ⟨B, 2, none⟩ = some (.int .i64 0) ∧ w.cell? ⟨B, 3, none⟩ = some (.string ⟨#[]⟩) ∧ w.cell? ⟨B, 4, none⟩ = some (.slice ao len cap) ∧ (∀ j, w.frozen? ⟨B, j, none⟩ = false) ∧ B < w.heap.size := by
  unfold va at h
  refine ⟨by simp [World.cell?, h], by simp [World.cell?, h], by simp [World.cell?, h], by simp [World.cell?, h], by simp [World.cell?, h], fun j => by simp [World.frozen?, h], ?_⟩
  rcases Nat.lt_or_ge B w.heap.size with k | k
  · exact k
  · rw [Array.getElem?_eq_none k] at h; cases h
theorem bz_on {w w' : World} {B : Nat} {o : Obj} (h : w.heap[B]? = some o) (hf : Fuw w w') : w'.heap[B]? = some o := by
  have hlt : B < w.heap.size := by
    rcases Nat.lt_or_ge B w.heap.size with k | k
    · exact k
    · rw [Array.getElem?_eq_none k] at h; cases h
  rw [Below.block hf B hlt]; exact h
theorem bz_set1 {w : World} {B : Nat} {k n : Int} {ao : Option Addr} {len cap : Nat} (h : w.heap[B]? = some (.cells (va k n ao len cap) 24 (0, 0))) (m : Int) :
    (w.setCell ⟨B, 1, none⟩ (.int .i64 m)).heap[B]? = some (.cells (va k m ao len cap) 24 (0, 0)) := by
  unfold va at *
  simp [World.setCell, Array.getElem?_modify, h]
theorem bz_set4 {w : World} {B : Nat} {k n : Int} {ao : Option Addr} {len cap : Nat} (h : w.heap[B]? = some (.cells (va k n ao len cap) 24 (0, 0))) (a2 : Option Addr) (l2 c2 : Nat) :
    (w.setCell ⟨B, 4, none⟩ (.slice a2 l2 c2)).heap[B]? = some (.cells (va k n a2 l2 c2) 24 (0, 0)) := by
  unfold va at *
  simp [World.setCell, Array.getElem?_modify, h]

theorem rf_null (ao : Option Addr) (n cap : Nat) (a nest : Int) (B : Nat) (w : World) (h : w.cell? ⟨B, 0, none⟩ = some (.int .i64 0)) :
    Calls Tryd.prog 55 #[.slice ao n cap, .int .i64 a, .pointer (some ⟨B, 0, none⟩), .int .i64 nest] w fun e w' => e = .returned (.tuple #[.int .i64 a, .int .i64 0]) ∧ w = w' := by
  go_enter Tryd.func55, Tryd.ntmps55
  go_wp2
  go_ret2
  exact ⟨rfl, rfl⟩
theorem rf_int (ao : Option Addr) (l : List UInt8) (cap : Nat) (a nest : Int) (B : Nat) (w : World) (ha : -9223372036854775808 ≤ a) (hb : a ≤ 9223372036854775807) (hI : IsB w ao l cap) (n E : Int) (hv : intV l a = (n, E, 0)) (h : w.cell? ⟨B, 0, none⟩ = some (.int .i64 2)) (h1 : w.cell? ⟨B, 1, none⟩ = some (.int .i64 0)) (f1 : w.frozen? ⟨B, 1, none⟩ = false) :
    Calls Tryd.prog 55 #[.slice ao l.length cap, .int .i64 a, .pointer (some ⟨B, 0, none⟩), .int .i64 nest] w fun e w' => e = .returned (.tuple #[.int .i64 E, .int .i64 0]) ∧ w' = w.setCell ⟨B, 1, none⟩ (.int .i64 n) := by
  have HV := Lib.hid (int_is ao l cap a ha hb w hI n E 0 hv)
  clear hI hv
  go_enter Tryd.func55, Tryd.ntmps55
  go_wp2_with fail
  go_at_call 29; refine HV.out.mono ?_; rintro e1 w1 ⟨rfl, rfl⟩
  clear HV
  go_wp2
  go_ret2
  exact ⟨rfl, rfl⟩
end Go.Proofs.YtolkdmhjomampaaDoor
