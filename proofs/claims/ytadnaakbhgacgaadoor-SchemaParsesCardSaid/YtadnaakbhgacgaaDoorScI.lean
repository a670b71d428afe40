/-
  Rules compared by == and !=; the reference's Same of lists of rules. Nothing that was there turns.
-/
import Derived.Test.YtadnaakbhgacgaaDoorScH
import Derived.Laws.StructEq
namespace Go.Proofs.YtadnaakbhgacgaaDoor
open Go.RowKit

def eqR (a b : Rl) : Bool := a.kd == b.kd && (a.nn == b.nn && (a.nm == b.nm && (a.ky == b.ky && (a.fr == b.fr && a.tt == b.tt))))
theorem eqR_iff {a b : Rl} : eqR a b = true ↔ a = b := by
  unfold eqR
  cases a; cases b
  simp
theorem eqR_ord (a b : Rl) : eqR a b = decide (ordR a b = 0) := by
  rw [Bool.eq_iff_iff, eqR_iff, decide_eq_true_eq, ordR_cmp.zero]
def samL : List Rl → List Rl → Bool
  | [], [] => true
  | x :: r, y :: t => eqR x y && samL r t
  | _, _ => false
theorem samL_iff : ∀ {a b : List Rl}, samL a b = true ↔ a = b
  | [], [] => by simp [samL]
  | [], _ :: _ => by simp [samL]
  | _ :: _, [] => by simp [samL]
  | x :: r, y :: t => by
    unfold samL
    rw [Bool.and_eq_true, eqR_iff, samL_iff (a := r) (b := t), List.cons.injEq]
theorem samL_drop (a b : List Rl) (i : Nat) (h : i < a.length) (h' : i < b.length) : samL (a.drop i) (b.drop i) = (eqR a[i] b[i] && samL (a.drop (i + 1)) (b.drop (i + 1))) := by
  rw [List.drop_eq_getElem_cons h, List.drop_eq_getElem_cons h']; rfl
theorem samL_end (a b : List Rl) (i : Nat) (h : a.length ≤ i) (h' : b.length ≤ i) : samL (a.drop i) (b.drop i) = true := by
  rw [List.drop_of_length_le h, List.drop_of_length_le h']; rfl
theorem samL_ne {a b : List Rl} (h : a.length ≠ b.length) : samL a b = false := by
  cases e : samL a b
  · rfl
  · rw [samL_iff] at e; rw [e] at h; exact absurd rfl h
theorem bs_beq (s t : List UInt8) : ((bs s).toList == (bs t).toList) = (s == t) := by rw [bs_list, bs_list]
section
variable (x y : Rl) (w : World)
set_option maxHeartbeats 1600000 in
theorem neq_rl : (binOp .neq 23 (rlv x) (rlv y)).run Tryd.prog w = .ok (.bool (!eqR x y)) w := by
  have u3 := Tryd.underlying3
  have a3 := Tryd.isAgg3
  have z3 := Tryd.sizeOf3
  have u9 := Tryd.underlying9
  have a9 := Tryd.isAgg9
  have z9 := Tryd.sizeOf9
  have hS : Tryd.prog.underlying 23 = some (.struct (Tryd.prog.fieldsOf 23)) := by kernel_rfl
  have hp : Tryd.prog.stoodInHeld 23 = false := by kernel_rfl
  unfold rlv
  rw [run_neq_struct, show (10000 : Nat) = 9999 + 1 from rfl, run_equalIn_agg w 9999 23 _ _ hS hp]
  unfold eqR
  have e2 := bs_beq x.nm y.nm
  have e3 := bs_beq x.ky y.ky
  have e4 := bs_beq x.fr y.fr
  have e5 := bs_beq x.tt y.tt
  simp only [Program.fieldsOf, Tryd.underlying23]
  generalize (x.nm == y.nm) = b2 at *
  generalize (x.ky == y.ky) = b3 at *
  generalize (x.fr == y.fr) = b4 at *
  generalize (x.tt == y.tt) = b5 at *
  by_cases h0 : x.kd = y.kd <;> by_cases h1 : x.nn = y.nn <;> cases b2 <;> cases b3 <;> cases b4 <;> cases b5 <;> (go_simp; try simp [h0, h1])
set_option maxHeartbeats 1600000 in
theorem eql_rl : (binOp .eql 23 (rlv x) (rlv y)).run Tryd.prog w = .ok (.bool (eqR x y)) w := by
  have u3 := Tryd.underlying3
  have a3 := Tryd.isAgg3
  have z3 := Tryd.sizeOf3
  have u9 := Tryd.underlying9
  have a9 := Tryd.isAgg9
  have z9 := Tryd.sizeOf9
  have hS : Tryd.prog.underlying 23 = some (.struct (Tryd.prog.fieldsOf 23)) := by kernel_rfl
  have hp : Tryd.prog.stoodInHeld 23 = false := by kernel_rfl
  unfold rlv
  rw [run_eql_struct, show (10000 : Nat) = 9999 + 1 from rfl, run_equalIn_agg w 9999 23 _ _ hS hp]
  unfold eqR
  have e2 := bs_beq x.nm y.nm
  have e3 := bs_beq x.ky y.ky
  have e4 := bs_beq x.fr y.fr
  have e5 := bs_beq x.tt y.tt
  simp only [Program.fieldsOf, Tryd.underlying23]
  generalize (x.nm == y.nm) = b2 at *
  generalize (x.ky == y.ky) = b3 at *
  generalize (x.fr == y.fr) = b4 at *
  generalize (x.tt == y.tt) = b5 at *
  by_cases h0 : x.kd = y.kd <;> by_cases h1 : x.nn = y.nn <;> cases b2 <;> cases b3 <;> cases b4 <;> cases b5 <;> (go_simp; try simp [h0, h1])
end
theorem guard_rl : Tryd.prog.eqGuardType Tryd.prog.depth 23 = false := by kernel_rfl
end Go.Proofs.YtadnaakbhgacgaaDoor
