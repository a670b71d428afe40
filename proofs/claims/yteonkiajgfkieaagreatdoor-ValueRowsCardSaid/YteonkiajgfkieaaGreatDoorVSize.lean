/-
  Plain mathematics of values: a value within the statements' budget has a text of less than a million bytes. No program is walked here.
-/
import Derived.Test.YteonkiajgfkieaaGreatDoorM31
import Derived.Test.YteonkiajgfkieaaGreatDoorLvM
namespace Go.Proofs.YteonkiajgfkieaaGreatDoor
open Go.RowKit

mutual
/-- How many values there are in a value. -/
def siz : Vl → Nat
  | .mk _ _ _ _ l => 1 + sizL l
def sizL : List Vl → Nat
  | [] => 0
  | x :: r => siz x + sizL r
end
theorem siz_mem : ∀ {l : List Vl} {x : Vl}, x ∈ l → siz x ≤ sizL l
  | [], _, h => by cases h
  | y :: r, x, h => by
    unfold sizL
    rcases List.mem_cons.1 h with e | e
    · rw [e]; omega
    · have := siz_mem (x := x) (l := r) e
      omega
mutual
theorem wei_siz : ∀ (x : Vl) (m : Nat) (a : Int), 0 ≤ weiV m x a → weiV m x a + (siz x : Int) ≤ a
  | .mk k n d s l, 0, a, h => absurd h (by show ¬ (0 : Int) ≤ -1; decide)
  | .mk k n d s l, m + 1, a, h => by
    rw [weiV_s] at h ⊢
    have ih := weiL_siz l m (a - 1 - (((Vl.mk k n d s l).ss.length / 50 : Nat) : Int)) h
    have e : (Vl.mk k n d s l).ll = l := rfl
    rw [e]
    unfold siz
    have z : 0 ≤ (((Vl.mk k n d s l).ss.length / 50 : Nat) : Int) := Int.natCast_nonneg _
    omega
theorem weiL_siz : ∀ (l : List Vl) (m : Nat) (a : Int), 0 ≤ weiL m l a → weiL m l a + (sizL l : Int) ≤ a
  | [], m, a, _ => by
    show a + ((sizL [] : Nat) : Int) ≤ a
    unfold sizL; omega
  | x :: r, m, a, h => by
    have h0 : 0 ≤ a := by
      rcases Int.lt_or_le a 0 with k | k
      · rw [weiL_neg m _ k] at h; exact h
      · exact k
    rw [weiL_cons m x r h0] at h ⊢
    have i2 := weiL_siz r m (weiV m x a) h
    have h1 : 0 ≤ weiV m x a := by
      rcases Int.lt_or_le (weiV m x a) 0 with k | k
      · rw [weiL_neg m _ k] at h; exact h
      · exact k
    have i1 := wei_siz x m a h1
    unfold sizL
    omega
end
theorem itoa_len {n : Int} (h0 : -9223372036854775807 ≤ n) (h1 : n ≤ 9223372036854775807) : (Lib.itoa n).length ≤ 21 := by
  have k := txt_size n (by omega) (by omega)
  have e := bs_size (Lib.itoa n)
  rw [itoa_txt, e] at k
  exact k
mutual
theorem tex_siz : ∀ x : Vl, okX x = true → (texX x).length + 2 ≤ 210 * siz x
  | .mk k n d s l, h => by
    have ih := fun hl sep (hs : sep.length ≤ 2) => texL_siz l sep hs hl
    have hS : k = 4 → s.length ≤ 100 := fun e => by subst e; exact str_len h
    rw [tex_of h]
    unfold siz
    rcases kinds h with ⟨rfl, -⟩ | ⟨rfl, -⟩ | ⟨rfl, g, -⟩ | ⟨rfl, g, -⟩ | ⟨rfl, -⟩ | ⟨rfl, g, -⟩ | ⟨rfl, g, -⟩ | ⟨rfl, -, -, -, g⟩ | ⟨rfl, -, -, -, g⟩
    · simp; omega
    · simp
      split <;> (simp; omega)
    · have := itoa_len (n := n) (by omega) (by omega)
      simp; omega
    · have o := okF_t g
      have o1 := o.n1; have o2 := o.n2; have o3 := o.d1; have o4 := o.d2
      have := itoa_len (n := n) (by omega) (by omega)
      have := itoa_len (n := d) (by omega) (by omega)
      simp; omega
    · have := dbl_len s
      have := hS rfl
      simp; omega
    · have := itoa_len (n := n) (by omega) (by omega)
      simp; omega
    · have := itoa_len (n := n) (by omega) (by omega)
      simp; omega
    · have := ih g [32] (by decide)
      simp; omega
    · have := ih g [44, 32] (by decide)
      simp; omega
theorem texL_siz : ∀ (l : List Vl) (sep : List UInt8), sep.length ≤ 2 → AllOk l → (texL sep l).length ≤ 210 * sizL l
  | [], sep, _, _ => by unfold texL; simp
  | x :: r, sep, hs, h => by
    have h1 := tex_siz x (h x (List.mem_cons_self ..))
    have h2 := texR_siz r sep hs (fun v hv => h v (List.mem_cons_of_mem _ hv))
    unfold texL sizL
    rw [List.length_append]
    omega
theorem texR_siz : ∀ (l : List Vl) (sep : List UInt8), sep.length ≤ 2 → AllOk l → (texR sep l).length ≤ 210 * sizL l
  | [], sep, _, _ => by unfold texR; simp
  | x :: r, sep, hs, h => by
    have h1 := tex_siz x (h x (List.mem_cons_self ..))
    have h2 := texR_siz r sep hs (fun v hv => h v (List.mem_cons_of_mem _ hv))
    unfold texR sizL
    rw [List.length_append, List.length_append]
    omega
end
/-- Within the statements' budget. -/
def lite (l : List Vl) : Bool := decide (0 ≤ ligV [l] 300)
theorem lite_siz {l : List Vl} (h : lite l = true) {x : Vl} (hx : x ∈ l) : siz x ≤ 300 := by
  unfold lite at h
  have k : 0 ≤ ligV [l] 300 := by simpa using h
  have e : ligV [l] 300 = weiL 12 l 299 := rfl
  rw [e] at k
  have := weiL_siz l 12 299 k
  have := siz_mem hx
  omega
theorem lite_tex {l : List Vl} (h : lite l = true) {x : Vl} (hx : x ∈ l) : (texX x).length ≤ 1000000 := by
  have hz := lite_siz h hx
  cases hv : okX x
  · obtain ⟨k, n, d, s, l⟩ := x
    unfold texX
    rw [if_pos hv]
    decide
  · have := tex_siz x hv
    omega
/-- A slice of one row. -/
theorem rs1 (w : World) (l : List Vl) (ao : Option Addr) (cap : Nat) (hs : SlV w ao l cap) :
    RsV (w.alloc (.cells #[.slice ao l.length cap] 23)) (some ⟨w.heap.size, 0, none⟩) [l] 1 ∧ Fur w (w.alloc (.cells #[.slice ao l.length cap] 23)) := by
  have hh : (w.alloc (.cells #[.slice ao l.length cap] 23)).heap[w.heap.size]? = some (.cells #[.slice ao l.length cap] 23 (0, 0)) := by
    show (w.heap.push _)[w.heap.size]? = _
    rw [Array.getElem?_push, if_pos rfl]
  have hf : Fur w (w.alloc (.cells #[.slice ao l.length cap] 23)) := (Fur.refl w).alloc _
  refine ⟨⟨Nat.le_refl _, by unfold maxLen; decide, (fun h => by cases h), fun _ => ⟨w.heap.size, 0, rfl, fun j hj => ?_⟩⟩, hf⟩
  have : j = 0 := by simp at hj; omega
  subst this
  exact ⟨ao, cap, by unfold World.cell?; rw [hh]; rfl, hs.on hf⟩
end Go.Proofs.YteonkiajgfkieaaGreatDoor
