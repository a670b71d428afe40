
/-
  Package num: Text returns the decimal numeral of every int value. Condition: in the world at the call the table of powers of ten of the library reads as its initialiser lays it (Good).
-/
import Derived.Test.YtieicceceggglaaGreatDoorNumA
import Derived.Test.YtieicceceggglaaGreatDoorFrP
import Derived.Test.YtieicceceggglaaGreatDoorShelf
import Derived.FnData
namespace Go.Proofs.YtieicceceggglaaGreatDoor
open Go.RowKit


theorem var_on {P : Program} {w w' : World} {n : String} {cs : Array Value} (h : w.var? P n = some cs) (hb : Fuw w w') : w'.var? P n = some cs := by
  unfold World.var? at *
  cases hg : P.globalNamed n with
  | none => simp [hg] at h
  | some g =>
    simp only [hg, Option.bind_some] at h ⊢
    have hlt : g < w.heap.size := by
      rcases Nat.lt_or_ge g w.heap.size with h' | h'
      · exact h'
      · rw [Array.getElem?_eq_none h'] at h; simp at h
    rw [Below.block hb g hlt]
    exact h
/-- The listed variables read as laid. -/
structure Good (w : World) : Prop where
  tab : Lib.TabIs Tryz.prog w "internal/strconv.uint64pow10" .u64 Lib.pow10Tab
  mx : ∃ m, w.cell? ⟨0, 0, none⟩ = some (.int .i64 m)
theorem Good.onw {w w' : World} (h : Good w) (hb : Fuw w w') : Good w' :=
  ⟨var_on h.tab hb, h.mx.imp fun _ k => cellOnw hb k⟩
theorem Good.on {w w' : World} (h : Good w) (hb : Fur w w') : Good w' := h.onw hb.b
theorem fur_grow (w : World) (k : Nat) (os : Array Obj) : Fur w (Go.Sort.grow (w.drewN k) os) :=
  ⟨⟨rfl, rfl, rfl, by show w.heap.size ≤ (w.heap ++ os).size; rw [Array.size_append]; omega, fun j hj => by
    show (w.heap ++ os)[j]? = w.heap[j]?
    rw [Array.getElem?_append_left hj]⟩, Nat.le_add_right _ _⟩
theorem num_text (n : Int) (h0 : -9223372036854775808 ≤ n) (h1 : n ≤ 9223372036854775807) (w : World) (G : Good w) :
    Calls Tryz.prog 81 #[.int .i64 n] w fun e w' => e = .returned (.string (txt n)) ∧ Fur w w' := by
  go_enter Tryz.func81, Tryz.ntmps81
  go_wp2_with (go_at_call 98; refine (Tryz.strconv_Itoa n h0 h1 _ G.tab).mono ?_; rintro e w' ⟨rfl, k, os, rfl⟩)
  go_ret
  exact ⟨rfl, fur_grow _ _ _⟩
end Go.Proofs.YtieicceceggglaaGreatDoor
