/-
  LvO; RxM; RvA: texts of one kind in one file; each part says what it holds.
-/
import Derived.Test.YteonkiajgfkieaaGreatDoorLvK
import Derived.Test.YteonkiajgfkieaaGreatDoorLvM
import Derived.Test.YteonkiajgfkieaaGreatDoorLvN
import Derived.Test.YteonkiajgfkieaaGreatDoorLvG

/-! Package value: the contracts told of values written out by their fields. Nothing that was there turns. -/
namespace Go.Proofs.YteonkiajgfkieaaGreatDoor
open Go.RowKit

theorem Fuw.setB {w w1 : World} (h : Fuw w w1) {g j : Nat} {u : Value} (hg : w.heap.size ≤ g) : Fuw w (w1.setCell ⟨g, j, none⟩ u) := Below.setCell h hg u
theorem SlV.nil0 (w : World) : SlV w none [] 0 := ⟨Nat.le_refl _, Nat.zero_le _, fun _ => rfl, fun h => absurd h (by decide)⟩
def vinB (k n d : Int) (s : List UInt8) : Bool := decide (-9223372036854775808 ≤ k) && decide (k ≤ 9223372036854775807) && decide (-9223372036854775808 ≤ n) && decide (n ≤ 9223372036854775807) && decide (-9223372036854775808 ≤ d) && decide (d ≤ 9223372036854775807) && decide (s.length ≤ 1000)
theorem vin_of {k n d : Int} {s : List UInt8} {l : List Vl} (h : vinB k n d s = true) : Vin (.mk k n d s l) := by
  unfold vinB at h
  simp only [Bool.and_eq_true, decide_eq_true_eq] at h
  obtain ⟨⟨⟨⟨⟨⟨h1, h2⟩, h3⟩, h4⟩, h5⟩, h6⟩, h7⟩ := h
  exact ⟨⟨h1, h2⟩, ⟨h3, h4⟩, ⟨h5, h6⟩, Nat.le_trans h7 (by unfold maxLen; decide)⟩
/-- A value written out, boxed. -/
theorem bxm (w : World) (k n d : Int) (sB : ByteArray) (s : List UInt8) (l : List Vl) (ao : Option Addr) (len cap : Nat) (hs : sB = bs s) (hl : len = l.length) :
    Bx (w.alloc (.cells #[.int .i64 k, .int .i64 n, .int .i64 d, .string sB, .slice ao len cap] 34)) w.heap.size (.mk k n d s l) ao cap ∧ Fur w (w.alloc (.cells #[.int .i64 k, .int .i64 n, .int .i64 d, .string sB, .slice ao len cap] 34)) := by
  subst hs hl
  exact bx1 w (.mk k n d s l) ao cap
/-- Two values in a slice. -/
theorem sl2 (w : World) (k n d k' n' d' : Int) (sB sB' : ByteArray) (s s' : List UInt8) (hs : sB = bs s) (hs' : sB' = bs s') (hv : vinB k n d s = true) (hv' : vinB k' n' d' s' = true) :
    SlV (w.alloc (.cells #[.int .i64 k, .int .i64 n, .int .i64 d, .string sB, .slice none 0 0, .int .i64 k', .int .i64 n', .int .i64 d', .string sB', .slice none 0 0] 34)) (some ⟨w.heap.size, 0, none⟩) [.mk k n d s [], .mk k' n' d' s' []] 2 ∧ Fur w (w.alloc (.cells #[.int .i64 k, .int .i64 n, .int .i64 d, .string sB, .slice none 0 0, .int .i64 k', .int .i64 n', .int .i64 d', .string sB', .slice none 0 0] 34)) := by
  subst hs hs'
  have hh : (w.alloc (.cells #[.int .i64 k, .int .i64 n, .int .i64 d, .string (bs s), .slice none 0 0, .int .i64 k', .int .i64 n', .int .i64 d', .string (bs s'), .slice none 0 0] 34)).heap[w.heap.size]? = some (.cells #[.int .i64 k, .int .i64 n, .int .i64 d, .string (bs s), .slice none 0 0, .int .i64 k', .int .i64 n', .int .i64 d', .string (bs s'), .slice none 0 0] 34 (0, 0)) := by
    show (w.heap.push _)[w.heap.size]? = _
    rw [Array.getElem?_push, if_pos rfl]
  refine ⟨⟨Nat.le_refl _, by unfold maxLen; decide, (fun h => by cases h), fun _ => ⟨w.heap.size, 0, rfl, ?_⟩⟩, (Fur.refl w).alloc _⟩
  unfold VE
  refine ⟨VC_mk (vin_of hv) ?_ ?_ ?_ ?_ (ao := none) (cap := 0) ?_ (SlV.nil0 _), ?_⟩
  · unfold World.cell?; rw [hh]; rfl
  · unfold World.cell?; rw [hh]; rfl
  · unfold World.cell?; rw [hh]; rfl
  · unfold World.cell?; rw [hh]; rfl
  · unfold World.cell?; rw [hh]; rfl
  unfold VE
  refine ⟨VC_mk (vin_of hv') ?_ ?_ ?_ ?_ (ao := none) (cap := 0) ?_ (SlV.nil0 _), ?_⟩
  · unfold World.cell?; rw [hh]; rfl
  · unfold World.cell?; rw [hh]; rfl
  · unfold World.cell?; rw [hh]; rfl
  · unfold World.cell?; rw [hh]; rfl
  · unfold World.cell?; rw [hh]; rfl
  unfold VE
  trivial
/-- An int; nothing that was there has turned. -/
def RwI (w : World) (n : Int) (e : Ending) (w' : World) : Prop := e = .returned (.int .i64 n) ∧ Fuw w w'
def RwB (w : World) (b : Bool) (e : Ending) (w' : World) : Prop := e = .returned (.bool b) ∧ Fuw w w'
theorem RetI.w {w : World} {n : Int} {e : Ending} {w' : World} (h : RetI w n e w') : RwI w n e w' := ⟨h.1, h.2.b⟩
theorem RetB.w {w : World} {b : Bool} {e : Ending} {w' : World} (h : RetB w b e w') : RwB w b e w' := ⟨h.1, h.2.b⟩
section
variable {k n d k' n' d' : Int} {sB sB' : ByteArray} {s s' : List UInt8} {l l' : List Vl} {ao bo : Option Addr} {len len' ca cb : Nat} {w : World}
theorem leq_lit {R : Int} {q : List Int} (_ : [k, n, d, k', n', d'] = q) (hs : SlV w ao l ca) (hs' : SlV w bo l' cb) (e : sB = bs s) (e' : sB' = bs s') (hl : len = l.length) (hl' : len' = l'.length) (hv : vinB k n d s = true) (hv' : vinB k' n' d' s' = true) (hR : eqV (.mk k n d s l) (.mk k' n' d' s' l') = R) :
    Calls Tryz.prog 20 #[.agg #[.int .i64 k, .int .i64 n, .int .i64 d, .string sB, .slice ao len ca], .agg #[.int .i64 k', .int .i64 n', .int .i64 d', .string sB', .slice bo len' cb]] w (RwI w R) := by
  subst e e' hl hl' hR
  exact (leq_any (.mk k n d s l) (.mk k' n' d' s' l') ao bo ca cb w (vin_of hv) (vin_of hv') hs hs').mono fun _ _ h => h.w
theorem lless_lit {R : Int} {q : List Int} (_ : [k, n, d, k', n', d'] = q) (hs : SlV w ao l ca) (hs' : SlV w bo l' cb) (e : sB = bs s) (e' : sB' = bs s') (hl : len = l.length) (hl' : len' = l'.length) (hv : vinB k n d s = true) (hv' : vinB k' n' d' s' = true) (hR : lessV (.mk k n d s l) (.mk k' n' d' s' l') = R) :
    Calls Tryz.prog 21 #[.agg #[.int .i64 k, .int .i64 n, .int .i64 d, .string sB, .slice ao len ca], .agg #[.int .i64 k', .int .i64 n', .int .i64 d', .string sB', .slice bo len' cb]] w (RwI w R) := by
  subst e e' hl hl' hR
  exact (lless_any (.mk k n d s l) (.mk k' n' d' s' l') ao bo ca cb w (vin_of hv) (vin_of hv') hs hs').mono fun _ _ h => h.w
theorem lord_lit {R : Int} {q : List Int} (_ : [k, n, d, k', n', d'] = q) (hs : SlV w ao l ca) (hs' : SlV w bo l' cb) (e : sB = bs s) (e' : sB' = bs s') (hl : len = l.length) (hl' : len' = l'.length) (hv : vinB k n d s = true) (hv' : vinB k' n' d' s' = true) (hR : ordV (.mk k n d s l) (.mk k' n' d' s' l') = R) :
    Calls Tryz.prog 22 #[.agg #[.int .i64 k, .int .i64 n, .int .i64 d, .string sB, .slice ao len ca], .agg #[.int .i64 k', .int .i64 n', .int .i64 d', .string sB', .slice bo len' cb]] w (RwI w R) := by
  subst e e' hl hl' hR
  exact (lo_all (.mk k n d s l) (.mk k' n' d' s' l') ao bo ca cb w (vin_of hv) (vin_of hv') hs hs').mono fun _ _ h => h.w
theorem lvalid_lit {R : Bool} {q : List Int} (_ : [k, n, d] = q) (hs : SlV w ao l ca) (e : sB = bs s) (hl : len = l.length) (hv : vinB k n d s = true) (hR : okX (.mk k n d s l) = R) :
    Calls Tryz.prog 25 #[.agg #[.int .i64 k, .int .i64 n, .int .i64 d, .string sB, .slice ao len ca]] w (RwB w R) := by
  subst e hl hR
  exact (lvalid_any (.mk k n d s l) ao ca w (vin_of hv) hs).mono fun _ _ h => h.w
theorem ltext_lit {R : List UInt8} {RB : ByteArray} {q : List Int} (_ : [k, n, d] = q) (hs : SlV w ao l ca) (G : Good w) (e : sB = bs s) (hl : len = l.length) (hv : vinB k n d s = true) (hR : texX (.mk k n d s l) = R) (hz : R.length ≤ 1000000) (hB : bs R = RB) :
    Calls Tryz.prog 23 #[.agg #[.int .i64 k, .int .i64 n, .int .i64 d, .string sB, .slice ao len ca]] w fun e w' => e = .returned (.string RB) ∧ Fuw w w' := by
  subst e hl hR hB
  exact ltext_any (.mk k n d s l) ao ca w (vin_of hv) hs G hz
end
/-! The values of the examples. -/
theorem al_1 : eqV (.mk 8 0 0 [] [.mk 2 1 0 [] [], .mk 0 0 0 [] []]) (.mk 8 0 0 [] [.mk 2 1 0 [] [], .mk 2 2 0 [] []]) = 1 := by decide +kernel
theorem al_2 : eqV (.mk 8 0 0 [] [.mk 2 1 0 [] [], .mk 0 0 0 [] []]) (.mk 8 0 0 [] [.mk 2 2 0 [] [], .mk 0 0 0 [] []]) = 0 := by decide +kernel
theorem al_3 : eqV (.mk 3 1 2 [] []) (.mk 4 0 0 [97] []) = 0 := by decide +kernel
theorem al_4 : lessV (.mk 3 1 3 [] []) (.mk 3 1 2 [] []) = 2 := by decide +kernel
theorem al_5 : lessV (.mk 2 1 0 [] []) (.mk 4 0 0 [97] []) = 1 := by decide +kernel
theorem al_6 : ordV (.mk 2 5 0 [] []) (.mk 4 0 0 [97] []) = -1 := by decide +kernel
theorem al_7 : texX (.mk 8 0 0 [] [.mk 4 0 0 [105, 116, 39, 115] [], .mk 5 3 0 [] []]) = [91, 39, 105, 116, 39, 39, 115, 39, 44, 32, 35, 51, 93] := by decide +kernel
theorem al_8 : ordV (.mk 3 1 2 [] []) (.mk 2 1 0 [] []) = -1 := by decide +kernel
theorem al_9 : ordV (.mk 0 0 0 [] []) (.mk 1 0 0 [] []) = -1 := by decide +kernel
theorem al_10 : okX (.mk 8 0 0 [] [.mk 4 0 0 [105, 116, 39, 115] [], .mk 5 3 0 [] []]) = true := by decide +kernel
end Go.Proofs.YteonkiajgfkieaaGreatDoor

/-! Weak frames for the reference's contracts: nothing that was there turns (the count of draws is left open). No program is walked here. -/
namespace Go.Proofs.YteonkiajgfkieaaGreatDoor
open Go.RowKit

/-- A wide number. -/
def RwW (w : World) (n : Nat) (e : Ending) (w' : World) : Prop := ∃ zs ao cap, Wide zs n ∧ e = .returned (.slice ao 14 cap) ∧ IsS w' ao zs cap ∧ Fuw w w'
theorem IsS.onw {w w' : World} {ao : Option Addr} {zs : List Int} {cap : Nat} (h : IsS w ao zs cap) (hf : Fuw w w') : IsS w' ao zs cap :=
  ⟨h.le, h.max, h.nil, fun hp => by
    obtain ⟨b, off, e, hb, hc⟩ := h.at_ hp
    exact ⟨b, off, e, Nat.lt_of_lt_of_le hb hf.size, fun j hj => (Below.cell hf (p := ⟨b, off + j, none⟩) hb).trans (hc j hj)⟩⟩
theorem Box.onw {W W' : World} {B : Nat} {n d : Int} (h : Box W B n d) (hf : Fuw W W') : Box W' B n d := by
  have k := h.lt
  unfold Box at *
  rw [Below.block hf B k]; exact h
theorem fuw_set {w w1 : World} {g j : Nat} {u : Value} (hf : Fuw w w1) (hg : w.heap.size ≤ g) : Fuw w (w1.setCell ⟨g, j, none⟩ u) := Below.setCell hf hg u
theorem fuw_drewN (w : World) (n : Nat) : Fuw w (w.drewN n) := (fur_drewN w n).b
theorem fuw_put {w W : World} {B : Nat} (hf : Fuw w W) (hB : w.heap.size ≤ B) (u v : Value) : Fuw w ((W.setCell ⟨B, 0, none⟩ u).setCell ⟨B, 1, none⟩ v) := fuw_set (fuw_set hf hB) hB
theorem bx1w (w : World) (x : Vl) (ao : Option Addr) (cap : Nat) :
    Bx (w.alloc (.cells #[.int .i64 x.kd, .int .i64 x.nn, .int .i64 x.dd, .string (bs x.ss), .slice ao x.ll.length cap] 34)) w.heap.size x ao cap ∧ Fuw w (w.alloc (.cells #[.int .i64 x.kd, .int .i64 x.nn, .int .i64 x.dd, .string (bs x.ss), .slice ao x.ll.length cap] 34)) :=
  ⟨(bx1 w x ao cap).1, (bx1 w x ao cap).2.b⟩
end Go.Proofs.YteonkiajgfkieaaGreatDoor

/-! The reference of package value: tri, Not, And, Or, yes, ints, class: of ints. Nothing that was there turns. -/
namespace Go.Proofs.YteonkiajgfkieaaGreatDoor
open Go.RowKit

theorem ryes_any (b : Bool) (w : World) : Calls Tryz.prog 71 #[.bool b] w fun e w' => e = .returned (.int .i64 (if b = true then 2 else 0)) ∧ w' = w := by
  cases b
  · go_enter Tryz.func71, Tryz.ntmps71
    go_wp2
    go_ret
    exact ⟨rfl, rfl⟩
  · go_enter Tryz.func71, Tryz.ntmps71
    go_wp2
    go_ret
    exact ⟨rfl, rfl⟩
theorem rints_any (a b : Int) (w : World) : Calls Tryz.prog 42 #[.int .i64 a, .int .i64 b] w fun e w' => e = .returned (.int .i64 (intc a b)) ∧ w' = w := by
  by_cases h1 : a < b
  · rw [show intc a b = -1 by unfold intc; rw [if_pos h1]]
    go_enter Tryz.func42, Tryz.ntmps42
    go_wp2
    go_ret
    exact ⟨rfl, rfl⟩
  · by_cases h2 : b < a
    · rw [show intc a b = 1 by unfold intc; rw [if_neg h1, if_pos h2]]
      go_enter Tryz.func42, Tryz.ntmps42
      go_wp2
      go_ret
      exact ⟨rfl, rfl⟩
    · rw [show intc a b = 0 by unfold intc; rw [if_neg h1, if_neg h2]]
      go_enter Tryz.func42, Tryz.ntmps42
      go_wp2
      go_ret
      exact ⟨rfl, rfl⟩
end Go.Proofs.YteonkiajgfkieaaGreatDoor
