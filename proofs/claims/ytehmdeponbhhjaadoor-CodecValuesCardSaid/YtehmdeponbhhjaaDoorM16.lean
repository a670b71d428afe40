/-
  CdV; CdW; CdU: texts of one kind in one file; each part says what it holds.
-/
import Derived.Test.YtehmdeponbhhjaaDoorCdE
import Derived.Test.YtehmdeponbhhjaaDoorM15

/-! Package codec: reading values: null and an integer, and the fields of a list whose elements are known. Nothing that was there turns. -/
namespace Go.Proofs.YtehmdeponbhhjaaDoor
open Go.RowKit

theorem results_cell2 {fn : Func} {p u v : Tmp} {ty : TypeId} (h : fn.results = #[.cell p ty, .tmp u, .tmp v]) (tmps : Array Value) (P : Program) (w : World) :
    (results fn tmps).run P w =
      ((asAddr (tmps.getD p undef)).run P w).andThen fun a w₁ => ((loadVar ty a).run P w₁).andThen fun x w₂ => .ok (.tuple #[x, tmps.getD u undef, tmps.getD v undef]) w₂ := by
  simp only [results, h]
  simp [Sem.run_bind, Result.andThen]
/-- A value's cells. -/
def va (k n : Int) (ao : Option Addr) (len cap : Nat) : Array Value := #[.int .i64 k, .int .i64 n, .int .i64 0, .string ⟨#[]⟩, .slice ao len cap]
/-- A value, an offset and a code. -/
def RetVv (w : World) (a : Array Value) (E C : Int) (e : Ending) (w' : World) : Prop := e = .returned (.tuple #[.agg a, .int .i64 E, .int .i64 C]) ∧ Fuw w w'
theorem ld_val (w : World) (b : Nat) (k n : Int) (ao : Option Addr) (len cap : Nat) (h0 : w.cell? ⟨b, 0, none⟩ = some (.int .i64 k)) (h1 : w.cell? ⟨b, 1, none⟩ = some (.int .i64 n)) (h2 : w.cell? ⟨b, 2, none⟩ = some (.int .i64 0)) (h3 : w.cell? ⟨b, 3, none⟩ = some (.string ⟨#[]⟩)) (h4 : w.cell? ⟨b, 4, none⟩ = some (.slice ao len cap)) :
    (loadVar 26 ⟨b, 0, none⟩).run Tryd.prog w = .ok (.agg #[.int .i64 k, .int .i64 n, .int .i64 0, .string ⟨#[]⟩, .slice ao len cap]) w := by
  go_simp
theorem vv_ret {fn : Func} {p u v : Tmp} (hres : fn.results = #[.cell p 26, .tmp u, .tmp v]) {tmps : Array Value} {B : Nat} {k n E C : Int} {ao : Option Addr} {len cap : Nat} {w W : World}
    (hp : tmps.getD p undef = .pointer (some ⟨B, 0, none⟩)) (hu : tmps.getD u undef = .int .i64 E) (hv : tmps.getD v undef = .int .i64 C) (h : W.heap[B]? = some (.cells (va k n ao len cap) 26 (0, 0))) (hf : Fuw w W) :
    bodyPost Tryd.prog fn (RetVv w (va k n ao len cap) E C) Exit.ret { tmps := tmps, defers := [] } W := by
  refine bodyPost_ret (v := .tuple #[.agg (va k n ao len cap), .int .i64 E, .int .i64 C]) ?_ rfl ⟨rfl, hf⟩
  have e : (asAddr (.pointer (some ⟨B, 0, none⟩))).run Tryd.prog W = .ok ⟨B, 0, none⟩ W := by go_simp
  unfold va at *
  have L := ld_val W B k n ao len cap (by simp [World.cell?, h]) (by simp [World.cell?, h]) (by simp [World.cell?, h]) (by simp [World.cell?, h]) (by simp [World.cell?, h])
  rw [results_cell2 hres, hp, hu, hv, e]
  simp only [Result.andThen]
  rw [L]
theorem val_put' (W : World) (B : Nat) (a0 a1 a2 a3 a4 b0 b1 b2 b3 b4 : Value) (t : TypeId) (fz : Nat × Nat) (h : W.heap[B]? = some (.cells #[a0, a1, a2, a3, a4] t fz)) :
    (((((W.setCell ⟨B, 0, none⟩ b0).setCell ⟨B, 1, none⟩ b1).setCell ⟨B, 2, none⟩ b2).setCell ⟨B, 3, none⟩ b3).setCell ⟨B, 4, none⟩ b4).heap[B]? = some (.cells #[b0, b1, b2, b3, b4] t fz) := by
  simp [World.setCell, Array.getElem?_modify, h]
theorem fuw_set {w w1 : World} {g j : Nat} {u : Value} (hf : Fuw w w1) (hg : w.heap.size ≤ g) : Fuw w (w1.setCell ⟨g, j, none⟩ u) := Below.setCell hf hg u
theorem fuw_put5 {w W : World} {B : Nat} (hf : Fuw w W) (hB : w.heap.size ≤ B) (b0 b1 b2 b3 b4 : Value) : Fuw w (((((W.setCell ⟨B, 0, none⟩ b0).setCell ⟨B, 1, none⟩ b1).setCell ⟨B, 2, none⟩ b2).setCell ⟨B, 3, none⟩ b3).setCell ⟨B, 4, none⟩ b4) :=
  fuw_set (fuw_set (fuw_set (fuw_set (fuw_set hf hB) hB) hB) hB) hB
theorem bz0 (w : World) : (w.alloc (.cells #[.int .i64 0, .int .i64 0, .int .i64 0, .string ⟨#[]⟩, .slice none 0 0] 26)).heap[w.heap.size]? = some (.cells (va 0 0 none 0 0) 26 (0, 0)) ∧ Fuw w (w.alloc (.cells #[.int .i64 0, .int .i64 0, .int .i64 0, .string ⟨#[]⟩, .slice none 0 0] 26)) := by
  refine ⟨?_, (Fuw.refl w).alloc _⟩
  show (w.heap.push _)[w.heap.size]? = _
  rw [Array.getElem?_push, if_pos rfl]
  rfl
/-- What a box reads as. -/
theorem bz_cells {w : World} {B : Nat} {k n : Int} {ao : Option Addr} {len cap : Nat} (h : w.heap[B]? = some (.cells (va k n ao len cap) 26 (0, 0))) :
    w.cell? ⟨B, 0, none⟩ = some (.int .i64 k) ∧ w.cell? ⟨B, 1, none⟩ = some (.int .i64 n) ∧ w.cell? ⟨B, 2, none⟩ = some (.int .i64 0) ∧ w.cell? ⟨B, 3, none⟩ = some (.string ⟨#[]⟩) ∧ w.cell? ⟨B, 4, none⟩ = some (.slice ao len cap) ∧ (∀ j, w.frozen? ⟨B, j, none⟩ = false) ∧ B < w.heap.size := by
  unfold va at h
  refine ⟨by simp [World.cell?, h], by simp [World.cell?, h], by simp [World.cell?, h], by simp [World.cell?, h], by simp [World.cell?, h], fun j => by simp [World.frozen?, h], ?_⟩
  rcases Nat.lt_or_ge B w.heap.size with k | k
  · exact k
  · rw [Array.getElem?_eq_none k] at h; cases h
theorem bz_on {w w' : World} {B : Nat} {o : Obj} (h : w.heap[B]? = some o) (hf : Fuw w w') : w'.heap[B]? = some o := by
  have hlt : B < w.heap.size := by
    rcases Nat.lt_or_ge B w.heap.size with k | k
    · exact k
    · rw [Array.getElem?_eq_none k] at h; cases h
  rw [Below.block hf B hlt]; exact h
theorem bz_set1 {w : World} {B : Nat} {k n : Int} {ao : Option Addr} {len cap : Nat} (h : w.heap[B]? = some (.cells (va k n ao len cap) 26 (0, 0))) (m : Int) :
    (w.setCell ⟨B, 1, none⟩ (.int .i64 m)).heap[B]? = some (.cells (va k m ao len cap) 26 (0, 0)) := by
  unfold va at *
  simp [World.setCell, Array.getElem?_modify, h]
theorem bz_set4 {w : World} {B : Nat} {k n : Int} {ao : Option Addr} {len cap : Nat} (h : w.heap[B]? = some (.cells (va k n ao len cap) 26 (0, 0))) (a2 : Option Addr) (l2 c2 : Nat) :
    (w.setCell ⟨B, 4, none⟩ (.slice a2 l2 c2)).heap[B]? = some (.cells (va k n a2 l2 c2) 26 (0, 0)) := by
  unfold va at *
  simp [World.setCell, Array.getElem?_modify, h]

theorem rf_null (ao : Option Addr) (n cap : Nat) (a nest : Int) (B : Nat) (w : World) (h : w.cell? ⟨B, 0, none⟩ = some (.int .i64 0)) :
    Calls Tryd.prog 29 #[.slice ao n cap, .int .i64 a, .pointer (some ⟨B, 0, none⟩), .int .i64 nest] w fun e w' => e = .returned (.tuple #[.int .i64 a, .int .i64 0]) ∧ w = w' := by
  go_enter Tryd.func29, Tryd.ntmps29
  go_wp2
  go_ret2
  exact ⟨rfl, rfl⟩
theorem rf_int (ao : Option Addr) (l : List UInt8) (cap : Nat) (a nest : Int) (B : Nat) (w : World) (ha : -9223372036854775808 ≤ a) (hb : a ≤ 9223372036854775807) (hI : IsB w ao l cap) (n E : Int) (hv : intV l a = (n, E, 0)) (h : w.cell? ⟨B, 0, none⟩ = some (.int .i64 2)) (h1 : w.cell? ⟨B, 1, none⟩ = some (.int .i64 0)) (f1 : w.frozen? ⟨B, 1, none⟩ = false) :
    Calls Tryd.prog 29 #[.slice ao l.length cap, .int .i64 a, .pointer (some ⟨B, 0, none⟩), .int .i64 nest] w fun e w' => e = .returned (.tuple #[.int .i64 E, .int .i64 0]) ∧ w' = w.setCell ⟨B, 1, none⟩ (.int .i64 n) := by
  have HV := Lib.hid (int_is ao l cap a ha hb w hI n E 0 hv)
  clear hI hv
  go_enter Tryd.func29, Tryd.ntmps29
  go_wp2_with fail
  go_at_call 41; refine HV.out.mono ?_; rintro e1 w1 ⟨rfl, rfl⟩
  clear HV
  go_wp2
  go_ret2
  exact ⟨rfl, rfl⟩
end Go.Proofs.YtehmdeponbhhjaaDoor

/-! What the walks of the statements of package codec have in common. No statement is walked here. -/
namespace Go.Proofs.YtehmdeponbhhjaaDoor
open Go.RowKit
/-- A bool; nothing that was there has turned. -/
def RwC (w : World) (b : Bool) (e : Ending) (w' : World) : Prop := e = .returned (.bool b) ∧ Fuw w w'
/-- The worked examples hold. -/
def Alive5 : Prop := ∀ w, Good5 w → Calls Tryd.prog 4 #[] w (RwC w true)
end Go.Proofs.YtehmdeponbhhjaaDoor

/-! Package codec: valueAt where null or an integer stands. Nothing that was there turns. -/
namespace Go.Proofs.YtehmdeponbhhjaaDoor
open Go.RowKit

theorem ok_null : okX (.mk 0 0 0 [] []) = true := by decide
theorem sl_none (w : World) : SlV w none [] 0 := ⟨Nat.le_refl _, Nat.zero_le _, fun _ => rfl, fun h => absurd h (by decide)⟩
theorem vin_flat (k n : Int) (hk : I64 k) (hn : I64 n) (l : List Vl) : Vin (.mk k n 0 [] l) := ⟨hk, hn, (by show -9223372036854775808 ≤ (0 : Int) ∧ (0 : Int) ≤ 9223372036854775807; decide), Nat.zero_le _⟩
theorem bs_nil : bs [] = ⟨#[]⟩ := rfl
/-- Valid, of a value as it lies in a box. -/
theorem valid_va (k n : Int) (hk : I64 k) (hn : I64 n) (ao : Option Addr) (l : List Vl) (cap : Nat) (w : World) (hs : SlV w ao l cap) :
    Calls Tryd.prog 30 #[.agg #[.int .i64 k, .int .i64 n, .int .i64 0, .string ⟨#[]⟩, .slice ao l.length cap]] w (RwC w (okX (.mk k n 0 [] l))) :=
  (lvalid_any (.mk k n 0 [] l) ao cap w (vin_flat k n hk hn l) hs).mono fun _ _ ⟨he, hf⟩ => ⟨he, hf.w⟩
/-- What holds in every world that has the same blocks above lo. -/
def Kp (lo : Nat) (w' : World) (P : World → Prop) : Prop := ∀ w2 : World, w'.heap.size ≤ w2.heap.size → (∀ b, lo < b → b < w'.heap.size → w2.heap[b]? = w'.heap[b]?) → P w2
theorem kp_none (lo : Nat) (w' : World) : Kp lo w' (fun w2 => SlV w2 none [] 0) := fun w2 _ _ => sl_none w2
/-- A value's fields are read into the box B. -/
def RFat (ao : Option Addr) (l : List UInt8) (cap : Nat) (a nest : Int) (k n : Int) (lv : List Vl) (E : Int) (B : Nat) (U : World) : Prop :=
  Calls Tryd.prog 29 #[.slice ao l.length cap, .int .i64 a, .pointer (some ⟨B, 0, none⟩), .int .i64 nest] U fun e w' =>
    ∃ a2 c2, e = .returned (.tuple #[.int .i64 E, .int .i64 0]) ∧ w'.heap[B]? = some (.cells (va k n a2 lv.length c2) 26 (0, 0)) ∧ (∀ X, Fuw X U → X.heap.size ≤ B → Fuw X w') ∧ Kp B w' (fun w2 => SlV w2 a2 lv c2)
/-- A value is read. -/
def RetX5 (w : World) (k n : Int) (lv : List Vl) (E : Int) (e : Ending) (w' : World) : Prop :=
  ∃ a2 c2, e = .returned (.tuple #[.agg (va k n a2 lv.length c2), .int .i64 E, .int .i64 0]) ∧ Fuw w w' ∧ Kp w.heap.size w' (fun w2 => SlV w2 a2 lv c2)
theorem heap_set_other {w : World} {B b j : Nat} {v : Value} (h : b ≠ B) : (w.setCell ⟨B, j, none⟩ v).heap[b]? = w.heap[b]? := by
  simp [World.setCell, Array.getElem?_modify, Ne.symm h]
theorem vx_ret {fn : Func} {p u v : Tmp} (hres : fn.results = #[.cell p 26, .tmp u, .tmp v]) {tmps : Array Value} {k n E : Int} {ao : Option Addr} {lv : List Vl} {cap : Nat} {w W : World}
    (hp : tmps.getD p undef = .pointer (some ⟨w.heap.size, 0, none⟩)) (hu : tmps.getD u undef = .int .i64 E) (hv : tmps.getD v undef = .int .i64 0) (h : W.heap[w.heap.size]? = some (.cells (va k n ao lv.length cap) 26 (0, 0))) (hf : Fuw w W) (hk : Kp w.heap.size W (fun w2 => SlV w2 ao lv cap)) :
    bodyPost Tryd.prog fn (RetX5 w k n lv E) Exit.ret { tmps := tmps, defers := [] } W := by
  refine bodyPost_ret (v := .tuple #[.agg (va k n ao lv.length cap), .int .i64 E, .int .i64 0]) ?_ rfl ⟨ao, cap, rfl, hf, hk⟩
  have e : (asAddr (.pointer (some ⟨w.heap.size, 0, none⟩))).run Tryd.prog W = .ok ⟨w.heap.size, 0, none⟩ W := by go_simp
  unfold va at *
  have L := ld_val W w.heap.size k n ao lv.length cap (by simp [World.cell?, h]) (by simp [World.cell?, h]) (by simp [World.cell?, h]) (by simp [World.cell?, h]) (by simp [World.cell?, h])
  rw [results_cell2 hres, hp, hu, hv, e]
  simp only [Result.andThen]
  rw [L]
set_option maxHeartbeats 8000000 in
set_option maxRecDepth 100000 in
theorem vat_by (ao : Option Addr) (l : List UInt8) (cap : Nat) (a k : Nat) (nest n E : Int) (lv : List Vl) (w : World) (h : IsB w ao l cap) (ha : a < l.length) (h0 : (l.getD a 0).toNat = k) (hk8 : k ≤ 8) (hnest : ¬ ((k : Int) = 8) ∨ 0 < nest) (hn : I64 n)
    (hok : okX (.mk k n 0 [] lv) = true) (HR : ∀ B U, Fuw w U → w.heap.size ≤ B → U.heap[B]? = some (.cells (va k 0 none 0 0) 26 (0, 0)) → RFat ao l cap ((a : Int) + 1) nest k n lv E B U) :
    Calls Tryd.prog 14 #[.slice ao l.length cap, .int .i64 a, .int .i64 nest] w (RetX5 w k n lv E) := by
  have hlen := h.len.1
  have HR' := Lib.hid HR
  clear HR
  obtain ⟨b, off, rfl, hb, hc⟩ := h.at_ (by omega)
  have hck := hc a ha
  rw [h0] at hck
  clear hc
  have hai : (a : Int) < l.length := by omega
  have hane : ¬ ((a : Int) = l.length) := by omega
  have hki : (k : Int) ≤ 8 := by omega
  obtain ⟨z, f0⟩ := bz0 w
  obtain ⟨W, hW⟩ : ∃ W, (w.alloc (.cells #[.int .i64 0, .int .i64 0, .int .i64 0, .string ⟨#[]⟩, .slice none 0 0] 26)) = W := ⟨_, rfl⟩
  rw [hW] at z f0
  have hck1 := (Below.cell f0 (p := ⟨b, off + a, none⟩) hb).trans hck
  clear h h0 hck hk8
  go_enter Tryd.func14, Tryd.ntmps14
  go_upto_region 1 with fail
  clear hW
  obtain ⟨z1, f1⟩ := bz0 W
  obtain ⟨V, hV⟩ : ∃ V, (W.alloc (.cells #[.int .i64 0, .int .i64 0, .int .i64 0, .string ⟨#[]⟩, .slice none 0 0] 26)) = V := ⟨_, rfl⟩
  rw [hV] at z1 f1
  obtain ⟨v0, v1, v2, v3, v4, vf, vl⟩ := bz_cells z1
  have vf0 := vf 0; have vf1 := vf 1; have vf2 := vf 2; have vf3 := vf 3; have vf4 := vf 4
  go_upto_region 4 with fail
  have zz := (bz_cells z).2.2.2.2.2.2
  have q := val_put' V W.heap.size _ _ _ _ _ (.int .i64 k) (.int .i64 0) (.int .i64 0) (.string ⟨#[]⟩) (.slice none 0 0) _ _ z1
  have g := fuw_put5 f1 (Nat.le_refl _) (.int .i64 k) (.int .i64 0) (.int .i64 0) (.string ⟨#[]⟩) (.slice none 0 0)
  clear hV v0 v1 v2 v3 v4 vf vl vf0 vf1 vf2 vf3 vf4 z1 f1
  generalize (((((V.setCell ⟨W.heap.size, 0, none⟩ (.int .i64 k)).setCell ⟨W.heap.size, 1, none⟩ (.int .i64 0)).setCell ⟨W.heap.size, 2, none⟩ (.int .i64 0)).setCell ⟨W.heap.size, 3, none⟩ (.string ⟨#[]⟩)).setCell ⟨W.heap.size, 4, none⟩ (.slice none 0 0)) = U at *
  have u0 := (bz_cells (k := k) (n := 0) (ao := none) (len := 0) (cap := 0) q).1
  have HF := Lib.hid (HR'.out W.heap.size U (Fuw.trans f0 g) (Nat.le_of_lt zz) q)
  unfold RFat at HF
  have f2 := Fuw.trans f0 g
  have hlt : w.heap.size < U.heap.size := Nat.lt_of_lt_of_le zz g.size
  have HZ := Lib.hid z
  have HGU := Lib.hid g
  clear z g f0 hck1
  have HBB := Lib.hid (Nat.le_refl W.heap.size)
  generalize hWB : W.heap.size = B at *
  replace HBB := Lib.hid (Nat.le_of_eq hWB)
  clear hWB
  have u0' := u0
  clear q
  have hg8 : ((k : Int) == 8) = false ∨ (((k : Int) == 8) = true ∧ ¬ (nest ≤ 0)) := by
    by_cases e : (k : Int) = 8
    · exact .inr ⟨beq_iff_eq.2 e, by rcases hnest with t | t; exact absurd e t; omega⟩
    · exact .inl (beq_eq_false_iff_ne.2 e)
  clear hnest
  have HF2 := Lib.hid f2
  clear f2
  rcases hg8 with hg8 | ⟨hg8, hnn⟩
  all_goals
    go_wp2_with fail
    go_at_call 29; refine HF.out.mono ?_; rintro e1 w1 ⟨a2, c2, rfl, hb2, hk2, hKp⟩
    have f3 := hk2 w HF2.out (Nat.le_of_lt zz)
    have key1 : w1.heap[w.heap.size]? = some (.cells (va 0 0 none 0 0) 26 (0, 0)) := bz_on HZ.out (hk2 W HGU.out HBB.out)
    have hsl := hKp w1 (Nat.le_refl _) (fun _ _ _ => rfl)
    have HVL := Lib.hid (valid_va k n ⟨by omega, by omega⟩ hn a2 lv c2 w1 hsl)
    rw [hok] at HVL
    obtain ⟨y0, y1, y2, y3, y4, yf, yl⟩ := bz_cells hb2
    have HKP := Lib.hid hKp
    have HB2 := Lib.hid hb2
    clear hk2 hKp hsl HF u0 u0' hb2
    go_wp2_with fail
    go_at_call 30; refine HVL.out.mono ?_; rintro e2 w2 ⟨rfl, f4⟩
    clear HVL y0 y1 y2 y3 y4
    have key2 := bz_on key1 f4
    obtain ⟨y0, y1, y2, y3, y4, -, -⟩ := bz_cells (bz_on HB2.out f4)
    obtain ⟨x0, x1, x2, x3, x4, xf, xl⟩ := bz_cells key2
    have xf0 := xf 0; have xf1 := xf 1; have xf2 := xf 2; have xf3 := xf 3; have xf4 := xf 4
    have HKEY2 := Lib.hid key2
    have hs4 := f4.size
    clear key1 key2 xf yf
    go_wp2
    try simp only [Exit.inBlock, Exit.then]
    refine vx_ret rfl rfl rfl rfl (val_put' w2 _ _ _ _ _ _ _ _ _ _ _ _ _ HKEY2.out) (fuw_put5 (Fuw.trans f3 f4) (Nat.le_refl _) _ _ _ _ _) ?_
    intro w3 hs3 hw3
    refine HKP.out w3 ?_ (fun b h1 h2 => ?_)
    · simp at hs3; omega
    · have e := hw3 b (by omega) (by simp; omega)
      rw [e, heap_set_other (by omega), heap_set_other (by omega), heap_set_other (by omega), heap_set_other (by omega), heap_set_other (by omega)]
      exact Below.block f4 b h2
end Go.Proofs.YtehmdeponbhhjaaDoor
