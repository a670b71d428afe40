/-
  Package codec: valueAt in general: out of what readFields does with the box, what valueAt returns: the value with its offset, or the code of the first error. Nothing that was there turns.
-/
import Derived.Test.YtehmdeponbhhjaaDoorM16
namespace Go.Proofs.YtehmdeponbhhjaaDoor
open Go.RowKit

/-- What reading gives: a value and the offset behind it, or a code. -/
inductive Rs where
  | ok (x : Vl) (E : Int) : Rs
  | er (c : Int) : Rs
/-- A value's cells. -/
def vc (x : Vl) (a : Option Addr) (c : Nat) : Array Value := #[.int .i64 x.kd, .int .i64 x.nn, .int .i64 x.dd, .string (bs x.ss), .slice a x.ll.length c]
/-- The zero value. -/
def v0 : Vl := .mk 0 0 0 [] []
def vk (k : Int) : Vl := .mk k 0 0 [] []
theorem vc_cells {w : World} {B : Nat} {x : Vl} {ao : Option Addr} {cap : Nat} (h : w.heap[B]? = some (.cells (vc x ao cap) 26 (0, 0))) :
    w.cell? ⟨B, 0, none⟩ = some (.int .i64 x.kd) ∧ w.cell? ⟨B, 1, none⟩ = some (.int .i64 x.nn) ∧ w.cell? ⟨B, 2, none⟩ = some (.int .i64 x.dd) ∧ w.cell? ⟨B, 3, none⟩ = some (.string (bs x.ss)) ∧ w.cell? ⟨B, 4, none⟩ = some (.slice ao x.ll.length cap) ∧ (∀ j, w.frozen? ⟨B, j, none⟩ = false) ∧ B < w.heap.size := by
  unfold vc at h
  refine ⟨by simp [World.cell?, h], by simp [World.cell?, h], by simp [World.cell?, h], by simp [World.cell?, h], by simp [World.cell?, h], fun j => by simp [World.frozen?, h], ?_⟩
  rcases Nat.lt_or_ge B w.heap.size with k | k
  · exact k
  · rw [Array.getElem?_eq_none k] at h; cases h
theorem ld_vc (w : World) (b : Nat) (k n d : Int) (s : ByteArray) (ao : Option Addr) (len cap : Nat) (h0 : w.cell? ⟨b, 0, none⟩ = some (.int .i64 k)) (h1 : w.cell? ⟨b, 1, none⟩ = some (.int .i64 n)) (h2 : w.cell? ⟨b, 2, none⟩ = some (.int .i64 d)) (h3 : w.cell? ⟨b, 3, none⟩ = some (.string s)) (h4 : w.cell? ⟨b, 4, none⟩ = some (.slice ao len cap)) :
    (loadVar 26 ⟨b, 0, none⟩).run Tryd.prog w = .ok (.agg #[.int .i64 k, .int .i64 n, .int .i64 d, .string s, .slice ao len cap]) w := by
  go_simp
/-- The fields are read into the box B. -/
def RGat (ao : Option Addr) (l : List UInt8) (cap : Nat) (a nest : Int) (o : Rs) (B : Nat) (U : World) : Prop :=
  Calls Tryd.prog 29 #[.slice ao l.length cap, .int .i64 a, .pointer (some ⟨B, 0, none⟩), .int .i64 nest] U fun e w' =>
    (∀ X, Fuw X U → X.heap.size ≤ B → Fuw X w') ∧
    match o with
    | .ok x E => ∃ a2 c2, e = .returned (.tuple #[.int .i64 E, .int .i64 0]) ∧ w'.heap[B]? = some (.cells (vc x a2 c2) 26 (0, 0)) ∧ Kp B w' (fun w2 => SlV w2 a2 x.ll c2)
    | .er c => ∃ E, e = .returned (.tuple #[.int .i64 E, .int .i64 c]) ∧ c ≠ 0
/-- A value is read, or the zero value comes back with a code. -/
def RetG (w : World) (o : Rs) (e : Ending) (w' : World) : Prop :=
  Fuw w w' ∧ match o with
    | .ok x E => ∃ a2 c2, e = .returned (.tuple #[.agg (vc x a2 c2), .int .i64 E, .int .i64 0]) ∧ Kp w.heap.size w' (fun w2 => SlV w2 a2 x.ll c2)
    | .er c => e = .returned (.tuple #[.agg (vc v0 none 0), .int .i64 0, .int .i64 c]) ∧ c ≠ 0
/-- The value must be valid. -/
def fin : Rs → Rs
  | .ok x E => if okX x = true then .ok x E else .er 2
  | .er c => .er c
theorem vg_ret {fn : Func} {p u v : Tmp} (hres : fn.results = #[.cell p 26, .tmp u, .tmp v]) {tmps : Array Value} {x : Vl} {E C : Int} {ao : Option Addr} {cap : Nat} {W : World} {Q : Ending → World → Prop} {B : Nat}
    (hp : tmps.getD p undef = .pointer (some ⟨B, 0, none⟩)) (hu : tmps.getD u undef = .int .i64 E) (hv : tmps.getD v undef = .int .i64 C) (h : W.heap[B]? = some (.cells (vc x ao cap) 26 (0, 0))) (hq : Q (.returned (.tuple #[.agg (vc x ao cap), .int .i64 E, .int .i64 C])) W) :
    bodyPost Tryd.prog fn Q Exit.ret { tmps := tmps, defers := [] } W := by
  refine bodyPost_ret (v := .tuple #[.agg (vc x ao cap), .int .i64 E, .int .i64 C]) ?_ rfl hq
  have e : (asAddr (.pointer (some ⟨B, 0, none⟩))).run Tryd.prog W = .ok ⟨B, 0, none⟩ W := by go_simp
  obtain ⟨c0, c1, c2, c3, c4, -, -⟩ := vc_cells h
  have L := ld_vc W B _ _ _ _ _ _ _ c0 c1 c2 c3 c4
  rw [results_cell2 hres, hp, hu, hv, e]
  simp only [Result.andThen]
  rw [L]
  rfl
theorem valid_vc (x : Vl) (hi : Vin x) (ao : Option Addr) (cap : Nat) (w : World) (hs : SlV w ao x.ll cap) :
    Calls Tryd.prog 30 #[.agg #[.int .i64 x.kd, .int .i64 x.nn, .int .i64 x.dd, .string (bs x.ss), .slice ao x.ll.length cap]] w (RwC w (okX x)) :=
  (lvalid_any x ao cap w hi hs).mono fun _ _ ⟨he, hf⟩ => ⟨he, hf.w⟩
set_option maxHeartbeats 8000000 in
set_option maxRecDepth 100000 in
theorem vat_ok (ao : Option Addr) (l : List UInt8) (cap : Nat) (a k : Nat) (nest : Int) (w : World) (h : IsB w ao l cap) (ha : a < l.length) (h0 : (l.getD a 0).toNat = k) (hk8 : k ≤ 8) (hnest : ¬ ((k : Int) = 8) ∨ 0 < nest) (x : Vl) (E : Int) (hx : Vin x) (hok : okX x = true) (HR : ∀ B U, Fuw w U → w.heap.size ≤ B → U.heap[B]? = some (.cells (vc (vk k) none 0) 26 (0, 0)) → RGat ao l cap ((a : Int) + 1) nest (.ok x E) B U) :
    Calls Tryd.prog 14 #[.slice ao l.length cap, .int .i64 a, .int .i64 nest] w (RetG w (.ok x E)) := by
  have hlen := h.len.1
  have HR' := Lib.hid HR
  clear HR
  obtain ⟨b, off, rfl, hb, hc⟩ := h.at_ (by omega)
  have hck := hc a ha
  rw [h0] at hck
  clear hc
  have hai : (a : Int) < l.length := by omega
  have hane : ¬ ((a : Int) = l.length) := by omega
  have hki : (k : Int) ≤ 8 := by omega
  obtain ⟨z, f0⟩ := bz0 w
  obtain ⟨W, hW⟩ : ∃ W, (w.alloc (.cells #[.int .i64 0, .int .i64 0, .int .i64 0, .string ⟨#[]⟩, .slice none 0 0] 26)) = W := ⟨_, rfl⟩
  rw [hW] at z f0
  have hck1 := (Below.cell f0 (p := ⟨b, off + a, none⟩) hb).trans hck
  clear h h0 hck hk8
  go_enter Tryd.func14, Tryd.ntmps14
  go_upto_region 1 with fail
  clear hW
  obtain ⟨z1, f1⟩ := bz0 W
  obtain ⟨V, hV⟩ : ∃ V, (W.alloc (.cells #[.int .i64 0, .int .i64 0, .int .i64 0, .string ⟨#[]⟩, .slice none 0 0] 26)) = V := ⟨_, rfl⟩
  rw [hV] at z1 f1
  obtain ⟨v0, v1, v2, v3, v4, vf, vl⟩ := bz_cells z1
  have vf0 := vf 0; have vf1 := vf 1; have vf2 := vf 2; have vf3 := vf 3; have vf4 := vf 4
  go_upto_region 4 with fail
  have zz := (bz_cells z).2.2.2.2.2.2
  have q := val_put' V W.heap.size _ _ _ _ _ (.int .i64 k) (.int .i64 0) (.int .i64 0) (.string ⟨#[]⟩) (.slice none 0 0) _ _ z1
  have g := fuw_put5 f1 (Nat.le_refl _) (.int .i64 k) (.int .i64 0) (.int .i64 0) (.string ⟨#[]⟩) (.slice none 0 0)
  clear hV v0 v1 v2 v3 v4 vf vl vf0 vf1 vf2 vf3 vf4 z1 f1
  generalize (((((V.setCell ⟨W.heap.size, 0, none⟩ (.int .i64 k)).setCell ⟨W.heap.size, 1, none⟩ (.int .i64 0)).setCell ⟨W.heap.size, 2, none⟩ (.int .i64 0)).setCell ⟨W.heap.size, 3, none⟩ (.string ⟨#[]⟩)).setCell ⟨W.heap.size, 4, none⟩ (.slice none 0 0)) = U at *
  have u0 := (bz_cells (k := k) (n := 0) (ao := none) (len := 0) (cap := 0) q).1
  have HF : Hid (RGat _ _ _ _ _ _ _ _) := Lib.hid (HR'.out W.heap.size U (Fuw.trans f0 g) (Nat.le_of_lt zz) q)
  unfold RGat at HF
  have f2 := Fuw.trans f0 g
  have hlt : w.heap.size < U.heap.size := Nat.lt_of_lt_of_le zz g.size
  have HZ := Lib.hid z
  have HGU := Lib.hid g
  clear z g f0 hck1
  have HBB := Lib.hid (Nat.le_refl W.heap.size)
  generalize hWB : W.heap.size = B at *
  replace HBB := Lib.hid (Nat.le_of_eq hWB)
  clear hWB
  have u0' := u0
  clear q
  have hg8 : ((k : Int) == 8) = false ∨ (((k : Int) == 8) = true ∧ ¬ (nest ≤ 0)) := by
    by_cases e : (k : Int) = 8
    · exact .inr ⟨beq_iff_eq.2 e, by rcases hnest with t | t; exact absurd e t; omega⟩
    · exact .inl (beq_eq_false_iff_ne.2 e)
  clear hnest
  have HF2 := Lib.hid f2
  clear f2
  rcases hg8 with hg8 | ⟨hg8, hnn⟩
  all_goals
    go_wp2_with fail
    go_at_call 29; refine HF.out.mono ?_; rintro e1 w1 ⟨hk2, a2, c2, rfl, hb2, hKp⟩
    have f3 := hk2 w HF2.out (Nat.le_of_lt zz)
    have key1 : w1.heap[w.heap.size]? = some (.cells (va 0 0 none 0 0) 26 (0, 0)) := bz_on HZ.out (hk2 W HGU.out HBB.out)
    have hsl := hKp w1 (Nat.le_refl _) (fun _ _ _ => rfl)
    have HVL := Lib.hid (valid_vc x hx a2 c2 w1 hsl)
    rw [hok] at HVL
    obtain ⟨y0, y1, y2, y3, y4, yf, yl⟩ := vc_cells hb2
    have HKP := Lib.hid hKp
    have HB2 := Lib.hid hb2
    clear hk2 hKp hsl HF u0 u0' hb2
    go_wp2_with fail
    go_at_call 30; refine HVL.out.mono ?_; rintro e2 w2 ⟨rfl, f4⟩
    clear HVL y0 y1 y2 y3 y4
    have key2 := bz_on key1 f4
    obtain ⟨y0, y1, y2, y3, y4, -, -⟩ := vc_cells (bz_on HB2.out f4)
    obtain ⟨x0, x1, x2, x3, x4, xf, xl⟩ := bz_cells key2
    have xf0 := xf 0; have xf1 := xf 1; have xf2 := xf 2; have xf3 := xf 3; have xf4 := xf 4
    have HKEY2 := Lib.hid key2
    have hs4 := f4.size
    clear key1 key2 xf yf
    go_wp2
    try simp only [Exit.inBlock, Exit.then]
    refine vg_ret (x := x) rfl rfl rfl rfl (val_put' w2 _ _ _ _ _ _ _ _ _ _ _ _ _ HKEY2.out) ⟨fuw_put5 (Fuw.trans f3 f4) (Nat.le_refl _) _ _ _ _ _, a2, c2, rfl, ?_⟩
    intro w3 hs3 hw3
    refine HKP.out w3 ?_ (fun b h1 h2 => ?_)
    · simp at hs3; omega
    · have e := hw3 b (by omega) (by simp; omega)
      rw [e, heap_set_other (by omega), heap_set_other (by omega), heap_set_other (by omega), heap_set_other (by omega), heap_set_other (by omega)]
      exact Below.block f4 b h2
set_option maxHeartbeats 8000000 in
set_option maxRecDepth 100000 in
theorem vat_inv (ao : Option Addr) (l : List UInt8) (cap : Nat) (a k : Nat) (nest : Int) (w : World) (h : IsB w ao l cap) (ha : a < l.length) (h0 : (l.getD a 0).toNat = k) (hk8 : k ≤ 8) (hnest : ¬ ((k : Int) = 8) ∨ 0 < nest) (x : Vl) (E : Int) (hx : Vin x) (hok : okX x = false) (HR : ∀ B U, Fuw w U → w.heap.size ≤ B → U.heap[B]? = some (.cells (vc (vk k) none 0) 26 (0, 0)) → RGat ao l cap ((a : Int) + 1) nest (.ok x E) B U) :
    Calls Tryd.prog 14 #[.slice ao l.length cap, .int .i64 a, .int .i64 nest] w (RetG w (.er 2)) := by
  have hlen := h.len.1
  have HR' := Lib.hid HR
  clear HR
  obtain ⟨b, off, rfl, hb, hc⟩ := h.at_ (by omega)
  have hck := hc a ha
  rw [h0] at hck
  clear hc
  have hai : (a : Int) < l.length := by omega
  have hane : ¬ ((a : Int) = l.length) := by omega
  have hki : (k : Int) ≤ 8 := by omega
  obtain ⟨z, f0⟩ := bz0 w
  obtain ⟨W, hW⟩ : ∃ W, (w.alloc (.cells #[.int .i64 0, .int .i64 0, .int .i64 0, .string ⟨#[]⟩, .slice none 0 0] 26)) = W := ⟨_, rfl⟩
  rw [hW] at z f0
  have hck1 := (Below.cell f0 (p := ⟨b, off + a, none⟩) hb).trans hck
  clear h h0 hck hk8
  go_enter Tryd.func14, Tryd.ntmps14
  go_upto_region 1 with fail
  clear hW
  obtain ⟨z1, f1⟩ := bz0 W
  obtain ⟨V, hV⟩ : ∃ V, (W.alloc (.cells #[.int .i64 0, .int .i64 0, .int .i64 0, .string ⟨#[]⟩, .slice none 0 0] 26)) = V := ⟨_, rfl⟩
  rw [hV] at z1 f1
  obtain ⟨v0, v1, v2, v3, v4, vf, vl⟩ := bz_cells z1
  have vf0 := vf 0; have vf1 := vf 1; have vf2 := vf 2; have vf3 := vf 3; have vf4 := vf 4
  go_upto_region 4 with fail
  have zz := (bz_cells z).2.2.2.2.2.2
  have q := val_put' V W.heap.size _ _ _ _ _ (.int .i64 k) (.int .i64 0) (.int .i64 0) (.string ⟨#[]⟩) (.slice none 0 0) _ _ z1
  have g := fuw_put5 f1 (Nat.le_refl _) (.int .i64 k) (.int .i64 0) (.int .i64 0) (.string ⟨#[]⟩) (.slice none 0 0)
  clear hV v0 v1 v2 v3 v4 vf vl vf0 vf1 vf2 vf3 vf4 z1 f1
  generalize (((((V.setCell ⟨W.heap.size, 0, none⟩ (.int .i64 k)).setCell ⟨W.heap.size, 1, none⟩ (.int .i64 0)).setCell ⟨W.heap.size, 2, none⟩ (.int .i64 0)).setCell ⟨W.heap.size, 3, none⟩ (.string ⟨#[]⟩)).setCell ⟨W.heap.size, 4, none⟩ (.slice none 0 0)) = U at *
  have u0 := (bz_cells (k := k) (n := 0) (ao := none) (len := 0) (cap := 0) q).1
  have HF : Hid (RGat _ _ _ _ _ _ _ _) := Lib.hid (HR'.out W.heap.size U (Fuw.trans f0 g) (Nat.le_of_lt zz) q)
  unfold RGat at HF
  have f2 := Fuw.trans f0 g
  have hlt : w.heap.size < U.heap.size := Nat.lt_of_lt_of_le zz g.size
  have HZ := Lib.hid z
  have HGU := Lib.hid g
  clear z g f0 hck1
  have HBB := Lib.hid (Nat.le_refl W.heap.size)
  generalize hWB : W.heap.size = B at *
  replace HBB := Lib.hid (Nat.le_of_eq hWB)
  clear hWB
  have u0' := u0
  clear q
  have hg8 : ((k : Int) == 8) = false ∨ (((k : Int) == 8) = true ∧ ¬ (nest ≤ 0)) := by
    by_cases e : (k : Int) = 8
    · exact .inr ⟨beq_iff_eq.2 e, by rcases hnest with t | t; exact absurd e t; omega⟩
    · exact .inl (beq_eq_false_iff_ne.2 e)
  clear hnest
  have HF2 := Lib.hid f2
  clear f2
  rcases hg8 with hg8 | ⟨hg8, hnn⟩
  all_goals
    go_wp2_with fail
    go_at_call 29; refine HF.out.mono ?_; rintro e1 w1 ⟨hk2, a2, c2, rfl, hb2, hKp⟩
    have f3 := hk2 w HF2.out (Nat.le_of_lt zz)
    have key1 : w1.heap[w.heap.size]? = some (.cells (va 0 0 none 0 0) 26 (0, 0)) := bz_on HZ.out (hk2 W HGU.out HBB.out)
    have hsl := hKp w1 (Nat.le_refl _) (fun _ _ _ => rfl)
    have HVL := Lib.hid (valid_vc x hx a2 c2 w1 hsl)
    rw [hok] at HVL
    obtain ⟨y0, y1, y2, y3, y4, yf, yl⟩ := vc_cells hb2
    clear hk2 hKp hsl HF u0 u0' hb2
    go_wp2_with fail
    go_at_call 30; refine HVL.out.mono ?_; rintro e2 w2 ⟨rfl, f4⟩
    clear HVL y0 y1 y2 y3 y4 yf
    have key2 := bz_on key1 f4
    clear key1
    obtain ⟨x0, x1, x2, x3, x4, xf, xl⟩ := bz_cells key2
    have xf0 := xf 0; have xf1 := xf 1; have xf2 := xf 2; have xf3 := xf 3; have xf4 := xf 4
    have HKEY2 := Lib.hid key2
    clear key2 xf
    go_wp2
    try simp only [Exit.inBlock, Exit.then]
    exact vg_ret (x := v0) rfl rfl rfl rfl (val_put' w2 _ _ _ _ _ _ _ _ _ _ _ _ _ HKEY2.out) ⟨fuw_put5 (Fuw.trans f3 f4) (Nat.le_refl _) _ _ _ _ _, rfl, by decide⟩
set_option maxHeartbeats 8000000 in
set_option maxRecDepth 100000 in
theorem vat_err (ao : Option Addr) (l : List UInt8) (cap : Nat) (a k : Nat) (nest : Int) (w : World) (h : IsB w ao l cap) (ha : a < l.length) (h0 : (l.getD a 0).toNat = k) (hk8 : k ≤ 8) (hnest : ¬ ((k : Int) = 8) ∨ 0 < nest) (c : Int) (HR : ∀ B U, Fuw w U → w.heap.size ≤ B → U.heap[B]? = some (.cells (vc (vk k) none 0) 26 (0, 0)) → RGat ao l cap ((a : Int) + 1) nest (.er c) B U) :
    Calls Tryd.prog 14 #[.slice ao l.length cap, .int .i64 a, .int .i64 nest] w (RetG w (.er c)) := by
  have hlen := h.len.1
  have HR' := Lib.hid HR
  clear HR
  obtain ⟨b, off, rfl, hb, hc⟩ := h.at_ (by omega)
  have hck := hc a ha
  rw [h0] at hck
  clear hc
  have hai : (a : Int) < l.length := by omega
  have hane : ¬ ((a : Int) = l.length) := by omega
  have hki : (k : Int) ≤ 8 := by omega
  obtain ⟨z, f0⟩ := bz0 w
  obtain ⟨W, hW⟩ : ∃ W, (w.alloc (.cells #[.int .i64 0, .int .i64 0, .int .i64 0, .string ⟨#[]⟩, .slice none 0 0] 26)) = W := ⟨_, rfl⟩
  rw [hW] at z f0
  have hck1 := (Below.cell f0 (p := ⟨b, off + a, none⟩) hb).trans hck
  clear h h0 hck hk8
  go_enter Tryd.func14, Tryd.ntmps14
  go_upto_region 1 with fail
  clear hW
  obtain ⟨z1, f1⟩ := bz0 W
  obtain ⟨V, hV⟩ : ∃ V, (W.alloc (.cells #[.int .i64 0, .int .i64 0, .int .i64 0, .string ⟨#[]⟩, .slice none 0 0] 26)) = V := ⟨_, rfl⟩
  rw [hV] at z1 f1
  obtain ⟨v0, v1, v2, v3, v4, vf, vl⟩ := bz_cells z1
  have vf0 := vf 0; have vf1 := vf 1; have vf2 := vf 2; have vf3 := vf 3; have vf4 := vf 4
  go_upto_region 4 with fail
  have zz := (bz_cells z).2.2.2.2.2.2
  have q := val_put' V W.heap.size _ _ _ _ _ (.int .i64 k) (.int .i64 0) (.int .i64 0) (.string ⟨#[]⟩) (.slice none 0 0) _ _ z1
  have g := fuw_put5 f1 (Nat.le_refl _) (.int .i64 k) (.int .i64 0) (.int .i64 0) (.string ⟨#[]⟩) (.slice none 0 0)
  clear hV v0 v1 v2 v3 v4 vf vl vf0 vf1 vf2 vf3 vf4 z1 f1
  generalize (((((V.setCell ⟨W.heap.size, 0, none⟩ (.int .i64 k)).setCell ⟨W.heap.size, 1, none⟩ (.int .i64 0)).setCell ⟨W.heap.size, 2, none⟩ (.int .i64 0)).setCell ⟨W.heap.size, 3, none⟩ (.string ⟨#[]⟩)).setCell ⟨W.heap.size, 4, none⟩ (.slice none 0 0)) = U at *
  have u0 := (bz_cells (k := k) (n := 0) (ao := none) (len := 0) (cap := 0) q).1
  have HF : Hid (RGat _ _ _ _ _ _ _ _) := Lib.hid (HR'.out W.heap.size U (Fuw.trans f0 g) (Nat.le_of_lt zz) q)
  unfold RGat at HF
  have f2 := Fuw.trans f0 g
  have hlt : w.heap.size < U.heap.size := Nat.lt_of_lt_of_le zz g.size
  have HZ := Lib.hid z
  have HGU := Lib.hid g
  clear z g f0 hck1
  have HBB := Lib.hid (Nat.le_refl W.heap.size)
  generalize hWB : W.heap.size = B at *
  replace HBB := Lib.hid (Nat.le_of_eq hWB)
  clear hWB
  have u0' := u0
  clear q
  have hg8 : ((k : Int) == 8) = false ∨ (((k : Int) == 8) = true ∧ ¬ (nest ≤ 0)) := by
    by_cases e : (k : Int) = 8
    · exact .inr ⟨beq_iff_eq.2 e, by rcases hnest with t | t; exact absurd e t; omega⟩
    · exact .inl (beq_eq_false_iff_ne.2 e)
  clear hnest
  have HF2 := Lib.hid f2
  clear f2
  rcases hg8 with hg8 | ⟨hg8, hnn⟩
  all_goals
    go_wp2_with fail
    go_at_call 29; refine HF.out.mono ?_; rintro e1 w1 ⟨hk2, E, rfl, hc0⟩
    have f3 := hk2 w HF2.out (Nat.le_of_lt zz)
    have key2 : w1.heap[w.heap.size]? = some (.cells (va 0 0 none 0 0) 26 (0, 0)) := bz_on HZ.out (hk2 W HGU.out HBB.out)
    have hcb : (c == 0) = false := beq_eq_false_iff_ne.2 hc0
    have hcb2 : (c != 0) = true := bne_iff_ne.2 hc0
    clear hk2 HF u0 u0'
    obtain ⟨x0, x1, x2, x3, x4, xf, xl⟩ := bz_cells key2
    have xf0 := xf 0; have xf1 := xf 1; have xf2 := xf 2; have xf3 := xf 3; have xf4 := xf 4
    have HKEY2 := Lib.hid key2
    clear key2 xf
    go_wp2
    try simp only [Exit.inBlock, Exit.then]
    exact vg_ret (x := v0) rfl rfl rfl rfl (val_put' w1 _ _ _ _ _ _ _ _ _ _ _ _ _ HKEY2.out) ⟨fuw_put5 f3 (Nat.le_refl _) _ _ _ _ _, rfl, hc0⟩
end Go.Proofs.YtehmdeponbhhjaaDoor
