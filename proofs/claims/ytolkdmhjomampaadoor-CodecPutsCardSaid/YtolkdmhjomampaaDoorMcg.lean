/-
  CgU; CgR; CgS; CgT; CgV: texts of one kind in one file; each part says what it holds.
-/
import Derived.Test.YtolkdmhjomampaaDoorCdU
import Derived.Test.YtolkdmhjomampaaDoorCdT

/-! Package codec: valueAt in general: out of what readFields does with the box, what valueAt returns: the value with its offset, or the code of the first error. Nothing that was there turns. -/
namespace Go.Proofs.YtolkdmhjomampaaDoor
open Go.RowKit

/-- What reading gives: a value and the offset behind it, or a code. -/
inductive Rs where
  | ok (x : Vl) (E : Int) : Rs
  | er (c : Int) : Rs
/-- A value's cells. -/
def vc (x : Vl) (a : Option Addr) (c : Nat) : Array Value := #[.int .i64 x.kd, .int .i64 x.nn, .int .i64 x.dd, .string (bs x.ss), .slice a x.ll.length c]
/-- The zero value. -/
def v0 : Vl := .mk 0 0 0 [] []
def vk (k : Int) : Vl := .mk k 0 0 [] []
theorem vc_cells {w : World} {B : Nat} {x : Vl} {ao : Option Addr} {cap : Nat} (h : w.heap[B]? = some (.cells (vc x ao cap) 24 (0, 0))) :
    w.cell? ⟨B, 0, none⟩ = some (.int .i64 x.kd) ∧ w.cell? ⟨B, 1, none⟩ = some (.int .i64 x.nn) ∧ w.cell? ⟨B, 2, none⟩ = some (.int .i64 x.dd) ∧ w.cell? ⟨B, 3, none⟩ = some (.string (bs x.ss)) ∧ w.cell? ⟨B, 4, none⟩ = some (.slice ao x.ll.length cap) ∧ (∀ j, w.frozen? ⟨B, j, none⟩ = false) ∧ B < w.heap.size := by
  unfold vc at h
  refine ⟨by simp [World.cell?, h], by simp [World.cell?, h], by simp [World.cell?, h], by simp [World.cell?, h], by simp [World.cell?, h], fun j => by simp [World.frozen?, h], ?_⟩
  rcases Nat.lt_or_ge B w.heap.size with k | k
  · exact k
  · rw [Array.getElem?_eq_none k] at h; cases h
theorem ld_vc (w : World) (b : Nat) (k n d : Int) (s : ByteArray) (ao : Option Addr) (len cap : Nat) (h0 : w.cell? ⟨b, 0, none⟩ = some (.int .i64 k)) (h1 : w.cell? ⟨b, 1, none⟩ = some (.int .i64 n)) (h2 : w.cell? ⟨b, 2, none⟩ = some (.int .i64 d)) (h3 : w.cell? ⟨b, 3, none⟩ = some (.string s)) (h4 : w.cell? ⟨b, 4, none⟩ = some (.slice ao len cap)) :
    (loadVar 24 ⟨b, 0, none⟩).run Tryd.prog w = .ok (.agg #[.int .i64 k, .int .i64 n, .int .i64 d, .string s, .slice ao len cap]) w := by
  go_simp
/-- The fields are read into the box B. -/
def RGat (ao : Option Addr) (l : List UInt8) (cap : Nat) (a nest : Int) (o : Rs) (B : Nat) (U : World) : Prop :=
  Calls Tryd.prog 55 #[.slice ao l.length cap, .int .i64 a, .pointer (some ⟨B, 0, none⟩), .int .i64 nest] U fun e w' =>
    (∀ X, Fuw X U → X.heap.size ≤ B → Fuw X w') ∧
    match o with
    | .ok x E => ∃ a2 c2, e = .returned (.tuple #[.int .i64 E, .int .i64 0]) ∧ w'.heap[B]? = some (.cells (vc x a2 c2) 24 (0, 0)) ∧ Kp B w' (fun w2 => SlV w2 a2 x.ll c2)
    | .er c => ∃ E, e = .returned (.tuple #[.int .i64 E, .int .i64 c]) ∧ c ≠ 0
/-- A value is read, or the zero value comes back with a code. -/
def RetG (w : World) (o : Rs) (e : Ending) (w' : World) : Prop :=
  Fuw w w' ∧ match o with
    | .ok x E => ∃ a2 c2, e = .returned (.tuple #[.agg (vc x a2 c2), .int .i64 E, .int .i64 0]) ∧ Kp w.heap.size w' (fun w2 => SlV w2 a2 x.ll c2)
    | .er c => e = .returned (.tuple #[.agg (vc v0 none 0), .int .i64 0, .int .i64 c]) ∧ c ≠ 0
/-- The value must be valid. -/
def fin : Rs → Rs
  | .ok x E => if okX x = true then .ok x E else .er 2
  | .er c => .er c
theorem vg_ret {fn : Func} {p u v : Tmp} (hres : fn.results = #[.cell p 24, .tmp u, .tmp v]) {tmps : Array Value} {x : Vl} {E C : Int} {ao : Option Addr} {cap : Nat} {W : World} {Q : Ending → World → Prop} {B : Nat}
    (hp : tmps.getD p undef = .pointer (some ⟨B, 0, none⟩)) (hu : tmps.getD u undef = .int .i64 E) (hv : tmps.getD v undef = .int .i64 C) (h : W.heap[B]? = some (.cells (vc x ao cap) 24 (0, 0))) (hq : Q (.returned (.tuple #[.agg (vc x ao cap), .int .i64 E, .int .i64 C])) W) :
    bodyPost Tryd.prog fn Q Exit.ret { tmps := tmps, defers := [] } W := by
  refine bodyPost_ret (v := .tuple #[.agg (vc x ao cap), .int .i64 E, .int .i64 C]) ?_ rfl hq
  have e : (asAddr (.pointer (some ⟨B, 0, none⟩))).run Tryd.prog W = .ok ⟨B, 0, none⟩ W := by go_simp
  obtain ⟨c0, c1, c2, c3, c4, -, -⟩ := vc_cells h
  have L := ld_vc W B _ _ _ _ _ _ _ c0 c1 c2 c3 c4
  rw [results_cell2 hres, hp, hu, hv, e]
  simp only [Result.andThen]
  rw [L]
  rfl
theorem valid_vc (x : Vl) (hi : Vin x) (ao : Option Addr) (cap : Nat) (w : World) (hs : SlV w ao x.ll cap) :
    Calls Tryd.prog 38 #[.agg #[.int .i64 x.kd, .int .i64 x.nn, .int .i64 x.dd, .string (bs x.ss), .slice ao x.ll.length cap]] w (RwC w (okX x)) :=
  (lvalid_any x ao cap w hi hs).mono fun _ _ ⟨he, hf⟩ => ⟨he, hf.w⟩
set_option maxHeartbeats 8000000 in
set_option maxRecDepth 100000 in
theorem vat_ok (ao : Option Addr) (l : List UInt8) (cap : Nat) (a k : Nat) (nest : Int) (w : World) (h : IsB w ao l cap) (ha : a < l.length) (h0 : (l.getD a 0).toNat = k) (hk8 : k ≤ 8) (hnest : ¬ ((k : Int) = 8) ∨ 0 < nest) (x : Vl) (E : Int) (hx : Vin x) (hok : okX x = true) (HR : ∀ B U, Fuw w U → w.heap.size ≤ B → U.heap[B]? = some (.cells (vc (vk k) none 0) 24 (0, 0)) → RGat ao l cap ((a : Int) + 1) nest (.ok x E) B U) :
    Calls Tryd.prog 40 #[.slice ao l.length cap, .int .i64 a, .int .i64 nest] w (RetG w (.ok x E)) := by
  have hlen := h.len.1
  have HR' := Lib.hid HR
  clear HR
  obtain ⟨b, off, rfl, hb, hc⟩ := h.at_ (by omega)
  have hck := hc a ha
  rw [h0] at hck
  clear hc
  have hai : (a : Int) < l.length := by omega
  have hane : ¬ ((a : Int) = l.length) := by omega
  have hki : (k : Int) ≤ 8 := by omega
  obtain ⟨z, f0⟩ := bz0 w
  obtain ⟨W, hW⟩ : ∃ W, (w.alloc (.cells #[.int .i64 0, .int .i64 0, .int .i64 0, .string ⟨#[]⟩, .slice none 0 0] 24)) = W := ⟨_, rfl⟩
  rw [hW] at z f0
  have hck1 := (Below.cell f0 (p := ⟨b, off + a, none⟩) hb).trans hck
  clear h h0 hck hk8
  go_enter Tryd.func40, Tryd.ntmps40
  go_upto_region 1 with fail
  clear hW
  obtain ⟨z1, f1⟩ := bz0 W
  obtain ⟨V, hV⟩ : ∃ V, (W.alloc (.cells #[.int .i64 0, .int .i64 0, .int .i64 0, .string ⟨#[]⟩, .slice none 0 0] 24)) = V := ⟨_, rfl⟩
  rw [hV] at z1 f1
  obtain ⟨v0, v1, v2, v3, v4, vf, vl⟩ := bz_cells z1
  have vf0 := vf 0; have vf1 := vf 1; have vf2 := vf 2; have vf3 := vf 3; have vf4 := vf 4
  go_upto_region 4 with fail
  have zz := (bz_cells z).2.2.2.2.2.2
  have q := val_put' V W.heap.size _ _ _ _ _ (.int .i64 k) (.int .i64 0) (.int .i64 0) (.string ⟨#[]⟩) (.slice none 0 0) _ _ z1
  have g := fuw_put5 f1 (Nat.le_refl _) (.int .i64 k) (.int .i64 0) (.int .i64 0) (.string ⟨#[]⟩) (.slice none 0 0)
  clear hV v0 v1 v2 v3 v4 vf vl vf0 vf1 vf2 vf3 vf4 z1 f1
  generalize (((((V.setCell ⟨W.heap.size, 0, none⟩ (.int .i64 k)).setCell ⟨W.heap.size, 1, none⟩ (.int .i64 0)).setCell ⟨W.heap.size, 2, none⟩ (.int .i64 0)).setCell ⟨W.heap.size, 3, none⟩ (.string ⟨#[]⟩)).setCell ⟨W.heap.size, 4, none⟩ (.slice none 0 0)) = U at *
  have u0 := (bz_cells (k := k) (n := 0) (ao := none) (len := 0) (cap := 0) q).1
  have HF : Hid (RGat _ _ _ _ _ _ _ _) := Lib.hid (HR'.out W.heap.size U (Fuw.trans f0 g) (Nat.le_of_lt zz) q)
  unfold RGat at HF
  have f2 := Fuw.trans f0 g
  have hlt : w.heap.size < U.heap.size := Nat.lt_of_lt_of_le zz g.size
  have HZ := Lib.hid z
  have HGU := Lib.hid g
  clear z g f0 hck1
  have HBB := Lib.hid (Nat.le_refl W.heap.size)
  generalize hWB : W.heap.size = B at *
  replace HBB := Lib.hid (Nat.le_of_eq hWB)
  clear hWB
  have u0' := u0
  clear q
  have hg8 : ((k : Int) == 8) = false ∨ (((k : Int) == 8) = true ∧ ¬ (nest ≤ 0)) := by
    by_cases e : (k : Int) = 8
    · exact .inr ⟨beq_iff_eq.2 e, by rcases hnest with t | t; exact absurd e t; omega⟩
    · exact .inl (beq_eq_false_iff_ne.2 e)
  clear hnest
  have HF2 := Lib.hid f2
  clear f2
  rcases hg8 with hg8 | ⟨hg8, hnn⟩
  all_goals
    go_wp2_with fail
    go_at_call 55; refine HF.out.mono ?_; rintro e1 w1 ⟨hk2, a2, c2, rfl, hb2, hKp⟩
    have f3 := hk2 w HF2.out (Nat.le_of_lt zz)
    have key1 : w1.heap[w.heap.size]? = some (.cells (va 0 0 none 0 0) 24 (0, 0)) := bz_on HZ.out (hk2 W HGU.out HBB.out)
    have hsl := hKp w1 (Nat.le_refl _) (fun _ _ _ => rfl)
    have HVL := Lib.hid (valid_vc x hx a2 c2 w1 hsl)
    rw [hok] at HVL
    obtain ⟨y0, y1, y2, y3, y4, yf, yl⟩ := vc_cells hb2
    have HKP := Lib.hid hKp
    have HB2 := Lib.hid hb2
    clear hk2 hKp hsl HF u0 u0' hb2
    go_wp2_with fail
    go_at_call 38; refine HVL.out.mono ?_; rintro e2 w2 ⟨rfl, f4⟩
    clear HVL y0 y1 y2 y3 y4
    have key2 := bz_on key1 f4
    obtain ⟨y0, y1, y2, y3, y4, -, -⟩ := vc_cells (bz_on HB2.out f4)
    obtain ⟨x0, x1, x2, x3, x4, xf, xl⟩ := bz_cells key2
    have xf0 := xf 0; have xf1 := xf 1; have xf2 := xf 2; have xf3 := xf 3; have xf4 := xf 4
    have HKEY2 := Lib.hid key2
    have hs4 := f4.size
    clear key1 key2 xf yf
    go_wp2
    try simp only [Exit.inBlock, Exit.then]
    refine vg_ret (x := x) rfl rfl rfl rfl (val_put' w2 _ _ _ _ _ _ _ _ _ _ _ _ _ HKEY2.out) ⟨fuw_put5 (Fuw.trans f3 f4) (Nat.le_refl _) _ _ _ _ _, a2, c2, rfl, ?_⟩
    intro w3 hs3 hw3
    refine HKP.out w3 ?_ (fun b h1 h2 => ?_)
    · simp at hs3; omega
    · have e := hw3 b (by omega) (by simp; omega)
      rw [e, heap_set_other (by omega), heap_set_other (by omega), heap_set_other (by omega), heap_set_other (by omega), heap_set_other (by omega)]
      exact Below.block f4 b h2
set_option maxHeartbeats 8000000 in
set_option maxRecDepth 100000 in
theorem vat_inv (ao : Option Addr) (l : List UInt8) (cap : Nat) (a k : Nat) (nest : Int) (w : World) (h : IsB w ao l cap) (ha : a < l.length) (h0 : (l.getD a 0).toNat = k) (hk8 : k ≤ 8) (hnest : ¬ ((k : Int) = 8) ∨ 0 < nest) (x : Vl) (E : Int) (hx : Vin x) (hok : okX x = false) (HR : ∀ B U, Fuw w U → w.heap.size ≤ B → U.heap[B]? = some (.cells (vc (vk k) none 0) 24 (0, 0)) → RGat ao l cap ((a : Int) + 1) nest (.ok x E) B U) :
    Calls Tryd.prog 40 #[.slice ao l.length cap, .int .i64 a, .int .i64 nest] w (RetG w (.er 2)) := by
  have hlen := h.len.1
  have HR' := Lib.hid HR
  clear HR
  obtain ⟨b, off, rfl, hb, hc⟩ := h.at_ (by omega)
  have hck := hc a ha
  rw [h0] at hck
  clear hc
  have hai : (a : Int) < l.length := by omega
  have hane : ¬ ((a : Int) = l.length) := by omega
  have hki : (k : Int) ≤ 8 := by omega
  obtain ⟨z, f0⟩ := bz0 w
  obtain ⟨W, hW⟩ : ∃ W, (w.alloc (.cells #[.int .i64 0, .int .i64 0, .int .i64 0, .string ⟨#[]⟩, .slice none 0 0] 24)) = W := ⟨_, rfl⟩
  rw [hW] at z f0
  have hck1 := (Below.cell f0 (p := ⟨b, off + a, none⟩) hb).trans hck
  clear h h0 hck hk8
  go_enter Tryd.func40, Tryd.ntmps40
  go_upto_region 1 with fail
  clear hW
  obtain ⟨z1, f1⟩ := bz0 W
  obtain ⟨V, hV⟩ : ∃ V, (W.alloc (.cells #[.int .i64 0, .int .i64 0, .int .i64 0, .string ⟨#[]⟩, .slice none 0 0] 24)) = V := ⟨_, rfl⟩
  rw [hV] at z1 f1
  obtain ⟨v0, v1, v2, v3, v4, vf, vl⟩ := bz_cells z1
  have vf0 := vf 0; have vf1 := vf 1; have vf2 := vf 2; have vf3 := vf 3; have vf4 := vf 4
  go_upto_region 4 with fail
  have zz := (bz_cells z).2.2.2.2.2.2
  have q := val_put' V W.heap.size _ _ _ _ _ (.int .i64 k) (.int .i64 0) (.int .i64 0) (.string ⟨#[]⟩) (.slice none 0 0) _ _ z1
  have g := fuw_put5 f1 (Nat.le_refl _) (.int .i64 k) (.int .i64 0) (.int .i64 0) (.string ⟨#[]⟩) (.slice none 0 0)
  clear hV v0 v1 v2 v3 v4 vf vl vf0 vf1 vf2 vf3 vf4 z1 f1
  generalize (((((V.setCell ⟨W.heap.size, 0, none⟩ (.int .i64 k)).setCell ⟨W.heap.size, 1, none⟩ (.int .i64 0)).setCell ⟨W.heap.size, 2, none⟩ (.int .i64 0)).setCell ⟨W.heap.size, 3, none⟩ (.string ⟨#[]⟩)).setCell ⟨W.heap.size, 4, none⟩ (.slice none 0 0)) = U at *
  have u0 := (bz_cells (k := k) (n := 0) (ao := none) (len := 0) (cap := 0) q).1
  have HF : Hid (RGat _ _ _ _ _ _ _ _) := Lib.hid (HR'.out W.heap.size U (Fuw.trans f0 g) (Nat.le_of_lt zz) q)
  unfold RGat at HF
  have f2 := Fuw.trans f0 g
  have hlt : w.heap.size < U.heap.size := Nat.lt_of_lt_of_le zz g.size
  have HZ := Lib.hid z
  have HGU := Lib.hid g
  clear z g f0 hck1
  have HBB := Lib.hid (Nat.le_refl W.heap.size)
  generalize hWB : W.heap.size = B at *
  replace HBB := Lib.hid (Nat.le_of_eq hWB)
  clear hWB
  have u0' := u0
  clear q
  have hg8 : ((k : Int) == 8) = false ∨ (((k : Int) == 8) = true ∧ ¬ (nest ≤ 0)) := by
    by_cases e : (k : Int) = 8
    · exact .inr ⟨beq_iff_eq.2 e, by rcases hnest with t | t; exact absurd e t; omega⟩
    · exact .inl (beq_eq_false_iff_ne.2 e)
  clear hnest
  have HF2 := Lib.hid f2
  clear f2
  rcases hg8 with hg8 | ⟨hg8, hnn⟩
  all_goals
    go_wp2_with fail
    go_at_call 55; refine HF.out.mono ?_; rintro e1 w1 ⟨hk2, a2, c2, rfl, hb2, hKp⟩
    have f3 := hk2 w HF2.out (Nat.le_of_lt zz)
    have key1 : w1.heap[w.heap.size]? = some (.cells (va 0 0 none 0 0) 24 (0, 0)) := bz_on HZ.out (hk2 W HGU.out HBB.out)
    have hsl := hKp w1 (Nat.le_refl _) (fun _ _ _ => rfl)
    have HVL := Lib.hid (valid_vc x hx a2 c2 w1 hsl)
    rw [hok] at HVL
    obtain ⟨y0, y1, y2, y3, y4, yf, yl⟩ := vc_cells hb2
    clear hk2 hKp hsl HF u0 u0' hb2
    go_wp2_with fail
    go_at_call 38; refine HVL.out.mono ?_; rintro e2 w2 ⟨rfl, f4⟩
    clear HVL y0 y1 y2 y3 y4 yf
    have key2 := bz_on key1 f4
    clear key1
    obtain ⟨x0, x1, x2, x3, x4, xf, xl⟩ := bz_cells key2
    have xf0 := xf 0; have xf1 := xf 1; have xf2 := xf 2; have xf3 := xf 3; have xf4 := xf 4
    have HKEY2 := Lib.hid key2
    clear key2 xf
    go_wp2
    try simp only [Exit.inBlock, Exit.then]
    exact vg_ret (x := v0) rfl rfl rfl rfl (val_put' w2 _ _ _ _ _ _ _ _ _ _ _ _ _ HKEY2.out) ⟨fuw_put5 (Fuw.trans f3 f4) (Nat.le_refl _) _ _ _ _ _, rfl, by decide⟩
set_option maxHeartbeats 8000000 in
set_option maxRecDepth 100000 in
theorem vat_err (ao : Option Addr) (l : List UInt8) (cap : Nat) (a k : Nat) (nest : Int) (w : World) (h : IsB w ao l cap) (ha : a < l.length) (h0 : (l.getD a 0).toNat = k) (hk8 : k ≤ 8) (hnest : ¬ ((k : Int) = 8) ∨ 0 < nest) (c : Int) (HR : ∀ B U, Fuw w U → w.heap.size ≤ B → U.heap[B]? = some (.cells (vc (vk k) none 0) 24 (0, 0)) → RGat ao l cap ((a : Int) + 1) nest (.er c) B U) :
    Calls Tryd.prog 40 #[.slice ao l.length cap, .int .i64 a, .int .i64 nest] w (RetG w (.er c)) := by
  have hlen := h.len.1
  have HR' := Lib.hid HR
  clear HR
  obtain ⟨b, off, rfl, hb, hc⟩ := h.at_ (by omega)
  have hck := hc a ha
  rw [h0] at hck
  clear hc
  have hai : (a : Int) < l.length := by omega
  have hane : ¬ ((a : Int) = l.length) := by omega
  have hki : (k : Int) ≤ 8 := by omega
  obtain ⟨z, f0⟩ := bz0 w
  obtain ⟨W, hW⟩ : ∃ W, (w.alloc (.cells #[.int .i64 0, .int .i64 0, .int .i64 0, .string ⟨#[]⟩, .slice none 0 0] 24)) = W := ⟨_, rfl⟩
  rw [hW] at z f0
  have hck1 := (Below.cell f0 (p := ⟨b, off + a, none⟩) hb).trans hck
  clear h h0 hck hk8
  go_enter Tryd.func40, Tryd.ntmps40
  go_upto_region 1 with fail
  clear hW
  obtain ⟨z1, f1⟩ := bz0 W
  obtain ⟨V, hV⟩ : ∃ V, (W.alloc (.cells #[.int .i64 0, .int .i64 0, .int .i64 0, .string ⟨#[]⟩, .slice none 0 0] 24)) = V := ⟨_, rfl⟩
  rw [hV] at z1 f1
  obtain ⟨v0, v1, v2, v3, v4, vf, vl⟩ := bz_cells z1
  have vf0 := vf 0; have vf1 := vf 1; have vf2 := vf 2; have vf3 := vf 3; have vf4 := vf 4
  go_upto_region 4 with fail
  have zz := (bz_cells z).2.2.2.2.2.2
  have q := val_put' V W.heap.size _ _ _ _ _ (.int .i64 k) (.int .i64 0) (.int .i64 0) (.string ⟨#[]⟩) (.slice none 0 0) _ _ z1
  have g := fuw_put5 f1 (Nat.le_refl _) (.int .i64 k) (.int .i64 0) (.int .i64 0) (.string ⟨#[]⟩) (.slice none 0 0)
  clear hV v0 v1 v2 v3 v4 vf vl vf0 vf1 vf2 vf3 vf4 z1 f1
  generalize (((((V.setCell ⟨W.heap.size, 0, none⟩ (.int .i64 k)).setCell ⟨W.heap.size, 1, none⟩ (.int .i64 0)).setCell ⟨W.heap.size, 2, none⟩ (.int .i64 0)).setCell ⟨W.heap.size, 3, none⟩ (.string ⟨#[]⟩)).setCell ⟨W.heap.size, 4, none⟩ (.slice none 0 0)) = U at *
  have u0 := (bz_cells (k := k) (n := 0) (ao := none) (len := 0) (cap := 0) q).1
  have HF : Hid (RGat _ _ _ _ _ _ _ _) := Lib.hid (HR'.out W.heap.size U (Fuw.trans f0 g) (Nat.le_of_lt zz) q)
  unfold RGat at HF
  have f2 := Fuw.trans f0 g
  have hlt : w.heap.size < U.heap.size := Nat.lt_of_lt_of_le zz g.size
  have HZ := Lib.hid z
  have HGU := Lib.hid g
  clear z g f0 hck1
  have HBB := Lib.hid (Nat.le_refl W.heap.size)
  generalize hWB : W.heap.size = B at *
  replace HBB := Lib.hid (Nat.le_of_eq hWB)
  clear hWB
  have u0' := u0
  clear q
  have hg8 : ((k : Int) == 8) = false ∨ (((k : Int) == 8) = true ∧ ¬ (nest ≤ 0)) := by
    by_cases e : (k : Int) = 8
    · exact .inr ⟨beq_iff_eq.2 e, by rcases hnest with t | t; exact absurd e t; omega⟩
    · exact .inl (beq_eq_false_iff_ne.2 e)
  clear hnest
  have HF2 := Lib.hid f2
  clear f2
  rcases hg8 with hg8 | ⟨hg8, hnn⟩
  all_goals
    go_wp2_with fail
    go_at_call 55; refine HF.out.mono ?_; rintro e1 w1 ⟨hk2, E, rfl, hc0⟩
    have f3 := hk2 w HF2.out (Nat.le_of_lt zz)
    have key2 : w1.heap[w.heap.size]? = some (.cells (va 0 0 none 0 0) 24 (0, 0)) := bz_on HZ.out (hk2 W HGU.out HBB.out)
    have hcb : (c == 0) = false := beq_eq_false_iff_ne.2 hc0
    have hcb2 : (c != 0) = true := bne_iff_ne.2 hc0
    clear hk2 HF u0 u0'
    obtain ⟨x0, x1, x2, x3, x4, xf, xl⟩ := bz_cells key2
    have xf0 := xf 0; have xf1 := xf 1; have xf2 := xf 2; have xf3 := xf 3; have xf4 := xf 4
    have HKEY2 := Lib.hid key2
    clear key2 xf
    go_wp2
    try simp only [Exit.inBlock, Exit.then]
    exact vg_ret (x := v0) rfl rfl rfl rfl (val_put' w1 _ _ _ _ _ _ _ _ _ _ _ _ _ HKEY2.out) ⟨fuw_put5 f3 (Nat.le_refl _) _ _ _ _ _, rfl, hc0⟩
end Go.Proofs.YtolkdmhjomampaaDoor

/-! Package codec: readFields of the kinds that hold no values, and valueAt at its early ends. Nothing that was there turns. -/
namespace Go.Proofs.YtolkdmhjomampaaDoor
open Go.RowKit

/-- The fields of a value that holds none. -/
def flatV (k : Nat) (l : List UInt8) (a : Int) : Rs :=
  if k = 0 then .ok (vk 0) a
  else if k = 3 then
    if (intV l a).2.2 ≠ 0 then .er (intV l a).2.2
    else if (intV l (intV l a).2.1).2.2 ≠ 0 then .er (intV l (intV l a).2.1).2.2
    else .ok (.mk 3 (intV l a).1 (intV l (intV l a).2.1).1 [] []) (intV l (intV l a).2.1).2.1
  else if k = 4 then
    if (strV l a 100).2.2 ≠ 0 then .er (strV l a 100).2.2 else .ok (.mk 4 0 0 (strV l a 100).1 []) (strV l a 100).2.1
  else if (intV l a).2.2 ≠ 0 then .er (intV l a).2.2 else .ok (.mk k (intV l a).1 0 [] []) (intV l a).2.1
theorem vc_set {w : World} {B : Nat} {k n d : Int} {s : List UInt8} {ao : Option Addr} {cap : Nat} {ll : List Vl} (h : w.heap[B]? = some (.cells (vc (.mk k n d s ll) ao cap) 24 (0, 0))) :
    (∀ m : Int, (w.setCell ⟨B, 1, none⟩ (.int .i64 m)).heap[B]? = some (.cells (vc (.mk k m d s ll) ao cap) 24 (0, 0))) ∧
    (∀ m : Int, (w.setCell ⟨B, 2, none⟩ (.int .i64 m)).heap[B]? = some (.cells (vc (.mk k n m s ll) ao cap) 24 (0, 0))) ∧
    (∀ t : List UInt8, (w.setCell ⟨B, 3, none⟩ (.string (bs t))).heap[B]? = some (.cells (vc (.mk k n d t ll) ao cap) 24 (0, 0))) ∧
    (∀ (a2 : Option Addr) (l2 : List Vl) (c2 : Nat), (w.setCell ⟨B, 4, none⟩ (.slice a2 l2.length c2)).heap[B]? = some (.cells (vc (.mk k n d s l2) a2 c2) 24 (0, 0))) := by
  unfold vc at *
  refine ⟨fun m => ?_, fun m => ?_, fun t => ?_, fun a2 l2 c2 => ?_⟩ <;> simp [World.setCell, Array.getElem?_modify, h, Vl.kd, Vl.nn, Vl.dd, Vl.ss, Vl.ll]
theorem int_ok {l : List UInt8} {a n E c : Int} (hv : intV l a = (n, E, c)) : -9223372036854775808 ≤ n ∧ n ≤ 9223372036854775807 ∧ (c = 0 → 0 ≤ a ∧ a < E ∧ E ≤ l.length) ∧ (c ≠ 0 → n = 0 ∧ E = 0) := by
  unfold intV at hv
  split at hv
  · obtain ⟨rfl, rfl, rfl⟩ : 0 = n ∧ 0 = E ∧ 1 = c := by simpa using hv
    exact ⟨by decide, by decide, fun h => absurd h (by decide), fun _ => ⟨rfl, rfl⟩⟩
  · rename_i hb
    have hr := rdv_lt 18446744073709551615 (l.drop a.toNat)
    have ho := rdv_only (most := 18446744073709551615) (l := l.drop a.toNat)
    have hz : (rdv 18446744073709551615 (l.drop a.toNat)).2.2 ≠ 0 → (rdv 18446744073709551615 (l.drop a.toNat)).1 = 0 := by
      unfold rdv
      repeat' split
      all_goals first
        | exact fun _ => rfl
        | exact fun t => absurd rfl t
    generalize rdv 18446744073709551615 (l.drop a.toNat) = r at *
    obtain ⟨u, k, e⟩ := r
    simp only at hr ho hz hv
    obtain ⟨rfl, rfl, rfl⟩ : unzz u = n ∧ (if e = 0 then a + (k : Int) else 0) = E ∧ (e : Int) = c := by simpa using hv
    rw [List.length_drop] at hr ho
    have hi := unzz_in hr.2.1
    refine ⟨hi.1, hi.2, fun hc => ?_, fun hc => ?_⟩
    · have hc' : e = 0 := by omega
      rw [if_pos hc']
      have := ho hc'
      omega
    · rw [if_neg (by omega), hz (by omega)]
      exact ⟨rfl, rfl⟩
theorem yb_bs (l : List UInt8) : yb l = bs l := rfl
set_option maxHeartbeats 8000000 in
set_option maxRecDepth 100000 in
theorem rg_flat (ao : Option Addr) (l : List UInt8) (cap : Nat) (k : Nat) (hk : k < 7) (a nest : Int) (ha0 : -9223372036854775808 ≤ a) (ha1 : a ≤ 9223372036854775807) (B : Nat) (U w0 : World) (h0 : IsB w0 ao l cap) (hf0 : Fuw w0 U) (hB0 : w0.heap.size ≤ B) (hq : U.heap[B]? = some (.cells (vc (vk k) none 0) 24 (0, 0))) : RGat ao l cap a nest (flatV k l a) B U := by
  have h := h0.on hf0
  obtain ⟨c0, c1, c2, c3, c4, cf, -⟩ := vc_cells hq
  have cf1 := cf 1; have cf2 := cf 2; have cf3 := cf 3
  obtain ⟨n, E, c, hv⟩ : ∃ n E c, intV l a = (n, E, c) := ⟨_, _, _, rfl⟩
  have hio := int_ok hv
  have HI := Lib.hid (int_is ao l cap a ha0 ha1 U h n E c hv)
  unfold RGat flatV vk at *
  have hk7 : k = 0 ∨ k = 1 ∨ k = 2 ∨ k = 3 ∨ k = 4 ∨ k = 5 ∨ k = 6 := by omega
  have hset := vc_set hq
  rcases hk7 with rfl | rfl | rfl | rfl | rfl | rfl | rfl
  · rw [if_pos rfl]
    have HQ := Lib.hid hq
    clear hq hset HI cf c1 c2 c3 c4 h hv hio
    go_enter Tryd.func55, Tryd.ntmps55
    go_wp2
    go_ret2
    exact ⟨fun X hX _ => hX, none, 0, rfl, HQ.out, kp_none _ _⟩
  · rw [if_neg (by decide), if_neg (by decide), if_neg (by decide), hv]
    simp only
    have HS := Lib.hid (hset.1 n)
    clear hset hv cf c2 c3 c4 h hq
    by_cases hc : c = 0
    · subst hc
      rw [if_neg (fun t => t rfl)]
      go_enter Tryd.func55, Tryd.ntmps55
      go_wp2_with fail
      go_at_call 29; refine HI.out.mono ?_; rintro e1 w1 ⟨rfl, rfl⟩
      clear HI
      go_wp2
      go_ret2
      exact ⟨fun X hX hXB => fuw_set hX hXB, none, 0, rfl, HS.out, kp_none _ _⟩
    · rw [if_pos hc]
      have HC := Lib.hid hc
      clear hc hio
      go_enter Tryd.func55, Tryd.ntmps55
      go_wp2_with fail
      go_at_call 29; refine HI.out.mono ?_; rintro e1 w1 ⟨rfl, rfl⟩
      clear HI
      go_wp2
      go_ret2
      exact ⟨fun X hX hXB => fuw_set hX hXB, E, rfl, HC.out⟩
  · rw [if_neg (by decide), if_neg (by decide), if_neg (by decide), hv]
    simp only
    have HS := Lib.hid (hset.1 n)
    clear hset hv cf c2 c3 c4 h hq
    by_cases hc : c = 0
    · subst hc
      rw [if_neg (fun t => t rfl)]
      go_enter Tryd.func55, Tryd.ntmps55
      go_wp2_with fail
      go_at_call 29; refine HI.out.mono ?_; rintro e1 w1 ⟨rfl, rfl⟩
      clear HI
      go_wp2
      go_ret2
      exact ⟨fun X hX hXB => fuw_set hX hXB, none, 0, rfl, HS.out, kp_none _ _⟩
    · rw [if_pos hc]
      have HC := Lib.hid hc
      clear hc hio
      go_enter Tryd.func55, Tryd.ntmps55
      go_wp2_with fail
      go_at_call 29; refine HI.out.mono ?_; rintro e1 w1 ⟨rfl, rfl⟩
      clear HI
      go_wp2
      go_ret2
      exact ⟨fun X hX hXB => fuw_set hX hXB, E, rfl, HC.out⟩
  · rw [if_neg (by decide), if_pos rfl, hv]
    simp only
    by_cases hc : c = 0
    · subst hc
      rw [if_neg (fun t => t rfl)]
      obtain ⟨n2, E2, d2, hv2⟩ : ∃ n2 E2 d2, intV l E = (n2, E2, d2) := ⟨_, _, _, rfl⟩
      have hl := h.len.1
      have hb := hio.2.2.1 rfl
      have H1 := hset.1 n
      have h1 : IsB (U.setCell ⟨B, 1, none⟩ (.int .i64 n)) ao l cap := h0.on (fuw_set hf0 hB0)
      have HI2 := Lib.hid (int_is ao l cap E (by omega) (by omega) _ h1 n2 E2 d2 hv2)
      have HS := Lib.hid ((vc_set H1).2.1 n2)
      obtain ⟨x0, x1, x2, x3, x4, xf, xl⟩ := vc_cells H1
      have xf2 := xf 2
      rw [hv2]
      simp only
      clear hset hv hv2 cf h hq hb hl h1 h0 hf0 hB0 H1 xf hio
      by_cases hd : d2 = 0
      · subst hd
        rw [if_neg (fun t => t rfl)]
        go_enter Tryd.func55, Tryd.ntmps55
        go_wp2_with fail
        go_at_call 29; refine HI.out.mono ?_; rintro e1 w1 ⟨rfl, rfl⟩
        clear HI
        go_upto_region 11 with fail
        clear c0 c1 c2 c3 c4 cf1 cf2 cf3
        obtain ⟨W1, hW1⟩ : ∃ W1, U.setCell ⟨B, 1, none⟩ (.int .i64 n) = W1 := ⟨_, rfl⟩
        have HW : Hid (∀ X, Fuw X U → X.heap.size ≤ B → Fuw X W1) := Lib.hid (fun X hX hXB => hW1 ▸ fuw_set hX hXB)
        rw [hW1] at HI2 HS x0 x1 x2 x3 x4 xf2 ⊢
        clear hW1
        go_wp2_with fail
        go_at_call 29; refine HI2.out.mono ?_; rintro e1 w1 ⟨rfl, rfl⟩
        clear HI2
        go_wp2
        go_ret2
        exact ⟨fun X hX hXB => fuw_set (HW.out X hX hXB) hXB, none, 0, rfl, HS.out, kp_none _ _⟩
      · rw [if_pos hd]
        have HD := Lib.hid hd
        clear hd
        go_enter Tryd.func55, Tryd.ntmps55
        go_wp2_with fail
        go_at_call 29; refine HI.out.mono ?_; rintro e1 w1 ⟨rfl, rfl⟩
        clear HI
        go_upto_region 11 with fail
        clear c0 c1 c2 c3 c4 cf1 cf2 cf3
        obtain ⟨W1, hW1⟩ : ∃ W1, U.setCell ⟨B, 1, none⟩ (.int .i64 n) = W1 := ⟨_, rfl⟩
        have HW : Hid (∀ X, Fuw X U → X.heap.size ≤ B → Fuw X W1) := Lib.hid (fun X hX hXB => hW1 ▸ fuw_set hX hXB)
        rw [hW1] at HI2 HS x0 x1 x2 x3 x4 xf2 ⊢
        clear hW1
        go_wp2_with fail
        go_at_call 29; refine HI2.out.mono ?_; rintro e1 w1 ⟨rfl, rfl⟩
        clear HI2
        go_wp2
        go_ret2
        exact ⟨fun X hX hXB => fuw_set (HW.out X hX hXB) hXB, E2, rfl, HD.out⟩
    · rw [if_pos hc]
      have HC := Lib.hid hc
      have hcb : (c == 0) = false := beq_eq_false_iff_ne.2 hc
      clear hc hio hset hv cf c2 c3 c4 h hq
      go_enter Tryd.func55, Tryd.ntmps55
      go_wp2_with fail
      go_at_call 29; refine HI.out.mono ?_; rintro e1 w1 ⟨rfl, rfl⟩
      clear HI
      go_wp2
      go_ret2
      exact ⟨fun X hX hXB => fuw_set hX hXB, E, rfl, HC.out⟩
  · rw [if_neg (by decide), if_neg (by decide), if_pos rfl]
    obtain ⟨S, E2, d2, hv2⟩ : ∃ S E2 d2, strV l a 100 = (S, E2, d2) := ⟨_, _, _, rfl⟩
    have HT := Lib.hid (str_is ao l cap a 100 ha0 ha1 U h S E2 d2 hv2)
    rw [hv2]
    simp only
    have HS := Lib.hid (hset.2.2.1 S)
    have HYB := Lib.hid (yb_bs S)
    clear hset hv hv2 cf c1 c2 c4 h hq HI hio
    by_cases hc : d2 = 0
    · subst hc
      rw [if_neg (fun t => t rfl)]
      rw [HYB.out] at HT
      go_enter Tryd.func55, Tryd.ntmps55
      go_wp2_with fail
      go_at_call 30; refine HT.out.mono ?_; rintro e1 w1 ⟨rfl, rfl⟩
      clear HT
      go_wp2
      go_ret2
      exact ⟨fun X hX hXB => fuw_set hX hXB, none, 0, rfl, HS.out, kp_none _ _⟩
    · rw [if_pos hc]
      have HC := Lib.hid hc
      clear hc
      go_enter Tryd.func55, Tryd.ntmps55
      go_wp2_with fail
      go_at_call 30; refine HT.out.mono ?_; rintro e1 w1 ⟨rfl, rfl⟩
      clear HT
      go_wp2
      go_ret2
      exact ⟨fun X hX hXB => fuw_set hX hXB, E2, rfl, HC.out⟩
  · rw [if_neg (by decide), if_neg (by decide), if_neg (by decide), hv]
    simp only
    have HS := Lib.hid (hset.1 n)
    clear hset hv cf c2 c3 c4 h hq
    by_cases hc : c = 0
    · subst hc
      rw [if_neg (fun t => t rfl)]
      go_enter Tryd.func55, Tryd.ntmps55
      go_wp2_with fail
      go_at_call 29; refine HI.out.mono ?_; rintro e1 w1 ⟨rfl, rfl⟩
      clear HI
      go_wp2
      go_ret2
      exact ⟨fun X hX hXB => fuw_set hX hXB, none, 0, rfl, HS.out, kp_none _ _⟩
    · rw [if_pos hc]
      have HC := Lib.hid hc
      clear hc hio
      go_enter Tryd.func55, Tryd.ntmps55
      go_wp2_with fail
      go_at_call 29; refine HI.out.mono ?_; rintro e1 w1 ⟨rfl, rfl⟩
      clear HI
      go_wp2
      go_ret2
      exact ⟨fun X hX hXB => fuw_set hX hXB, E, rfl, HC.out⟩
  · rw [if_neg (by decide), if_neg (by decide), if_neg (by decide), hv]
    simp only
    have HS := Lib.hid (hset.1 n)
    clear hset hv cf c2 c3 c4 h hq
    by_cases hc : c = 0
    · subst hc
      rw [if_neg (fun t => t rfl)]
      go_enter Tryd.func55, Tryd.ntmps55
      go_wp2_with fail
      go_at_call 29; refine HI.out.mono ?_; rintro e1 w1 ⟨rfl, rfl⟩
      clear HI
      go_wp2
      go_ret2
      exact ⟨fun X hX hXB => fuw_set hX hXB, none, 0, rfl, HS.out, kp_none _ _⟩
    · rw [if_pos hc]
      have HC := Lib.hid hc
      clear hc hio
      go_enter Tryd.func55, Tryd.ntmps55
      go_wp2_with fail
      go_at_call 29; refine HI.out.mono ?_; rintro e1 w1 ⟨rfl, rfl⟩
      clear HI
      go_wp2
      go_ret2
      exact ⟨fun X hX hXB => fuw_set hX hXB, E, rfl, HC.out⟩
end Go.Proofs.YtolkdmhjomampaaDoor

/-! Package codec: valueAt at every byte of a kind that holds no values, and at its early ends. Nothing that was there turns. -/
namespace Go.Proofs.YtolkdmhjomampaaDoor
open Go.RowKit

theorem vat_any (ao : Option Addr) (l : List UInt8) (cap : Nat) (a k : Nat) (nest : Int) (w : World) (h : IsB w ao l cap) (ha : a < l.length) (h0 : (l.getD a 0).toNat = k) (hk8 : k ≤ 8) (hnest : ¬ ((k : Int) = 8) ∨ 0 < nest) (o : Rs)
    (HR : ∀ B U, Fuw w U → w.heap.size ≤ B → U.heap[B]? = some (.cells (vc (vk k) none 0) 24 (0, 0)) → RGat ao l cap ((a : Int) + 1) nest o B U) (hv : ∀ x E, o = .ok x E → Vin x) :
    Calls Tryd.prog 40 #[.slice ao l.length cap, .int .i64 a, .int .i64 nest] w (RetG w (fin o)) := by
  cases o with
  | ok x E =>
    by_cases e : okX x = true
    · rw [show fin (.ok x E) = .ok x E from if_pos e]
      exact vat_ok ao l cap a k nest w h ha h0 hk8 hnest x E (hv x E rfl) e HR
    · rw [show fin (.ok x E) = .er 2 from if_neg e]
      exact vat_inv ao l cap a k nest w h ha h0 hk8 hnest x E (hv x E rfl) (by simpa using e) HR
  | er c => exact vat_err ao l cap a k nest w h ha h0 hk8 hnest c HR
theorem str_ok {l : List UInt8} {a m : Int} {S : List UInt8} {E c : Int} (hv : strV l a m = (S, E, c)) : S.length ≤ l.length ∧ (c = 0 → 0 ≤ a ∧ a < E ∧ E ≤ l.length) := by
  obtain ⟨u, n, d, hr⟩ : ∃ u n d, uintV l a = (u, n, d) := ⟨_, _, _, rfl⟩
  have hok := uint_ok hr
  unfold strV at hv
  rw [hr] at hv
  simp only at hv
  by_cases hd : d = 0
  · rw [if_neg (fun t => t hd)] at hv
    have h3 := hok.2.2.2.1 hd
    by_cases g1 : m < u
    · rw [if_pos g1] at hv
      obtain ⟨rfl, rfl, rfl⟩ : [] = S ∧ 0 = E ∧ 4 = c := by simpa using hv
      exact ⟨Nat.zero_le _, fun t => absurd t (by decide)⟩
    · rw [if_neg g1] at hv
      by_cases g2 : (l.length : Int) - n < u
      · rw [if_pos g2] at hv
        obtain ⟨rfl, rfl, rfl⟩ : [] = S ∧ 0 = E ∧ 3 = c := by simpa using hv
        exact ⟨Nat.zero_le _, fun t => absurd t (by decide)⟩
      · rw [if_neg g2] at hv
        simp only [Prod.mk.injEq] at hv
        obtain ⟨rfl, rfl, rfl⟩ := hv
        exact ⟨by rw [List.length_take, List.length_drop]; omega, fun _ => by omega⟩
  · rw [if_pos hd] at hv
    simp only [Prod.mk.injEq] at hv
    obtain ⟨rfl, rfl, rfl⟩ := hv
    exact ⟨Nat.zero_le _, fun t => absurd t hd⟩
/-- What the flat kinds give lies in the bounds of the types and behind the offset. -/
theorem flat_in {k : Nat} (hk : k < 7) {l : List UInt8} (hl : l.length ≤ maxLen) {a : Int} (ha : 0 ≤ a ∧ a ≤ l.length) {x : Vl} {E : Int} (h : flatV k l a = .ok x E) : Vin x ∧ a ≤ E ∧ E ≤ l.length ∧ x.kd = k := by
  obtain ⟨n, E1, c, hv⟩ : ∃ n E c, intV l a = (n, E, c) := ⟨_, _, _, rfl⟩
  have hio := int_ok hv
  have hz : I64 (0 : Int) := ⟨by decide, by decide⟩
  have hki : I64 (k : Int) := ⟨by omega, by omega⟩
  have i3 : I64 (3 : Int) := ⟨by decide, by decide⟩
  have i4 : I64 (4 : Int) := ⟨by decide, by decide⟩
  unfold flatV at h
  rw [hv] at h
  simp only at h
  by_cases e0 : k = 0
  · rw [if_pos e0] at h
    obtain ⟨rfl, rfl⟩ := Rs.ok.inj h
    subst e0
    exact ⟨⟨hz, hz, hz, Nat.zero_le _⟩, Int.le_refl _, ha.2, rfl⟩
  rw [if_neg e0] at h
  by_cases e3 : k = 3
  · rw [if_pos e3] at h
    by_cases hc : c = 0
    · rw [if_neg (fun t => t hc)] at h
      obtain ⟨n2, E2, c2, hv2⟩ : ∃ n E c, intV l E1 = (n, E, c) := ⟨_, _, _, rfl⟩
      have hio2 := int_ok hv2
      rw [hv2] at h
      simp only at h
      by_cases hc2 : c2 = 0
      · rw [if_neg (fun t => t hc2)] at h
        obtain ⟨rfl, rfl⟩ := Rs.ok.inj h
        have b1 := hio.2.2.1 hc
        have b2 := hio2.2.2.1 hc2
        refine ⟨⟨i3, ⟨hio.1, hio.2.1⟩, ⟨hio2.1, hio2.2.1⟩, Nat.zero_le _⟩, by omega, b2.2.2, ?_⟩
        rw [e3]; rfl
      · rw [if_pos hc2] at h; cases h
    · rw [if_pos hc] at h; cases h
  rw [if_neg e3] at h
  by_cases e4 : k = 4
  · rw [if_pos e4] at h
    obtain ⟨S, E2, d, hs⟩ : ∃ S E d, strV l a 100 = (S, E, d) := ⟨_, _, _, rfl⟩
    have hso := str_ok hs
    rw [hs] at h
    simp only at h
    by_cases hd : d = 0
    · rw [if_neg (fun t => t hd)] at h
      obtain ⟨rfl, rfl⟩ := Rs.ok.inj h
      have b := hso.2 hd
      refine ⟨⟨i4, hz, hz, Nat.le_trans hso.1 hl⟩, by omega, b.2.2, ?_⟩
      rw [e4]; rfl
    · rw [if_pos hd] at h; cases h
  rw [if_neg e4] at h
  by_cases hc : c = 0
  · rw [if_neg (fun t => t hc)] at h
    obtain ⟨rfl, rfl⟩ := Rs.ok.inj h
    have b := hio.2.2.1 hc
    exact ⟨⟨hki, ⟨hio.1, hio.2.1⟩, hz, Nat.zero_le _⟩, by omega, b.2.2, rfl⟩
  · rw [if_pos hc] at h; cases h
theorem vat_flat (ao : Option Addr) (l : List UInt8) (cap : Nat) (a k : Nat) (nest : Int) (w : World) (h : IsB w ao l cap) (ha : a < l.length) (h0 : (l.getD a 0).toNat = k) (hk : k < 7) :
    Calls Tryd.prog 40 #[.slice ao l.length cap, .int .i64 a, .int .i64 nest] w (RetG w (fin (flatV k l ((a : Int) + 1)))) :=
  vat_any ao l cap a k nest w h ha h0 (by omega) (.inl (by omega)) _ (fun B U hf hB hq => rg_flat ao l cap k hk _ nest (by omega) (by have := h.len.1; omega) B U w h hf hB hq)
    (fun x E e => (flat_in hk (Nat.le_trans h.le h.max) ⟨by omega, by omega⟩ e).1)
set_option maxHeartbeats 8000000 in
set_option maxRecDepth 100000 in
/-- The bytes end. -/
theorem vat_end (ao : Option Addr) (l : List UInt8) (cap : Nat) (nest : Int) (w : World) :
    Calls Tryd.prog 40 #[.slice ao l.length cap, .int .i64 l.length, .int .i64 nest] w (RetG w (.er 3)) := by
  obtain ⟨z, f0⟩ := bz0 w
  obtain ⟨W, hW⟩ : ∃ W, (w.alloc (.cells #[.int .i64 0, .int .i64 0, .int .i64 0, .string ⟨#[]⟩, .slice none 0 0] 24)) = W := ⟨_, rfl⟩
  rw [hW] at z f0
  go_enter Tryd.func40, Tryd.ntmps40
  go_upto_region 1 with fail
  clear hW
  obtain ⟨x0, x1, x2, x3, x4, xf, xl⟩ := bz_cells z
  have xf0 := xf 0; have xf1 := xf 1; have xf2 := xf 2; have xf3 := xf 3; have xf4 := xf 4
  have HZ := Lib.hid z
  clear z xf
  go_wp2
  try simp only [Exit.inBlock, Exit.then]
  exact vg_ret (x := v0) rfl rfl rfl rfl (val_put' W _ _ _ _ _ _ _ _ _ _ _ _ _ HZ.out) ⟨fuw_put5 f0 (Nat.le_refl _) _ _ _ _ _, rfl, by decide⟩
set_option maxHeartbeats 8000000 in
set_option maxRecDepth 100000 in
/-- No kind, or a list too deep. -/
theorem vat_kind (ao : Option Addr) (l : List UInt8) (cap : Nat) (a k : Nat) (nest : Int) (w : World) (h : IsB w ao l cap) (ha : a < l.length) (h0 : (l.getD a 0).toNat = k) (hbad : 8 < k ∨ (k = 8 ∧ nest ≤ 0)) :
    Calls Tryd.prog 40 #[.slice ao l.length cap, .int .i64 a, .int .i64 nest] w (RetG w (.er 2)) := by
  have hlen := h.len.1
  obtain ⟨b, off, rfl, hb, hc⟩ := h.at_ (by omega)
  have hck := hc a ha
  rw [h0] at hck
  clear hc
  have hk255 : k < 256 := by rw [← h0]; exact (l.getD a 0).toNat_lt
  have hai : (a : Int) < l.length := by omega
  have hane : ¬ ((a : Int) = l.length) := by omega
  have hbad' : (8 : Int) < k ∨ (¬ ((8 : Int) < k) ∧ ((k : Int) == 8) = true ∧ nest ≤ 0) := by
    rcases hbad with t | ⟨t, t2⟩
    · exact .inl (by omega)
    · exact .inr ⟨by omega, beq_iff_eq.2 (by omega), t2⟩
  obtain ⟨z, f0⟩ := bz0 w
  obtain ⟨W, hW⟩ : ∃ W, (w.alloc (.cells #[.int .i64 0, .int .i64 0, .int .i64 0, .string ⟨#[]⟩, .slice none 0 0] 24)) = W := ⟨_, rfl⟩
  rw [hW] at z f0
  have hck1 := (Below.cell f0 (p := ⟨b, off + a, none⟩) hb).trans hck
  clear h h0 hck hbad
  go_enter Tryd.func40, Tryd.ntmps40
  go_upto_region 1 with fail
  clear hW
  obtain ⟨z1, f1⟩ := bz0 W
  obtain ⟨V, hV⟩ : ∃ V, (W.alloc (.cells #[.int .i64 0, .int .i64 0, .int .i64 0, .string ⟨#[]⟩, .slice none 0 0] 24)) = V := ⟨_, rfl⟩
  rw [hV] at z1 f1
  obtain ⟨v0', v1, v2, v3, v4, vf, vl⟩ := bz_cells z1
  have vf0 := vf 0; have vf1 := vf 1; have vf2 := vf 2; have vf3 := vf 3; have vf4 := vf 4
  go_upto_region 4 with fail
  have zz := (bz_cells z).2.2.2.2.2.2
  have q := val_put' V W.heap.size _ _ _ _ _ (.int .i64 k) (.int .i64 0) (.int .i64 0) (.string ⟨#[]⟩) (.slice none 0 0) _ _ z1
  have g := fuw_put5 f1 (Nat.le_refl _) (.int .i64 k) (.int .i64 0) (.int .i64 0) (.string ⟨#[]⟩) (.slice none 0 0)
  clear hV v0' v1 v2 v3 v4 vf vl vf0 vf1 vf2 vf3 vf4 z1 f1
  generalize (((((V.setCell ⟨W.heap.size, 0, none⟩ (.int .i64 k)).setCell ⟨W.heap.size, 1, none⟩ (.int .i64 0)).setCell ⟨W.heap.size, 2, none⟩ (.int .i64 0)).setCell ⟨W.heap.size, 3, none⟩ (.string ⟨#[]⟩)).setCell ⟨W.heap.size, 4, none⟩ (.slice none 0 0)) = U at *
  have u0 := (bz_cells (k := k) (n := 0) (ao := none) (len := 0) (cap := 0) q).1
  have f2 := Fuw.trans f0 g
  have key := bz_on z g
  obtain ⟨x0, x1, x2, x3, x4, xf, xl⟩ := bz_cells key
  have xf0 := xf 0; have xf1 := xf 1; have xf2 := xf 2; have xf3 := xf 3; have xf4 := xf 4
  have HKEY := Lib.hid key
  clear key xf z g f0 q hck1
  generalize W.heap.size = B at *
  rcases hbad' with hb8 | ⟨hb8, hb9, hnn⟩
  all_goals
    go_wp2
    try simp only [Exit.inBlock, Exit.then]
    exact vg_ret (x := v0) rfl rfl rfl rfl (val_put' U _ _ _ _ _ _ _ _ _ _ _ _ _ HKEY.out) ⟨fuw_put5 f2 (Nat.le_refl _) _ _ _ _ _, rfl, by decide⟩
end Go.Proofs.YtolkdmhjomampaaDoor

/-! Package codec: elementsAt of lists: the elements one by one, out of what valueAt gives. Nothing that was there turns. -/
namespace Go.Proofs.YtolkdmhjomampaaDoor
open Go.RowKit

inductive Rl where
  | ok (xs : List Vl) (E : Int) : Rl
  | er (c : Int) : Rl
/-- The kind at an index of a path. -/
def pkV (i : Nat) : Nat := if i % 2 = 1 then 6 else 5
/-- Elements one behind the other. -/
def elsV (l : List UInt8) (kind : Nat) (rv : Int → Rs) : Nat → Nat → Int → Rl
  | 0, _, a => .ok [] a
  | n + 1, i, a =>
    if kind = 7 ∧ a < l.length ∧ (l.getD a.toNat 0).toNat ≠ pkV i then .er 2
    else match rv a with
      | .er c => .er c
      | .ok x E => match elsV l kind rv n (i + 1) E with
        | .er c => .er c
        | .ok xs E2 => .ok (x :: xs) E2
def appL (xs : List Vl) : Rl → Rl
  | .ok ys E => .ok (xs ++ ys) E
  | .er c => .er c
theorem appL_nil (r : Rl) : appL [] r = r := by cases r <;> rfl
theorem appL_app (xs ys : List Vl) (r : Rl) : appL (xs ++ ys) r = appL xs (appL ys r) := by cases r <;> simp [appL]
theorem els_ok {l : List UInt8} {kind : Nat} {rv : Int → Rs} {n i : Nat} {a : Int} {x : Vl} {E : Int} (hk : ¬ (kind = 7 ∧ a < l.length ∧ (l.getD a.toNat 0).toNat ≠ pkV i)) (h : rv a = .ok x E) : elsV l kind rv (n + 1) i a = appL [x] (elsV l kind rv n (i + 1) E) := by
  rw [elsV, if_neg hk, h]
  simp only
  cases elsV l kind rv n (i + 1) E <;> rfl
theorem els_er {l : List UInt8} {kind : Nat} {rv : Int → Rs} {n i : Nat} {a c : Int} (hk : ¬ (kind = 7 ∧ a < l.length ∧ (l.getD a.toNat 0).toNat ≠ pkV i)) (h : rv a = .er c) : elsV l kind rv (n + 1) i a = .er c := by
  rw [elsV, if_neg hk, h]
/-- The cells of a value in the midst of a block. -/
def C5v (w : World) (g o : Nat) (x : Vl) (a : Option Addr) (c : Nat) : Prop :=
  w.cell? ⟨g, o, none⟩ = some (.int .i64 x.kd) ∧ w.cell? ⟨g, o + 1, none⟩ = some (.int .i64 x.nn) ∧ w.cell? ⟨g, o + 2, none⟩ = some (.int .i64 x.dd) ∧ w.cell? ⟨g, o + 3, none⟩ = some (.string (bs x.ss)) ∧ w.cell? ⟨g, o + 4, none⟩ = some (.slice a x.ll.length c)
/-- The values that lie in a block, what they hold in blocks above it. -/
def QV (w : World) (g : Nat) (xs : List Vl) : Prop := ∀ j (h : j < xs.length), Vin xs[j] ∧ ∃ a c, C5v w g (j * 5) xs[j] a c ∧ Kp g w (fun w2 => SlV w2 a xs[j].ll c)
/-- Room for n values. -/
def Rm (w : World) (g n : Nat) : Prop := g < w.heap.size ∧ ∀ j, j < n * 5 → (w.cell? ⟨g, j, none⟩).isSome = true ∧ w.frozen? ⟨g, j, none⟩ = false
theorem kp_on {lo : Nat} {w w' : World} {P : World → Prop} (h : Kp lo w P) (hf : Fuw w w') : Kp lo w' P := fun w2 hs hw =>
  h w2 (Nat.le_trans hf.size hs) fun b h1 h2 => (hw b h1 (Nat.lt_of_lt_of_le h2 hf.size)).trans (Below.block hf b h2)
theorem kp_set {g j : Nat} {w : World} {v : Value} {P : World → Prop} (h : Kp g w P) : Kp g (w.setCell ⟨g, j, none⟩ v) P := fun w2 hs hw =>
  h w2 (by rw [World.size_setCell] at hs; exact hs) fun b h1 h2 => (hw b h1 (by rw [World.size_setCell]; exact h2)).trans (heap_set_other (by omega))
theorem rm_on {w w' : World} {g n : Nat} (h : Rm w g n) (hf : Fuw w w') : Rm w' g n := by
  refine ⟨Nat.lt_of_lt_of_le h.1 hf.size, fun j hj => ?_⟩
  have k := h.2 j hj
  refine ⟨by rw [Below.cell hf (p := ⟨g, j, none⟩) h.1]; exact k.1, ?_⟩
  rw [← k.2]
  unfold World.frozen?
  rw [Below.block hf g h.1]
theorem rm_set {w : World} {g n j : Nat} {v : Value} (h : Rm w g n) : Rm (w.setCell ⟨g, j, none⟩ v) g n := by
  refine ⟨by rw [World.size_setCell]; exact h.1, fun i hi => ?_⟩
  have k := h.2 i hi
  refine ⟨?_, by rw [World.frozen?_setCell]; exact k.2⟩
  by_cases e : i = j
  · subst e
    obtain ⟨u, hu⟩ := Option.isSome_iff_exists.1 k.1
    rw [World.cell?_setCell_same _ _ _ hu]; rfl
  · rw [World.cell?_setCell_other _ _ _ _ (fun t => by simp at t; try omega)]; exact k.1
theorem c5_on {w w' : World} {g o : Nat} {x : Vl} {a : Option Addr} {c : Nat} (h : C5v w g o x a c) (hg : g < w.heap.size) (hf : Fuw w w') : C5v w' g o x a c :=
  ⟨(Below.cell hf (p := ⟨g, o, none⟩) hg).trans h.1, (Below.cell hf (p := ⟨g, o + 1, none⟩) hg).trans h.2.1, (Below.cell hf (p := ⟨g, o + 2, none⟩) hg).trans h.2.2.1, (Below.cell hf (p := ⟨g, o + 3, none⟩) hg).trans h.2.2.2.1, (Below.cell hf (p := ⟨g, o + 4, none⟩) hg).trans h.2.2.2.2⟩
theorem c5_set {w : World} {g o j : Nat} {x : Vl} {a : Option Addr} {c : Nat} {v : Value} (h : C5v w g o x a c) (hj : o + 5 ≤ j) : C5v (w.setCell ⟨g, j, none⟩ v) g o x a c := by
  have ne : ∀ t, t < 5 → (w.setCell ⟨g, j, none⟩ v).cell? ⟨g, o + t, none⟩ = w.cell? ⟨g, o + t, none⟩ := fun t ht => World.cell?_setCell_other _ _ _ _ (fun q => by simp at q; try omega)
  exact ⟨(ne 0 (by decide)).trans h.1, (ne 1 (by decide)).trans h.2.1, (ne 2 (by decide)).trans h.2.2.1, (ne 3 (by decide)).trans h.2.2.2.1, (ne 4 (by decide)).trans h.2.2.2.2⟩
theorem qv_on {w w' : World} {g : Nat} {xs : List Vl} (h : QV w g xs) (hg : g < w.heap.size) (hf : Fuw w w') : QV w' g xs := fun j hj => by
  obtain ⟨hv, a, c, h5, hk⟩ := h j hj
  exact ⟨hv, a, c, c5_on h5 hg hf, kp_on hk hf⟩
theorem qv_set {w : World} {g j : Nat} {xs : List Vl} {v : Value} (h : QV w g xs) (hj : xs.length * 5 ≤ j) : QV (w.setCell ⟨g, j, none⟩ v) g xs := fun i hi => by
  obtain ⟨hv, a, c, h5, hk⟩ := h i hi
  exact ⟨hv, a, c, c5_set h5 (by omega), kp_set hk⟩
theorem so_other {w : World} {g i j : Nat} {v u : Value} (h : w.cell? ⟨g, i, none⟩ = some u) (e : i ≠ j) : (w.setCell ⟨g, j, none⟩ v).cell? ⟨g, i, none⟩ = some u :=
  (World.cell?_setCell_other _ _ _ _ (fun t => by simp at t; try omega)).trans h
theorem so_same {w : World} {g j : Nat} {v u : Value} (h : w.cell? ⟨g, j, none⟩ = some u) : (w.setCell ⟨g, j, none⟩ v).cell? ⟨g, j, none⟩ = some v :=
  World.cell?_setCell_same _ _ _ h
theorem put5_cells {w : World} {g o : Nat} {x : Vl} {a : Option Addr} {c : Nat} {u0 u1 u2 u3 u4 : Value} (h0 : w.cell? ⟨g, o + 0, none⟩ = some u0) (h1 : w.cell? ⟨g, o + 1, none⟩ = some u1) (h2 : w.cell? ⟨g, o + 2, none⟩ = some u2) (h3 : w.cell? ⟨g, o + 3, none⟩ = some u3) (h4 : w.cell? ⟨g, o + 4, none⟩ = some u4) :
    C5v (((((w.setCell ⟨g, o, none⟩ (.int .i64 x.kd)).setCell ⟨g, o + 1, none⟩ (.int .i64 x.nn)).setCell ⟨g, o + 2, none⟩ (.int .i64 x.dd)).setCell ⟨g, o + 3, none⟩ (.string (bs x.ss))).setCell ⟨g, o + 4, none⟩ (.slice a x.ll.length c)) g o x a c := by
  rw [Nat.add_zero] at h0
  exact ⟨so_other (so_other (so_other (so_other (so_same h0) (by omega)) (by omega)) (by omega)) (by omega),
    so_other (so_other (so_other (so_same (so_other h1 (by omega))) (by omega)) (by omega)) (by omega),
    so_other (so_other (so_same (so_other (so_other h2 (by omega)) (by omega))) (by omega)) (by omega),
    so_other (so_same (so_other (so_other (so_other h3 (by omega)) (by omega)) (by omega))) (by omega),
    so_same (so_other (so_other (so_other (so_other h4 (by omega)) (by omega)) (by omega)) (by omega))⟩
/-- One value more. -/
theorem qv_put {w : World} {g n : Nat} {xs : List Vl} {x : Vl} {a : Option Addr} {c : Nat} (h : QV w g xs) (hr : Rm w g n) (hn : xs.length < n) (hv : Vin x) (hk : Kp g w (fun w2 => SlV w2 a x.ll c)) :
    QV (((((w.setCell ⟨g, xs.length * 5, none⟩ (.int .i64 x.kd)).setCell ⟨g, xs.length * 5 + 1, none⟩ (.int .i64 x.nn)).setCell ⟨g, xs.length * 5 + 2, none⟩ (.int .i64 x.dd)).setCell ⟨g, xs.length * 5 + 3, none⟩ (.string (bs x.ss))).setCell ⟨g, xs.length * 5 + 4, none⟩ (.slice a x.ll.length c)) g (xs ++ [x]) := by
  intro j hj
  by_cases e : j < xs.length
  · have q := qv_set (v := .slice a x.ll.length c) (j := xs.length * 5 + 4) (qv_set (v := .string (bs x.ss)) (j := xs.length * 5 + 3) (qv_set (v := .int .i64 x.dd) (j := xs.length * 5 + 2) (qv_set (v := .int .i64 x.nn) (j := xs.length * 5 + 1) (qv_set (v := .int .i64 x.kd) (j := xs.length * 5) h (Nat.le_refl _)) (by omega)) (by omega)) (by omega)) (by omega)
    have k := q j e
    rw [List.getElem_append_left e]
    exact k
  · have ej : j = xs.length := by rw [List.length_append, List.length_singleton] at hj; omega
    subst ej
    have hx : (xs ++ [x])[xs.length] = x := by simp
    rw [hx]
    have some : ∀ t, t < 5 → ∃ u, w.cell? ⟨g, xs.length * 5 + t, none⟩ = some u := fun t ht => Option.isSome_iff_exists.1 (hr.2 _ (by omega)).1
    obtain ⟨u0, h0⟩ := some 0 (by decide)
    obtain ⟨u1, h1⟩ := some 1 (by decide)
    obtain ⟨u2, h2⟩ := some 2 (by decide)
    obtain ⟨u3, h3⟩ := some 3 (by decide)
    obtain ⟨u4, h4⟩ := some 4 (by decide)
    refine ⟨hv, a, c, ?_, kp_set (kp_set (kp_set (kp_set (kp_set hk))))⟩
    exact put5_cells h0 h1 h2 h3 h4
end Go.Proofs.YtolkdmhjomampaaDoor

/-! Package codec: elementsAt of lists: walked out of what valueAt gives at each offset. Nothing that was there turns. -/
namespace Go.Proofs.YtolkdmhjomampaaDoor
open Go.RowKit

theorem kp_mono {lo hi : Nat} (hh : lo ≤ hi) {w : World} {P : World → Prop} (h : Kp hi w P) : Kp lo w P := fun w2 hs hw => h w2 hs fun b h1 h2 => hw b (Nat.lt_of_le_of_lt hh h1) h2
theorem rm_made {w : World} {base g n : Nat} {z : Value} (h : w.ownsRow base 24 5 (.slice (some ⟨g, 0, none⟩) n n) n (madeCells z.cells (n * 5)).toList) : Rm w g n := by
  rcases h.2 with ⟨h0, _⟩ | ⟨g', cap, cur, hv, hb, hh, h1, h2, h3, h4⟩
  · cases h0
  · cases hv
    refine ⟨?_, fun j hj => ⟨?_, by simp [World.frozen?, hh]⟩⟩
    · rcases Nat.lt_or_ge g w.heap.size with k | k
      · exact k
      · rw [Array.getElem?_eq_none k] at hh; cases hh
    · have hj' : j < cur.size := by omega
      simp [World.cell?, hh, Array.getElem?_eq_getElem hj']
theorem qv_ve {w : World} {g : Nat} : ∀ (ys xs : List Vl), QV w g (xs ++ ys) → VE w ys g (xs.length * 5)
  | [], _, _ => by unfold VE; trivial
  | y :: r, xs, h => by
    obtain ⟨hv, a, c, h5, hk⟩ := h xs.length (by simp)
    have e : (xs ++ y :: r)[xs.length]'(by simp) = y := by simp
    rw [e] at hv h5 hk
    unfold VE
    refine ⟨VC_mk hv h5.1 h5.2.1 h5.2.2.1 h5.2.2.2.1 h5.2.2.2.2 (hk w (Nat.le_refl _) fun _ _ _ => rfl), ?_⟩
    have q := qv_ve r (xs ++ [y]) (by rw [List.append_assoc]; exact h)
    rw [List.length_append, List.length_singleton, show (xs.length + 1) * 5 = xs.length * 5 + 5 by omega] at q
    exact q
theorem qv_sl {w : World} {g : Nat} {xs : List Vl} (h : QV w g xs) (hm : xs.length ≤ maxLen) : SlV w (some ⟨g, 0, none⟩) xs xs.length :=
  ⟨Nat.le_refl _, hm, (fun e => by cases e), fun _ => ⟨g, 0, rfl, by have q := qv_ve xs [] h; simpa using q⟩⟩
theorem qv_kp {w : World} {g lo : Nat} {xs : List Vl} (h : QV w g xs) (hg : g < w.heap.size) (hlo : lo < g) (hm : xs.length ≤ maxLen) : Kp lo w (fun w2 => SlV w2 (some ⟨g, 0, none⟩) xs xs.length) := fun w2 hs hw => by
  refine qv_sl (fun j hj => ?_) hm
  obtain ⟨hv, a, c, h5, hk⟩ := h j hj
  have hb := hw g hlo hg
  have ce : ∀ i, w2.cell? ⟨g, i, none⟩ = w.cell? ⟨g, i, none⟩ := fun i => by simp [World.cell?, hb]
  refine ⟨hv, a, c, ⟨(ce _).trans h5.1, (ce _).trans h5.2.1, (ce _).trans h5.2.2.1, (ce _).trans h5.2.2.2.1, (ce _).trans h5.2.2.2.2⟩, fun w3 hs3 hw3 => hk w3 (Nat.le_trans hs hs3) fun b h1 h2 => ?_⟩
  exact (hw3 b h1 (Nat.lt_of_lt_of_le h2 hs)).trans (hw b (Nat.lt_trans hlo h1) h2)
theorem may_list8 (n : Int) (w : World) : Calls Tryd.prog 86 #[.int .i64 8, .int .i64 n] w fun e w' => e = .returned (.bool (decide (n ≤ 64))) ∧ w = w' := by
  by_cases h : n ≤ 64
  · rw [decide_eq_true h]
    go_enter Tryd.func86, Tryd.ntmps86
    go_wp2
    go_ret
    exact ⟨rfl, rfl⟩
  · rw [decide_eq_false h]
    go_enter Tryd.func86, Tryd.ntmps86
    go_wp2
    go_ret
    exact ⟨rfl, rfl⟩
/-- Elements are read, or none with a code. -/
def RetL (w : World) (o : Rl) (e : Ending) (w' : World) : Prop :=
  Fuw w w' ∧ match o with
    | .ok xs E => ∃ a2 c2, e = .returned (.tuple #[.slice a2 xs.length c2, .int .i64 E, .int .i64 0]) ∧ ∀ lo, lo < w.heap.size → Kp lo w' (fun w2 => SlV w2 a2 xs c2)
    | .er c => e = .returned (.tuple #[.slice none 0 0, .int .i64 0, .int .i64 c]) ∧ c ≠ 0
theorem vc_v0 : vc v0 none 0 = #[.int .i64 0, .int .i64 0, .int .i64 0, .string ⟨#[]⟩, .slice none 0 0] := rfl
/-- A list's elements: the number, then each. -/
def listV (l : List UInt8) (rv : Int → Rs) (a : Int) : Rl :=
  if (uintV l a).2.2 ≠ 0 then .er (uintV l a).2.2
  else if ¬ (uintV l a).1 ≤ 64 then .er 2
  else elsV l 8 rv (uintV l a).1.toNat 0 (uintV l a).2.1
set_option maxHeartbeats 8000000 in
set_option maxRecDepth 100000 in
theorem els_list (ao : Option Addr) (l : List UInt8) (cap : Nat) (a nest : Int) (h0 : -9223372036854775808 ≤ a) (h1 : a ≤ 9223372036854775807) (w : World) (h : IsB w ao l cap) (rv : Int → Rs)
    (HV : ∀ (b : Int) (w' : World), 0 ≤ b → b ≤ l.length → Fuw w w' → Calls Tryd.prog 40 #[.slice ao l.length cap, .int .i64 b, .int .i64 nest] w' (RetG w' (rv b)))
    (HB : ∀ (b : Int) (x : Vl) (E : Int), 0 ≤ b → b ≤ l.length → rv b = .ok x E → Vin x ∧ b ≤ E ∧ E ≤ l.length) :
    Calls Tryd.prog 77 #[.slice ao l.length cap, .int .i64 a, .int .i64 8, .int .i64 nest] w (RetL w (listV l rv a)) := by
  obtain ⟨i0, hi, hz0, hz1, hz2⟩ := info_parts infoV
  obtain ⟨n, E0, c, hu⟩ : ∃ u e c, uintV l a = (u, e, c) := ⟨_, _, _, rfl⟩
  have hok := uint_ok hu
  have hlen := h.len.1
  have HU := Lib.hid (uint_is ao l cap a h0 h1 w h n E0 c hu)
  unfold listV
  rw [hu]
  simp only
  have HV' := Lib.hid HV
  have HB' := Lib.hid HB
  clear HV HB hu h0 h1 h
  by_cases hc : c = 0
  case neg =>
    rw [if_pos hc]
    have hcb : (c == 0) = false := beq_eq_false_iff_ne.2 hc
    have hE := hok.2.2.2.2 hc
    have HC := Lib.hid hc
    clear hok hc
    go_enter Tryd.func77, Tryd.ntmps77
    go_wp2_with fail
    go_at_call 27; refine HU.out.mono ?_; rintro e1 w1 ⟨rfl, rfl⟩
    clear HU
    go_wp2
    go_ret3
    exact ⟨Fuw.refl _, rfl, HC.out⟩
  subst hc
  rw [if_neg (fun t => t rfl)]
  have hb := hok.2.2.2.1 rfl
  by_cases hn : n ≤ 64
  case neg =>
    rw [if_pos hn]
    have hm := decide_eq_false hn
    have HM := Lib.hid (may_list8 n w)
    rw [hm] at HM
    clear hok hm
    go_enter Tryd.func77, Tryd.ntmps77
    go_wp2_with fail
    go_at_call 27; refine HU.out.mono ?_; rintro e1 w1 ⟨rfl, rfl⟩
    clear HU
    go_wp2_with fail
    go_at_call 86; refine HM.out.mono ?_; rintro e1 w1 ⟨rfl, rfl⟩
    go_wp2
    go_ret3
    exact ⟨Fuw.refl _, rfl, by decide⟩
  rw [if_neg (fun t => t hn)]
  obtain ⟨m, rfl⟩ : ∃ m : Nat, n = (m : Int) := ⟨n.toNat, by omega⟩
  rw [Int.toNat_natCast]
  have HM := Lib.hid (may_list8 m w)
  rw [decide_eq_true hn] at HM
  have hm : m ≤ 64 := by omega
  clear hok
  go_enter Tryd.func77, Tryd.ntmps77
  go_wp2_with fail
  go_at_call 27; refine HU.out.mono ?_; rintro e1 w1 ⟨rfl, rfl⟩
  clear HU
  go_wp2_with fail
  go_at_call 86; refine HM.out.mono ?_; rintro e1 w1 ⟨rfl, rfl⟩
  go_upto_region 7 with (at_make; refine wpList_make_full _ rfl (.tmp 29) (.tmp 29) 22 rfl w.heap.size 24 i0 (.agg #[.int .i64 0, .int .i64 0, .int .i64 0, .string ⟨#[]⟩, .slice none 0 0]) 5 Tryd.underlying22 hi hz0 hz1 .i64 .i64 _ _ m rfl rfl rfl rfl (by rw [hz2]; omega) (by unfold maxLen; omega) (Nat.le_refl _) ?_; intro w2 hown hgrow)
  have hR := rm_made hown
  have hf2 : Fuw w w2 := Below.grown (Below.refl _ _) hgrow (Nat.le_refl _) (fun k hk => by cases hk)
  clear hown hgrow hi hz0 hz1 hz2
  generalize hg : w.heap.size = g at *
  have HG := Lib.hid hg
  clear hg
  go_wp2
  go_loopw [1, 33] (fun av iv wr => ∃ (i : Nat) (xs : List Vl) (b : Int), iv = .int .i64 i ∧ av = .int .i64 b ∧ i ≤ m ∧ xs.length = i ∧ 0 ≤ b ∧ b ≤ l.length ∧ Hid (elsV l 8 rv m 0 E0 = appL xs (elsV l 8 rv (m - i) i b)) ∧ Fuw w wr ∧ Hid (QV wr g xs) ∧ Hid (Rm wr g m)) (fun _ iv _ => m - (RowKit.intOf iv).toNat)
  case atStart => exact ⟨0, [], E0, rfl, rfl, Nat.zero_le _, rfl, by omega, hb.2.2, Lib.hid (appL_nil _).symm, hf2, Lib.hid (fun j hj => absurd hj (Nat.not_lt_zero _)), Lib.hid hR⟩
  case round =>
    obtain ⟨i, xs, b, rfl, rfl, him, hxl, hb0, hb1, hE, hf, hQ, hRm⟩ := hrel
    by_cases hlt : (i : Int) < m
    · have HN := Lib.hid (HV'.out b _ hb0 hb1 (Fuw.drew hf))
      have hbx := HB'.out b
      generalize hrb : rv b = r at *
      have hgz := hRm.out.1
      cases r with
      | ok x E =>
        have hx := hbx x E hb0 hb1 rfl
        have hE1 := Lib.hid (els_ok (l := l) (kind := 8) (rv := rv) (n := m - i - 1) (i := i) (fun t => absurd t.1 (by decide)) hrb)
        clear hbx hrb
        go_upto_region 10 with fail
        go_region
        go_wp2_with fail
        go_at_call 40; refine HN.out.mono ?_; rintro e3 w3 ⟨f3d, a2, c2, he3, hk3⟩
        have f3 : Fuw wr w3 := Fuw.trans (Fuw.drew (Fuw.refl wr)) f3d
        clear f3d HN
        unfold vc at he3
        subst he3
        have hQ3 := qv_on hQ.out hgz f3
        have hR3 := rm_on hRm.out f3
        have hK3 := Lib.hid (kp_mono (Nat.le_of_lt hgz) hk3)
        have il : i < m := by omega
        have r0 := hR3.2 (i * 5) (by omega)
        have r1 := hR3.2 (i * 5 + 1) (by omega)
        have r2 := hR3.2 (i * 5 + 2) (by omega)
        have r3 := hR3.2 (i * 5 + 3) (by omega)
        have r4 := hR3.2 (i * 5 + 4) (by omega)
        obtain ⟨q0, fz0⟩ := r0; obtain ⟨q1, fz1⟩ := r1; obtain ⟨q2, fz2⟩ := r2; obtain ⟨q3, fz3⟩ := r3; obtain ⟨q4, fz4⟩ := r4
        obtain ⟨y0, q0⟩ := Option.isSome_iff_exists.1 q0; obtain ⟨y1, q1⟩ := Option.isSome_iff_exists.1 q1; obtain ⟨y2, q2⟩ := Option.isSome_iff_exists.1 q2; obtain ⟨y3, q3⟩ := Option.isSome_iff_exists.1 q3; obtain ⟨y4, q4⟩ := Option.isSome_iff_exists.1 q4
        have HQ3 := Lib.hid hQ3
        have HR3 := Lib.hid hR3
        clear hQ3 hR3 hk3
        go_wp2
        go_roundw
        case rel =>
          have hq := qv_put HQ3.out HR3.out (by omega) hx.1 hK3.out
          rw [hxl] at hq
          exact ⟨i + 1, xs ++ [x], E, congrArg (Value.int .i64) (by omega), rfl, il, by rw [List.length_append, hxl]; rfl, by omega, hx.2.2, Lib.hid (by rw [hE.out, show m - i = m - i - 1 + 1 by omega, hE1.out, ← appL_app, show m - (i + 1) = m - i - 1 by omega]), fuw_set (fuw_set (fuw_set (fuw_set (fuw_set (Fuw.trans hf f3) (Nat.le_of_eq HG.out)) (Nat.le_of_eq HG.out)) (Nat.le_of_eq HG.out)) (Nat.le_of_eq HG.out)) (Nat.le_of_eq HG.out), Lib.hid hq, Lib.hid (rm_set (rm_set (rm_set (rm_set (rm_set HR3.out)))))⟩
        case measure => simp [RowKit.intOf]; omega
      | er c =>
        have hE1 := Lib.hid (els_er (l := l) (kind := 8) (rv := rv) (n := m - i - 1) (i := i) (fun t => absurd t.1 (by decide)) hrb)
        clear hbx hrb
        go_upto_region 10 with fail
        go_region
        go_wp2_with fail
        go_at_call 40; refine HN.out.mono ?_; rintro e3 w3 ⟨f3d, he3, hc0⟩
        have f3 : Fuw wr w3 := Fuw.trans (Fuw.drew (Fuw.refl wr)) f3d
        rw [vc_v0] at he3
        clear f3d HN
        subst he3
        have hcb : (c == 0) = false := beq_eq_false_iff_ne.2 hc0
        have hR3 := rm_on hRm.out f3
        have il : i < m := by omega
        have r0 := hR3.2 (i * 5) (by omega)
        have r1 := hR3.2 (i * 5 + 1) (by omega)
        have r2 := hR3.2 (i * 5 + 2) (by omega)
        have r3 := hR3.2 (i * 5 + 3) (by omega)
        have r4 := hR3.2 (i * 5 + 4) (by omega)
        obtain ⟨q0, fz0⟩ := r0; obtain ⟨q1, fz1⟩ := r1; obtain ⟨q2, fz2⟩ := r2; obtain ⟨q3, fz3⟩ := r3; obtain ⟨q4, fz4⟩ := r4
        obtain ⟨y0, q0⟩ := Option.isSome_iff_exists.1 q0; obtain ⟨y1, q1⟩ := Option.isSome_iff_exists.1 q1; obtain ⟨y2, q2⟩ := Option.isSome_iff_exists.1 q2; obtain ⟨y3, q3⟩ := Option.isSome_iff_exists.1 q3; obtain ⟨y4, q4⟩ := Option.isSome_iff_exists.1 q4
        have HC0 := Lib.hid hc0
        clear hR3 hc0
        go_wp2
        go_ret3
        have e : elsV l 8 rv m 0 E0 = .er c := by rw [hE.out, show m - i = m - i - 1 + 1 by omega, hE1.out]; rfl
        rw [e]
        exact ⟨fuw_set (fuw_set (fuw_set (fuw_set (fuw_set (Fuw.trans hf f3) (Nat.le_of_eq HG.out)) (Nat.le_of_eq HG.out)) (Nat.le_of_eq HG.out)) (Nat.le_of_eq HG.out)) (Nat.le_of_eq HG.out), rfl, HC0.out⟩
    · go_wp2
      go_ret3
      have ei : i = m := by omega
      subst ei
      have hE2 := hE.out
      rw [Nat.sub_self] at hE2
      have e : elsV l 8 rv i 0 E0 = .ok xs b := by rw [hE2]; unfold elsV appL; exact congrArg (fun t => Rl.ok t b) (List.append_nil xs)
      rw [e]
      exact ⟨hf, _, _, by rw [hxl]; rfl, fun lo hlo => by rw [← hxl]; exact qv_kp hQ.out hRm.out.1 (by rw [← HG.out]; exact hlo) (by unfold maxLen; omega)⟩
end Go.Proofs.YtolkdmhjomampaaDoor
