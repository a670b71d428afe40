/-
  FrW; FzA: texts of one kind in one file; each part says what it holds.
-/
import Derived.WalkKit
import Derived.Test.YteonkiajgfkieaaGreatDoorShelf
import Derived.Test.YteonkiajgfkieaaGreatDoorM04
import Derived.Deep.CutBlock
import Derived.Deep.LoopGhost
import Derived.Deep.CutRange
import Derived.Lib.Hide
import Derived.Test.YteonkiajgfkieaaGreatDoorM05
import Derived.Shelf.Spec.BitsCarry
import Derived.Laws.ResultCell
import Derived.Test.YteonkiajgfkieaaGreatDoorM06
import Derived.Test.YteonkiajgfkieaaGreatDoorM00

/-! Package frac: wide numbers (product, plus, sign, abs): each gives the number of 128 bits that it should, for every number of less than 2^126 in size. Nothing that was there turns. -/
namespace Go.Proofs.YteonkiajgfkieaaGreatDoor
open Go.RowKit Go.Shelf

theorem add64 (x y c : Int) (hx : 0 ≤ x) (hy : 0 ≤ y) (hc0 : 0 ≤ c) (hc : c ≤ 1) (hx' : x < 18446744073709551616) (hy' : y < 18446744073709551616) (w : World) : (callFunc 103 #[.int .u64 x, .int .u64 y, .int .u64 c]).run Tryz.prog w =
    .ok (.value (.tuple #[.int .u64 ((x + y + c) % 18446744073709551616), .int .u64 ((x + y + c) / 18446744073709551616)])) w := by
  obtain ⟨x, rfl⟩ := Int.eq_ofNat_of_zero_le hx
  obtain ⟨y, rfl⟩ := Int.eq_ofNat_of_zero_le hy
  obtain ⟨c, rfl⟩ := Int.eq_ofNat_of_zero_le hc0
  rw [run_callFunc_extern Tryz.func103 (by kernel_rfl) (by kernel_rfl) (by kernel_rfl) (e := add64Entry) (by kernel_rfl), run_add64 x y c (by omega) (by omega) (by omega) (by omega)]
  simp only [Result.andThen]
theorem add64_0 (x y : Int) (hx : 0 ≤ x) (hy : 0 ≤ y) (hx' : x < 18446744073709551616) (hy' : y < 18446744073709551616) (w : World) : (callFunc 103 #[.int .u64 x, .int .u64 y, .int .u64 0]).run Tryz.prog w =
    .ok (.value (.tuple #[.int .u64 ((x + y) % 18446744073709551616), .int .u64 ((x + y) / 18446744073709551616)])) w := by
  simpa using add64 x y 0 hx hy (Int.le_refl 0) (by decide) hx' hy' w
/-- The halves of a number of 128 bits. -/
def hiW (T : Int) : Int := T / 18446744073709551616 % 18446744073709551616
def loW (T : Int) : Int := T % 18446744073709551616
def wide (T : Int) : Value := .agg #[.int .u64 (hiW T), .int .u64 (loW T)]
theorem hiW_0 (T : Int) : 0 ≤ hiW T := by unfold hiW; omega
theorem hiW_1 (T : Int) : hiW T < 18446744073709551616 := by unfold hiW; omega
theorem loW_0 (T : Int) : 0 ≤ loW T := by unfold loW; omega
theorem loW_1 (T : Int) : loW T < 18446744073709551616 := by unfold loW; omega
/-- A call's result is a wide number. -/
def RetV (w : World) (T : Int) (e : Ending) (w' : World) : Prop := e = .returned (.agg #[.int .u64 (hiW T), .int .u64 (loW T)]) ∧ Fur w w'
theorem load_wide (w : World) (b : Nat) (n d : Int) (h0 : w.cell? ⟨b, 0, none⟩ = some (.int .u64 n)) (h1 : w.cell? ⟨b, 1, none⟩ = some (.int .u64 d)) :
    (loadVar 91 ⟨b, 0, none⟩).run Tryz.prog w = .ok (.agg #[.int .u64 n, .int .u64 d]) w := by
  go_simp
/-- A wide number lies in block B. -/
def WBox (W : World) (B : Nat) (h l : Int) : Prop := W.heap[B]? = some (.cells #[.int .u64 h, .int .u64 l] 91 (0, 0))
theorem WBox.c0 {W : World} {B : Nat} {n d : Int} (h : WBox W B n d) : W.cell? ⟨B, 0, none⟩ = some (.int .u64 n) := by unfold WBox at h; simp [World.cell?, h]
theorem WBox.c1 {W : World} {B : Nat} {n d : Int} (h : WBox W B n d) : W.cell? ⟨B, 1, none⟩ = some (.int .u64 d) := by unfold WBox at h; simp [World.cell?, h]
theorem WBox.f0 {W : World} {B : Nat} {n d : Int} (h : WBox W B n d) (j : Nat) : W.frozen? ⟨B, j, none⟩ = false := by unfold WBox at h; simp [World.frozen?, h]
theorem WBox.lt {W : World} {B : Nat} {n d : Int} (h : WBox W B n d) : B < W.heap.size := by
  unfold WBox at h
  rcases Nat.lt_or_ge B W.heap.size with k | k
  · exact k
  · rw [Array.getElem?_eq_none k] at h; cases h
theorem WBox.on {W W' : World} {B : Nat} {n d : Int} (h : WBox W B n d) (hf : Fur W W') : WBox W' B n d := by
  have k := h.lt
  unfold WBox at *
  rw [Below.block hf.b B k]; exact h
theorem wbox1 (w : World) (a b : Int) : WBox (w.alloc (.cells #[.int .u64 a, .int .u64 b] 91)) w.heap.size a b ∧ Fur w (w.alloc (.cells #[.int .u64 a, .int .u64 b] 91)) := by
  refine ⟨?_, (Fur.refl w).alloc _⟩
  show (w.heap.push _)[w.heap.size]? = _
  rw [Array.getElem?_push, if_pos rfl]
theorem results_cell {fn : Func} {p : Tmp} {ty : TypeId} (h : fn.results = #[.cell p ty]) (tmps : Array Value) (P : Program) (w : World) :
    (results fn tmps).run P w = ((asAddr (tmps.getD p undef)).run P w).andThen fun a w₁ => (loadVar ty a).run P w₁ := by
  simp only [results, h]
  simp [Sem.run_bind, Result.andThen]
/-- A function that gives back a wide number ends: it lies in the result's cell. -/
theorem w_ret {fn : Func} {p : Tmp} (hres : fn.results = #[.cell p 91]) {tmps : Array Value} {B : Nat} {T h l : Int} {w W : World}
    (hp : tmps.getD p undef = .pointer (some ⟨B, 0, none⟩)) (k0 : W.cell? ⟨B, 0, none⟩ = some (.int .u64 h)) (k1 : W.cell? ⟨B, 1, none⟩ = some (.int .u64 l)) (hf : Fur w W) (eh : h = hiW T) (el : l = loW T) :
    bodyPost Tryz.prog fn (RetV w T) Exit.ret { tmps := tmps, defers := [] } W := by
  refine bodyPost_ret (v := .agg #[.int .u64 h, .int .u64 l]) ?_ rfl ⟨by rw [eh, el], hf⟩
  have e : (asAddr (.pointer (some ⟨B, 0, none⟩))).run Tryz.prog W = .ok ⟨B, 0, none⟩ W := by go_simp
  have L := load_wide _ _ _ _ k0 k1
  rw [results_cell hres, hp, e]
  simp only [Result.andThen]
  exact L
/-- .. in a new cell. -/
theorem w_ret_new {fn : Func} {p : Tmp} (hres : fn.results = #[.cell p 91]) {tmps : Array Value} {T h l : Int} {w W : World}
    (hp : tmps.getD p undef = .pointer (some ⟨W.heap.size, 0, none⟩)) (hf : Fur w W) (eh : h = hiW T) (el : l = loW T) :
    bodyPost Tryz.prog fn (RetV w T) Exit.ret { tmps := tmps, defers := [] } (W.alloc (.cells #[.int .u64 h, .int .u64 l] 91)) :=
  w_ret hres hp (cell_new W _ _ _).1 (cell_new W _ _ _).2 (hf.alloc _) eh el
theorem w_ret_at {fn : Func} {p : Tmp} (hres : fn.results = #[.cell p 91]) {tmps : Array Value} {B : Nat} {T h l : Int} {w W : World}
    (hp : tmps.getD p undef = .pointer (some ⟨B, 0, none⟩)) (hB : B = W.heap.size) (hf : Fur w W) (eh : h = hiW T) (el : l = loW T) :
    bodyPost Tryz.prog fn (RetV w T) Exit.ret { tmps := tmps, defers := [] } (W.alloc (.cells #[.int .u64 h, .int .u64 l] 91)) := by
  subst hB
  exact w_ret_new hres hp hf eh el
theorem hiW_nn {T : Int} (h0 : 0 ≤ T) (h1 : T < 1000000000000000000000000000000000000) : T / 18446744073709551616 = hiW T := by unfold hiW; omega
theorem prod_nn {n d : Int} (n0 : 0 ≤ n) (n1 : n ≤ 1000000000000000) (d0 : 0 ≤ d) (d1 : d ≤ 1000000000000000) : 0 ≤ n * d ∧ n * d ≤ 1000000000000000000000000000000 := by
  refine ⟨Int.mul_nonneg n0 d0, ?_⟩
  have k := Int.mul_le_mul n1 d1 d0 (show (0 : Int) ≤ 1000000000000000 by decide)
  omega
set_option maxHeartbeats 800000 in
theorem product_nn (n d : Int) (n0 : 0 ≤ n) (n1 : n ≤ 1000000000000000) (d0 : 0 ≤ d) (d1 : d ≤ 1000000000000000) (w : World) :
    Calls Tryz.prog 79 #[.int .i64 n, .int .i64 d] w (RetV w (n * d)) := by
  obtain ⟨m0, m1⟩ := prod_nn n0 n1 d0 d1
  have CM := Lib.hid (fun w => Tryz.bits_Mul64 n.toNat d.toNat (by omega) (by omega) w)
  have en : ((n.toNat : Nat) : Int) = n := by omega
  have ed : ((d.toNat : Nat) : Int) = d := by omega
  rw [en, ed] at CM
  obtain ⟨M, hM⟩ : ∃ M, n.toNat * d.toNat = M := ⟨_, rfl⟩
  have hMi : n * d = (M : Int) := by rw [← hM, Int.natCast_mul, en, ed]
  rw [hM] at CM
  rw [hMi] at m0 m1 ⊢
  clear en ed hM hMi
  go_enter Tryz.func79, Tryz.ntmps79
  go_wp2_with fail
  go_at_call 102; refine (CM.out _).mono ?_; rintro e1 w1 ⟨rfl, rfl⟩
  go_wp2
  exact w_ret_new rfl rfl (Fur.refl _) (hiW_nn (by omega) (by omega)) rfl
theorem prod_neg {n d : Int} (h : n < 0) (n1 : -1000000000000000 ≤ n) (d0 : 0 ≤ d) : (((n + 18446744073709551616).toNat * d.toNat : Nat) : Int) = n * d + d * 18446744073709551616 := by
  rw [Int.natCast_mul, Int.toNat_of_nonneg (by omega), Int.toNat_of_nonneg d0, Int.add_mul, Int.mul_comm 18446744073709551616]
set_option maxHeartbeats 800000 in
theorem product_ng (n d : Int) (n0 : n < 0) (n1 : -1000000000000000 ≤ n) (d0 : 0 ≤ d) (d1 : d ≤ 1000000000000000) (w : World) :
    Calls Tryz.prog 79 #[.int .i64 n, .int .i64 d] w (RetV w (n * d)) := by
  obtain ⟨m0, m1⟩ := prod_nn (n := -n) (by omega) (by omega) d0 d1
  rw [Int.neg_mul] at m0 m1
  have CM := Lib.hid (fun w => Tryz.bits_Mul64 (n + 18446744073709551616).toNat d.toNat (by omega) (by omega) w)
  have en : (((n + 18446744073709551616).toNat : Nat) : Int) = n + 18446744073709551616 := by omega
  have ed : ((d.toNat : Nat) : Int) = d := by omega
  have k := prod_neg n0 n1 d0
  rw [en, ed] at CM
  obtain ⟨M, hM⟩ : ∃ M, (n + 18446744073709551616).toNat * d.toNat = M := ⟨_, rfl⟩
  rw [hM] at CM k
  have e1 : (M : Int) / 18446744073709551616 = (n * d) / 18446744073709551616 + d := by omega
  have e2 : (M : Int) % 18446744073709551616 = (n * d) % 18446744073709551616 := by omega
  have HM := Lib.hid (And.intro e1 e2)
  generalize n * d = T at *
  have hw : IntKind.u64.wrap n = n + 18446744073709551616 := by rw [IntKind.wrap_u64]; omega
  clear en ed hM k e1 e2
  go_enter Tryz.func79, Tryz.ntmps79
  go_wp2_with fail
  go_at_call 102; refine (CM.out _).mono ?_; rintro e1 w1 ⟨rfl, rfl⟩
  go_wp2
  exact w_ret_new rfl rfl (Fur.refl _) (by first | (rw [IntKind.wrap_u64]; unfold hiW; have := HM.out.1; omega) | (unfold hiW; have := HM.out.1; omega)) (by unfold loW; have := HM.out.2; omega)
theorem product_any (n d : Int) (n0 : -1000000000000000 ≤ n) (n1 : n ≤ 1000000000000000) (d0 : 0 ≤ d) (d1 : d ≤ 1000000000000000) (w : World) :
    Calls Tryz.prog 79 #[.int .i64 n, .int .i64 d] w (RetV w (n * d)) := by
  by_cases h : n < 0
  · exact product_ng n d h n0 d0 d1 w
  · exact product_nn n d (by omega) n1 d0 d1 w
end Go.Proofs.YteonkiajgfkieaaGreatDoor

/-! Package frac: Valid, fraction, orZero and Of. For every two ints; nothing that was there turns. -/
namespace Go.Proofs.YteonkiajgfkieaaGreatDoor
open Go.RowKit

theorem inB_dec (n : Int) : inB n = (decide (-1000000000000000 ≤ n) && decide (n ≤ 1000000000000000)) := rfl
theorem gcd_ok {n d : Int} (h : 0 < d) : (gcdV n d == 1) = okF n d := by
  have e : Int.gcd n d = Nat.gcd n.natAbs d.toNat := by rw [show d.toNat = d.natAbs by omega]; rfl
  cases hn : inB n
  · have k := inB_f hn
    unfold gcdV okF
    rw [if_neg (by rw [hn]; intro h; cases h.1)]
    have : (decide (-1000000000000000 ≤ n) && decide (n ≤ 1000000000000000)) = false := by rw [← inB_dec]; exact hn
    simp only [Bool.and_eq_false_iff, decide_eq_false_iff_not] at this
    rcases this with t | t <;> simp [t]
  · cases hd : inB d
    · have k := inB_f hd
      unfold gcdV okF
      rw [if_neg (by rw [hd]; intro h; cases h.2)]
      have t : ¬ d ≤ 1000000000000000 := by omega
      simp [t]
    · obtain ⟨a, b⟩ := inB_t hn
      obtain ⟨a', b'⟩ := inB_t hd
      unfold gcdV okF
      rw [if_pos ⟨hn, hd⟩, e, decide_eq_true a, decide_eq_true b, decide_eq_true b', decide_eq_true (show 1 ≤ d by omega)]
      simp only [Bool.true_and]
      rw [Bool.eq_iff_iff, beq_iff_eq, decide_eq_true_iff]
      omega
theorem nf_valid (n d : Int) (w : World) : Calls Tryz.prog 56 #[.agg #[.int .i64 n, .int .i64 d]] w (RetB w (okF n d)) := by
  obtain ⟨p0, f0⟩ := box1 w n d
  by_cases h : 0 < d
  · rw [← gcd_ok h]
    have CG := Lib.hid (fun w => num_gcd n d w)
    generalize gcdV n d = G at *
    have c00 := p0.c0
    have c01 := p0.c1
    go_enter Tryz.func56, Tryz.ntmps56
    go_wp2_with fail
    go_at_call 88; refine (CG.out _).mono ?_; rintro e1 w1 ⟨rfl, f1⟩
    go_wp2
    go_ret
    exact ⟨rfl, f0.trans f1⟩
  · have e : okF n d = false := by unfold okF; rw [decide_eq_false (show ¬ 1 ≤ d by omega)]; rfl
    rw [e]
    clear e
    have c00 := p0.c0
    have c01 := p0.c1
    go_enter Tryz.func56, Tryz.ntmps56
    go_wp2
    go_ret
    exact ⟨rfl, f0⟩

/-- A fraction. -/
def RetF (w : World) (n d : Int) (e : Ending) (w' : World) : Prop := e = .returned (.agg #[.int .i64 n, .int .i64 d]) ∧ Fur w w'
theorem f_ret {fn : Func} {p : Tmp} (hres : fn.results = #[.cell p 37]) {tmps : Array Value} {B : Nat} {h l : Int} {w W : World}
    (hp : tmps.getD p undef = .pointer (some ⟨B, 0, none⟩)) (k0 : W.cell? ⟨B, 0, none⟩ = some (.int .i64 h)) (k1 : W.cell? ⟨B, 1, none⟩ = some (.int .i64 l)) (hf : Fur w W) :
    bodyPost Tryz.prog fn (RetF w h l) Exit.ret { tmps := tmps, defers := [] } W := by
  refine bodyPost_ret (v := .agg #[.int .i64 h, .int .i64 l]) ?_ rfl ⟨rfl, hf⟩
  have e : (asAddr (.pointer (some ⟨B, 0, none⟩))).run Tryz.prog W = .ok ⟨B, 0, none⟩ W := by go_simp
  have L := load_frac _ _ _ _ k0 k1
  rw [results_cell hres, hp, e]
  simp only [Result.andThen]
  exact L
/-- What an argument counts for. -/
def ozN (n d : Int) : Int := if okF n d = true then n else 0
def ozD (n d : Int) : Int := if okF n d = true then d else 1
theorem oz_ok (n d : Int) : OkF (ozN n d) (ozD n d) ∧ fv (ozN n d) (ozD n d) = fz n d := by
  unfold ozN ozD
  cases h : okF n d
  · refine ⟨?_, ?_⟩
    · exact ok01
    · have k := fz_f h
      exact k
  · exact ⟨okF_t h, fz_t h⟩
set_option maxHeartbeats 800000 in
theorem orZero_any (n d : Int) (w : World) : Calls Tryz.prog 78 #[.agg #[.int .i64 n, .int .i64 d]] w (RetF w (ozN n d) (ozD n d)) := by
  obtain ⟨p0, p1, f0⟩ := box2 w n d 0 0
  have CV := Lib.hid (fun w => nf_valid n d w)
  unfold ozN ozD
  have c00 := p0.c0
  have c01 := p0.c1
  cases h : okF n d
  all_goals
    rw [h] at CV
    clear h
    go_enter Tryz.func78, Tryz.ntmps78
    go_wp2_with fail
    go_at_call 56; refine (CV.out _).mono ?_; rintro e1 w1 ⟨rfl, f1⟩
    clear c00 c01
    replace p0 := p0.on f1
    replace p1 := p1.on f1
    replace f0 := f0.trans f1
    have c00 := p0.c0
    have c01 := p0.c1
    have c10 := p1.c0
    have c11 := p1.c1
    have z10 := p1.f0 0
    have z11 := p1.f0 1
    clear f1
    go_wp2
    try simp only [Exit.inBlock, Exit.then]
    exact f_ret rfl rfl (frac_put w1 _ _ _ _ _ _ _ p1).1 (frac_put w1 _ _ _ _ _ _ _ p1).2 (fur_put f0 (by omega) _ _)
end Go.Proofs.YteonkiajgfkieaaGreatDoor
