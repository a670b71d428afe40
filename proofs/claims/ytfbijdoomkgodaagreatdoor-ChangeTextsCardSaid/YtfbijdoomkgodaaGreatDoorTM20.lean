/-
  FrC; WideN; FrD: texts of one kind in one file; each part says what it holds.
-/
import Derived.Test.YtfbijdoomkgodaaGreatDoorTM16
import Derived.Test.YtfbijdoomkgodaaGreatDoorTK01

/-! The reference of package frac: times gives the product of two ints from 0 to 1000000000000000 as fourteen digits in base 1000. Nothing that was there turns. -/
namespace Go.Proofs.YtfbijdoomkgodaaGreatDoor
open Go.RowKit

/-- In the outer loop of the multiplication. -/
structure ToAt (A B i a : Nat) (o : List Int) : Prop where
  len : o.length = 14
  digs : WD o
  rest : a = A / 1000 ^ i
  val : wv o = (A % 1000 ^ i) * B
theorem to_start (A B : Nat) : ToAt A B 0 A (List.replicate 14 0) := ⟨by simp, wd_zeros 14, by simp, by rw [wv_zeros, Nat.pow_zero, Nat.mod_one, Nat.zero_mul]⟩
theorem pow_place {A i k : Nat} (h : 0 < A / 1000 ^ i) (hA : A < 1000 ^ k) : i < k := by
  rcases Nat.lt_or_ge i k with g | g
  · exact g
  · have p := Nat.pow_le_pow_right (show 0 < 1000 by decide) g
    rw [Nat.div_eq_of_lt (by omega)] at h
    omega
theorem to_in {A B i a : Nat} {o : List Int} (h : ToAt A B i a o) : TmAt ((A % 1000 ^ (i + 1)) * B) i o 0 (a % 1000) B := by
  refine ⟨h.len, h.digs, by decide, Nat.mod_lt _ (by decide), ?_⟩
  rw [h.val, h.rest, Nat.mod_pow_succ, Nat.add_mul, Nat.zero_add, Nat.mul_assoc]
theorem to_next {A B i a k : Nat} {o : List Int} {d : Nat} (h : ToAt A B i a o) {o2 : List Int} (g : TmAt ((A % 1000 ^ (i + 1)) * B) k o2 0 d 0) : ToAt A B (i + 1) (a / 1000) o2 :=
  ⟨g.len, g.digs, by rw [h.rest, Nat.div_div_eq_div_mul, Nat.pow_succ], by have v := g.val; simpa using v⟩
theorem to_end {A B i : Nat} {o : List Int} (h : ToAt A B i 0 o) : Wide o (A * B) := by
  refine ⟨h.len, h.digs, ?_⟩
  rw [h.val]
  have e := Nat.div_add_mod A (1000 ^ i)
  rw [← h.rest] at e
  rw [show A % 1000 ^ i = A by omega]
theorem to_small {A B i : Nat} (hA : A ≤ 1000000000000000) (hB : B ≤ 1000000000000000) : (A % 1000 ^ i) * B < 1000 ^ 11 := by
  have a : A % 1000 ^ i ≤ A := Nat.mod_le _ _
  have b := Nat.mul_le_mul (Nat.le_trans a hA) hB
  have c : 1000000000000000 * 1000000000000000 < 1000 ^ 11 := by decide
  omega

theorem tm_step0 {T k : Nat} {o : List Int} {carry d : Nat} (h : TmAt T k o carry d 0) (hk : k < 14) {r : Nat} (hr : o.getD k 0 = (r : Int)) :
    TmAt T (k + 1) (o.set k (((carry : Int) + r) % 1000)) ((carry + r) / 1000) d 0 := by
  have g := tm_step h hk hr
  simp only [Nat.zero_mod, Nat.mul_zero, Nat.add_zero, Nat.zero_div] at g
  rwa [show (((carry + r) % 1000 : Nat) : Int) = ((carry : Int) + r) % 1000 by omega] at g
theorem cast_mod (y r m : Nat) : (((y + r + m) % 1000 : Nat) : Int) = ((y : Int) + r + m) % 1000 := by omega
theorem cast_div (y r m : Nat) : ((y : Int) + r + m) / 1000 = (((y + r + m) / 1000 : Nat) : Int) := by omega
theorem cast_div1 (c : Nat) : (c : Int) / 1000 = ((c / 1000 : Nat) : Int) := by omega
theorem cast_mul (d c : Nat) : (d : Int) % 1000 * ((c : Int) % 1000) = ((d % 1000 * (c % 1000) : Nat) : Int) := by rw [Int.natCast_mul, Int.natCast_emod, Int.natCast_emod]; rfl
theorem div_step (B k i : Nat) (h : i ≤ k) : B / 1000 ^ (k - i) / 1000 = B / 1000 ^ (k + 1 - i) := by
  rw [Nat.div_div_eq_div_mul, ← Nat.pow_succ, show (k - i).succ = k + 1 - i by omega]

set_option maxHeartbeats 3200000 in
set_option maxRecDepth 100000 in
theorem rtimes_any (A B : Nat) (hA : A ≤ 1000000000000000) (hB : B ≤ 1000000000000000) (w : World) :
    Calls Tryz.prog 152 #[.int .i64 A, .int .i64 B] w (RwW w (A * B)) := by
  obtain ⟨i0, hi, hz0, hz1, hz2⟩ := info_parts infoI
  go_enter Tryz.func152, Tryz.ntmps152
  go_wp2_with (at_make; refine wpList_make_full _ rfl (.const (.int .i64 14)) (.const (.int .i64 14)) 156 rfl w.heap.size 3 i0 (.int .i64 0) 1 Tryz.underlying156 hi hz0 hz1 .i64 .i64 _ _ 14 rfl rfl (by omega) (by omega) (by rw [hz2]; omega) (by unfold maxLen; omega) (Nat.le_refl _) ?_; intro w1 hown0 hgrow0)
  have hown1 : w1.ownsRow w.heap.size 3 1 (.slice (some ⟨w.heap.size, 0, none⟩) 14 14) 14 (cs (List.replicate 14 0)) := by
    rw [made_zero] at hown0
    exact hown0
  have hf1 : Fuw w w1 := Below.grown (Fuw.refl w) hgrow0 (Nat.le_refl _) (by intro k hk; cases hk)
  clear hown0 hgrow0
  go_wp2
  go_loopw [0, 6] (fun av iv wr => ∃ (a i : Nat) (o : List Int), av = .int .i64 a ∧ iv = .int .i64 i ∧ a ≤ 1000000000000000 ∧ i ≤ 6 ∧ wr.ownsRow w.heap.size 3 1 (.slice (some ⟨w.heap.size, 0, none⟩) 14 14) 14 (cs o) ∧ Fuw w wr ∧ Hid (ToAt A B i a o)) (fun av _ _ => (RowKit.intOf av).toNat)
  case atStart => exact ⟨A, 0, _, rfl, rfl, hA, by decide, hown1, hf1, to_start A B⟩
  case round =>
    obtain ⟨a, i, o, rfl, rfl, ha, hi6, hown, hf, HO⟩ := hrel
    by_cases ha0 : a = 0
    · subst ha0
      have HW := Lib.hid (to_end HO.out)
      have hI := IsS.of14 hown
      go_wp2
      go_ret
      exact ⟨o, _, _, HW.out, rfl, hI, hf⟩
    · have hap : (0 : Int) < a := by omega
      have hi5 : i < 6 := by
        have e := HO.out.rest
        exact pow_place (A := A) (by omega) (Nat.lt_of_le_of_lt hA (by decide))
      have HI := Lib.hid (to_in HO.out)
      have hd1 : a % 1000 < 1000 := Nat.mod_lt _ (by decide)
      clear ha0
      have i7 : i + 1 ≤ 6 := by omega
      go_wp2
      go_loopw [8, 9, 10] (fun cv yv kv wr2 => ∃ (c y k : Nat) (o2 : List Int), cv = .int .i64 c ∧ yv = .int .i64 y ∧ kv = .int .i64 k ∧ c ≤ 1000000000000000 ∧ y < 1000 ∧ i ≤ k ∧ k ≤ 11 ∧ wr2.ownsRow w.heap.size 3 1 (.slice (some ⟨w.heap.size, 0, none⟩) 14 14) 14 (cs o2) ∧ Fuw w wr2 ∧ Hid (c = B / 1000 ^ (k - i) ∧ TmAt ((A % 1000 ^ (i + 1)) * B) k o2 y (a % 1000) c)) (fun _ _ kv _ => (11 - RowKit.intOf kv).toNat)
      case atStart => exact ⟨B, 0, i, o, rfl, rfl, rfl, hB, by decide, Nat.le_refl _, by omega, hown, hf, by rw [Nat.sub_self, Nat.pow_zero, Nat.div_one], HI.out⟩
      case round =>
        obtain ⟨c, y, k, o2, rfl, rfl, rfl, hc, hy, hik, hk, hown2, hf2, HT⟩ := hrel
        by_cases hz : c = 0 ∧ y = 0
        · obtain ⟨rfl, rfl⟩ := hz
          have HN := Lib.hid (to_next HO.out HT.out.2)
          go_wp2
          go_roundw
          case rel => exact ⟨a / 1000, i + 1, o2, (congrArg (Value.int .i64) (by omega)), by go_num, by omega, i7, hown2, hf2, HN.out⟩
          case measure => simp [RowKit.intOf]; omega
        · have hk10 : k < 11 := by
            by_cases hcp : 0 < c
            · have e := HT.out.1
              have := pow_place (A := B) (i := k - i) (k := 6) (by omega) (Nat.lt_of_le_of_lt hB (by decide))
              omega
            · exact tm_place HT.out.2 (to_small hA hB) (by omega)
          have hkl : k < o2.length := by have := HT.out.2.len; omega
          obtain ⟨r, hr⟩ : ∃ r : Nat, o2.getD k 0 = (r : Int) := ⟨(o2.getD k 0).toNat, by have := (wd_getD HT.out.2.digs k).1; omega⟩
          have hr1 := (wd_getD HT.out.2.digs k).2
          rw [hr] at hr1
          have HC := Lib.hid (show c / 1000 = B / 1000 ^ (k + 1 - i) by rw [HT.out.1]; exact div_step B k i hik)
          have HQ := Lib.hid (cast_div1 c)
          have HZ := Lib.hid (show i ≤ k + 1 ∧ k + 1 ≤ 11 by omega)
          have hk14 : (k : Int) < 14 := by omega
          have hco := hown2.cellAt k (by omega)
          rw [cs_getD hkl, hr] at hco
          have hfz := hown2.frozenAt k
          by_cases hcp : 0 < c
          · have hm : a % 1000 * (c % 1000) ≤ 999 * 999 := Nat.mul_le_mul (by omega) (by omega)
            obtain ⟨m, hmI⟩ : ∃ m : Nat, m = a % 1000 * (c % 1000) := ⟨_, rfl⟩
            have hmc : (a : Int) % 1000 * ((c : Int) % 1000) = m := by rw [hmI]; exact cast_mul a c
            have HS := tm_step HT.out.2 (by omega) hr
            rw [← hmI] at hm HS
            rw [cast_mod y r m] at HS
            have HS2 := Lib.hid HS
            have hst := (hown2.stored k (.int .i64 (((y : Int) + r + m) % 1000))).1
            rw [cs_set] at hst
            have HST := Lib.hid hst
            have hf3 := fuw_set (u := .int .i64 (((y : Int) + r + m) % 1000)) (j := k) hf2 (Nat.le_refl w.heap.size)
            have HB := Lib.hid (show (y + r + m) / 1000 < 1000 by omega)
            have HV := Lib.hid (cast_div y r m)
            have hcI : (0 : Int) < c := by omega
            clear HS hmI hr hst hkl hz
            go_wp2
            go_roundw
            case rel => exact ⟨c / 1000, (y + r + m) / 1000, k + 1, _, congrArg _ HQ.out, congrArg _ HV.out, by go_num, by omega, HB.out, HZ.out.1, HZ.out.2, HST.out, hf3, HC.out, HS2.out⟩
            case measure => simp [RowKit.intOf]; omega
          · have hc0 : c = 0 := by omega
            subst hc0
            have hyI : (0 : Int) < y := by omega
            have HS2 := Lib.hid (tm_step0 HT.out.2 (by omega) hr)
            have hst := (hown2.stored k (.int .i64 (((y : Int) + r) % 1000))).1
            rw [cs_set] at hst
            have HST := Lib.hid hst
            have hf3 := fuw_set (u := .int .i64 (((y : Int) + r) % 1000)) (j := k) hf2 (Nat.le_refl w.heap.size)
            have HB := Lib.hid (show (y + r) / 1000 < 1000 by omega)
            have HV := Lib.hid (show ((y : Int) + r) / 1000 = (((y + r) / 1000 : Nat) : Int) by omega)
            clear hr hst hkl hz hcp
            go_wp2
            go_roundw
            case rel => exact ⟨0, (y + r) / 1000, k + 1, _, rfl, congrArg _ HV.out, by go_num, by omega, HB.out, HZ.out.1, HZ.out.2, HST.out, hf3, HC.out, HS2.out⟩
            case measure => simp [RowKit.intOf]; omega
end Go.Proofs.YtfbijdoomkgodaaGreatDoor

/-! Plain mathematics of wide numbers (fourteen digits in base 1000): what one round of an addition, a subtraction, a comparison, a division and a narrowing keeps. No program, no world. -/
namespace Go.Proofs.YtfbijdoomkgodaaGreatDoor

/-- After k rounds of an addition. -/
structure PlAt (x y : List Int) (k : Nat) (o : List Int) (c : Int) : Prop where
  len : o.length = 14
  digs : WD o
  c0 : 0 ≤ c
  c1 : c ≤ 1
  val : wv (o.take k) + 1000 ^ k * c.toNat = wv (x.take k) + wv (y.take k)
theorem pl_start (x y : List Int) : PlAt x y 0 (List.replicate 14 0) 0 := ⟨by simp, wd_zeros 14, by decide, by decide, rfl⟩
theorem pl_step {x y : List Int} {k : Nat} {o : List Int} {c p q : Int} (h : PlAt x y k o c) (hk : k < 14) (hp : x.getD k 0 = p) (hq : y.getD k 0 = q) (p0 : 0 ≤ p) (p1 : p < 1000) (q0 : 0 ≤ q) (q1 : q < 1000) :
    PlAt x y (k + 1) (o.set k ((c + p + q) % 1000)) ((c + p + q) / 1000) := by
  obtain ⟨h1, h2, h3, h4, h5⟩ := h
  refine ⟨by rw [List.length_set, h1], wd_set h2 _ (by omega) (by omega), by omega, by omega, ?_⟩
  rw [wset_take (by omega), wv_app, List.length_take, Nat.min_eq_left (by omega), wv_take, wv_take, hp, hq, Nat.pow_succ]
  have e : wv [(c + p + q) % 1000] = ((c + p + q) % 1000).toNat := by simp [wv]
  rw [e]
  have s : 1000 ^ k * ((c + p + q) % 1000).toNat + 1000 ^ k * 1000 * ((c + p + q) / 1000).toNat = 1000 ^ k * c.toNat + 1000 ^ k * p.toNat + 1000 ^ k * q.toNat := by
    rw [Nat.mul_assoc, ← Nat.mul_add, ← Nat.mul_add, ← Nat.mul_add]
    congr 1
    omega
  omega
theorem pl_end {x y o : List Int} {c : Int} {m n : Nat} (h : PlAt x y 14 o c) (hx : Wide x m) (hy : Wide y n) (hlt : m + n < 1000 ^ 14) : Wide o (m + n) := by
  obtain ⟨h1, h2, h3, h4, h5⟩ := h
  rw [List.take_of_length_le (by omega), List.take_of_length_le (by have := hx.len; omega), List.take_of_length_le (by have := hy.len; omega), hx.val, hy.val] at h5
  refine ⟨h1, h2, ?_⟩
  rcases (show c = 0 ∨ c = 1 by omega) with rfl | rfl
  · simpa using h5
  · exfalso
    have e : 1000 ^ 14 * (1 : Int).toNat = 1000 ^ 14 := by simp
    omega

/-- After k rounds of a subtraction; c is 0 or -1. -/
structure MiAt (x y : List Int) (k : Nat) (o : List Int) (c : Int) : Prop where
  len : o.length = 14
  digs : WD o
  c0 : -1 ≤ c
  c1 : c ≤ 0
  val : wv (o.take k) + wv (y.take k) = wv (x.take k) + 1000 ^ k * (-c).toNat
theorem mi_start (x y : List Int) : MiAt x y 0 (List.replicate 14 0) 0 := ⟨by simp, wd_zeros 14, by decide, by decide, rfl⟩
theorem mi_step {x y : List Int} {k : Nat} {o : List Int} {c p q d e : Int} (h : MiAt x y k o c) (hk : k < 14) (hp : x.getD k 0 = p) (hq : y.getD k 0 = q) (p0 : 0 ≤ p) (q0 : 0 ≤ q) (d0 : 0 ≤ d) (d1 : d < 1000) (e0 : -1 ≤ e) (e1 : e ≤ 0) (hd : d = c + p - q - 1000 * e) :
    MiAt x y (k + 1) (o.set k d) e := by
  obtain ⟨h1, h2, h3, h4, h5⟩ := h
  refine ⟨by rw [List.length_set, h1], wd_set h2 _ d0 d1, e0, e1, ?_⟩
  rw [wset_take (by omega), wv_app, List.length_take, Nat.min_eq_left (by omega), wv_take, wv_take, hp, hq, Nat.pow_succ]
  have e2 : wv [d] = d.toNat := by simp [wv]
  rw [e2]
  have s : 1000 ^ k * d.toNat + 1000 ^ k * q.toNat + 1000 ^ k * (-c).toNat = 1000 ^ k * p.toNat + 1000 ^ k * 1000 * (-e).toNat := by
    rw [Nat.mul_assoc, ← Nat.mul_add, ← Nat.mul_add, ← Nat.mul_add]
    congr 1
    omega
  omega
theorem mi_end {x y o : List Int} {c : Int} {m n : Nat} (h : MiAt x y 14 o c) (hx : Wide x m) (hy : Wide y n) (hle : n ≤ m) : Wide o (m - n) := by
  obtain ⟨h1, h2, h3, h4, h5⟩ := h
  have g := wv_lt h2
  rw [h1] at g
  rw [List.take_of_length_le (by omega), List.take_of_length_le (by have := hy.len; omega), List.take_of_length_le (by have := hx.len; omega), hx.val, hy.val] at h5
  refine ⟨h1, h2, ?_⟩
  rcases (show c = 0 ∨ c = -1 by omega) with rfl | rfl
  · have e : 1000 ^ 14 * (-(0 : Int)).toNat = 0 := by simp
    omega
  · have e : 1000 ^ 14 * (-(-1 : Int)).toNat = 1000 ^ 14 := by simp
    omega

/-- The comparison of two natural numbers. -/
def cmpN (m n : Nat) : Int := if m < n then -1 else if n < m then 1 else 0
theorem cmpN_lt {a b : Nat} (h : a < b) : cmpN a b = -1 := by unfold cmpN; rw [if_pos h]
theorem cmpN_gt {a b : Nat} (h : b < a) : cmpN a b = 1 := by unfold cmpN; rw [if_neg (by omega), if_pos h]
theorem cmpN_eq {a b : Nat} (h : a = b) : cmpN a b = 0 := by unfold cmpN; rw [if_neg (by omega), if_neg (by omega)]
theorem or_lt {x y : List Int} (k : Nat) (dx : WD x) (he : wv (x.drop (k + 1)) = wv (y.drop (k + 1))) {p q : Int} (hp : x.getD k 0 = p) (hq : y.getD k 0 = q) (p0 : 0 ≤ p) (h : p < q) : wv x < wv y := by
  rw [wv_cut x k, wv_cut y k, wv_drop x k, wv_drop y k, he, hp, hq]
  have a := wv_take_lt dx k
  have b : p.toNat + 1000 * wv (y.drop (k + 1)) + 1 ≤ q.toNat + 1000 * wv (y.drop (k + 1)) := by omega
  have c := Nat.mul_le_mul_left (1000 ^ k) b
  rw [Nat.mul_add, Nat.mul_one] at c
  omega

end Go.Proofs.YtfbijdoomkgodaaGreatDoor

/-! The reference of package frac: plus, minus, order, parts and narrow compute with wide numbers (fourteen digits in base 1000). Nothing that was there turns. -/
namespace Go.Proofs.YtfbijdoomkgodaaGreatDoor
open Go.RowKit

set_option maxHeartbeats 3200000 in
set_option maxRecDepth 100000 in
theorem rplus_any (ao bo : Option Addr) (x y : List Int) (ca cb m n : Nat) (w : World) (ha : IsS w ao x ca) (hb : IsS w bo y cb) (hx : Wide x m) (hy : Wide y n) (hlt : m + n < 1000 ^ 14) :
    Calls Tryz.prog 199 #[.slice ao 14 ca, .slice bo 14 cb] w (RwW w (m + n)) := by
  obtain ⟨i0, hi, hz0, hz1, hz2⟩ := info_parts infoI
  have HLT := Lib.hid hlt
  clear hlt
  go_enter Tryz.func199, Tryz.ntmps199
  go_wp2_with (at_make; refine wpList_make_full _ rfl (.tmp 9) (.tmp 9) 156 rfl w.heap.size 3 i0 (.int .i64 0) 1 Tryz.underlying156 hi hz0 hz1 .i64 .i64 _ _ 14 rfl rfl (by omega) (by omega) (by rw [hz2]; omega) (by unfold maxLen; omega) (Nat.le_refl _) ?_; intro w1 hown0 hgrow0)
  have hown1 : w1.ownsRow w.heap.size 3 1 (.slice (some ⟨w.heap.size, 0, none⟩) 14 14) 14 (cs (List.replicate 14 0)) := by
    rw [made_zero] at hown0
    exact hown0
  have hf1 : Fuw w w1 := Below.grown (Fuw.refl w) hgrow0 (Nat.le_refl _) (by intro k hk; cases hk)
  clear hown0 hgrow0
  go_wp2
  go_loopw [6, 7] (fun cv kv wr => ∃ (k : Nat) (o : List Int) (c : Int), kv = .int .i64 k ∧ k ≤ 14 ∧ cv = .int .i64 c ∧ 0 ≤ c ∧ c ≤ 1 ∧ wr.ownsRow w.heap.size 3 1 (.slice (some ⟨w.heap.size, 0, none⟩) 14 14) 14 (cs o) ∧ Fuw w wr ∧ Hid (PlAt x y k o c)) (fun _ kv _ => (14 - RowKit.intOf kv).toNat)
  case atStart => exact ⟨0, _, 0, rfl, by decide, rfl, by decide, by decide, hown1, hf1, pl_start x y⟩
  case round =>
    obtain ⟨k, o, c, rfl, hk, rfl, d0, d1, hown, hf, HA⟩ := hrel
    have lx := hx.len
    have ly := hy.len
    by_cases hlt : k < 14
    · have hol : k < o.length := by have := HA.out.len; omega
      obtain ⟨p, hp⟩ : ∃ p, x.getD k 0 = p := ⟨_, rfl⟩
      obtain ⟨q, hq⟩ : ∃ q, y.getD k 0 = q := ⟨_, rfl⟩
      obtain ⟨p0, p1⟩ := wd_getD hx.digs k
      obtain ⟨q0, q1⟩ := wd_getD hy.digs k
      obtain ⟨b1, o1, rfl, _, cx⟩ := (ha.onw hf).at_ (by omega)
      obtain ⟨b2, o2, rfl, _, cy⟩ := (hb.onw hf).at_ (by omega)
      have hcx := cx k (by omega)
      have hcy := cy k (by omega)
      rw [hp] at hcx p0 p1
      rw [hq] at hcy q0 q1
      have HS := Lib.hid (pl_step HA.out hlt hp hq p0 p1 q0 q1)
      have hco := hown.cellAt k (by omega)
      rw [cs_getD hol] at hco
      have hfz := hown.frozenAt k
      have s1 : IntKind.i64.wrap (c + p) = c + p := IntWalk.i64_in _ (by omega)
      have s2 : IntKind.i64.wrap (c + p + q) = c + p + q := IntWalk.i64_in _ (by omega)
      have hk14 : (k : Int) < 14 := by omega
      have k14 : k + 1 ≤ 14 := by omega
      have hv : 0 ≤ c + p + q := by omega
      have HV := Lib.hid (show 0 ≤ (c + p + q) / 1000 ∧ (c + p + q) / 1000 ≤ 1 by omega)
      clear cx cy hp hq lx ly
      go_wp2_with fail
      go_quiet (fail)
      clear s1 s2
      have hownq : (wr.drewN nq).ownsRow w.heap.size 3 1 (.slice (some ⟨w.heap.size, 0, none⟩) 14 14) 14 (cs o) := hown
      have hst := (hownq.stored k (.int .i64 ((c + p + q) % 1000))).1
      rw [cs_set] at hst
      have HST := Lib.hid hst
      have hf3 := fuw_set (u := .int .i64 ((c + p + q) % 1000)) (j := k) (hf.trans (fuw_drewN wr nq)) (Nat.le_refl w.heap.size)
      clear hst hownq hol
      go_wp2
      go_roundw
      case rel => exact ⟨k + 1, _, _, by go_num, k14, rfl, HV.out.1, HV.out.2, HST.out, hf3, HS.out⟩
      case measure => simp [RowKit.intOf]; omega
    · have e : k = 14 := by omega
      subst e
      have HW := Lib.hid (pl_end HA.out hx hy HLT.out)
      have hI := IsS.of14 hown
      clear hlt
      go_wp2
      go_ret
      exact ⟨o, _, _, HW.out, rfl, hI, hf⟩

set_option maxHeartbeats 3200000 in
set_option maxRecDepth 100000 in
theorem rminus_any (ao bo : Option Addr) (x y : List Int) (ca cb m n : Nat) (w : World) (ha : IsS w ao x ca) (hb : IsS w bo y cb) (hx : Wide x m) (hy : Wide y n) (hle : n ≤ m) :
    Calls Tryz.prog 201 #[.slice ao 14 ca, .slice bo 14 cb] w (RwW w (m - n)) := by
  obtain ⟨i0, hi, hz0, hz1, hz2⟩ := info_parts infoI
  have HLE := Lib.hid hle
  clear hle
  go_enter Tryz.func201, Tryz.ntmps201
  go_wp2_with (at_make; refine wpList_make_full _ rfl (.tmp 9) (.tmp 9) 156 rfl w.heap.size 3 i0 (.int .i64 0) 1 Tryz.underlying156 hi hz0 hz1 .i64 .i64 _ _ 14 rfl rfl (by omega) (by omega) (by rw [hz2]; omega) (by unfold maxLen; omega) (Nat.le_refl _) ?_; intro w1 hown0 hgrow0)
  have hown1 : w1.ownsRow w.heap.size 3 1 (.slice (some ⟨w.heap.size, 0, none⟩) 14 14) 14 (cs (List.replicate 14 0)) := by
    rw [made_zero] at hown0
    exact hown0
  have hf1 : Fuw w w1 := Below.grown (Fuw.refl w) hgrow0 (Nat.le_refl _) (by intro k hk; cases hk)
  clear hown0 hgrow0
  go_wp2
  go_loopw [6, 7] (fun cv kv wr => ∃ (k : Nat) (o : List Int) (c : Int), kv = .int .i64 k ∧ k ≤ 14 ∧ cv = .int .i64 c ∧ -1 ≤ c ∧ c ≤ 0 ∧ wr.ownsRow w.heap.size 3 1 (.slice (some ⟨w.heap.size, 0, none⟩) 14 14) 14 (cs o) ∧ Fuw w wr ∧ Hid (MiAt x y k o c)) (fun _ kv _ => (14 - RowKit.intOf kv).toNat)
  case atStart => exact ⟨0, _, 0, rfl, by decide, rfl, by decide, by decide, hown1, hf1, mi_start x y⟩
  case round =>
    obtain ⟨k, o, c, rfl, hk, rfl, d0, d1, hown, hf, HA⟩ := hrel
    have lx := hx.len
    have ly := hy.len
    by_cases hlt : k < 14
    · have hol : k < o.length := by have := HA.out.len; omega
      obtain ⟨p, hp⟩ : ∃ p, x.getD k 0 = p := ⟨_, rfl⟩
      obtain ⟨q, hq⟩ : ∃ q, y.getD k 0 = q := ⟨_, rfl⟩
      obtain ⟨p0, p1⟩ := wd_getD hx.digs k
      obtain ⟨q0, q1⟩ := wd_getD hy.digs k
      obtain ⟨b1, o1, rfl, _, cx⟩ := (ha.onw hf).at_ (by omega)
      obtain ⟨b2, o2, rfl, _, cy⟩ := (hb.onw hf).at_ (by omega)
      have hcx := cx k (by omega)
      have hcy := cy k (by omega)
      rw [hp] at hcx p0 p1
      rw [hq] at hcy q0 q1
      have hst := fun d e => mi_step (d := d) (e := e) HA.out hlt hp hq p0 q0
      have hco := hown.cellAt k (by omega)
      rw [cs_getD hol] at hco
      have hfz := hown.frozenAt k
      have s1 : IntKind.i64.wrap (c + p) = c + p := IntWalk.i64_in _ (by omega)
      have s2 : IntKind.i64.wrap (c + p - q) = c + p - q := IntWalk.i64_in _ (by omega)
      have hk14 : (k : Int) < 14 := by omega
      have k14 : k + 1 ≤ 14 := by omega
      by_cases hneg : c + p - q < 0
      · have HS := Lib.hid (hst (c + p - q + 1000) (-1) (by omega) (by omega) (by decide) (by decide) (by omega))
        clear cx cy hp hq lx ly hst
        go_wp2_with fail
        go_quiet (fail)
        clear s1 s2
        have hownq : (wr.drewN nq).ownsRow w.heap.size 3 1 (.slice (some ⟨w.heap.size, 0, none⟩) 14 14) 14 (cs o) := hown
        have hw := (hownq.stored k (.int .i64 (c + p - q + 1000))).1
        rw [cs_set] at hw
        have HST := Lib.hid hw
        have hf3 := fuw_set (u := .int .i64 (c + p - q + 1000)) (j := k) (hf.trans (fuw_drewN wr nq)) (Nat.le_refl w.heap.size)
        clear hw hownq hol
        go_wp2
        go_roundw
        case rel => exact ⟨k + 1, _, _, by go_num, k14, rfl, by decide, by decide, HST.out, hf3, HS.out⟩
        case measure => simp [RowKit.intOf]; omega
      · have HS := Lib.hid (hst (c + p - q) 0 (by omega) (by omega) (by decide) (by decide) (by omega))
        have hpos : 0 ≤ c + p - q := by omega
        clear cx cy hp hq lx ly hst hneg
        go_wp2_with fail
        go_quiet (fail)
        clear s1 s2
        have hownq : (wr.drewN nq).ownsRow w.heap.size 3 1 (.slice (some ⟨w.heap.size, 0, none⟩) 14 14) 14 (cs o) := hown
        have hw := (hownq.stored k (.int .i64 (c + p - q))).1
        rw [cs_set] at hw
        have HST := Lib.hid hw
        have hf3 := fuw_set (u := .int .i64 (c + p - q)) (j := k) (hf.trans (fuw_drewN wr nq)) (Nat.le_refl w.heap.size)
        clear hw hownq hol
        go_wp2
        go_roundw
        case rel => exact ⟨k + 1, _, _, by go_num, k14, rfl, by decide, by decide, HST.out, hf3, HS.out⟩
        case measure => simp [RowKit.intOf]; omega
    · have e : k = 14 := by omega
      subst e
      have HW := Lib.hid (mi_end HA.out hx hy HLE.out)
      have hI := IsS.of14 hown
      clear hlt
      go_wp2
      go_ret
      exact ⟨o, _, _, HW.out, rfl, hI, hf⟩
end Go.Proofs.YtfbijdoomkgodaaGreatDoor
