/-
  M20; M21: texts of one kind in one file; each part says what it holds.
-/
import Derived.Test.YtpamdlkagmlahaaGreatDoorK08
import Derived.Test.YtpamdlkagmlahaaGreatDoorK01
import Derived.Deep.RegionWith

namespace Go.Proofs.YtpamdlkagmlahaaGreatDoor
open Go.RowKit
structure ToAt (A B i a : Nat) (o : List Int) : Prop where
 len : o.length = 14
 digs : WD o
 rest : a = A / 1000 ^ i
 val : wv o = (A % 1000 ^ i) * B
theorem to_start (A B : Nat) : ToAt A B 0 A (List.replicate 14 0) := ⟨by simp, wd_zeros 14, by simp, by rw [wv_zeros, Nat.pow_zero, Nat.mod_one, Nat.zero_mul]⟩
theorem pow_place {A i k : Nat} (h : 0 < A / 1000 ^ i) (hA : A < 1000 ^ k) : i < k := by
 rcases Nat.lt_or_ge i k with g | g
 ·exact g
 ·have p := Nat.pow_le_pow_right (show 0 < 1000 by decide) g
  rw [Nat.div_eq_of_lt (by omega)] at h
  omega
theorem to_in {A B i a : Nat} {o : List Int} (h : ToAt A B i a o) : TmAt ((A % 1000 ^ (i + 1)) * B) i o 0 (a % 1000) B := by
 refine ⟨h.len, h.digs, by decide, Nat.mod_lt _ (by decide), ?_⟩
 rw [h.val, h.rest, Nat.mod_pow_succ, Nat.add_mul, Nat.zero_add, Nat.mul_assoc]
theorem to_next {A B i a k : Nat} {o : List Int} {d : Nat} (h : ToAt A B i a o) {o2 : List Int} (g : TmAt ((A % 1000 ^ (i + 1)) * B) k o2 0 d 0) : ToAt A B (i + 1) (a / 1000) o2 :=
 ⟨g.len, g.digs, by rw [h.rest, Nat.div_div_eq_div_mul, Nat.pow_succ], by have v := g.val; simpa using v⟩
theorem to_end {A B i : Nat} {o : List Int} (h : ToAt A B i 0 o) : Wide o (A * B) := by
 refine ⟨h.len, h.digs, ?_⟩
 rw [h.val]
 have e := Nat.div_add_mod A (1000 ^ i)
 rw [← h.rest] at e
 rw [show A % 1000 ^ i = A by omega]
theorem to_small {A B i : Nat} (hA : A ≤ 1000000000000000) (hB : B ≤ 1000000000000000) : (A % 1000 ^ i) * B < 1000 ^ 11 := by
 have a : A % 1000 ^ i ≤ A := Nat.mod_le _ _
 have b := Nat.mul_le_mul (Nat.le_trans a hA) hB
 have c : 1000000000000000 * 1000000000000000 < 1000 ^ 11 := by decide
 omega
theorem tm_step0 {T k : Nat} {o : List Int} {carry d : Nat} (h : TmAt T k o carry d 0) (hk : k < 14) {r : Nat} (hr : o.getD k 0 = (r : Int)) :
  TmAt T (k + 1) (o.set k (((carry : Int) + r) % 1000)) ((carry + r) / 1000) d 0 := by
 have g := tm_step h hk hr
 simp only [Nat.zero_mod, Nat.mul_zero, Nat.add_zero, Nat.zero_div] at g
 rwa [show (((carry + r) % 1000 : Nat) : Int) = ((carry : Int) + r) % 1000 by omega] at g
theorem cast_mod (y r m : Nat) : (((y + r + m) % 1000 : Nat) : Int) = ((y : Int) + r + m) % 1000 := by omega
theorem cast_div (y r m : Nat) : ((y : Int) + r + m) / 1000 = (((y + r + m) / 1000 : Nat) : Int) := by omega
theorem cast_div1 (c : Nat) : (c : Int) / 1000 = ((c / 1000 : Nat) : Int) := by omega
theorem cast_mul (d c : Nat) : (d : Int) % 1000 * ((c : Int) % 1000) = ((d % 1000 * (c % 1000) : Nat) : Int) := by rw [Int.natCast_mul, Int.natCast_emod, Int.natCast_emod]; rfl
theorem div_step (B k i : Nat) (h : i ≤ k) : B / 1000 ^ (k - i) / 1000 = B / 1000 ^ (k + 1 - i) := by
 rw [Nat.div_div_eq_div_mul, ← Nat.pow_succ, show (k - i).succ = k + 1 - i by omega]
set_option maxHeartbeats 3200000 in
set_option maxRecDepth 100000 in
theorem rtimes_any (A B : Nat) (hA : A ≤ 1000000000000000) (hB : B ≤ 1000000000000000) (w : World) :
  Calls Tryz.prog 148 #[.int .i64 A, .int .i64 B] w (RwW w (A * B)) := by
 obtain ⟨i0, hi, hz0, hz1, hz2⟩ := info_parts infoI
 go_enter Tryz.func148, Tryz.ntmps148
 go_wp2_with (at_make; refine wpList_make_full _ rfl (.const (.int .i64 14)) (.const (.int .i64 14)) 157 rfl w.heap.size 3 i0 (.int .i64 0) 1 Tryz.underlying157 hi hz0 hz1 .i64 .i64 _ _ 14 rfl rfl (by omega) (by omega) (by rw [hz2]; omega) (by unfold maxLen; omega) (Nat.le_refl _) ?_; intro w1 hown0 hgrow0)
 have hown1 : w1.ownsRow w.heap.size 3 1 (.slice (some ⟨w.heap.size, 0, none⟩) 14 14) 14 (cs (List.replicate 14 0)) := by
  rw [made_zero] at hown0
  exact hown0
 have hf1 : Fuw w w1 := Below.grown (Fuw.refl w) hgrow0 (Nat.le_refl _) (by intro k hk; cases hk)
 clear hown0 hgrow0
 go_wp2
 go_loopw [0, 6] (fun av iv wr => ∃ (a i : Nat) (o : List Int), av = .int .i64 a ∧ iv = .int .i64 i ∧ a ≤ 1000000000000000 ∧ i ≤ 6 ∧ wr.ownsRow w.heap.size 3 1 (.slice (some ⟨w.heap.size, 0, none⟩) 14 14) 14 (cs o) ∧ Fuw w wr ∧ Hid (ToAt A B i a o)) (fun av _ _ => (RowKit.intOf av).toNat)
 case atStart => exact ⟨A, 0, _, rfl, rfl, hA, by decide, hown1, hf1, to_start A B⟩
 case round =>
  obtain ⟨a, i, o, rfl, rfl, ha, hi6, hown, hf, HO⟩ := hrel
  by_cases ha0 : a = 0
  ·subst ha0
   have HW := Lib.hid (to_end HO.out)
   have hI := IsS.of14 hown
   go_wp2
   go_ret
   exact ⟨o, _, _, HW.out, rfl, hI, hf⟩
  ·have hap : (0 : Int) < a := by omega
   have hi5 : i < 6 := by
    have e := HO.out.rest
    exact pow_place (A := A) (by omega) (Nat.lt_of_le_of_lt hA (by decide))
   have HI := Lib.hid (to_in HO.out)
   have hd1 : a % 1000 < 1000 := Nat.mod_lt _ (by decide)
   clear ha0
   have i7 : i + 1 ≤ 6 := by omega
   go_wp2
   go_loopw [8, 9, 10] (fun cv yv kv wr2 => ∃ (c y k : Nat) (o2 : List Int), cv = .int .i64 c ∧ yv = .int .i64 y ∧ kv = .int .i64 k ∧ c ≤ 1000000000000000 ∧ y < 1000 ∧ i ≤ k ∧ k ≤ 11 ∧ wr2.ownsRow w.heap.size 3 1 (.slice (some ⟨w.heap.size, 0, none⟩) 14 14) 14 (cs o2) ∧ Fuw w wr2 ∧ Hid (c = B / 1000 ^ (k - i) ∧ TmAt ((A % 1000 ^ (i + 1)) * B) k o2 y (a % 1000) c)) (fun _ _ kv _ => (11 - RowKit.intOf kv).toNat)
   case atStart => exact ⟨B, 0, i, o, rfl, rfl, rfl, hB, by decide, Nat.le_refl _, by omega, hown, hf, by rw [Nat.sub_self, Nat.pow_zero, Nat.div_one], HI.out⟩
   case round =>
    obtain ⟨c, y, k, o2, rfl, rfl, rfl, hc, hy, hik, hk, hown2, hf2, HT⟩ := hrel
    by_cases hz : c = 0 ∧ y = 0
    ·obtain ⟨rfl, rfl⟩ := hz
     have HN := Lib.hid (to_next HO.out HT.out.2)
     go_wp2
     go_roundw
     case rel => exact ⟨a / 1000, i + 1, o2, (congrArg (Value.int .i64) (by omega)), by go_num, by omega, i7, hown2, hf2, HN.out⟩
     case measure => simp [RowKit.intOf]; omega
    ·have hk10 : k < 11 := by
      by_cases hcp : 0 < c
      ·have e := HT.out.1
       have := pow_place (A := B) (i := k - i) (k := 6) (by omega) (Nat.lt_of_le_of_lt hB (by decide))
       omega
      ·exact tm_place HT.out.2 (to_small hA hB) (by omega)
     have hkl : k < o2.length := by have := HT.out.2.len; omega
     obtain ⟨r, hr⟩ : ∃ r : Nat, o2.getD k 0 = (r : Int) := ⟨(o2.getD k 0).toNat, by have := (wd_getD HT.out.2.digs k).1; omega⟩
     have hr1 := (wd_getD HT.out.2.digs k).2
     rw [hr] at hr1
     have HC := Lib.hid (show c / 1000 = B / 1000 ^ (k + 1 - i) by rw [HT.out.1]; exact div_step B k i hik)
     have HQ := Lib.hid (cast_div1 c)
     have HZ := Lib.hid (show i ≤ k + 1 ∧ k + 1 ≤ 11 by omega)
     have hk14 : (k : Int) < 14 := by omega
     have hco := hown2.cellAt k (by omega)
     rw [cs_getD hkl, hr] at hco
     have hfz := hown2.frozenAt k
     by_cases hcp : 0 < c
     ·have hm : a % 1000 * (c % 1000) ≤ 999 * 999 := Nat.mul_le_mul (by omega) (by omega)
      obtain ⟨m, hmI⟩ : ∃ m : Nat, m = a % 1000 * (c % 1000) := ⟨_, rfl⟩
      have hmc : (a : Int) % 1000 * ((c : Int) % 1000) = m := by rw [hmI]; exact cast_mul a c
      have HS := tm_step HT.out.2 (by omega) hr
      rw [← hmI] at hm HS
      rw [cast_mod y r m] at HS
      have HS2 := Lib.hid HS
      have hst := (hown2.stored k (.int .i64 (((y : Int) + r + m) % 1000))).1
      rw [cs_set] at hst
      have HST := Lib.hid hst
      have hf3 := fuw_set (u := .int .i64 (((y : Int) + r + m) % 1000)) (j := k) hf2 (Nat.le_refl w.heap.size)
      have HB := Lib.hid (show (y + r + m) / 1000 < 1000 by omega)
      have HV := Lib.hid (cast_div y r m)
      have hcI : (0 : Int) < c := by omega
      clear HS hmI hr hst hkl hz
      go_wp2
      go_roundw
      case rel => exact ⟨c / 1000, (y + r + m) / 1000, k + 1, _, congrArg _ HQ.out, congrArg _ HV.out, by go_num, by omega, HB.out, HZ.out.1, HZ.out.2, HST.out, hf3, HC.out, HS2.out⟩
      case measure => simp [RowKit.intOf]; omega
     ·have hc0 : c = 0 := by omega
      subst hc0
      have hyI : (0 : Int) < y := by omega
      have HS2 := Lib.hid (tm_step0 HT.out.2 (by omega) hr)
      have hst := (hown2.stored k (.int .i64 (((y : Int) + r) % 1000))).1
      rw [cs_set] at hst
      have HST := Lib.hid hst
      have hf3 := fuw_set (u := .int .i64 (((y : Int) + r) % 1000)) (j := k) hf2 (Nat.le_refl w.heap.size)
      have HB := Lib.hid (show (y + r) / 1000 < 1000 by omega)
      have HV := Lib.hid (show ((y : Int) + r) / 1000 = (((y + r) / 1000 : Nat) : Int) by omega)
      clear hr hst hkl hz hcp
      go_wp2
      go_roundw
      case rel => exact ⟨0, (y + r) / 1000, k + 1, _, rfl, congrArg _ HV.out, by go_num, by omega, HB.out, HZ.out.1, HZ.out.2, HST.out, hf3, HC.out, HS2.out⟩
      case measure => simp [RowKit.intOf]; omega
end Go.Proofs.YtpamdlkagmlahaaGreatDoor
namespace Go.Proofs.YtpamdlkagmlahaaGreatDoor
structure PlAt (x y : List Int) (k : Nat) (o : List Int) (c : Int) : Prop where
 len : o.length = 14
 digs : WD o
 c0 : 0 ≤ c
 c1 : c ≤ 1
 val : wv (o.take k) + 1000 ^ k * c.toNat = wv (x.take k) + wv (y.take k)
theorem pl_start (x y : List Int) : PlAt x y 0 (List.replicate 14 0) 0 := ⟨by simp, wd_zeros 14, by decide, by decide, rfl⟩
theorem pl_step {x y : List Int} {k : Nat} {o : List Int} {c p q : Int} (h : PlAt x y k o c) (hk : k < 14) (hp : x.getD k 0 = p) (hq : y.getD k 0 = q) (p0 : 0 ≤ p) (p1 : p < 1000) (q0 : 0 ≤ q) (q1 : q < 1000) :
  PlAt x y (k + 1) (o.set k ((c + p + q) % 1000)) ((c + p + q) / 1000) := by
 obtain ⟨h1, h2, h3, h4, h5⟩ := h
 refine ⟨by rw [List.length_set, h1], wd_set h2 _ (by omega) (by omega), by omega, by omega, ?_⟩
 rw [wset_take (by omega), wv_app, List.length_take, Nat.min_eq_left (by omega), wv_take, wv_take, hp, hq, Nat.pow_succ]
 have e : wv [(c + p + q) % 1000] = ((c + p + q) % 1000).toNat := by simp [wv]
 rw [e]
 have s : 1000 ^ k * ((c + p + q) % 1000).toNat + 1000 ^ k * 1000 * ((c + p + q) / 1000).toNat = 1000 ^ k * c.toNat + 1000 ^ k * p.toNat + 1000 ^ k * q.toNat := by
  rw [Nat.mul_assoc, ← Nat.mul_add, ← Nat.mul_add, ← Nat.mul_add]
  congr 1
  omega
 omega
theorem pl_end {x y o : List Int} {c : Int} {m n : Nat} (h : PlAt x y 14 o c) (hx : Wide x m) (hy : Wide y n) (hlt : m + n < 1000 ^ 14) : Wide o (m + n) := by
 obtain ⟨h1, h2, h3, h4, h5⟩ := h
 rw [List.take_of_length_le (by omega), List.take_of_length_le (by have := hx.len; omega), List.take_of_length_le (by have := hy.len; omega), hx.val, hy.val] at h5
 refine ⟨h1, h2, ?_⟩
 rcases (show c = 0 ∨ c = 1 by omega) with rfl | rfl
 ·simpa using h5
 ·exfalso
  have e : 1000 ^ 14 * (1 : Int).toNat = 1000 ^ 14 := by simp
  omega
structure MiAt (x y : List Int) (k : Nat) (o : List Int) (c : Int) : Prop where
 len : o.length = 14
 digs : WD o
 c0 : -1 ≤ c
 c1 : c ≤ 0
 val : wv (o.take k) + wv (y.take k) = wv (x.take k) + 1000 ^ k * (-c).toNat
theorem mi_start (x y : List Int) : MiAt x y 0 (List.replicate 14 0) 0 := ⟨by simp, wd_zeros 14, by decide, by decide, rfl⟩
theorem mi_step {x y : List Int} {k : Nat} {o : List Int} {c p q d e : Int} (h : MiAt x y k o c) (hk : k < 14) (hp : x.getD k 0 = p) (hq : y.getD k 0 = q) (p0 : 0 ≤ p) (q0 : 0 ≤ q) (d0 : 0 ≤ d) (d1 : d < 1000) (e0 : -1 ≤ e) (e1 : e ≤ 0) (hd : d = c + p - q - 1000 * e) :
  MiAt x y (k + 1) (o.set k d) e := by
 obtain ⟨h1, h2, h3, h4, h5⟩ := h
 refine ⟨by rw [List.length_set, h1], wd_set h2 _ d0 d1, e0, e1, ?_⟩
 rw [wset_take (by omega), wv_app, List.length_take, Nat.min_eq_left (by omega), wv_take, wv_take, hp, hq, Nat.pow_succ]
 have e2 : wv [d] = d.toNat := by simp [wv]
 rw [e2]
 have s : 1000 ^ k * d.toNat + 1000 ^ k * q.toNat + 1000 ^ k * (-c).toNat = 1000 ^ k * p.toNat + 1000 ^ k * 1000 * (-e).toNat := by
  rw [Nat.mul_assoc, ← Nat.mul_add, ← Nat.mul_add, ← Nat.mul_add]
  congr 1
  omega
 omega
theorem mi_end {x y o : List Int} {c : Int} {m n : Nat} (h : MiAt x y 14 o c) (hx : Wide x m) (hy : Wide y n) (hle : n ≤ m) : Wide o (m - n) := by
 obtain ⟨h1, h2, h3, h4, h5⟩ := h
 have g := wv_lt h2
 rw [h1] at g
 rw [List.take_of_length_le (by omega), List.take_of_length_le (by have := hy.len; omega), List.take_of_length_le (by have := hx.len; omega), hx.val, hy.val] at h5
 refine ⟨h1, h2, ?_⟩
 rcases (show c = 0 ∨ c = -1 by omega) with rfl | rfl
 ·have e : 1000 ^ 14 * (-(0 : Int)).toNat = 0 := by simp
  omega
 ·have e : 1000 ^ 14 * (-(-1 : Int)).toNat = 1000 ^ 14 := by simp
  omega
def cmpN (m n : Nat) : Int := if m < n then -1 else if n < m then 1 else 0
theorem cmpN_lt {a b : Nat} (h : a < b) : cmpN a b = -1 := by unfold cmpN; rw [if_pos h]
theorem cmpN_gt {a b : Nat} (h : b < a) : cmpN a b = 1 := by unfold cmpN; rw [if_neg (by omega), if_pos h]
theorem cmpN_eq {a b : Nat} (h : a = b) : cmpN a b = 0 := by unfold cmpN; rw [if_neg (by omega), if_neg (by omega)]
theorem or_lt {x y : List Int} (k : Nat) (dx : WD x) (he : wv (x.drop (k + 1)) = wv (y.drop (k + 1))) {p q : Int} (hp : x.getD k 0 = p) (hq : y.getD k 0 = q) (p0 : 0 ≤ p) (h : p < q) : wv x < wv y := by
 rw [wv_cut x k, wv_cut y k, wv_drop x k, wv_drop y k, he, hp, hq]
 have a := wv_take_lt dx k
 have b : p.toNat + 1000 * wv (y.drop (k + 1)) + 1 ≤ q.toNat + 1000 * wv (y.drop (k + 1)) := by omega
 have c := Nat.mul_le_mul_left (1000 ^ k) b
 rw [Nat.mul_add, Nat.mul_one] at c
 omega
end Go.Proofs.YtpamdlkagmlahaaGreatDoor
namespace Go.Proofs.YtpamdlkagmlahaaGreatDoor
open Go.RowKit
set_option maxHeartbeats 3200000 in
set_option maxRecDepth 100000 in
theorem rplus_any (ao bo : Option Addr) (x y : List Int) (ca cb m n : Nat) (w : World) (ha : IsS w ao x ca) (hb : IsS w bo y cb) (hx : Wide x m) (hy : Wide y n) (hlt : m + n < 1000 ^ 14) :
  Calls Tryz.prog 193 #[.slice ao 14 ca, .slice bo 14 cb] w (RwW w (m + n)) := by
 obtain ⟨i0, hi, hz0, hz1, hz2⟩ := info_parts infoI
 have HLT := Lib.hid hlt
 clear hlt
 go_enter Tryz.func193, Tryz.ntmps193
 go_wp2_with (at_make; refine wpList_make_full _ rfl (.tmp 9) (.tmp 9) 157 rfl w.heap.size 3 i0 (.int .i64 0) 1 Tryz.underlying157 hi hz0 hz1 .i64 .i64 _ _ 14 rfl rfl (by omega) (by omega) (by rw [hz2]; omega) (by unfold maxLen; omega) (Nat.le_refl _) ?_; intro w1 hown0 hgrow0)
 have hown1 : w1.ownsRow w.heap.size 3 1 (.slice (some ⟨w.heap.size, 0, none⟩) 14 14) 14 (cs (List.replicate 14 0)) := by
  rw [made_zero] at hown0
  exact hown0
 have hf1 : Fuw w w1 := Below.grown (Fuw.refl w) hgrow0 (Nat.le_refl _) (by intro k hk; cases hk)
 clear hown0 hgrow0
 go_wp2
 go_loopw [6, 7] (fun cv kv wr => ∃ (k : Nat) (o : List Int) (c : Int), kv = .int .i64 k ∧ k ≤ 14 ∧ cv = .int .i64 c ∧ 0 ≤ c ∧ c ≤ 1 ∧ wr.ownsRow w.heap.size 3 1 (.slice (some ⟨w.heap.size, 0, none⟩) 14 14) 14 (cs o) ∧ Fuw w wr ∧ Hid (PlAt x y k o c)) (fun _ kv _ => (14 - RowKit.intOf kv).toNat)
 case atStart => exact ⟨0, _, 0, rfl, by decide, rfl, by decide, by decide, hown1, hf1, pl_start x y⟩
 case round =>
  obtain ⟨k, o, c, rfl, hk, rfl, d0, d1, hown, hf, HA⟩ := hrel
  have lx := hx.len
  have ly := hy.len
  by_cases hlt : k < 14
  ·have hol : k < o.length := by have := HA.out.len; omega
   obtain ⟨p, hp⟩ : ∃ p, x.getD k 0 = p := ⟨_, rfl⟩
   obtain ⟨q, hq⟩ : ∃ q, y.getD k 0 = q := ⟨_, rfl⟩
   obtain ⟨p0, p1⟩ := wd_getD hx.digs k
   obtain ⟨q0, q1⟩ := wd_getD hy.digs k
   obtain ⟨b1, o1, rfl, _, cx⟩ := (ha.onw hf).at_ (by omega)
   obtain ⟨b2, o2, rfl, _, cy⟩ := (hb.onw hf).at_ (by omega)
   have hcx := cx k (by omega)
   have hcy := cy k (by omega)
   rw [hp] at hcx p0 p1
   rw [hq] at hcy q0 q1
   have HS := Lib.hid (pl_step HA.out hlt hp hq p0 p1 q0 q1)
   have hco := hown.cellAt k (by omega)
   rw [cs_getD hol] at hco
   have hfz := hown.frozenAt k
   have s1 : IntKind.i64.wrap (c + p) = c + p := IntWalk.i64_in _ (by omega)
   have s2 : IntKind.i64.wrap (c + p + q) = c + p + q := IntWalk.i64_in _ (by omega)
   have hk14 : (k : Int) < 14 := by omega
   have k14 : k + 1 ≤ 14 := by omega
   have hv : 0 ≤ c + p + q := by omega
   have HV := Lib.hid (show 0 ≤ (c + p + q) / 1000 ∧ (c + p + q) / 1000 ≤ 1 by omega)
   clear cx cy hp hq lx ly
   go_wp2_with fail
   go_quiet (fail)
   clear s1 s2
   have hownq : (wr.drewN nq).ownsRow w.heap.size 3 1 (.slice (some ⟨w.heap.size, 0, none⟩) 14 14) 14 (cs o) := hown
   have hst := (hownq.stored k (.int .i64 ((c + p + q) % 1000))).1
   rw [cs_set] at hst
   have HST := Lib.hid hst
   have hf3 := fuw_set (u := .int .i64 ((c + p + q) % 1000)) (j := k) (hf.trans (fuw_drewN wr nq)) (Nat.le_refl w.heap.size)
   clear hst hownq hol
   go_wp2
   go_roundw
   case rel => exact ⟨k + 1, _, _, by go_num, k14, rfl, HV.out.1, HV.out.2, HST.out, hf3, HS.out⟩
   case measure => simp [RowKit.intOf]; omega
  ·have e : k = 14 := by omega
   subst e
   have HW := Lib.hid (pl_end HA.out hx hy HLT.out)
   have hI := IsS.of14 hown
   clear hlt
   go_wp2
   go_ret
   exact ⟨o, _, _, HW.out, rfl, hI, hf⟩
set_option maxHeartbeats 3200000 in
set_option maxRecDepth 100000 in
theorem rminus_any (ao bo : Option Addr) (x y : List Int) (ca cb m n : Nat) (w : World) (ha : IsS w ao x ca) (hb : IsS w bo y cb) (hx : Wide x m) (hy : Wide y n) (hle : n ≤ m) :
  Calls Tryz.prog 195 #[.slice ao 14 ca, .slice bo 14 cb] w (RwW w (m - n)) := by
 obtain ⟨i0, hi, hz0, hz1, hz2⟩ := info_parts infoI
 have HLE := Lib.hid hle
 clear hle
 go_enter Tryz.func195, Tryz.ntmps195
 go_wp2_with (at_make; refine wpList_make_full _ rfl (.tmp 9) (.tmp 9) 157 rfl w.heap.size 3 i0 (.int .i64 0) 1 Tryz.underlying157 hi hz0 hz1 .i64 .i64 _ _ 14 rfl rfl (by omega) (by omega) (by rw [hz2]; omega) (by unfold maxLen; omega) (Nat.le_refl _) ?_; intro w1 hown0 hgrow0)
 have hown1 : w1.ownsRow w.heap.size 3 1 (.slice (some ⟨w.heap.size, 0, none⟩) 14 14) 14 (cs (List.replicate 14 0)) := by
  rw [made_zero] at hown0
  exact hown0
 have hf1 : Fuw w w1 := Below.grown (Fuw.refl w) hgrow0 (Nat.le_refl _) (by intro k hk; cases hk)
 clear hown0 hgrow0
 go_wp2
 go_loopw [6, 7] (fun cv kv wr => ∃ (k : Nat) (o : List Int) (c : Int), kv = .int .i64 k ∧ k ≤ 14 ∧ cv = .int .i64 c ∧ -1 ≤ c ∧ c ≤ 0 ∧ wr.ownsRow w.heap.size 3 1 (.slice (some ⟨w.heap.size, 0, none⟩) 14 14) 14 (cs o) ∧ Fuw w wr ∧ Hid (MiAt x y k o c)) (fun _ kv _ => (14 - RowKit.intOf kv).toNat)
 case atStart => exact ⟨0, _, 0, rfl, by decide, rfl, by decide, by decide, hown1, hf1, mi_start x y⟩
 case round =>
  obtain ⟨k, o, c, rfl, hk, rfl, d0, d1, hown, hf, HA⟩ := hrel
  have lx := hx.len
  have ly := hy.len
  by_cases hlt : k < 14
  ·have hol : k < o.length := by have := HA.out.len; omega
   obtain ⟨p, hp⟩ : ∃ p, x.getD k 0 = p := ⟨_, rfl⟩
   obtain ⟨q, hq⟩ : ∃ q, y.getD k 0 = q := ⟨_, rfl⟩
   obtain ⟨p0, p1⟩ := wd_getD hx.digs k
   obtain ⟨q0, q1⟩ := wd_getD hy.digs k
   obtain ⟨b1, o1, rfl, _, cx⟩ := (ha.onw hf).at_ (by omega)
   obtain ⟨b2, o2, rfl, _, cy⟩ := (hb.onw hf).at_ (by omega)
   have hcx := cx k (by omega)
   have hcy := cy k (by omega)
   rw [hp] at hcx p0 p1
   rw [hq] at hcy q0 q1
   have hst := fun d e => mi_step (d := d) (e := e) HA.out hlt hp hq p0 q0
   have hco := hown.cellAt k (by omega)
   rw [cs_getD hol] at hco
   have hfz := hown.frozenAt k
   have s1 : IntKind.i64.wrap (c + p) = c + p := IntWalk.i64_in _ (by omega)
   have s2 : IntKind.i64.wrap (c + p - q) = c + p - q := IntWalk.i64_in _ (by omega)
   have hk14 : (k : Int) < 14 := by omega
   have k14 : k + 1 ≤ 14 := by omega
   by_cases hneg : c + p - q < 0
   ·have HS := Lib.hid (hst (c + p - q + 1000) (-1) (by omega) (by omega) (by decide) (by decide) (by omega))
    clear cx cy hp hq lx ly hst
    go_wp2_with fail
    go_quiet (fail)
    clear s1 s2
    have hownq : (wr.drewN nq).ownsRow w.heap.size 3 1 (.slice (some ⟨w.heap.size, 0, none⟩) 14 14) 14 (cs o) := hown
    have hw := (hownq.stored k (.int .i64 (c + p - q + 1000))).1
    rw [cs_set] at hw
    have HST := Lib.hid hw
    have hf3 := fuw_set (u := .int .i64 (c + p - q + 1000)) (j := k) (hf.trans (fuw_drewN wr nq)) (Nat.le_refl w.heap.size)
    clear hw hownq hol
    go_wp2
    go_roundw
    case rel => exact ⟨k + 1, _, _, by go_num, k14, rfl, by decide, by decide, HST.out, hf3, HS.out⟩
    case measure => simp [RowKit.intOf]; omega
   ·have HS := Lib.hid (hst (c + p - q) 0 (by omega) (by omega) (by decide) (by decide) (by omega))
    have hpos : 0 ≤ c + p - q := by omega
    clear cx cy hp hq lx ly hst hneg
    go_wp2_with fail
    go_quiet (fail)
    clear s1 s2
    have hownq : (wr.drewN nq).ownsRow w.heap.size 3 1 (.slice (some ⟨w.heap.size, 0, none⟩) 14 14) 14 (cs o) := hown
    have hw := (hownq.stored k (.int .i64 (c + p - q))).1
    rw [cs_set] at hw
    have HST := Lib.hid hw
    have hf3 := fuw_set (u := .int .i64 (c + p - q)) (j := k) (hf.trans (fuw_drewN wr nq)) (Nat.le_refl w.heap.size)
    clear hw hownq hol
    go_wp2
    go_roundw
    case rel => exact ⟨k + 1, _, _, by go_num, k14, rfl, by decide, by decide, HST.out, hf3, HS.out⟩
    case measure => simp [RowKit.intOf]; omega
  ·have e : k = 14 := by omega
   subst e
   have HW := Lib.hid (mi_end HA.out hx hy HLE.out)
   have hI := IsS.of14 hown
   clear hlt
   go_wp2
   go_ret
   exact ⟨o, _, _, HW.out, rfl, hI, hf⟩
end Go.Proofs.YtpamdlkagmlahaaGreatDoor

namespace Go.Proofs.YtpamdlkagmlahaaGreatDoor
open Go.RowKit
set_option maxHeartbeats 3200000 in
set_option maxRecDepth 100000 in
theorem rorder_any (ao bo : Option Addr) (x y : List Int) (ca cb m n : Nat) (w : World) (ha : IsS w ao x ca) (hb : IsS w bo y cb) (hx : Wide x m) (hy : Wide y n) :
  Calls Tryz.prog 194 #[.slice ao 14 ca, .slice bo 14 cb] w (RwI w (cmpN m n)) := by
 have lx := hx.len
 have ly := hy.len
 have HLX := Lib.hid lx
 have HLY := Lib.hid ly
 clear lx ly
 go_enter Tryz.func194, Tryz.ntmps194
 go_wp2
 go_loopw [5] (fun i wr => ∃ j : Int, i = .int .i64 j ∧ -1 ≤ j ∧ j < 14 ∧ Hid (wv (x.drop (j + 1).toNat) = wv (y.drop (j + 1).toNat)) ∧ Fuw w wr) (fun i _ => (RowKit.intOf i + 1).toNat)
 case atStart => exact ⟨_, rfl, by omega, by omega, (by
  show wv (x.drop _) = wv (y.drop _)
  rw [List.drop_of_length_le (by rw [HLX.out]; decide), List.drop_of_length_le (by rw [HLY.out]; decide)]), Fuw.refl _⟩
 case round =>
  obtain ⟨j, rfl, j0, j1, HD, hf⟩ := hrel
  by_cases hj : j = -1
  ·subst hj
   have HE := Lib.hid (cmpN_eq (show m = n by
    have h := HD.out
    rw [← hx.val, ← hy.val]
    exact h))
   go_wp2
   go_ret
   exact ⟨ret_int HE.out.symm, hf⟩
  ·obtain ⟨k, rfl⟩ : ∃ k : Nat, j = (k : Int) := ⟨j.toNat, by omega⟩
   have hd : wv (x.drop (k + 1)) = wv (y.drop (k + 1)) := HD.out
   have P := wd_getD hx.digs k
   have Q := wd_getD hy.digs k
   obtain ⟨p, hp⟩ : ∃ p, x.getD k 0 = p := ⟨_, rfl⟩
   obtain ⟨q, hq⟩ : ∃ q, y.getD k 0 = q := ⟨_, rfl⟩
   rw [hp] at P
   rw [hq] at Q
   have hlt := or_lt k hx.digs hd hp hq P.1
   have hgt := or_lt k hy.digs hd.symm hq hp Q.1
   have hst := fun (e : p = q) => show wv (x.drop k) = wv (y.drop k) by rw [wv_drop x k, wv_drop y k, hd, hp, hq, e]
   rw [hx.val, hy.val] at hlt hgt
   obtain ⟨b1, o1, rfl, _, c1⟩ := (ha.onw hf).at_ (by rw [HLX.out]; decide)
   obtain ⟨b2, o2, rfl, _, c2⟩ := (hb.onw hf).at_ (by rw [HLY.out]; decide)
   have hc1 := c1 k (by rw [HLX.out]; omega)
   have hc2 := c2 k (by rw [HLY.out]; omega)
   rw [hp] at hc1
   rw [hq] at hc2
   clear c1 c2 hd hp hq P Q
   have k14 : (k : Int) < 14 := by omega
   rcases (show p < q ∨ p = q ∨ q < p by omega) with h | h | h
   ·have HE := Lib.hid (cmpN_lt (hlt h))
    clear hlt hgt hst
    go_wp2
    go_region
    go_wp2
    go_ret
    exact ⟨ret_int HE.out.symm, hf.drew⟩
   ·subst h
    have HS := Lib.hid (hst rfl)
    clear hlt hgt hst
    go_wp2
    go_region
    go_wp2
    go_region
    go_wp2
    go_roundw
    case rel => exact ⟨_, rfl, by omega, by omega, (by
     have e : ((k : Int) - 1 + 1).toNat = k := by omega
     show wv (x.drop _) = wv (y.drop _)
     rw [e]; exact HS.out), hf.drew.drew⟩
    case measure => simp [RowKit.intOf]
   ·have HE := Lib.hid (cmpN_gt (hgt h))
    clear hlt hgt hst
    go_wp2
    go_region
    go_wp2
    go_region
    go_wp2
    go_ret
    exact ⟨ret_int HE.out.symm, hf.drew.drew⟩
end Go.Proofs.YtpamdlkagmlahaaGreatDoor
namespace Go.Proofs.YtpamdlkagmlahaaGreatDoor
open Go.RowKit
def RwIW (w : World) (s : Int) (n : Nat) (e : Ending) (w' : World) : Prop := ∃ zs ao cap, Wide zs n ∧ e = .returned (.tuple #[.int .i64 s, .slice ao 14 cap]) ∧ IsS w' ao zs cap ∧ Fuw w w'
theorem z14w (w : World) : IsS (w.alloc (.cells (cs (List.replicate 14 0)).toArray 3)) (some ⟨w.heap.size, 0, none⟩) (List.replicate 14 0) 14 :=
 ⟨by simp, by unfold maxLen; omega, (fun h => by cases h), fun _ => ⟨w.heap.size, 0, rfl, by simp, fun j hj => by
  rw [show ((0 : Nat) + j) = j by omega]
  have k := World.cell?_alloc_mark w (cs (List.replicate 14 0)).toArray 3 (0, 0) j
  rw [k, List.getElem?_toArray, cs_getD hj]⟩⟩
theorem mk14 (w : World) : (Instr.makeSlice 157 (.int .i64 14) (.int .i64 14)).run Tryz.prog w = .ok (.slice (some ⟨w.heap.size, 0, none⟩) 14 14) (w.alloc (.cells (cs (List.replicate 14 0)).toArray 3)) := by
 obtain ⟨i0, hi, hz0, hz1, hz2⟩ := info_parts infoI
 have k := run_make (P := Tryz.prog) w 157 3 i0 (.int .i64 0) Tryz.underlying157 hi hz0 .i64 .i64 14 14 (by decide) (by decide) (by rw [hz2]; decide) (by decide)
 have e : madeCells (Value.int .i64 0).cells (14 * 1) = (cs (List.replicate 14 0)).toArray := by
  apply Array.toList_inj.1
  rw [made_zero]
 rw [hz1, show (14 : Int).toNat = 14 from rfl, e] at k
 exact k
theorem zz_any : ∃ Z : Obj, (∀ w : World, (Instr.makeSlice 157 (.int .i64 14) (.int .i64 14)).run Tryz.prog w = .ok (.slice (some ⟨w.heap.size, 0, none⟩) 14 14) (w.alloc Z)) ∧
  (∀ (w : World) (i j : Nat), (i = w.heap.size ∨ i = w.heap.size + 1) → (j = w.heap.size ∨ j = w.heap.size + 1) → Calls Tryz.prog 193 #[.slice (some ⟨i, 0, none⟩) 14 14, .slice (some ⟨j, 0, none⟩) 14 14] ((w.alloc Z).alloc Z).drew (RwW w 0)) := by
 refine ⟨.cells (cs (List.replicate 14 0)).toArray 3, mk14, fun w i j hi hj => ?_⟩
 have i1 := z14w w
 have i2 := z14w (w.alloc (.cells (cs (List.replicate 14 0)).toArray 3))
 have e : (w.alloc (.cells (cs (List.replicate 14 0)).toArray 3)).heap.size = w.heap.size + 1 := by simp
 rw [e] at i2
 have f1 : Fuw w (w.alloc (.cells (cs (List.replicate 14 0)).toArray 3)) := (Fuw.refl w).alloc _
 have f2 : Fuw (w.alloc (.cells (cs (List.replicate 14 0)).toArray 3)) ((w.alloc (.cells (cs (List.replicate 14 0)).toArray 3)).alloc (.cells (cs (List.replicate 14 0)).toArray 3)).drew := ((Fuw.refl _).alloc _).drew
 have k1 := i1.onw f2
 have k2 := i2.onw ((Fuw.refl _).drew)
 generalize (w.alloc (.cells (cs (List.replicate 14 0)).toArray 3)) = wa at *
 have ki : IsS ((wa.alloc (.cells (cs (List.replicate 14 0)).toArray 3)).drew) (some ⟨i, 0, none⟩) (List.replicate 14 0) 14 := by
  rcases hi with rfl | rfl
  ·exact k1
  ·exact k2
 have kj : IsS ((wa.alloc (.cells (cs (List.replicate 14 0)).toArray 3)).drew) (some ⟨j, 0, none⟩) (List.replicate 14 0) 14 := by
  rcases hj with rfl | rfl
  ·exact k1
  ·exact k2
 exact (rplus_any _ _ _ _ 14 14 0 0 _ ki kj wide_zeros wide_zeros (by decide)).mono fun _ _ ⟨zs, ao, cap, h1, h2, h3, h4⟩ => ⟨zs, ao, cap, h1, h2, h3, (f1.trans f2).trans h4⟩
set_option maxHeartbeats 3200000 in
set_option maxRecDepth 100000 in
theorem rsum_any (A B : Int) (ao bo : Option Addr) (x y : List Int) (ca cb : Nat) (w : World) (ha : IsS w ao x ca) (hb : IsS w bo y cb) (hx : Wide x A.natAbs) (hy : Wide y B.natAbs) (hlt : A.natAbs + B.natAbs < 1000 ^ 14) :
  Calls Tryz.prog 146 #[.int .i64 A.sign, .slice ao 14 ca, .int .i64 B.sign, .slice bo 14 cb] w (RwIW w (A + B).sign (A + B).natAbs) := by
 have CP := Lib.hid (rplus_any ao bo x y ca cb _ _ w ha hb hx hy hlt)
 have CO := Lib.hid (rorder_any ao bo x y ca cb _ _ w ha hb hx hy)
 clear hlt
 rcases Int.lt_trichotomy A 0 with hA | hA | hA
 ·rcases Int.lt_trichotomy B 0 with hB | hB | hB
  ·have e3 : (A + B).natAbs = A.natAbs + B.natAbs := by omega
   rw [e3, Int.sign_eq_neg_one_of_neg hA, Int.sign_eq_neg_one_of_neg hB, Int.sign_eq_neg_one_of_neg (show A + B < 0 by omega)]
   clear e3 CO
   go_enter Tryz.func146, Tryz.ntmps146
   go_wp2_with fail
   go_at_call 193; refine CP.out.mono ?_; rintro e w1 ⟨zs, ao1, c1, hW, rfl, hI, hf⟩
   go_wp2
   go_ret2
   exact ⟨zs, _, _, hW, rfl, hI, hf⟩
  ·subst hB
   have e3 : (A + 0).natAbs = A.natAbs + (0 : Int).natAbs := by omega
   have e4 : (A + 0).sign = -1 := by rw [Int.add_zero]; exact Int.sign_eq_neg_one_of_neg hA
   rw [e3, e4]
   rw [Int.sign_eq_neg_one_of_neg hA]
   rw [show (0 : Int).sign = 0 from rfl]
   clear e3 e4 CO
   go_enter Tryz.func146, Tryz.ntmps146
   go_wp2_with fail
   go_at_call 193; refine CP.out.mono ?_; rintro e w1 ⟨zs, ao1, c1, hW, rfl, hI, hf⟩
   go_wp2
   go_ret2
   exact ⟨zs, _, _, hW, rfl, hI, hf⟩
  ·rcases Nat.lt_trichotomy A.natAbs B.natAbs with h | h | h
   ·have e3 : (A + B).natAbs = B.natAbs - A.natAbs := by omega
    have e4 : (A + B).sign = 1 := Int.sign_eq_one_of_pos (show 0 < A + B by omega)
    rw [e3, e4, Int.sign_eq_neg_one_of_neg hA, Int.sign_eq_one_of_pos hB]
    have CM := Lib.hid (fun (w1 : World) (f1 : Fuw w w1) => rminus_any bo ao y x cb ca _ _ w1 (hb.onw f1) (ha.onw f1) hy hx (Nat.le_of_lt h))
    rw [cmpN_lt h] at CO
    clear e3 e4 CP h
    go_enter Tryz.func146, Tryz.ntmps146
    go_wp2_with fail
    go_at_call 194; refine CO.out.mono ?_; rintro e w1 ⟨rfl, f1⟩
    go_wp2_with fail
    go_at_call 195; refine (CM.out _ f1).mono ?_; rintro e w2 ⟨zs, ao1, c1, hW, rfl, hI, hf⟩
    go_wp2
    go_ret2
    exact ⟨zs, _, _, hW, rfl, hI, f1.trans hf⟩
   ·have e3 : A + B = 0 := by omega
    rw [e3, Int.sign_eq_neg_one_of_neg hA, Int.sign_eq_one_of_pos hB]
    rw [cmpN_eq h] at CO
    clear e3 CP h
    go_enter Tryz.func146, Tryz.ntmps146
    go_wp2_with fail
    go_at_call 194; refine CO.out.mono ?_; rintro e w1 ⟨rfl, f1⟩
    obtain ⟨Z, hmk, hzz⟩ := zz_any
    have HZZ := Lib.hid (hzz w1)
    clear hzz
    go_wp2
    go_region_with (go_at_call 193; refine (HZZ.out _ _ ?_ ?_).mono ?_; (first | exact .inl rfl | exact .inr rfl); (first | exact .inl rfl | exact .inr rfl); rintro e w2 ⟨zs, ao1, c1, hW, rfl, hI, hf⟩)
    all_goals
     go_wp2
     go_ret2
     exact ⟨zs, _, _, hW, rfl, hI, f1.trans hf⟩
   ·have e3 : (A + B).natAbs = A.natAbs - B.natAbs := by omega
    have e4 : (A + B).sign = -1 := Int.sign_eq_neg_one_of_neg (show A + B < 0 by omega)
    rw [e3, e4, Int.sign_eq_neg_one_of_neg hA, Int.sign_eq_one_of_pos hB]
    have CM := Lib.hid (fun (w1 : World) (f1 : Fuw w w1) => rminus_any ao bo x y ca cb _ _ w1 (ha.onw f1) (hb.onw f1) hx hy (Nat.le_of_lt h))
    rw [cmpN_gt h] at CO
    clear e3 e4 CP h
    go_enter Tryz.func146, Tryz.ntmps146
    go_wp2_with fail
    go_at_call 194; refine CO.out.mono ?_; rintro e w1 ⟨rfl, f1⟩
    go_wp2_with fail
    go_at_call 195; refine (CM.out _ f1).mono ?_; rintro e w2 ⟨zs, ao1, c1, hW, rfl, hI, hf⟩
    go_wp2
    go_ret2
    exact ⟨zs, _, _, hW, rfl, hI, f1.trans hf⟩
 ·rcases Int.lt_trichotomy B 0 with hB | hB | hB
  ·subst hA
   have e3 : ((0 : Int) + B) = B := by omega
   rw [e3, show (0 : Int).sign = 0 from rfl, Int.sign_eq_neg_one_of_neg hB]
   clear e3 CO CP
   go_enter Tryz.func146, Tryz.ntmps146
   go_wp2
   go_ret2
   exact ⟨y, _, _, hy, rfl, hb, Fuw.refl _⟩
  ·subst hB
   subst hA
   have e3 : ((0 : Int) + 0).natAbs = (0 : Int).natAbs + (0 : Int).natAbs := by omega
   have e4 : ((0 : Int) + 0).sign = 0 := by rw [Int.add_zero]; exact rfl
   rw [e3, e4]
   rw [show (0 : Int).sign = 0 from rfl]
   clear e3 e4 CO
   go_enter Tryz.func146, Tryz.ntmps146
   go_wp2_with fail
   go_at_call 193; refine CP.out.mono ?_; rintro e w1 ⟨zs, ao1, c1, hW, rfl, hI, hf⟩
   go_wp2
   go_ret2
   exact ⟨zs, _, _, hW, rfl, hI, hf⟩
  ·subst hA
   have e3 : ((0 : Int) + B) = B := by omega
   rw [e3, show (0 : Int).sign = 0 from rfl, Int.sign_eq_one_of_pos hB]
   clear e3 CO CP
   go_enter Tryz.func146, Tryz.ntmps146
   go_wp2
   go_ret2
   exact ⟨y, _, _, hy, rfl, hb, Fuw.refl _⟩
 ·rcases Int.lt_trichotomy B 0 with hB | hB | hB
  ·rcases Nat.lt_trichotomy A.natAbs B.natAbs with h | h | h
   ·have e3 : (A + B).natAbs = B.natAbs - A.natAbs := by omega
    have e4 : (A + B).sign = -1 := Int.sign_eq_neg_one_of_neg (show A + B < 0 by omega)
    rw [e3, e4, Int.sign_eq_one_of_pos hA, Int.sign_eq_neg_one_of_neg hB]
    have CM := Lib.hid (fun (w1 : World) (f1 : Fuw w w1) => rminus_any bo ao y x cb ca _ _ w1 (hb.onw f1) (ha.onw f1) hy hx (Nat.le_of_lt h))
    rw [cmpN_lt h] at CO
    clear e3 e4 CP h
    go_enter Tryz.func146, Tryz.ntmps146
    go_wp2_with fail
    go_at_call 194; refine CO.out.mono ?_; rintro e w1 ⟨rfl, f1⟩
    go_wp2_with fail
    go_at_call 195; refine (CM.out _ f1).mono ?_; rintro e w2 ⟨zs, ao1, c1, hW, rfl, hI, hf⟩
    go_wp2
    go_ret2
    exact ⟨zs, _, _, hW, rfl, hI, f1.trans hf⟩
   ·have e3 : A + B = 0 := by omega
    rw [e3, Int.sign_eq_one_of_pos hA, Int.sign_eq_neg_one_of_neg hB]
    rw [cmpN_eq h] at CO
    clear e3 CP h
    go_enter Tryz.func146, Tryz.ntmps146
    go_wp2_with fail
    go_at_call 194; refine CO.out.mono ?_; rintro e w1 ⟨rfl, f1⟩
    obtain ⟨Z, hmk, hzz⟩ := zz_any
    have HZZ := Lib.hid (hzz w1)
    clear hzz
    go_wp2
    go_region_with (go_at_call 193; refine (HZZ.out _ _ ?_ ?_).mono ?_; (first | exact .inl rfl | exact .inr rfl); (first | exact .inl rfl | exact .inr rfl); rintro e w2 ⟨zs, ao1, c1, hW, rfl, hI, hf⟩)
    all_goals
     go_wp2
     go_ret2
     exact ⟨zs, _, _, hW, rfl, hI, f1.trans hf⟩
   ·have e3 : (A + B).natAbs = A.natAbs - B.natAbs := by omega
    have e4 : (A + B).sign = 1 := Int.sign_eq_one_of_pos (show 0 < A + B by omega)
    rw [e3, e4, Int.sign_eq_one_of_pos hA, Int.sign_eq_neg_one_of_neg hB]
    have CM := Lib.hid (fun (w1 : World) (f1 : Fuw w w1) => rminus_any ao bo x y ca cb _ _ w1 (ha.onw f1) (hb.onw f1) hx hy (Nat.le_of_lt h))
    rw [cmpN_gt h] at CO
    clear e3 e4 CP h
    go_enter Tryz.func146, Tryz.ntmps146
    go_wp2_with fail
    go_at_call 194; refine CO.out.mono ?_; rintro e w1 ⟨rfl, f1⟩
    go_wp2_with fail
    go_at_call 195; refine (CM.out _ f1).mono ?_; rintro e w2 ⟨zs, ao1, c1, hW, rfl, hI, hf⟩
    go_wp2
    go_ret2
    exact ⟨zs, _, _, hW, rfl, hI, f1.trans hf⟩
  ·subst hB
   have e3 : (A + 0).natAbs = A.natAbs + (0 : Int).natAbs := by omega
   have e4 : (A + 0).sign = 1 := by rw [Int.add_zero]; exact Int.sign_eq_one_of_pos hA
   rw [e3, e4]
   rw [Int.sign_eq_one_of_pos hA]
   rw [show (0 : Int).sign = 0 from rfl]
   clear e3 e4 CO
   go_enter Tryz.func146, Tryz.ntmps146
   go_wp2_with fail
   go_at_call 193; refine CP.out.mono ?_; rintro e w1 ⟨zs, ao1, c1, hW, rfl, hI, hf⟩
   go_wp2
   go_ret2
   exact ⟨zs, _, _, hW, rfl, hI, hf⟩
  ·have e3 : (A + B).natAbs = A.natAbs + B.natAbs := by omega
   rw [e3, Int.sign_eq_one_of_pos hA, Int.sign_eq_one_of_pos hB, Int.sign_eq_one_of_pos (show 0 < A + B by omega)]
   clear e3 CO
   go_enter Tryz.func146, Tryz.ntmps146
   go_wp2_with fail
   go_at_call 193; refine CP.out.mono ?_; rintro e w1 ⟨zs, ao1, c1, hW, rfl, hI, hf⟩
   go_wp2
   go_ret2
   exact ⟨zs, _, _, hW, rfl, hI, hf⟩
end Go.Proofs.YtpamdlkagmlahaaGreatDoor
