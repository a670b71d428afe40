/-
  GrD; LvA; NumA: texts of one kind in one file; each part says what it holds.
-/
import Derived.Test.YtcadeijloobbmaaGreatNb
import Derived.Deep.RegionHeld3
import Derived.Test.YtcadeijloobbmaaGreatFrMem
import Derived.Below
import Derived.LoopTactic
import Derived.Deep.QuietTactic
import Derived.Lib.Hide

/-! Package graph: the keys of properties. Nothing that was there turns. -/
namespace Go.Proofs.YtcadeijloobbmaaGreat
open Go.RowKit

theorem infoS : (Tryz.prog.info? 9).map (fun i => (i.zero, i.size, i.bytes)) = some (some (.string ⟨#[]⟩), 1, 16) := by kernel_rfl
/-- The cells of strings. -/
def sC (l : List (List UInt8)) : List Value := l.map fun s => .string (bs s)
theorem sC_len (l : List (List UInt8)) : (sC l).length = l.length := List.length_map ..
theorem sC_app (a b : List (List UInt8)) : sC (a ++ b) = sC a ++ sC b := List.map_append ..
theorem sC_get {l : List (List UInt8)} {j : Nat} (h : j < l.length) : (sC l)[j]? = some (.string (bs l[j])) := by
  unfold sC
  rw [List.getElem?_map, List.getElem?_eq_getElem h]; rfl
theorem sC_set (o : List (List UInt8)) (j : Nat) (z : List UInt8) : (sC o).set j (.string (bs z)) = sC (o.set j z) := by
  unfold sC
  rw [List.map_set]
theorem fill_step {α : Type} (l : List α) (z : α) (i : Nat) (h : i < l.length) : (l.take i ++ List.replicate (l.length - i) z).set i l[i] = l.take (i + 1) ++ List.replicate (l.length - (i + 1)) z := by
  have hr : l.length - i = (l.length - (i + 1)) + 1 := by omega
  rw [hr, List.replicate_succ, List.set_append_right _ _ (by rw [List.length_take]; omega)]
  rw [show i - (l.take i).length = 0 by rw [List.length_take]; omega, List.set_cons_zero, List.take_succ_eq_append_getElem h, List.append_assoc]
  rfl
/-- What a call owns reads as its list of strings. -/
theorem slS_of_own {w : World} {base e : Nat} {v : Value} {n : Nat} {l : List (List UInt8)} (h : w.ownsRow base e 1 v n (sC l)) (hm : ∀ s ∈ l, s.length ≤ maxLen) : ∃ ao cap, v = .slice ao l.length cap ∧ n = l.length ∧ SlS w ao l cap := by
  have hl := h.1
  rw [sC_len, Nat.mul_one] at hl
  subst hl
  rcases h.2 with ⟨rfl, h0⟩ | ⟨g, cap, cur, rfl, hb, hh, h1, h2, h3, h4⟩
  · refine ⟨none, 0, by rw [h0], rfl, by omega, Nat.zero_le _, fun _ => rfl, fun hp => absurd hp (by omega)⟩
  · refine ⟨_, cap, rfl, rfl, h1, h2, (fun k => by cases k), fun _ => ⟨g, 0, rfl, fun j hj => ⟨hm _ (List.getElem_mem hj), ?_⟩⟩⟩
    have k := h.cells (g := g) rfl j _ (sC_get hj)
    rw [Go.WideShapes.add_plain] at k
    rw [Nat.mul_one]
    exact k
theorem own_on {w w' : World} {base e size : Nat} {v : Value} {n : Nat} {xs : List Value} (h : w.ownsRow base e size v n xs) (hf : Fuw w w') : w'.ownsRow base e size v n xs := by
  refine ⟨h.1, ?_⟩
  rcases h.2 with h0 | ⟨g, cap, cur, hv, hg, hh, rest⟩
  · exact .inl h0
  · refine .inr ⟨g, cap, cur, hv, hg, ?_, rest⟩
    have hlt : g < w.heap.size := by
      rcases Nat.lt_or_ge g w.heap.size with k | k
      · exact k
      · rw [Array.getElem?_eq_none k] at hh; cases hh
    rw [Below.block hf g hlt]; exact hh
theorem made_strs (n : Nat) : (madeCells (Value.string ⟨#[]⟩).cells (n * 1)).toList = sC (List.replicate n []) := by
  rw [Nat.mul_one]
  unfold sC
  rw [List.map_replicate]
  exact toList_madeCells_one (.string ⟨#[]⟩) _

set_option maxHeartbeats 1600000 in
set_option maxRecDepth 100000 in
theorem keys_any (l : List Pp) (ao : Option Addr) (cap : Nat) (w : World) (hs : SlP w ao l cap) (h16 : l.length ≤ 16) :
    Calls Tryz.prog 59 #[.slice ao l.length cap] w fun e w' => ∃ a c, e = .returned (.slice a (keysV l).length c) ∧ SlS w' a (keysV l) c ∧ Fuw w w' := by
  have hl := hs.len
  have HS := Lib.hid hs
  have HK := Lib.hid (show (keysV l).length = l.length from List.length_map ..)
  obtain ⟨i0, hi, hz0, hz1, hz2⟩ := info_parts infoS
  clear hs
  go_enter Tryz.func59, Tryz.ntmps59
  go_upto_region 2 with (at_make; refine wpList_make_full _ rfl (.tmp 7) (.tmp 7) 31 rfl w.heap.size 9 i0 (.string ⟨#[]⟩) 1 Tryz.underlying31 hi hz0 hz1 .i64 .i64 _ _ l.length rfl rfl rfl rfl (by rw [hz2]; omega) (by unfold maxLen; omega) (Nat.le_refl _) ?_; intro w2 hown hgrow)
  have F2 := Lib.hid (show Fuw w w2 from Below.grown (Below.refl _ _) hgrow (Nat.le_refl _) (fun k hk => by cases hk))
  clear hi hz0 hz1 hz2 hgrow
  have HO := Lib.hid (show w2.ownsRow w.heap.size 9 1 (.slice (some ⟨w.heap.size, 0, none⟩) l.length l.length) l.length (sC ((keysV l).take 0 ++ List.replicate ((keysV l).length - 0) [])) by
    rw [List.take_zero, List.nil_append, Nat.sub_zero, HK.out, ← made_strs]; exact hown)
  clear hown
  go_wp2
  go_loopw [11] (fun iv wr => ∃ i : Nat, iv = .int .i64 i ∧ i ≤ l.length ∧ Hid (wr.ownsRow w.heap.size 9 1 (.slice (some ⟨w.heap.size, 0, none⟩) l.length l.length) l.length (sC ((keysV l).take i ++ List.replicate ((keysV l).length - i) []))) ∧ Hid (Fuw w wr)) (fun iv _ => l.length - (RowKit.intOf iv).toNat)
  case atStart => exact ⟨0, rfl, Nat.zero_le _, HO, F2⟩
  case round =>
    obtain ⟨i, rfl, hii, HN, hf⟩ := hrel
    by_cases hlt : i < l.length
    · obtain ⟨b, o, rfl, hz, c0, hv⟩ := (slP_on hf.out HS.out).get hlt
      obtain ⟨-, c1, c2, c3, c4, a5, k5, c5, -⟩ := VC_of hv
      clear hv
      have hL : i < (keysV l).length := by rw [HK.out]; exact hlt
      have hG : (keysV l)[i] = l[i].k := by simp [keysV]
      have hset : ∀ o : List (List UInt8), o = (keysV l).take i ++ List.replicate ((keysV l).length - i) [] → (sC o).set i (.string (bs l[i].k)) = sC ((keysV l).take (i + 1) ++ List.replicate ((keysV l).length - (i + 1)) []) := fun o ho => by
        rw [ho, ← hG, sC_set, fill_step _ _ _ hL]
      obtain ⟨u, cg⟩ : ∃ u, wr.cell? ⟨w.heap.size, i, none⟩ = some u := by
        rw [HN.out.cellAt i (by omega)]
        exact ⟨_, List.getElem?_eq_getElem (by rw [sC_len, List.length_append, List.length_take, List.length_replicate]; omega)⟩
      have fg := HN.out.frozenAt i
      have hg := World.block_lt_of_cell? wr _ cg
      have HP := Lib.hid (show ∀ W, Fuw wr W → W.cell? ⟨w.heap.size, i, none⟩ = some u ∧ W.frozen? ⟨w.heap.size, i, none⟩ = false ∧ ((W.setCell ⟨w.heap.size, i, none⟩ (.string (bs l[i].k))).ownsRow w.heap.size 9 1 (.slice (some ⟨w.heap.size, 0, none⟩) l.length l.length) l.length (sC ((keysV l).take (i + 1) ++ List.replicate ((keysV l).length - (i + 1)) []))) from fun W hW => by
        refine ⟨(Below.cell hW hg).trans cg, (Below.frozen hW hg).trans fg, ?_⟩
        have k := (own_on HN.out hW).stored i (.string (bs l[i].k))
        rw [hset _ rfl] at k
        exact k.1)
      clear hset hL hG cg fg HN HO
      generalize l[i].k = key at *
      go_upto_region 5 with fail
      obtain ⟨W, hW⟩ : ∃ W, W = wr.alloc (.cells #[.string (bs key), .int .i64 l[i].v.kd, .int .i64 l[i].v.nn, .int .i64 l[i].v.dd, .string (bs l[i].v.ss), .slice a5 l[i].v.ll.length k5] 64) := ⟨_, rfl⟩
      rw [← hW]
      have d0 : W.cell? ⟨wr.heap.size, 0, none⟩ = some (.string (bs key)) := by rw [hW]; exact (Bk.new _ _ _).c 0
      have hfW : Fuw wr W := by rw [hW]; exact fuwA _ _
      obtain ⟨p1, p2, p3⟩ := HP.out W hfW
      have H3 := Lib.hid p3
      have HF := Lib.hid (show Fuw w (W.setCell ⟨w.heap.size, i, none⟩ (.string (bs key))) from fuwS (hf.out.trans hfW) (Nat.le_refl _))
      clear hW p3 hfW HP c0 c1 c2 c3 c4 c5 hg
      go_wp2
      go_roundw
      case rel => exact ⟨i + 1, by go_num, by omega, H3, HF⟩
      case measure => simp [RowKit.intOf]; omega
    · have e : i = l.length := by omega
      subst e
      obtain ⟨a, c, e1, e2, hS⟩ := slS_of_own (l := keysV l) (w := wr) (v := .slice (some ⟨w.heap.size, 0, none⟩) l.length l.length) (n := l.length) (base := w.heap.size) (e := 9) (by
        have k := HN.out
        rwa [List.take_of_length_le (by rw [HK.out]; exact Nat.le_refl _), HK.out, Nat.sub_self, List.replicate_zero, List.append_nil] at k) (fun s hs => by
          unfold keysV at hs
          obtain ⟨p, hp, rfl⟩ := List.mem_map.1 hs
          obtain ⟨j, hj, rfl⟩ := List.getElem_of_mem hp
          obtain ⟨-, -, -, hz, -⟩ := HS.out.get hj
          exact hz)
      have HE := Lib.hid e1
      have HSS := Lib.hid hS
      clear e1 e2 hS HN
      go_wp2
      go_ret
      exact ⟨a, c, (by rw [← HE.out]; rfl), HSS.out, hf.out⟩
end Go.Proofs.YtcadeijloobbmaaGreat

/-! Package value: truth, known, Not, And, Or, class; Go's cmp.Compare of ints and of strings. Nothing that was there turns. -/
namespace Go.Proofs.YtcadeijloobbmaaGreat
open Go.RowKit

/-- A truth value. -/
def triV (a : Int) : Int := if a = 0 ∨ a = 2 then a else 1
theorem triV_c (a : Int) : (a = 0 ∧ triV a = 0) ∨ (a = 2 ∧ triV a = 2) ∨ (a ≠ 0 ∧ a ≠ 2 ∧ triV a = 1) := by
  unfold triV
  by_cases h0 : a = 0
  · exact .inl ⟨h0, by rw [if_pos (.inl h0), h0]⟩
  · by_cases h2 : a = 2
    · exact .inr (.inl ⟨h2, by rw [if_pos (.inr h2), h2]⟩)
    · exact .inr (.inr ⟨h0, h2, by rw [if_neg (by omega)]⟩)
theorem triV_3 (a : Int) : triV a = 0 ∨ triV a = 2 ∨ triV a = 1 := by rcases triV_c a with h | h | h <;> omega
theorem triV_d (a : Int) : (a = 0 ∧ triV a = 0) ∨ (a = 2 ∧ triV a = 2) ∨ ((a == 0) = false ∧ (a == 2) = false ∧ triV a = 1) := by
  rcases triV_c a with h | h | ⟨h0, h2, h⟩
  · exact .inl h
  · exact .inr (.inl h)
  · exact .inr (.inr ⟨beq_eq_false_iff_ne.2 h0, beq_eq_false_iff_ne.2 h2, h⟩)
/-! Go's Compare. -/
/-- The class, as the code has it. -/
def classG (k : Int) : Int := if k = 1 then 1 else if k = 2 ∨ k = 3 then 2 else if k = 4 then 3 else if k = 5 then 4 else if k = 6 then 5 else if k = 8 then 6 else if k = 7 then 7 else 0
theorem classG_ok {k : Int} (h0 : 0 ≤ k) (h8 : k ≤ 8) : classG k = classV k := by
  unfold classG classV
  have : k = 0 ∨ k = 1 ∨ k = 2 ∨ k = 3 ∨ k = 4 ∨ k = 5 ∨ k = 6 ∨ k = 7 ∨ k = 8 := by omega
  rcases this with rfl | rfl | rfl | rfl | rfl | rfl | rfl | rfl | rfl <;> decide
end Go.Proofs.YtcadeijloobbmaaGreat

/-! Package num: In, abs, Mul and Gcd return what the plain definitions below say, for every pair of int values (abs: in range); nothing that was there has turned. -/
namespace Go.Proofs.YtcadeijloobbmaaGreat
open Go.RowKit
/-! ### The plain mathematics -/
def inB (n : Int) : Bool := decide (-1000000000000000 ≤ n) && decide (n ≤ 1000000000000000)
theorem inB_t {n : Int} (h : inB n = true) : -1000000000000000 ≤ n ∧ n ≤ 1000000000000000 := by simpa [inB] using h
theorem inB_f {n : Int} (h : inB n = false) : ¬ (-1000000000000000 ≤ n ∧ n ≤ 1000000000000000) := by
  intro k; simp [inB] at h; omega
theorem inB_mk {n : Int} (h0 : -1000000000000000 ≤ n) (h1 : n ≤ 1000000000000000) : inB n = true := by simp [inB]; omega
theorem inB_no {n : Int} (h : n < -1000000000000000 ∨ 1000000000000000 < n) : inB n = false := by
  simp [inB]; omega
theorem num_in (n : Int) (w : World) : Calls Tryz.prog 130 #[.int .i64 n] w fun e w' => e = .returned (.bool (inB n)) ∧ w = w' := by
  by_cases h0 : -1000000000000000 ≤ n
  · by_cases h1 : n ≤ 1000000000000000
    · rw [inB_mk h0 h1]
      go_enter Tryz.func130, Tryz.ntmps130
      go_wp2
      go_ret
      exact ⟨rfl, rfl⟩
    · rw [inB_no (by omega)]
      go_enter Tryz.func130, Tryz.ntmps130
      go_wp2
      go_ret
      exact ⟨rfl, rfl⟩
  · rw [inB_no (by omega)]
    go_enter Tryz.func130, Tryz.ntmps130
    go_wp2
    go_ret
    exact ⟨rfl, rfl⟩
def absV (n : Int) : Int := if n < 0 then -n else n
theorem absV_0 (n : Int) : 0 ≤ absV n := by unfold absV; split <;> omega
theorem absV_le {n : Int} (h0 : -1000000000000000 ≤ n) (h1 : n ≤ 1000000000000000) : absV n ≤ 1000000000000000 := by unfold absV; split <;> omega
theorem num_abs (n : Int) (h0 : -1000000000000000 ≤ n) (h1 : n ≤ 1000000000000000) (w : World) : Calls Tryz.prog 152 #[.int .i64 n] w fun e w' => e = .returned (.int .i64 (absV n)) ∧ w = w' := by
  by_cases h : n < 0
  · have hv : absV n = -n := by unfold absV; rw [if_pos h]
    rw [hv]; clear hv
    go_enter Tryz.func152, Tryz.ntmps152
    go_wp2
    go_ret
    exact ⟨rfl, rfl⟩
  · have hv : absV n = n := by unfold absV; rw [if_neg h]
    rw [hv]; clear hv
    go_enter Tryz.func152, Tryz.ntmps152
    go_wp2
    go_ret
    exact ⟨rfl, rfl⟩


theorem absV_nat (n : Int) : absV n = (n.natAbs : Int) := by unfold absV; split <;> omega
def gcdV (a b : Int) : Int := if inB a = true ∧ inB b = true then (Int.gcd a b : Int) else 0
theorem gcd_start {a b : Int} : Int.gcd (absV a) (absV b) = Int.gcd a b := by rw [absV_nat, absV_nat]; simp [Int.gcd]
theorem gcd_step {x y : Int} (hx : 0 ≤ x) : Int.gcd y (x % y) = Int.gcd x y := by
  rw [← Int.tmod_eq_emod_of_nonneg hx]
  simp only [Int.gcd, Int.natAbs_tmod]
  rw [Nat.gcd_comm x.natAbs y.natAbs, Nat.gcd_rec y.natAbs x.natAbs, Nat.gcd_comm]
theorem gcd_end {x : Int} (h : 0 ≤ x) : ((Int.gcd x 0 : Nat) : Int) = x := by simp; omega
theorem emod_lo (x : Int) {y : Int} (hy : 0 < y) : 0 ≤ x % y ∧ x % y < y := ⟨Int.emod_nonneg _ (by omega), Int.emod_lt_of_pos _ hy⟩
theorem num_gcd (a b : Int) (w : World) : Calls Tryz.prog 149 #[.int .i64 a, .int .i64 b] w fun e w' => e = .returned (.int .i64 (gcdV a b)) ∧ Fur w w' := by
  cases ha : inB a
  · have h2 : gcdV a b = 0 := by simp [gcdV, ha]
    rw [h2]; clear h2
    go_enter Tryz.func149, Tryz.ntmps149
    go_wp2_with (go_at_call 130; refine (num_in _ _).mono ?_; rintro e w' ⟨rfl, rfl⟩)
    go_ret
    exact ⟨rfl, Fur.refl _⟩
  · cases hb : inB b
    · have h2 : gcdV a b = 0 := by simp [gcdV, hb]
      rw [h2]; clear h2
      go_enter Tryz.func149, Tryz.ntmps149
      go_wp2_with (go_at_call 130; refine (num_in _ _).mono ?_; rintro e w' ⟨rfl, rfl⟩)
      go_ret
      exact ⟨rfl, Fur.refl _⟩
    · have h2 : gcdV a b = (Int.gcd a b : Int) := by simp [gcdV, ha, hb]
      rw [h2]; clear h2
      obtain ⟨a0, a1⟩ := inB_t ha
      obtain ⟨b0, b1⟩ := inB_t hb
      have p1 := absV_0 a
      have p2 := absV_le a0 a1
      have q1 := absV_0 b
      have q2 := absV_le b0 b1
      go_enter Tryz.func149, Tryz.ntmps149
      go_wp2_with (first | (go_at_call 130; refine (num_in _ _).mono ?_; rintro e w' ⟨rfl, rfl⟩) | (go_at_call 152; refine (num_abs _ (by assumption) (by assumption) _).mono ?_; rintro e w' ⟨rfl, rfl⟩))
      go_loopw [0, 1] (fun x y wr => ∃ p q : Int, x = .int .i64 p ∧ y = .int .i64 q ∧ 0 ≤ p ∧ p ≤ 1000000000000000 ∧ 0 ≤ q ∧ q ≤ 1000000000000000 ∧ Hid (Int.gcd p q = Int.gcd a b) ∧ Fur w wr) (fun _ y _ => (intOf y).toNat)
      case atStart => exact ⟨_, _, rfl, rfl, p1, p2, q1, q2, gcd_start, Fur.refl _⟩
      case round =>
        obtain ⟨p, q, rfl, rfl, c1, c2, c3, c4, HG, hf⟩ := hrel
        by_cases hq : q = 0
        · subst hq
          have hp := gcd_end c1
          rw [HG.out] at hp
          have HP := Lib.hid hp; clear hp
          go_wp2
          go_ret
          exact ⟨ret_int HP.out.symm, hf⟩
        · have hne : (q != 0) = true := by simpa using hq
          obtain ⟨t0, t1⟩ := emod_lo p (show 0 < q by omega)
          go_wp2
          go_region
          go_wp2
          go_roundw
          case rel => exact ⟨_, _, rfl, rfl, by omega, by omega, by omega, by omega, (gcd_step c1).trans HG.out, hf.drew⟩
          case measure => simp [intOf]; omega
end Go.Proofs.YtcadeijloobbmaaGreat
