
/-
  cmp.Compare and cmp.Or of ints; packages column and overlay: the order of entries, ids, increasing lists. Nothing that was there turns.
-/
import Derived.Test.YtpjikijfendmhaaGreatCoMem
namespace Go.Proofs.YtpjikijfendmhaaGreat
open Go.RowKit

theorem cmpi_any (a b : Int) (w : World) : Calls Tryz.prog 38 #[.int .i64 a, .int .i64 b] w (PureI w (intc a b)) := by
  by_cases h1 : a < b
  · rw [show intc a b = -1 by unfold intc; rw [if_pos h1]]
    go_enter Tryz.func38, Tryz.ntmps38
    go_wp2
    go_ret
    exact ⟨rfl, rfl⟩
  · by_cases h2 : b < a
    · rw [show intc a b = 1 by unfold intc; rw [if_neg h1, if_pos h2]]
      go_enter Tryz.func38, Tryz.ntmps38
      go_wp2
      go_ret
      exact ⟨rfl, rfl⟩
    · rw [show intc a b = 0 by unfold intc; rw [if_neg h1, if_neg h2]]
      go_enter Tryz.func38, Tryz.ntmps38
      go_wp2
      go_ret
      exact ⟨rfl, rfl⟩
/-- The i-th of three. -/
def sel3 (a b c : Int) (i : Nat) : Int := if i = 0 then a else if i = 1 then b else c
set_option maxHeartbeats 1600000 in
set_option maxRecDepth 100000 in
theorem or3_any (a b c : Int) (B : Nat) (w : World) (h0 : w.cell? ⟨B, 0, none⟩ = some (.int .i64 a)) (h1 : w.cell? ⟨B, 1, none⟩ = some (.int .i64 b)) (h2 : w.cell? ⟨B, 2, none⟩ = some (.int .i64 c)) :
    Calls Tryz.prog 77 #[.slice (some ⟨B, 0, none⟩) 3 3] w (PureI w (thn a (thn b c))) := by
  have HC : Hid (∀ i : Nat, i < 3 → w.cell? ⟨B, i, none⟩ = some (.int .i64 (sel3 a b c i))) := Lib.hid (fun i hi => by
    rcases (show i = 0 ∨ i = 1 ∨ i = 2 by omega) with rfl | rfl | rfl
    · exact h0
    · exact h1
    · exact h2)
  obtain ⟨R, hR⟩ : ∃ R, R = thn a (thn b c) := ⟨_, rfl⟩
  rw [← hR]
  have HR := Lib.hid hR
  clear hR h0 h1 h2
  go_enter Tryz.func77, Tryz.ntmps77
  go_wp2
  go_loop [8] (fun iv => ∃ i : Nat, iv = .int .i64 i ∧ i ≤ 3 ∧ Hid ((0 < i → a = 0) ∧ (1 < i → b = 0) ∧ (2 < i → c = 0))) (fun iv => 3 - (RowKit.intOf iv).toNat)
  case atStart => exact ⟨0, rfl, by omega, ⟨fun h => absurd h (by omega), fun h => absurd h (by omega), fun h => absurd h (by omega)⟩⟩
  case round =>
    obtain ⟨i, rfl, hi, HQ⟩ := hrel
    by_cases hlt : i < 3
    · have c0 := HC.out i hlt
      have hlt' : (i : Int) < 3 := by omega
      obtain ⟨v, hv⟩ : ∃ v, v = sel3 a b c i := ⟨_, rfl⟩
      rw [← hv] at c0
      have HV := Lib.hid hv
      clear hv HC
      by_cases hz : v = 0
      · subst hz
        have HZ := Lib.hid (show (0 < i + 1 → a = 0) ∧ (1 < i + 1 → b = 0) ∧ (2 < i + 1 → c = 0) from by
          have h := HV.out
          unfold sel3 at h
          obtain ⟨q0, q1, q2⟩ := HQ.out
          rcases (show i = 0 ∨ i = 1 ∨ i = 2 by omega) with rfl | rfl | rfl
          · rw [if_pos rfl] at h
            exact ⟨fun _ => h.symm, fun g => absurd g (by omega), fun g => absurd g (by omega)⟩
          · rw [if_neg (by omega), if_pos rfl] at h
            exact ⟨fun _ => q0 (by omega), fun _ => h.symm, fun g => absurd g (by omega)⟩
          · rw [if_neg (by omega), if_neg (by omega)] at h
            exact ⟨fun _ => q0 (by omega), fun _ => q1 (by omega), fun _ => h.symm⟩)
        go_wp2
        go_round
        case rel => exact ⟨i + 1, by go_num, by omega, HZ⟩
        case measure => simp [RowKit.intOf]; omega
      · have hz' : (v != 0) = true := by rw [bne_iff_ne]; exact hz
        have HZ := Lib.hid (show R = v by
          have h := HV.out
          obtain ⟨q0, q1, q2⟩ := HQ.out
          unfold sel3 at h
          rcases (show i = 0 ∨ i = 1 ∨ i = 2 by omega) with rfl | rfl | rfl
          · rw [if_pos rfl] at h
            rw [HR.out, h, thn_n (by rw [← h]; exact hz)]
          · rw [if_neg (by omega), if_pos rfl] at h
            rw [HR.out, q0 (by omega), show thn 0 (thn b c) = thn b c from if_pos rfl, h, thn_n (by rw [← h]; exact hz)]
          · rw [if_neg (by omega), if_neg (by omega)] at h
            rw [HR.out, q0 (by omega), q1 (by omega), h]; rfl)
        clear hz
        go_wp2
        go_ret
        exact ⟨ret_int HZ.out.symm, rfl⟩
    · have HZ := Lib.hid (show R = 0 by
        obtain ⟨q0, q1, q2⟩ := HQ.out
        rw [HR.out, q0 (by omega), q1 (by omega), q2 (by omega)]; rfl)
      have hge : ¬ (i : Int) < 3 := by omega
      clear HQ HC
      go_wp2
      go_ret
      exact ⟨ret_int HZ.out.symm, rfl⟩

/-- What a function that compares two entries answers. -/
def Ords (f : Nat) : Prop := ∀ (x y : Aj) (w : World), Calls Tryz.prog f #[adv x, adv y] w (RetI w (adjc x y))
set_option maxHeartbeats 3200000 in
set_option maxRecDepth 100000 in
theorem ordc_any : Ords 73 := by
  rintro ⟨f1, t1, e1⟩ ⟨f2, t2, e2⟩ w
  have HJ := Lib.hid (show adjc (f1, t1, e1) (f2, t2, e2) = thn (intc f1 f2) (thn (intc t1 t2) (intc e1 e2)) from rfl)
  generalize adjc (f1, t1, e1) (f2, t2, e2) = R at *
  unfold adv
  have p1 := Bk.new w #[.int .i64 f1, .int .i64 t1, .int .i64 e1] 42
  have s1 : (w.alloc (.cells #[.int .i64 f1, .int .i64 t1, .int .i64 e1] 42)).heap.size = w.heap.size + 1 := by simp
  have p2 := Bk.new (w.alloc (.cells #[.int .i64 f1, .int .i64 t1, .int .i64 e1] 42)) #[.int .i64 f2, .int .i64 t2, .int .i64 e2] 42
  rw [s1] at p2
  replace p1 := p1.on (fuwA _ (.cells #[.int .i64 f2, .int .i64 t2, .int .i64 e2] 42))
  have f0 := ((Fur.refl w).alloc (.cells #[.int .i64 f1, .int .i64 t1, .int .i64 e1] 42)).alloc (.cells #[.int .i64 f2, .int .i64 t2, .int .i64 e2] 42)
  clear s1
  go_enter Tryz.func73, Tryz.ntmps73
  go_upto_region 1 with fail
  generalize (w.alloc (.cells #[.int .i64 f1, .int .i64 t1, .int .i64 e1] 42)).alloc (.cells #[.int .i64 f2, .int .i64 t2, .int .i64 e2] 42) = W at *
  have c0 : W.cell? ⟨w.heap.size, 0, none⟩ = some (.int .i64 f1) := p1.c 0
  have c1 : W.cell? ⟨w.heap.size, 1, none⟩ = some (.int .i64 t1) := p1.c 1
  have c2 : W.cell? ⟨w.heap.size, 2, none⟩ = some (.int .i64 e1) := p1.c 2
  have d0 : W.cell? ⟨w.heap.size + 1, 0, none⟩ = some (.int .i64 f2) := p2.c 0
  have d1 : W.cell? ⟨w.heap.size + 1, 1, none⟩ = some (.int .i64 t2) := p2.c 1
  have d2 : W.cell? ⟨w.heap.size + 1, 2, none⟩ = some (.int .i64 e2) := p2.c 2
  have hk := f0.size
  have ff : Fur W W.drew := Fur.drew (Fur.refl W)
  have F0 := Lib.hid f0
  clear p1 p2 f0
  go_region_held3 (fun w' => Fur W w' ∧ w'.cell? ⟨w.heap.size, 0, none⟩ = some (.int .i64 f1) ∧ w'.cell? ⟨w.heap.size, 1, none⟩ = some (.int .i64 t1) ∧ w'.cell? ⟨w.heap.size, 2, none⟩ = some (.int .i64 e1) ∧ w'.cell? ⟨w.heap.size + 1, 0, none⟩ = some (.int .i64 f2) ∧ w'.cell? ⟨w.heap.size + 1, 1, none⟩ = some (.int .i64 t2) ∧ w'.cell? ⟨w.heap.size + 1, 2, none⟩ = some (.int .i64 e2))
    (first | exact ⟨ff, c0, c1, c2, d0, d1, d2⟩ | exact ⟨ff.alloc _, cellOn (ff.alloc _) c0, cellOn (ff.alloc _) c1, cellOn (ff.alloc _) c2, cellOn (ff.alloc _) d0, cellOn (ff.alloc _) d1, cellOn (ff.alloc _) d2⟩)
    (first
      | (go_at_call 38; refine (cmpi_any _ _ _).mono ?_; rintro e w4 ⟨rfl, rfl⟩)
      | (go_at_call 77; refine (or3_any (intc f1 f2) (intc t1 t2) (intc e1 e2) _ _ ((Bk.new _ _ _).c 0) ((Bk.new _ _ _).c 1) ((Bk.new _ _ _).c 2)).mono ?_; rintro e w4 ⟨rfl, rfl⟩))
  all_goals
    go_wp2
    go_ret
    exact ⟨ret_int HJ.out.symm, F0.out.trans (ff.alloc _)⟩
theorem isid_any (x : Int) (w : World) : Calls Tryz.prog 60 #[.int .i64 x] w (PureB w (idB x)) := by
  have HL := Lib.hid (show idB x = (decide (1 ≤ x) && decide (x ≤ 1000000)) from rfl)
  generalize idB x = L at *
  go_enter Tryz.func60, Tryz.ntmps60
  go_wp2
  all_goals
    go_ret
    exact ⟨ret_bool (by rw [HL.out, Bool.eq_iff_iff]; simp; omega), rfl⟩
theorem all_drop {α : Type} {p : α → Bool} {l : List α} {i : Nat} (h : i < l.length) : (l.drop i).all p = (p l[i] && (l.drop (i + 1)).all p) := by
  rw [List.drop_eq_getElem_cons h, List.all_cons]
theorem all_end {α : Type} {p : α → Bool} {l : List α} {i : Nat} (h : l.length ≤ i) : (l.drop i).all p = true := by
  rw [List.drop_of_length_le h]; rfl
set_option maxHeartbeats 1600000 in
set_option maxRecDepth 100000 in
theorem areids_any (l : List Int) (ao : Option Addr) (cap : Nat) (w : World) (hs : SlI w ao l cap) :
    Calls Tryz.prog 68 #[.slice ao l.length cap] w (PureB w (l.all idB)) := by
  have hl := hs.len
  have HS := Lib.hid hs
  obtain ⟨R, hR⟩ : ∃ R, R = l.all idB := ⟨_, rfl⟩
  rw [← hR]
  have HR := Lib.hid (show R = (l.drop 0).all idB from hR)
  clear hR hs
  go_enter Tryz.func68, Tryz.ntmps68
  go_wp2
  go_loop [7] (fun iv => ∃ i : Nat, iv = .int .i64 i ∧ i ≤ l.length ∧ Hid (R = (l.drop i).all idB)) (fun iv => l.length - (RowKit.intOf iv).toNat)
  case atStart => exact ⟨0, rfl, Nat.zero_le _, HR⟩
  case round =>
    obtain ⟨i, rfl, hi, HQ⟩ := hrel
    by_cases hlt : i < l.length
    · obtain ⟨b, o, rfl, hx, c0⟩ := HS.out.get hlt
      have HA := Lib.hid (all_drop (p := idB) hlt)
      generalize l[i] = x at *
      rw [Nat.mul_one] at c0
      have HC := Lib.hid (isid_any x w)
      generalize idB x = q at *
      cases q
      · have HZ := Lib.hid (show R = false by rw [HQ.out, HA.out, Bool.false_and])
        go_wp2_with (go_at_call 60; refine HC.out.mono ?_; rintro e w4 ⟨rfl, rfl⟩)
        go_ret
        exact ⟨ret_bool HZ.out.symm, rfl⟩
      · have HZ := Lib.hid (show R = (l.drop (i + 1)).all idB by rw [HQ.out, HA.out, Bool.true_and])
        go_wp2_with (go_at_call 60; refine HC.out.mono ?_; rintro e w4 ⟨rfl, rfl⟩)
        go_round
        case rel => exact ⟨i + 1, by go_num, by omega, HZ⟩
        case measure => simp [RowKit.intOf]; omega
    · have HZ := Lib.hid (show R = true by rw [HQ.out, all_end (by omega)])
      go_wp2
      go_ret
      exact ⟨ret_bool HZ.out.symm, rfl⟩
/-- A bool; nothing but draws has come. -/
def QB (w : World) (b : Bool) (e : Ending) (w' : World) : Prop := e = .returned (.bool b) ∧ ∃ m, w' = w.drewN m
theorem quF {w w' : World} (h : ∃ m, w' = w.drewN m) : Fuw w w' := by obtain ⟨m, rfl⟩ := h; exact fuw_dr w m
theorem quD {w w' : World} (h : ∃ m, w' = w.drewN m) : ∃ m, w'.drew = w.drewN m := by obtain ⟨m, rfl⟩ := h; exact ⟨m + 1, rfl⟩
set_option maxHeartbeats 1600000 in
set_option maxRecDepth 100000 in
theorem areinc_q (l : List Int) (ao : Option Addr) (cap : Nat) (w : World) (hs : SlI w ao l cap) :
    Calls Tryz.prog 69 #[.slice ao l.length cap] w (QB w (incI l)) := by
  have hl := hs.le
  have hm := hs.max
  unfold maxLen at hm
  have HS := Lib.hid hs
  obtain ⟨R, hR⟩ : ∃ R, R = incI l := ⟨_, rfl⟩
  rw [← hR]
  have HR := Lib.hid (show R = incI (l.drop 0) from hR)
  clear hR hs
  go_enter Tryz.func69, Tryz.ntmps69
  go_wp2
  go_loopw [3] (fun iv wr => ∃ i : Nat, iv = .int .i64 ((i : Int) + 1) ∧ i ≤ l.length ∧ Hid (R = incI (l.drop i)) ∧ Hid (∃ m, wr = w.drewN m)) (fun iv _ => l.length + 1 - (RowKit.intOf iv).toNat)
  case atStart => exact ⟨0, rfl, Nat.zero_le _, HR, Lib.hid ⟨0, rfl⟩⟩
  case round =>
    obtain ⟨i, rfl, hi, HQ, hf⟩ := hrel
    by_cases hlt : i + 1 < l.length
    · obtain ⟨b, o, rfl, ⟨hx, c0⟩, hy, c1⟩ := (slI_on (quF hf.out) HS.out).get2 (show i < l.length by omega) hlt
      have HA := Lib.hid (incI_drop hlt)
      have e1 : (i : Int) + 1 - 1 = i := by omega
      have e2 : ((i : Int) + 1).toNat = i + 1 := by omega
      have hlt' : (i : Int) + 1 < (l.length : Int) := by omega
      generalize l[i] = x at *
      generalize l[i + 1] = y at *
      rw [Nat.mul_one] at c0 c1
      by_cases hxy : x < y
      · have hd : decide (y ≤ x) = false := by simpa using hxy
        have hd2 : ¬ y ≤ x := by omega
        have HZ := Lib.hid (show R = incI (l.drop (i + 1)) by rw [HQ.out, HA.out, decide_eq_true hxy, Bool.true_and])
        go_upto_region 4 with fail
        go_region
        go_wp2
        go_roundw
        case rel => exact ⟨i + 1, by go_num, by omega, HZ, Lib.hid (quD hf.out)⟩
        case measure => simp [RowKit.intOf]; omega
      · have hd2 : y ≤ x := by omega
        have hd : decide (y ≤ x) = true := decide_eq_true hd2
        have HZ := Lib.hid (show R = false by rw [HQ.out, HA.out, decide_eq_false hxy, Bool.false_and])
        go_upto_region 4 with fail
        go_region
        go_wp2
        go_ret
        exact ⟨ret_bool HZ.out.symm, quD hf.out⟩
    · have HZ := Lib.hid (show R = true by rw [HQ.out, incI_end (by omega)])
      have hlt' : ¬ (i : Int) + 1 < (l.length : Int) := by omega
      go_wp2
      go_ret
      exact ⟨ret_bool HZ.out.symm, hf.out⟩
theorem areinc_any (l : List Int) (ao : Option Addr) (cap : Nat) (w : World) (hs : SlI w ao l cap) :
    Calls Tryz.prog 69 #[.slice ao l.length cap] w (FwB w (incI l)) := (areinc_q l ao cap w hs).mono fun _ _ ⟨he, hq⟩ => ⟨he, quF hq⟩
end Go.Proofs.YtpjikijfendmhaaGreat
