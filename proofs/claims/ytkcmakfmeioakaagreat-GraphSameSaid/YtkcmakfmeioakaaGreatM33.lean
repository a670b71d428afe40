/-
  GtN; GtE: texts of one kind in one file; each part says what it holds.
-/
import Derived.Test.YtkcmakfmeioakaaGreatM27

/-! Package graph: slices.EqualFunc of two rows, given what its function answers of each pair. Nothing that was there turns. -/
namespace Go.Proofs.YtkcmakfmeioakaaGreat
open Go.RowKit

set_option maxHeartbeats 3200000 in
set_option maxRecDepth 100000 in
theorem eqf_N (us vs : List (List Value)) (ao bo : Option Addr) (ca cb : Nat) (w : World) (hU : CRow 3 w ao us) (hV : CRow 3 w bo vs)
    (hX : ∀ (i : Nat) (h : i < us.length), Fm3 us[i]) (hY : ∀ (i : Nat) (h : i < vs.length), Fm3 vs[i]) (f : Nat → Bool)
    (hf : ∀ (i : Nat) (h : i < us.length) (h' : i < vs.length) (w' : World), Fuw w w' → Calls Tryz.prog 18 #[.agg us[i].toArray, .agg vs[i].toArray] w' (FwB w' (f i))) :
    Calls Tryz.prog 17 #[.slice ao us.length ca, .slice bo vs.length cb, .func (.func 18) #[] #[]] w (FwB w (decide (us.length = vs.length) && (List.range us.length).all f)) := by
  have lu := hU.len
  have lv := hV.len
  have HU := Lib.hid hU
  have HV := Lib.hid hV
  have HX := Lib.hid hX
  have HY := Lib.hid hY
  have HF := Lib.hid hf
  clear hU hV hf hX hY
  by_cases hl : us.length = vs.length
  · have HR := Lib.hid (show (decide (us.length = vs.length) && (List.range us.length).all f) = (List.range us.length).all f by rw [decide_eq_true hl, Bool.true_and])
    rw [HR.out]
    have HL := Lib.hid hl
    have hq : ((us.length : Int) != (vs.length : Int)) = false := by rw [hl]; simp
    clear hl
    obtain ⟨ans, hA⟩ : ∃ ans, ans = (List.range us.length).all f := ⟨_, rfl⟩
    rw [← hA]
    have HA0 := Lib.hid hA
    clear hA HR
    go_enter Tryz.func17, Tryz.ntmps17
    go_wp2
    clear hq
    go_loopw [17] (fun iv wr => ∃ i : Nat, iv = .int .i64 i ∧ i ≤ us.length ∧ Hid ((List.range i).all f = true) ∧ Hid (Fuw w wr)) (fun iv _ => us.length - (RowKit.intOf iv).toNat)
    case atStart => exact ⟨0, rfl, Nat.zero_le _, rfl, Fuw.refl _⟩
    case round =>
      obtain ⟨i, rfl, hi, HA, hg⟩ := hrel
      by_cases hlt : i < us.length
      · have hlv : i < vs.length := by have := HL.out; omega
        have hlt2 : (i : Int) < (us.length : Int) := by omega
        have hlv2 : (i : Int) < (vs.length : Int) := by omega
        obtain ⟨b, o, rfl, hc⟩ := (HU.out.on hg.out).at_ (by omega)
        obtain ⟨b', o', rfl, hd⟩ := (HV.out.on hg.out).at_ (by omega)
        have hci := hc i hlt
        have hdi := hd i hlv
        have hs1 := HX.out i hlt
        have hs2 := HY.out i hlv
        have HC := Lib.hid (fun w' (h : Fuw wr w') => HF.out i hlt hlv w' (hg.out.trans h))
        have HS1 := Lib.hid (all_range f i)
        have HS2 := Lib.hid (fun (h : f i = false) => HA0.out.trans (all_false hlt h))
        clear hc hd
        generalize us[i] = u at *
        generalize vs[i] = v at *
        obtain ⟨a0, r0, n0, k0, t0, m0, l0, rfl⟩ := hs1
        obtain ⟨a1, r1, n1, k1, t1, m1, l1, rfl⟩ := hs2
        have ec0 : wr.cell? ⟨b, o + i * 3, none⟩ = some (.int .i64 a0) := hci 0 (by decide)
        have ed0 : (wr.alloc (.cells #[.int .i64 a0, .slice r0 n0 k0, .slice t0 m0 l0] 33)).cell? ⟨b', o' + i * 3, none⟩ = some (.int .i64 a1) := cellOnw (fuwA wr _) (hdi 0 (by decide))
        have ec1 : wr.cell? ⟨b, o + i * 3 + 1, none⟩ = some (.slice r0 n0 k0) := hci 1 (by decide)
        have ed1 : (wr.alloc (.cells #[.int .i64 a0, .slice r0 n0 k0, .slice t0 m0 l0] 33)).cell? ⟨b', o' + i * 3 + 1, none⟩ = some (.slice r1 n1 k1) := cellOnw (fuwA wr _) (hdi 1 (by decide))
        have ec2 : wr.cell? ⟨b, o + i * 3 + 2, none⟩ = some (.slice t0 m0 l0) := hci 2 (by decide)
        have ed2 : (wr.alloc (.cells #[.int .i64 a0, .slice r0 n0 k0, .slice t0 m0 l0] 33)).cell? ⟨b', o' + i * 3 + 2, none⟩ = some (.slice t1 m1 l1) := cellOnw (fuwA wr _) (hdi 2 (by decide))
        have HC2 : Hid (∀ w', Fuw wr w' → Calls Tryz.prog 18 #[.agg #[.int .i64 a0, .slice r0 n0 k0, .slice t0 m0 l0], .agg #[.int .i64 a1, .slice r1 n1 k1, .slice t1 m1 l1]] w' (FwB w' (f i))) := HC
        clear HC hci hdi
        obtain ⟨r, hr⟩ : ∃ r, r = f i := ⟨_, rfl⟩
        rw [← hr] at HC2 HS1 HS2
        have HRR := Lib.hid hr
        clear hr
        have f0 : Fuw wr ((wr.alloc (.cells #[.int .i64 a0, .slice r0 n0 k0, .slice t0 m0 l0] 33)).alloc (.cells #[.int .i64 a1, .slice r1 n1 k1, .slice t1 m1 l1] 33)) := (fuwA wr _).trans (fuwA _ _)
        have P0 : Bk ((wr.alloc (.cells #[.int .i64 a0, .slice r0 n0 k0, .slice t0 m0 l0] 33)).alloc (.cells #[.int .i64 a1, .slice r1 n1 k1, .slice t1 m1 l1] 33)) wr.heap.size #[.int .i64 a0, .slice r0 n0 k0, .slice t0 m0 l0] 33 := (Bk.new wr _ _).on (fuwA _ _)
        have P1 : Bk ((wr.alloc (.cells #[.int .i64 a0, .slice r0 n0 k0, .slice t0 m0 l0] 33)).alloc (.cells #[.int .i64 a1, .slice r1 n1 k1, .slice t1 m1 l1] 33)) (wr.heap.size + 1) #[.int .i64 a1, .slice r1 n1 k1, .slice t1 m1 l1] 33 := by
          have := Bk.new (wr.alloc (.cells #[.int .i64 a0, .slice r0 n0 k0, .slice t0 m0 l0] 33)) #[.int .i64 a1, .slice r1 n1 k1, .slice t1 m1 l1] 33
          rwa [show (wr.alloc (.cells #[.int .i64 a0, .slice r0 n0 k0, .slice t0 m0 l0] 33)).heap.size = wr.heap.size + 1 by simp] at this
        have F0 := Lib.hid f0
        have em0 : ((wr.alloc (.cells #[.int .i64 a0, .slice r0 n0 k0, .slice t0 m0 l0] 33)).alloc (.cells #[.int .i64 a1, .slice r1 n1 k1, .slice t1 m1 l1] 33)).cell? ⟨wr.heap.size, 0, none⟩ = some (.int .i64 a0) := P0.c 0
        have en0 : ((wr.alloc (.cells #[.int .i64 a0, .slice r0 n0 k0, .slice t0 m0 l0] 33)).alloc (.cells #[.int .i64 a1, .slice r1 n1 k1, .slice t1 m1 l1] 33)).cell? ⟨wr.heap.size + 1, 0, none⟩ = some (.int .i64 a1) := P1.c 0
        have em1 : ((wr.alloc (.cells #[.int .i64 a0, .slice r0 n0 k0, .slice t0 m0 l0] 33)).alloc (.cells #[.int .i64 a1, .slice r1 n1 k1, .slice t1 m1 l1] 33)).cell? ⟨wr.heap.size, 1, none⟩ = some (.slice r0 n0 k0) := P0.c 1
        have en1 : ((wr.alloc (.cells #[.int .i64 a0, .slice r0 n0 k0, .slice t0 m0 l0] 33)).alloc (.cells #[.int .i64 a1, .slice r1 n1 k1, .slice t1 m1 l1] 33)).cell? ⟨wr.heap.size + 1, 1, none⟩ = some (.slice r1 n1 k1) := P1.c 1
        have em2 : ((wr.alloc (.cells #[.int .i64 a0, .slice r0 n0 k0, .slice t0 m0 l0] 33)).alloc (.cells #[.int .i64 a1, .slice r1 n1 k1, .slice t1 m1 l1] 33)).cell? ⟨wr.heap.size, 2, none⟩ = some (.slice t0 m0 l0) := P0.c 2
        have en2 : ((wr.alloc (.cells #[.int .i64 a0, .slice r0 n0 k0, .slice t0 m0 l0] 33)).alloc (.cells #[.int .i64 a1, .slice r1 n1 k1, .slice t1 m1 l1] 33)).cell? ⟨wr.heap.size + 1, 2, none⟩ = some (.slice t1 m1 l1) := P1.c 2
        clear f0 P0 P1
        go_wp2_with fail
        go_at_call 18; refine (HC2.out _ F0.out).mono ?_; rintro e1 w1 ⟨rfl, f1⟩
        have HG := Lib.hid (hg.out.trans (F0.out.trans f1))
        clear f1 ec0 ed0 em0 en0 ec1 ed1 em1 en1 ec2 ed2 em2 en2
        cases r with
        | true =>
          have HN := Lib.hid (show (List.range (i + 1)).all f = true by rw [HS1.out, HA.out]; rfl)
          go_wp2
          go_roundw
          case rel => exact ⟨i + 1, by go_num, by omega, HN, HG⟩
          case measure => simp [RowKit.intOf]; omega
        | false =>
          have HN := Lib.hid (HS2.out rfl)
          go_wp2
          go_ret
          exact ⟨ret_bool HN.out.symm, HG.out⟩
      · have HN := Lib.hid (show ans = true by have := HA.out; rw [HA0.out]; rwa [show i = us.length by omega] at this)
        go_wp2
        go_ret
        exact ⟨ret_bool HN.out.symm, hg.out⟩
  · have HR := Lib.hid (show (decide (us.length = vs.length) && (List.range us.length).all f) = false by rw [decide_eq_false hl, Bool.false_and])
    have hq : ((us.length : Int) != (vs.length : Int)) = true := by rw [bne_iff_ne]; omega
    rw [HR.out]
    clear hl HR
    go_enter Tryz.func17, Tryz.ntmps17
    go_wp2
    go_ret
    exact ⟨rfl, Fuw.refl _⟩
end Go.Proofs.YtkcmakfmeioakaaGreat

/-! Package graph: slices.EqualFunc of two rows, given what its function answers of each pair. Nothing that was there turns. -/
namespace Go.Proofs.YtkcmakfmeioakaaGreat
open Go.RowKit

set_option maxHeartbeats 3200000 in
set_option maxRecDepth 100000 in
theorem eqf_E (us vs : List (List Value)) (ao bo : Option Addr) (ca cb : Nat) (w : World) (hU : CRow 5 w ao us) (hV : CRow 5 w bo vs)
    (hX : ∀ (i : Nat) (h : i < us.length), Fm5 us[i]) (hY : ∀ (i : Nat) (h : i < vs.length), Fm5 vs[i]) (f : Nat → Bool)
    (hf : ∀ (i : Nat) (h : i < us.length) (h' : i < vs.length) (w' : World), Fuw w w' → Calls Tryz.prog 20 #[.agg us[i].toArray, .agg vs[i].toArray] w' (FwB w' (f i))) :
    Calls Tryz.prog 19 #[.slice ao us.length ca, .slice bo vs.length cb, .func (.func 20) #[] #[]] w (FwB w (decide (us.length = vs.length) && (List.range us.length).all f)) := by
  have lu := hU.len
  have lv := hV.len
  have HU := Lib.hid hU
  have HV := Lib.hid hV
  have HX := Lib.hid hX
  have HY := Lib.hid hY
  have HF := Lib.hid hf
  clear hU hV hf hX hY
  by_cases hl : us.length = vs.length
  · have HR := Lib.hid (show (decide (us.length = vs.length) && (List.range us.length).all f) = (List.range us.length).all f by rw [decide_eq_true hl, Bool.true_and])
    rw [HR.out]
    have HL := Lib.hid hl
    have hq : ((us.length : Int) != (vs.length : Int)) = false := by rw [hl]; simp
    clear hl
    obtain ⟨ans, hA⟩ : ∃ ans, ans = (List.range us.length).all f := ⟨_, rfl⟩
    rw [← hA]
    have HA0 := Lib.hid hA
    clear hA HR
    go_enter Tryz.func19, Tryz.ntmps19
    go_wp2
    clear hq
    go_loopw [17] (fun iv wr => ∃ i : Nat, iv = .int .i64 i ∧ i ≤ us.length ∧ Hid ((List.range i).all f = true) ∧ Hid (Fuw w wr)) (fun iv _ => us.length - (RowKit.intOf iv).toNat)
    case atStart => exact ⟨0, rfl, Nat.zero_le _, rfl, Fuw.refl _⟩
    case round =>
      obtain ⟨i, rfl, hi, HA, hg⟩ := hrel
      by_cases hlt : i < us.length
      · have hlv : i < vs.length := by have := HL.out; omega
        have hlt2 : (i : Int) < (us.length : Int) := by omega
        have hlv2 : (i : Int) < (vs.length : Int) := by omega
        obtain ⟨b, o, rfl, hc⟩ := (HU.out.on hg.out).at_ (by omega)
        obtain ⟨b', o', rfl, hd⟩ := (HV.out.on hg.out).at_ (by omega)
        have hci := hc i hlt
        have hdi := hd i hlv
        have hs1 := HX.out i hlt
        have hs2 := HY.out i hlv
        have HC := Lib.hid (fun w' (h : Fuw wr w') => HF.out i hlt hlv w' (hg.out.trans h))
        have HS1 := Lib.hid (all_range f i)
        have HS2 := Lib.hid (fun (h : f i = false) => HA0.out.trans (all_false hlt h))
        clear hc hd
        generalize us[i] = u at *
        generalize vs[i] = v at *
        obtain ⟨a0, b0, c0, s0, r0, n0, k0, rfl⟩ := hs1
        obtain ⟨a1, b1, c1, s1, r1, n1, k1, rfl⟩ := hs2
        have ec0 : wr.cell? ⟨b, o + i * 5, none⟩ = some (.int .i64 a0) := hci 0 (by decide)
        have ed0 : (wr.alloc (.cells #[.int .i64 a0, .int .i64 b0, .int .i64 c0, .string s0, .slice r0 n0 k0] 35)).cell? ⟨b', o' + i * 5, none⟩ = some (.int .i64 a1) := cellOnw (fuwA wr _) (hdi 0 (by decide))
        have ec1 : wr.cell? ⟨b, o + i * 5 + 1, none⟩ = some (.int .i64 b0) := hci 1 (by decide)
        have ed1 : (wr.alloc (.cells #[.int .i64 a0, .int .i64 b0, .int .i64 c0, .string s0, .slice r0 n0 k0] 35)).cell? ⟨b', o' + i * 5 + 1, none⟩ = some (.int .i64 b1) := cellOnw (fuwA wr _) (hdi 1 (by decide))
        have ec2 : wr.cell? ⟨b, o + i * 5 + 2, none⟩ = some (.int .i64 c0) := hci 2 (by decide)
        have ed2 : (wr.alloc (.cells #[.int .i64 a0, .int .i64 b0, .int .i64 c0, .string s0, .slice r0 n0 k0] 35)).cell? ⟨b', o' + i * 5 + 2, none⟩ = some (.int .i64 c1) := cellOnw (fuwA wr _) (hdi 2 (by decide))
        have ec3 : wr.cell? ⟨b, o + i * 5 + 3, none⟩ = some (.string s0) := hci 3 (by decide)
        have ed3 : (wr.alloc (.cells #[.int .i64 a0, .int .i64 b0, .int .i64 c0, .string s0, .slice r0 n0 k0] 35)).cell? ⟨b', o' + i * 5 + 3, none⟩ = some (.string s1) := cellOnw (fuwA wr _) (hdi 3 (by decide))
        have ec4 : wr.cell? ⟨b, o + i * 5 + 4, none⟩ = some (.slice r0 n0 k0) := hci 4 (by decide)
        have ed4 : (wr.alloc (.cells #[.int .i64 a0, .int .i64 b0, .int .i64 c0, .string s0, .slice r0 n0 k0] 35)).cell? ⟨b', o' + i * 5 + 4, none⟩ = some (.slice r1 n1 k1) := cellOnw (fuwA wr _) (hdi 4 (by decide))
        have HC2 : Hid (∀ w', Fuw wr w' → Calls Tryz.prog 20 #[.agg #[.int .i64 a0, .int .i64 b0, .int .i64 c0, .string s0, .slice r0 n0 k0], .agg #[.int .i64 a1, .int .i64 b1, .int .i64 c1, .string s1, .slice r1 n1 k1]] w' (FwB w' (f i))) := HC
        clear HC hci hdi
        obtain ⟨r, hr⟩ : ∃ r, r = f i := ⟨_, rfl⟩
        rw [← hr] at HC2 HS1 HS2
        have HRR := Lib.hid hr
        clear hr
        have f0 : Fuw wr ((wr.alloc (.cells #[.int .i64 a0, .int .i64 b0, .int .i64 c0, .string s0, .slice r0 n0 k0] 35)).alloc (.cells #[.int .i64 a1, .int .i64 b1, .int .i64 c1, .string s1, .slice r1 n1 k1] 35)) := (fuwA wr _).trans (fuwA _ _)
        have P0 : Bk ((wr.alloc (.cells #[.int .i64 a0, .int .i64 b0, .int .i64 c0, .string s0, .slice r0 n0 k0] 35)).alloc (.cells #[.int .i64 a1, .int .i64 b1, .int .i64 c1, .string s1, .slice r1 n1 k1] 35)) wr.heap.size #[.int .i64 a0, .int .i64 b0, .int .i64 c0, .string s0, .slice r0 n0 k0] 35 := (Bk.new wr _ _).on (fuwA _ _)
        have P1 : Bk ((wr.alloc (.cells #[.int .i64 a0, .int .i64 b0, .int .i64 c0, .string s0, .slice r0 n0 k0] 35)).alloc (.cells #[.int .i64 a1, .int .i64 b1, .int .i64 c1, .string s1, .slice r1 n1 k1] 35)) (wr.heap.size + 1) #[.int .i64 a1, .int .i64 b1, .int .i64 c1, .string s1, .slice r1 n1 k1] 35 := by
          have := Bk.new (wr.alloc (.cells #[.int .i64 a0, .int .i64 b0, .int .i64 c0, .string s0, .slice r0 n0 k0] 35)) #[.int .i64 a1, .int .i64 b1, .int .i64 c1, .string s1, .slice r1 n1 k1] 35
          rwa [show (wr.alloc (.cells #[.int .i64 a0, .int .i64 b0, .int .i64 c0, .string s0, .slice r0 n0 k0] 35)).heap.size = wr.heap.size + 1 by simp] at this
        have F0 := Lib.hid f0
        have em0 : ((wr.alloc (.cells #[.int .i64 a0, .int .i64 b0, .int .i64 c0, .string s0, .slice r0 n0 k0] 35)).alloc (.cells #[.int .i64 a1, .int .i64 b1, .int .i64 c1, .string s1, .slice r1 n1 k1] 35)).cell? ⟨wr.heap.size, 0, none⟩ = some (.int .i64 a0) := P0.c 0
        have en0 : ((wr.alloc (.cells #[.int .i64 a0, .int .i64 b0, .int .i64 c0, .string s0, .slice r0 n0 k0] 35)).alloc (.cells #[.int .i64 a1, .int .i64 b1, .int .i64 c1, .string s1, .slice r1 n1 k1] 35)).cell? ⟨wr.heap.size + 1, 0, none⟩ = some (.int .i64 a1) := P1.c 0
        have em1 : ((wr.alloc (.cells #[.int .i64 a0, .int .i64 b0, .int .i64 c0, .string s0, .slice r0 n0 k0] 35)).alloc (.cells #[.int .i64 a1, .int .i64 b1, .int .i64 c1, .string s1, .slice r1 n1 k1] 35)).cell? ⟨wr.heap.size, 1, none⟩ = some (.int .i64 b0) := P0.c 1
        have en1 : ((wr.alloc (.cells #[.int .i64 a0, .int .i64 b0, .int .i64 c0, .string s0, .slice r0 n0 k0] 35)).alloc (.cells #[.int .i64 a1, .int .i64 b1, .int .i64 c1, .string s1, .slice r1 n1 k1] 35)).cell? ⟨wr.heap.size + 1, 1, none⟩ = some (.int .i64 b1) := P1.c 1
        have em2 : ((wr.alloc (.cells #[.int .i64 a0, .int .i64 b0, .int .i64 c0, .string s0, .slice r0 n0 k0] 35)).alloc (.cells #[.int .i64 a1, .int .i64 b1, .int .i64 c1, .string s1, .slice r1 n1 k1] 35)).cell? ⟨wr.heap.size, 2, none⟩ = some (.int .i64 c0) := P0.c 2
        have en2 : ((wr.alloc (.cells #[.int .i64 a0, .int .i64 b0, .int .i64 c0, .string s0, .slice r0 n0 k0] 35)).alloc (.cells #[.int .i64 a1, .int .i64 b1, .int .i64 c1, .string s1, .slice r1 n1 k1] 35)).cell? ⟨wr.heap.size + 1, 2, none⟩ = some (.int .i64 c1) := P1.c 2
        have em3 : ((wr.alloc (.cells #[.int .i64 a0, .int .i64 b0, .int .i64 c0, .string s0, .slice r0 n0 k0] 35)).alloc (.cells #[.int .i64 a1, .int .i64 b1, .int .i64 c1, .string s1, .slice r1 n1 k1] 35)).cell? ⟨wr.heap.size, 3, none⟩ = some (.string s0) := P0.c 3
        have en3 : ((wr.alloc (.cells #[.int .i64 a0, .int .i64 b0, .int .i64 c0, .string s0, .slice r0 n0 k0] 35)).alloc (.cells #[.int .i64 a1, .int .i64 b1, .int .i64 c1, .string s1, .slice r1 n1 k1] 35)).cell? ⟨wr.heap.size + 1, 3, none⟩ = some (.string s1) := P1.c 3
        have em4 : ((wr.alloc (.cells #[.int .i64 a0, .int .i64 b0, .int .i64 c0, .string s0, .slice r0 n0 k0] 35)).alloc (.cells #[.int .i64 a1, .int .i64 b1, .int .i64 c1, .string s1, .slice r1 n1 k1] 35)).cell? ⟨wr.heap.size, 4, none⟩ = some (.slice r0 n0 k0) := P0.c 4
        have en4 : ((wr.alloc (.cells #[.int .i64 a0, .int .i64 b0, .int .i64 c0, .string s0, .slice r0 n0 k0] 35)).alloc (.cells #[.int .i64 a1, .int .i64 b1, .int .i64 c1, .string s1, .slice r1 n1 k1] 35)).cell? ⟨wr.heap.size + 1, 4, none⟩ = some (.slice r1 n1 k1) := P1.c 4
        clear f0 P0 P1
        go_wp2_with fail
        go_at_call 20; refine (HC2.out _ F0.out).mono ?_; rintro e1 w1 ⟨rfl, f1⟩
        have HG := Lib.hid (hg.out.trans (F0.out.trans f1))
        clear f1 ec0 ed0 em0 en0 ec1 ed1 em1 en1 ec2 ed2 em2 en2 ec3 ed3 em3 en3 ec4 ed4 em4 en4
        cases r with
        | true =>
          have HN := Lib.hid (show (List.range (i + 1)).all f = true by rw [HS1.out, HA.out]; rfl)
          go_wp2
          go_roundw
          case rel => exact ⟨i + 1, by go_num, by omega, HN, HG⟩
          case measure => simp [RowKit.intOf]; omega
        | false =>
          have HN := Lib.hid (HS2.out rfl)
          go_wp2
          go_ret
          exact ⟨ret_bool HN.out.symm, HG.out⟩
      · have HN := Lib.hid (show ans = true by have := HA.out; rw [HA0.out]; rwa [show i = us.length by omega] at this)
        go_wp2
        go_ret
        exact ⟨ret_bool HN.out.symm, hg.out⟩
  · have HR := Lib.hid (show (decide (us.length = vs.length) && (List.range us.length).all f) = false by rw [decide_eq_false hl, Bool.false_and])
    have hq : ((us.length : Int) != (vs.length : Int)) = true := by rw [bne_iff_ne]; omega
    rw [HR.out]
    clear hl HR
    go_enter Tryz.func19, Tryz.ntmps19
    go_wp2
    go_ret
    exact ⟨rfl, Fuw.refl _⟩
end Go.Proofs.YtkcmakfmeioakaaGreat
