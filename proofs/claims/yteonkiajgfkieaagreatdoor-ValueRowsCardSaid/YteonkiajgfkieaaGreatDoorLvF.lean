/-
  Package value: slices.CompareFunc at orderValid and at Order, given what these answer of the elements: the lists compared. Nothing that was there turns.
-/
import Derived.Test.YteonkiajgfkieaaGreatDoorLvB
namespace Go.Proofs.YteonkiajgfkieaaGreatDoor
open Go.RowKit

/-- Two values boxed. -/
theorem bx2' (w : World) (x y : Vl) (ao bo : Option Addr) (ca cb : Nat) :
    Bx ((w.alloc (.cells #[.int .i64 x.kd, .int .i64 x.nn, .int .i64 x.dd, .string (bs x.ss), .slice ao x.ll.length ca] 34)).alloc (.cells #[.int .i64 y.kd, .int .i64 y.nn, .int .i64 y.dd, .string (bs y.ss), .slice bo y.ll.length cb] 34)) w.heap.size x ao ca ∧
    Bx ((w.alloc (.cells #[.int .i64 x.kd, .int .i64 x.nn, .int .i64 x.dd, .string (bs x.ss), .slice ao x.ll.length ca] 34)).alloc (.cells #[.int .i64 y.kd, .int .i64 y.nn, .int .i64 y.dd, .string (bs y.ss), .slice bo y.ll.length cb] 34)) (w.heap.size + 1) y bo cb ∧
    Fur w ((w.alloc (.cells #[.int .i64 x.kd, .int .i64 x.nn, .int .i64 x.dd, .string (bs x.ss), .slice ao x.ll.length ca] 34)).alloc (.cells #[.int .i64 y.kd, .int .i64 y.nn, .int .i64 y.dd, .string (bs y.ss), .slice bo y.ll.length cb] 34)) := by
  obtain ⟨p0, f0⟩ := bx1 w x ao ca
  have s0 : (w.alloc (.cells #[.int .i64 x.kd, .int .i64 x.nn, .int .i64 x.dd, .string (bs x.ss), .slice ao x.ll.length ca] 34)).heap.size = w.heap.size + 1 := by simp
  generalize w.alloc (.cells #[.int .i64 x.kd, .int .i64 x.nn, .int .i64 x.dd, .string (bs x.ss), .slice ao x.ll.length ca] 34) = w1 at *
  obtain ⟨p1, f1⟩ := bx1 w1 y bo cb
  rw [s0] at p1
  exact ⟨p0.on f1, p1, f0.trans f1⟩
theorem ordL_drop (l l' : List Vl) (i : Nat) (h : i < l.length) (h' : i < l'.length) : ordL (l.drop i) (l'.drop i) = thn (ordV l[i] l'[i]) (ordL (l.drop (i + 1)) (l'.drop (i + 1))) := by
  rw [List.drop_eq_getElem_cons h, List.drop_eq_getElem_cons h']
  simp only [ordL]
theorem ordL_more (l l' : List Vl) (i : Nat) (h : i < l.length) (h' : l'.length ≤ i) : ordL (l.drop i) (l'.drop i) = 1 := by
  rw [List.drop_eq_getElem_cons h, List.drop_of_length_le h']
  simp only [ordL]
theorem ordL_less (l l' : List Vl) (i : Nat) (h : l.length ≤ i) (h' : i < l'.length) : ordL (l.drop i) (l'.drop i) = -1 := by
  rw [List.drop_eq_getElem_cons h', List.drop_of_length_le h]
  simp only [ordL]
theorem ordL_fin (l l' : List Vl) (i : Nat) (h : l.length ≤ i) (h' : l'.length ≤ i) : ordL (l.drop i) (l'.drop i) = 0 := by
  rw [List.drop_of_length_le h', List.drop_of_length_le h]
  simp only [ordL]
/-- What a function (orderValid or Order) answers of two values. -/
def CmpAt (g : Nat) (x y : Vl) : Prop := ∀ (ao bo : Option Addr) (ca cb : Nat) (w : World), Vin x → Vin y → SlV w ao x.ll ca → SlV w bo y.ll cb → Calls Tryz.prog g #[vlv x ao ca, vlv y bo cb] w (RetI w (ordV x y))

set_option maxHeartbeats 3200000 in
set_option maxRecDepth 100000 in
theorem lcf_valid (l l' : List Vl) (hO : ∀ x, x ∈ l → ∀ y, y ∈ l' → CmpAt 35 x y) (ao bo : Option Addr) (ca cb : Nat) (w : World) (hs : SlV w ao l ca) (hs' : SlV w bo l' cb) :
    Calls Tryz.prog 48 #[.slice ao l.length ca, .slice bo l'.length cb, .func (.func 35) #[] #[]] w (RetI w (ordL l l')) := by
  have HO := Lib.hid hO
  have HS := Lib.hid hs
  have HS' := Lib.hid hs'
  have h1 := hs.le
  have h2 := hs.max
  have h3 := hs'.le
  have h4 := hs'.max
  unfold maxLen at h2 h4
  clear hs hs' hO
  go_enter Tryz.func48, Tryz.ntmps48
  go_wp2
  go_loopw [13] (fun iv wr => ∃ i : Nat, iv = .int .i64 i ∧ i ≤ l.length ∧ i ≤ l'.length ∧ Hid (ordL l l' = ordL (l.drop i) (l'.drop i)) ∧ Fur w wr) (fun iv _ => l.length - (RowKit.intOf iv).toNat)
  case atStart => exact ⟨0, rfl, Nat.zero_le _, Nat.zero_le _, rfl, Fur.refl _⟩
  case round =>
    obtain ⟨i, rfl, hi, hi', HN, hf⟩ := hrel
    by_cases hlt : i < l.length
    · obtain ⟨b, o, rfl, hv⟩ := (HS.out.on hf).get hlt
      by_cases hlt' : i < l'.length
      · obtain ⟨b', o', rfl, hv'⟩ := (HS'.out.on hf).get hlt'
        have hA := ordL_drop l l' i hlt hlt'
        have hm := HO.out l[i] (List.getElem_mem hlt) l'[i] (List.getElem_mem hlt')
        obtain ⟨hy, c0, c1, c2, c3, a1, k1, c4, hs2⟩ := VC_of hv
        obtain ⟨hy', d0, d1, d2, d3, a2, k2, d4, hs2'⟩ := VC_of hv'
        obtain ⟨p0, p1, f0⟩ := bx2' wr l[i] l'[i] a1 a2 k1 k2
        have fx := (bx1 wr l[i] a1 k1).2
        replace d0 := cellOn fx d0; replace d1 := cellOn fx d1; replace d2 := cellOn fx d2; replace d3 := cellOn fx d3; replace d4 := cellOn fx d4
        clear fx
        have HC := Lib.hid (fun w' (hf' : Fur wr w') => hm a1 a2 k1 k2 w' hy hy' (hs2.on hf') (hs2'.on hf'))
        have HE := Lib.hid (HN.out.trans hA)
        unfold vlv at HC
        clear hv hv' hs2 hs2' hy hy' hA hm HN
        generalize l[i] = x at *
        generalize l'[i] = y at *
        generalize ordV x y = r at *
        have m0 := p0.c0; have m1 := p0.c1; have m2 := p0.c2; have m3 := p0.c3; have m4 := p0.c4
        go_wp2_with fail
        go_at_call 35; refine (HC.out _ f0).mono ?_; rintro e1 w1 ⟨rfl, f1⟩
        have ff : Fur wr w1 := f0.trans f1
        by_cases hr : r = 0
        · subst hr
          go_wp2
          go_roundw
          case rel => exact ⟨i + 1, by go_num, by omega, by omega, HE.out, hf.trans ff⟩
          case measure => simp [RowKit.intOf]; omega
        · have hr' : (r != 0) = true := by rw [bne_iff_ne]; exact hr
          have HF := Lib.hid (HE.out.trans (thn_n hr _))
          clear hr
          go_wp2
          go_ret
          exact ⟨ret_int HF.out.symm, hf.trans ff⟩
      · have HE := Lib.hid (HN.out.trans (ordL_more l l' i hlt (by omega)))
        obtain ⟨hy, c0, c1, c2, c3, a1, k1, c4, hs2⟩ := VC_of hv
        obtain ⟨p0, f0⟩ := bx1 wr l[i] a1 k1
        have g : (l'.length : Int) ≤ i := by omega
        clear hv hs2 hy
        generalize l[i] = x at *
        go_wp2
        go_ret
        exact ⟨ret_int HE.out.symm, hf.trans f0⟩
    · by_cases hlt' : i < l'.length
      · have HE := Lib.hid (HN.out.trans (ordL_less l l' i (by omega) hlt'))
        have g : (l.length : Int) < l'.length := by omega
        go_wp2
        go_ret
        exact ⟨ret_int HE.out.symm, hf⟩
      · have HE := Lib.hid (HN.out.trans (ordL_fin l l' i (by omega) (by omega)))
        have g : ¬ (l.length : Int) < l'.length := by omega
        go_wp2
        go_ret
        exact ⟨ret_int HE.out.symm, hf⟩

set_option maxHeartbeats 3200000 in
set_option maxRecDepth 100000 in
theorem lcf_order (l l' : List Vl) (hO : ∀ x, x ∈ l → ∀ y, y ∈ l' → CmpAt 22 x y) (ao bo : Option Addr) (ca cb : Nat) (w : World) (hs : SlV w ao l ca) (hs' : SlV w bo l' cb) :
    Calls Tryz.prog 48 #[.slice ao l.length ca, .slice bo l'.length cb, .func (.func 22) #[] #[]] w (RetI w (ordL l l')) := by
  have HO := Lib.hid hO
  have HS := Lib.hid hs
  have HS' := Lib.hid hs'
  have h1 := hs.le
  have h2 := hs.max
  have h3 := hs'.le
  have h4 := hs'.max
  unfold maxLen at h2 h4
  clear hs hs' hO
  go_enter Tryz.func48, Tryz.ntmps48
  go_wp2
  go_loopw [13] (fun iv wr => ∃ i : Nat, iv = .int .i64 i ∧ i ≤ l.length ∧ i ≤ l'.length ∧ Hid (ordL l l' = ordL (l.drop i) (l'.drop i)) ∧ Fur w wr) (fun iv _ => l.length - (RowKit.intOf iv).toNat)
  case atStart => exact ⟨0, rfl, Nat.zero_le _, Nat.zero_le _, rfl, Fur.refl _⟩
  case round =>
    obtain ⟨i, rfl, hi, hi', HN, hf⟩ := hrel
    by_cases hlt : i < l.length
    · obtain ⟨b, o, rfl, hv⟩ := (HS.out.on hf).get hlt
      by_cases hlt' : i < l'.length
      · obtain ⟨b', o', rfl, hv'⟩ := (HS'.out.on hf).get hlt'
        have hA := ordL_drop l l' i hlt hlt'
        have hm := HO.out l[i] (List.getElem_mem hlt) l'[i] (List.getElem_mem hlt')
        obtain ⟨hy, c0, c1, c2, c3, a1, k1, c4, hs2⟩ := VC_of hv
        obtain ⟨hy', d0, d1, d2, d3, a2, k2, d4, hs2'⟩ := VC_of hv'
        obtain ⟨p0, p1, f0⟩ := bx2' wr l[i] l'[i] a1 a2 k1 k2
        have fx := (bx1 wr l[i] a1 k1).2
        replace d0 := cellOn fx d0; replace d1 := cellOn fx d1; replace d2 := cellOn fx d2; replace d3 := cellOn fx d3; replace d4 := cellOn fx d4
        clear fx
        have HC := Lib.hid (fun w' (hf' : Fur wr w') => hm a1 a2 k1 k2 w' hy hy' (hs2.on hf') (hs2'.on hf'))
        have HE := Lib.hid (HN.out.trans hA)
        unfold vlv at HC
        clear hv hv' hs2 hs2' hy hy' hA hm HN
        generalize l[i] = x at *
        generalize l'[i] = y at *
        generalize ordV x y = r at *
        have m0 := p0.c0; have m1 := p0.c1; have m2 := p0.c2; have m3 := p0.c3; have m4 := p0.c4
        go_wp2_with fail
        go_at_call 22; refine (HC.out _ f0).mono ?_; rintro e1 w1 ⟨rfl, f1⟩
        have ff : Fur wr w1 := f0.trans f1
        by_cases hr : r = 0
        · subst hr
          go_wp2
          go_roundw
          case rel => exact ⟨i + 1, by go_num, by omega, by omega, HE.out, hf.trans ff⟩
          case measure => simp [RowKit.intOf]; omega
        · have hr' : (r != 0) = true := by rw [bne_iff_ne]; exact hr
          have HF := Lib.hid (HE.out.trans (thn_n hr _))
          clear hr
          go_wp2
          go_ret
          exact ⟨ret_int HF.out.symm, hf.trans ff⟩
      · have HE := Lib.hid (HN.out.trans (ordL_more l l' i hlt (by omega)))
        obtain ⟨hy, c0, c1, c2, c3, a1, k1, c4, hs2⟩ := VC_of hv
        obtain ⟨p0, f0⟩ := bx1 wr l[i] a1 k1
        have g : (l'.length : Int) ≤ i := by omega
        clear hv hs2 hy
        generalize l[i] = x at *
        go_wp2
        go_ret
        exact ⟨ret_int HE.out.symm, hf.trans f0⟩
    · by_cases hlt' : i < l'.length
      · have HE := Lib.hid (HN.out.trans (ordL_less l l' i (by omega) hlt'))
        have g : (l.length : Int) < l'.length := by omega
        go_wp2
        go_ret
        exact ⟨ret_int HE.out.symm, hf⟩
      · have HE := Lib.hid (HN.out.trans (ordL_fin l l' i (by omega) (by omega)))
        have g : ¬ (l.length : Int) < l'.length := by omega
        go_wp2
        go_ret
        exact ⟨ret_int HE.out.symm, hf⟩
end Go.Proofs.YteonkiajgfkieaaGreatDoor
