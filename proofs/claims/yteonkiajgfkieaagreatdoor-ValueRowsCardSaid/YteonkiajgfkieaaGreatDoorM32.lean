/-
  RvL; RvM: texts of one kind in one file; each part says what it holds.
-/
import Derived.Test.YteonkiajgfkieaaGreatDoorM26
import Derived.Test.YteonkiajgfkieaaGreatDoorM31

/-! The reference of package value: lists compares two slices of values, given what Order answers of the elements. Nothing that was there turns. -/
namespace Go.Proofs.YteonkiajgfkieaaGreatDoor
open Go.RowKit

/-- What Order answers of a value. -/
def OP (x : Vl) : Prop := ∀ (y : Vl) (ao bo : Option Addr) (ca cb : Nat) (w : World), Vin x → Vin y → SlV w ao x.ll ca → SlV w bo y.ll cb → Calls Tryz.prog 41 #[vlv x ao ca, vlv y bo cb] w (RwI w (ordV x y))
theorem ordL_end (l l' : List Vl) (i : Nat) (hi : i ≤ l.length) (hi' : i ≤ l'.length) (h : ¬ (i < l.length ∧ i < l'.length)) : ordL (l.drop i) (l'.drop i) = intc l.length l'.length := by
  by_cases a : i < l.length
  · have b : l'.length ≤ i := by omega
    rw [List.drop_eq_getElem_cons a, List.drop_of_length_le b]
    simp only [ordL]
    unfold intc
    rw [if_neg (by omega), if_pos (by omega)]
  · have a' : l.length ≤ i := by omega
    by_cases b : i < l'.length
    · rw [List.drop_eq_getElem_cons b, List.drop_of_length_le a']
      simp only [ordL]
      unfold intc
      rw [if_pos (by omega)]
    · rw [List.drop_of_length_le a', List.drop_of_length_le (show l'.length ≤ i by omega)]
      simp only [ordL]
      unfold intc
      rw [if_neg (by omega), if_neg (by omega)]

set_option maxHeartbeats 3200000 in
set_option maxRecDepth 100000 in
theorem rlists_any (l l' : List Vl) (hO : ∀ x, x ∈ l → OP x) (ao bo : Option Addr) (ca cb : Nat) (w : World) (hs : SlV w ao l ca) (hs' : SlV w bo l' cb) :
    Calls Tryz.prog 29 #[.slice ao l.length ca, .slice bo l'.length cb] w (RwI w (ordL l l')) := by
  have HO := Lib.hid hO
  have HS := Lib.hid hs
  have HS' := Lib.hid hs'
  have h1 := hs.le
  have h2 := hs.max
  have h3 := hs'.le
  have h4 := hs'.max
  unfold maxLen at h2 h4
  clear hs hs' hO
  go_enter Tryz.func29, Tryz.ntmps29
  go_wp2
  go_loopw [5] (fun iv wr => ∃ i : Nat, iv = .int .i64 i ∧ i ≤ l.length ∧ i ≤ l'.length ∧ Hid (ordL l l' = ordL (l.drop i) (l'.drop i)) ∧ Fuw w wr) (fun iv _ => l.length - (RowKit.intOf iv).toNat)
  case atStart => exact ⟨0, rfl, Nat.zero_le _, Nat.zero_le _, rfl, Fuw.refl _⟩
  case round =>
    obtain ⟨i, rfl, hi, hi', HN, hf⟩ := hrel
    by_cases hlt : i < l.length
    · by_cases hlt' : i < l'.length
      · obtain ⟨b, o, rfl, hv⟩ := (HS.out.onw hf).get hlt
        obtain ⟨b', o', rfl, hv'⟩ := (HS'.out.onw hf).get hlt'
        have hA := ordL_drop l l' i hlt hlt'
        have hm := HO.out l[i] (List.getElem_mem hlt)
        obtain ⟨hy, c0, c1, c2, c3, a1, k1, c4, hs2⟩ := VC_of hv
        obtain ⟨hy', d0, d1, d2, d3, a2, k2, d4, hs2'⟩ := VC_of hv'
        have HC := Lib.hid (fun w' (hf' : Fuw wr w') => hm l'[i] a1 a2 k1 k2 w' hy hy' (hs2.onw hf') (hs2'.onw hf'))
        have HE := Lib.hid (HN.out.trans hA)
        unfold vlv at HC
        clear hv hv' hs2 hs2' hy hy' hA hm HN
        generalize l[i] = x at *
        generalize l'[i] = y at *
        generalize ordV x y = r at *
        go_wp2_with fail
        go_region_held3 (fun w' => Fuw wr w' ∧ w'.cell? ⟨b, o + i * 5, none⟩ = some (.int .i64 x.kd) ∧ w'.cell? ⟨b, o + i * 5 + 1, none⟩ = some (.int .i64 x.nn) ∧ w'.cell? ⟨b, o + i * 5 + 2, none⟩ = some (.int .i64 x.dd) ∧ w'.cell? ⟨b, o + i * 5 + 3, none⟩ = some (.string (bs x.ss)) ∧ w'.cell? ⟨b, o + i * 5 + 4, none⟩ = some (.slice a1 x.ll.length k1) ∧ w'.cell? ⟨b', o' + i * 5, none⟩ = some (.int .i64 y.kd) ∧ w'.cell? ⟨b', o' + i * 5 + 1, none⟩ = some (.int .i64 y.nn) ∧ w'.cell? ⟨b', o' + i * 5 + 2, none⟩ = some (.int .i64 y.dd) ∧ w'.cell? ⟨b', o' + i * 5 + 3, none⟩ = some (.string (bs y.ss)) ∧ w'.cell? ⟨b', o' + i * 5 + 4, none⟩ = some (.slice a2 y.ll.length k2))
          (first
            | (refine ⟨Fuw.drew (Fuw.refl _), ?_, ?_, ?_, ?_, ?_, ?_, ?_, ?_, ?_, ?_⟩ <;> simp [*]; done)
            | go_keep
            | (refine ⟨Fuw.trans ?_ (by assumption), cellOnw (by assumption) ?_, cellOnw (by assumption) ?_, cellOnw (by assumption) ?_, cellOnw (by assumption) ?_, cellOnw (by assumption) ?_, cellOnw (by assumption) ?_, cellOnw (by assumption) ?_, cellOnw (by assumption) ?_, cellOnw (by assumption) ?_, cellOnw (by assumption) ?_⟩ <;> simp [*]))
          (first
            | (go_at_call 41; refine (HC.out _ (Fuw.drew (Fuw.refl _))).mono ?_; rintro e1 w1 ⟨rfl, f1⟩))
        have ff : Fuw wr w1 := (Fuw.drew (Fuw.refl wr)).trans f1
        by_cases hr : r = 0
        · subst hr
          go_wp2
          go_roundw
          case rel => exact ⟨i + 1, by go_num, by omega, by omega, HE.out, hf.trans ff⟩
          case measure => simp [RowKit.intOf]; omega
        · have hr' : (r != 0) = true := by rw [bne_iff_ne]; exact hr
          have HF := Lib.hid (HE.out.trans (thn_n hr _))
          clear hr
          go_wp2
          go_ret
          exact ⟨ret_int HF.out.symm, hf.trans ff⟩
      · have HE := Lib.hid (HN.out.trans (ordL_end l l' i hi hi' (by omega)))
        have HI := Lib.hid (fun w => rints_any l.length l'.length w)
        go_wp2_with fail
        go_at_call 42; refine (HI.out _).mono ?_; rintro e1 w1 ⟨rfl, rfl⟩
        go_wp2
        go_ret
        exact ⟨ret_int HE.out.symm, hf⟩
    · have HE := Lib.hid (HN.out.trans (ordL_end l l' i hi hi' (by omega)))
      have HI := Lib.hid (fun w => rints_any l.length l'.length w)
      go_wp2_with fail
      go_at_call 42; refine (HI.out _).mono ?_; rintro e1 w1 ⟨rfl, rfl⟩
      go_wp2
      go_ret
      exact ⟨ret_int HE.out.symm, hf⟩
end Go.Proofs.YteonkiajgfkieaaGreatDoor

/-! The reference of package value: fields compares all fields of two values, given what Order answers of the values inside. Nothing that was there turns. -/
namespace Go.Proofs.YteonkiajgfkieaaGreatDoor
open Go.RowKit

/-- Two values boxed. -/
theorem bx2w (w : World) (x y : Vl) (ao bo : Option Addr) (ca cb : Nat) :
    Bx ((w.alloc (.cells #[.int .i64 x.kd, .int .i64 x.nn, .int .i64 x.dd, .string (bs x.ss), .slice ao x.ll.length ca] 34)).alloc (.cells #[.int .i64 y.kd, .int .i64 y.nn, .int .i64 y.dd, .string (bs y.ss), .slice bo y.ll.length cb] 34)) w.heap.size x ao ca ∧
    Bx ((w.alloc (.cells #[.int .i64 x.kd, .int .i64 x.nn, .int .i64 x.dd, .string (bs x.ss), .slice ao x.ll.length ca] 34)).alloc (.cells #[.int .i64 y.kd, .int .i64 y.nn, .int .i64 y.dd, .string (bs y.ss), .slice bo y.ll.length cb] 34)) (w.heap.size + 1) y bo cb ∧
    Fuw w ((w.alloc (.cells #[.int .i64 x.kd, .int .i64 x.nn, .int .i64 x.dd, .string (bs x.ss), .slice ao x.ll.length ca] 34)).alloc (.cells #[.int .i64 y.kd, .int .i64 y.nn, .int .i64 y.dd, .string (bs y.ss), .slice bo y.ll.length cb] 34)) := by
  obtain ⟨p0, f0⟩ := bx1w w x ao ca
  have s0 : (w.alloc (.cells #[.int .i64 x.kd, .int .i64 x.nn, .int .i64 x.dd, .string (bs x.ss), .slice ao x.ll.length ca] 34)).heap.size = w.heap.size + 1 := by simp
  generalize w.alloc (.cells #[.int .i64 x.kd, .int .i64 x.nn, .int .i64 x.dd, .string (bs x.ss), .slice ao x.ll.length ca] 34) = w1 at *
  obtain ⟨p1, f1⟩ := bx1w w1 y bo cb
  rw [s0] at p1
  exact ⟨p0.onw f1, p1, f0.trans f1⟩
set_option maxHeartbeats 6400000 in
set_option maxRecDepth 100000 in
theorem rfields_any (x y : Vl) (hO : ∀ z, z ∈ x.ll → OP z) (ao bo : Option Addr) (ca cb : Nat) (w : World) (hs : SlV w ao x.ll ca) (hs' : SlV w bo y.ll cb) :
    Calls Tryz.prog 72 #[vlv x ao ca, vlv y bo cb] w (RwI w (fldV x y)) := by
  obtain ⟨p0, p1, f0⟩ := bx2w w x y ao bo ca cb
  have hne : ¬ (w.heap.size = w.heap.size + 1) := by omega
  have hne2 : ¬ (w.heap.size + 1 = w.heap.size) := by omega
  have C0 := Lib.hid (fun w => rints_any x.kd y.kd w)
  have C1 := Lib.hid (fun w => rints_any x.nn y.nn w)
  have C2 := Lib.hid (fun w => rints_any x.dd y.dd w)
  have C3 := Lib.hid (fun w => rstrs_any (bs x.ss) (bs y.ss) w)
  rw [show (bs x.ss).data.toList = x.ss from rfl, show (bs y.ss).data.toList = y.ss from rfl] at C3
  have C4 := Lib.hid (fun w' (hf : Fuw w w') => rlists_any x.ll y.ll hO ao bo ca cb w' (hs.onw hf) (hs'.onw hf))
  have HE := Lib.hid (show fldV x y = thn (intc x.kd y.kd) (thn (intc x.nn y.nn) (thn (intc x.dd y.dd) (thn (strc x.ss y.ss) (ordL x.ll y.ll)))) from rfl)
  clear hs hs' hO
  generalize fldV x y = R at *
  generalize intc x.kd y.kd = r0 at *
  generalize intc x.nn y.nn = r1 at *
  generalize intc x.dd y.dd = r2 at *
  generalize strc x.ss y.ss = r3 at *
  generalize ordL x.ll y.ll = r4 at *
  unfold vlv
  by_cases h0 : r0 = 0
  rotate_left
  · have g0 : (r0 != 0) = true := by rw [bne_iff_ne]; exact h0
    have HF := Lib.hid (show R = r0 by rw [HE.out, thn_n h0])
    clear h0
    go_enter Tryz.func72, Tryz.ntmps72
    go_wp2_with fail
    go_at_call 42; refine (C0.out _).mono ?_; rintro e1 w1 ⟨rfl, rfl⟩
    go_wp2
    go_ret
    exact ⟨ret_int HF.out.symm, f0⟩
  subst h0
  rw [thn_0] at HE
  by_cases h1 : r1 = 0
  rotate_left
  · have g1 : (r1 != 0) = true := by rw [bne_iff_ne]; exact h1
    have HF := Lib.hid (show R = r1 by rw [HE.out, thn_n h1])
    clear h1
    go_enter Tryz.func72, Tryz.ntmps72
    go_wp2_with fail
    go_at_call 42; refine (C0.out _).mono ?_; rintro e1 w1 ⟨rfl, rfl⟩
    go_wp2_with fail
    go_at_call 42; refine (C1.out _).mono ?_; rintro e1 w1 ⟨rfl, rfl⟩
    go_wp2
    go_ret
    exact ⟨ret_int HF.out.symm, f0⟩
  subst h1
  rw [thn_0] at HE
  by_cases h2 : r2 = 0
  rotate_left
  · have g2 : (r2 != 0) = true := by rw [bne_iff_ne]; exact h2
    have HF := Lib.hid (show R = r2 by rw [HE.out, thn_n h2])
    clear h2
    go_enter Tryz.func72, Tryz.ntmps72
    go_wp2_with fail
    go_at_call 42; refine (C0.out _).mono ?_; rintro e1 w1 ⟨rfl, rfl⟩
    go_wp2_with fail
    go_at_call 42; refine (C1.out _).mono ?_; rintro e1 w1 ⟨rfl, rfl⟩
    go_wp2_with fail
    go_at_call 42; refine (C2.out _).mono ?_; rintro e1 w1 ⟨rfl, rfl⟩
    go_wp2
    go_ret
    exact ⟨ret_int HF.out.symm, f0⟩
  subst h2
  rw [thn_0] at HE
  by_cases h3 : r3 = 0
  rotate_left
  · have g3 : (r3 != 0) = true := by rw [bne_iff_ne]; exact h3
    have HF := Lib.hid (show R = r3 by rw [HE.out, thn_n h3])
    clear h3
    go_enter Tryz.func72, Tryz.ntmps72
    go_wp2_with fail
    go_at_call 42; refine (C0.out _).mono ?_; rintro e1 w1 ⟨rfl, rfl⟩
    go_wp2_with fail
    go_at_call 42; refine (C1.out _).mono ?_; rintro e1 w1 ⟨rfl, rfl⟩
    go_wp2_with fail
    go_at_call 42; refine (C2.out _).mono ?_; rintro e1 w1 ⟨rfl, rfl⟩
    go_wp2_with fail
    go_at_call 95; refine (C3.out _).mono ?_; rintro e1 w1 ⟨rfl, rfl⟩
    go_wp2
    go_ret
    exact ⟨ret_int HF.out.symm, f0⟩
  subst h3
  rw [thn_0] at HE
  go_enter Tryz.func72, Tryz.ntmps72
  go_wp2_with fail
  go_at_call 42; refine (C0.out _).mono ?_; rintro e1 w1 ⟨rfl, rfl⟩
  go_wp2_with fail
  go_at_call 42; refine (C1.out _).mono ?_; rintro e1 w1 ⟨rfl, rfl⟩
  go_wp2_with fail
  go_at_call 42; refine (C2.out _).mono ?_; rintro e1 w1 ⟨rfl, rfl⟩
  go_wp2_with fail
  go_at_call 95; refine (C3.out _).mono ?_; rintro e1 w1 ⟨rfl, rfl⟩
  go_wp2_with fail
  go_at_call 29; refine (C4.out _ f0).mono ?_; rintro e1 w1 ⟨rfl, f1⟩
  go_wp2
  go_ret
  exact ⟨ret_int HE.out.symm, f0.trans f1⟩
end Go.Proofs.YteonkiajgfkieaaGreatDoor
