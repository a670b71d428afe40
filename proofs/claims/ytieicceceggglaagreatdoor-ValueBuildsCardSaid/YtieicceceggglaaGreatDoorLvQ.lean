
/-
  The statements of layer 4: the helper same() tells whether two values are the same in all fields. Nothing that was there turns.
-/
import Derived.Test.YtieicceceggglaaGreatDoorLvO
namespace Go.Proofs.YtieicceceggglaaGreatDoor
open Go.RowKit

/-- The same value. -/
def samB (x y : Vl) : Bool := decide (ordV x y = 0)
theorem samB_t {x y : Vl} : samB x y = true ↔ x = y := by
  unfold samB
  rw [decide_eq_true_iff]
  exact ⟨ord_eq, fun e => e ▸ ord_self x⟩
theorem samB_f {x y : Vl} (h : x ≠ y) : samB x y = false := by
  cases e : samB x y
  · rfl
  · exact absurd (samB_t.1 e) h
def samL (l l' : List Vl) : Bool := decide (ordL l l' = 0)
theorem samL_t {x y : List Vl} : samL x y = true ↔ x = y := by
  unfold samL
  rw [decide_eq_true_iff]
  exact ⟨ordL_eq, fun e => e ▸ ordL_self x⟩
theorem samB_l {x y : Vl} (h0 : x.kd = y.kd) (h1 : x.nn = y.nn) (h2 : x.dd = y.dd) (h3 : x.ss = y.ss) : samB x y = samL x.ll y.ll := by
  rw [Bool.eq_iff_iff, samB_t, samL_t]
  constructor
  · intro e; rw [e]
  · intro e
    rw [vl_eta x, vl_eta y, h0, h1, h2, h3, e]
theorem samL_drop (l l' : List Vl) (i : Nat) (h : i < l.length) (h' : i < l'.length) : samL (l.drop i) (l'.drop i) = (samB l[i] l'[i] && samL (l.drop (i + 1)) (l'.drop (i + 1))) := by
  unfold samL samB
  rw [ordL_drop l l' i h h', Bool.eq_iff_iff, Bool.and_eq_true, decide_eq_true_iff, decide_eq_true_iff, decide_eq_true_iff]
  exact thn_z
def SamAt (x y : Vl) : Prop := ∀ (ao bo : Option Addr) (ca cb : Nat) (w : World), Vin x → Vin y → SlV w ao x.ll ca → SlV w bo y.ll cb → Calls Tryz.prog 26 #[vlv x ao ca, vlv y bo cb] w (RetB w (samB x y))

set_option maxHeartbeats 6400000 in
set_option maxRecDepth 100000 in
theorem lsame_by (x y : Vl) (hL : ∀ u, u ∈ x.ll → ∀ v, v ∈ y.ll → SamAt u v) (ao bo : Option Addr) (ca cb : Nat) (w : World) (hs : SlV w ao x.ll ca) (hs' : SlV w bo y.ll cb) :
    Calls Tryz.prog 26 #[vlv x ao ca, vlv y bo cb] w (RetB w (samB x y)) := by
  obtain ⟨p0, p1, f0⟩ := bx2' w x y ao bo ca cb
  have hne : ¬ (w.heap.size = w.heap.size + 1) := by omega
  have hne2 : ¬ (w.heap.size + 1 = w.heap.size) := by omega
  have HF := Lib.hid (fun h => samB_f (x := x) (y := y) h)
  have HT := Lib.hid (fun h0 h1 h2 h3 => samB_l (x := x) (y := y) h0 h1 h2 h3)
  have HS := Lib.hid (hs.on f0)
  have HS' := Lib.hid (hs'.on f0)
  have HO := Lib.hid hL
  have h1 := hs.le; have h2 := hs.max; have h3 := hs'.le; have h4 := hs'.max
  unfold maxLen at h2 h4
  clear hs hs' hL
  generalize samB x y = R at *
  obtain ⟨W, hW⟩ : ∃ W, ((w.alloc (.cells #[.int .i64 x.kd, .int .i64 x.nn, .int .i64 x.dd, .string (bs x.ss), .slice ao x.ll.length ca] 24)).alloc (.cells #[.int .i64 y.kd, .int .i64 y.nn, .int .i64 y.dd, .string (bs y.ss), .slice bo y.ll.length cb] 24)) = W := ⟨_, rfl⟩
  rw [hW] at p0 p1 f0 HS HS'
  have c0 := p0.c0; have c1 := p0.c1; have c2 := p0.c2; have c3 := p0.c3; have c4 := p0.c4
  have d0 := p1.c0; have d1 := p1.c1; have d2 := p1.c2; have d3 := p1.c3; have d4 := p1.c4
  unfold vlv
  by_cases e0 : x.kd = y.kd
  rotate_left
  · have g : (x.kd != y.kd) = true := by rw [bne_iff_ne]; exact e0
    have HE := Lib.hid (HF.out (fun e => e0 (by rw [e])))
    clear e0 HO HS HS' HF HT
    go_enter Tryz.func26, Tryz.ntmps26
    go_upto_region 1 with fail
    clear hW
    go_wp2
    go_ret
    exact ⟨ret_bool HE.out.symm, f0⟩
  by_cases e1 : x.nn = y.nn
  rotate_left
  · have g0 : (x.kd != y.kd) = false := by rw [bne_eq_false_iff_eq]; exact e0
    have g : (x.nn != y.nn) = true := by rw [bne_iff_ne]; exact e1
    have HE := Lib.hid (HF.out (fun e => e1 (by rw [e])))
    clear e0 e1 HO HS HS' HF HT
    go_enter Tryz.func26, Tryz.ntmps26
    go_upto_region 1 with fail
    clear hW
    go_wp2
    go_ret
    exact ⟨ret_bool HE.out.symm, f0⟩
  by_cases e2 : x.dd = y.dd
  rotate_left
  · have g0 : (x.kd != y.kd) = false := by rw [bne_eq_false_iff_eq]; exact e0
    have g1 : (x.nn != y.nn) = false := by rw [bne_eq_false_iff_eq]; exact e1
    have g : (x.dd != y.dd) = true := by rw [bne_iff_ne]; exact e2
    have HE := Lib.hid (HF.out (fun e => e2 (by rw [e])))
    clear e0 e1 e2 HO HS HS' HF HT
    go_enter Tryz.func26, Tryz.ntmps26
    go_upto_region 1 with fail
    clear hW
    go_wp2
    go_ret
    exact ⟨ret_bool HE.out.symm, f0⟩
  by_cases e3 : x.ss = y.ss
  rotate_left
  · have g0 : (x.kd != y.kd) = false := by rw [bne_eq_false_iff_eq]; exact e0
    have g1 : (x.nn != y.nn) = false := by rw [bne_eq_false_iff_eq]; exact e1
    have g2 : (x.dd != y.dd) = false := by rw [bne_eq_false_iff_eq]; exact e2
    have g : ((bs x.ss).toList == (bs y.ss).toList) = false := by rw [bs_list, bs_list, beq_eq_false_iff_ne]; exact e3
    have HE := Lib.hid (HF.out (fun e => e3 (by rw [e])))
    clear e0 e1 e2 e3 HO HS HS' HF HT
    go_enter Tryz.func26, Tryz.ntmps26
    go_upto_region 1 with fail
    clear hW
    go_wp2
    go_ret
    exact ⟨ret_bool HE.out.symm, f0⟩
  have g0 : (x.kd != y.kd) = false := by rw [bne_eq_false_iff_eq]; exact e0
  have g1 : (x.nn != y.nn) = false := by rw [bne_eq_false_iff_eq]; exact e1
  have g2 : (x.dd != y.dd) = false := by rw [bne_eq_false_iff_eq]; exact e2
  have g3 : ((bs x.ss).toList == (bs y.ss).toList) = true := by rw [bs_list, bs_list, beq_iff_eq]; exact e3
  have HA := Lib.hid (HT.out e0 e1 e2 e3)
  rcases Nat.lt_or_ge x.ll.length y.ll.length with l1 | l1
  · have g : ((x.ll.length : Int) != y.ll.length) = true := by rw [bne_iff_ne]; omega
    have HE := Lib.hid (HF.out (fun e => by rw [e] at l1; omega))
    clear e0 e1 e2 e3 HO HS HS' HF HT l1
    go_enter Tryz.func26, Tryz.ntmps26
    go_upto_region 1 with fail
    clear hW
    go_wp2
    go_ret
    exact ⟨ret_bool HE.out.symm, f0⟩
  rcases Nat.lt_or_ge y.ll.length x.ll.length with l2 | l2
  · have g : ((x.ll.length : Int) != y.ll.length) = true := by rw [bne_iff_ne]; omega
    have HE := Lib.hid (HF.out (fun e => by rw [e] at l2; omega))
    clear e0 e1 e2 e3 HO HS HS' HF HT l1 l2
    go_enter Tryz.func26, Tryz.ntmps26
    go_upto_region 1 with fail
    clear hW
    go_wp2
    go_ret
    exact ⟨ret_bool HE.out.symm, f0⟩
  have g : ((x.ll.length : Int) != y.ll.length) = false := by rw [bne_eq_false_iff_eq]; omega
  clear e0 e1 e2 e3 HF HT
  go_enter Tryz.func26, Tryz.ntmps26
  go_upto_region 1 with fail
  clear hW
  go_wp2
  clear c0 c1 c2 c3 d0 d1 d2 d3 g0 g1 g2 g3 g
  go_loopw [44] (fun iv wr => ∃ i : Nat, iv = .int .i64 i ∧ i ≤ x.ll.length ∧ Hid (R = samL (x.ll.drop i) (y.ll.drop i)) ∧ Fur W wr) (fun iv _ => x.ll.length - (RowKit.intOf iv).toNat)
  case atStart => exact ⟨0, rfl, Nat.zero_le _, HA.out, Fur.refl _⟩
  case round =>
    obtain ⟨i, rfl, hi, HN, hf⟩ := hrel
    replace c4 := cellOn hf c4
    replace d4 := cellOn hf d4
    by_cases hlt : i < x.ll.length
    · have hlt' : i < y.ll.length := by omega
      obtain ⟨b, o, rfl, hv⟩ := (HS.out.on hf).get hlt
      obtain ⟨b', o', rfl, hv'⟩ := (HS'.out.on hf).get hlt'
      have hA := samL_drop x.ll y.ll i hlt hlt'
      have hm := HO.out x.ll[i] (List.getElem_mem hlt) y.ll[i] (List.getElem_mem hlt')
      obtain ⟨hy, c0, c1, c2, c3, a1, k1, c5, hs2⟩ := VC_of hv
      obtain ⟨hy', d0, d1, d2, d3, a2, k2, d5, hs2'⟩ := VC_of hv'
      have HC := Lib.hid (fun w' (hf' : Fur wr w') => hm a1 a2 k1 k2 w' hy hy' (hs2.on hf') (hs2'.on hf'))
      have HE := Lib.hid (HN.out.trans hA)
      unfold vlv at HC
      clear hv hv' hs2 hs2' hy hy' hA hm HN
      generalize x.ll[i] = u at *
      generalize y.ll[i] = v at *
      generalize samB u v = r at *
      have ff : Fur wr wr.drew := Fur.drew (Fur.refl wr)
      go_wp2_with fail
      go_region_held3 (fun w' => Fur wr w' ∧ w'.cell? ⟨w.heap.size, 4, none⟩ = some (.slice (some ⟨b, o, none⟩) x.ll.length ca) ∧ w'.cell? ⟨w.heap.size + 1, 4, none⟩ = some (.slice (some ⟨b', o', none⟩) y.ll.length cb) ∧ w'.cell? ⟨b, o + i * 5, none⟩ = some (.int .i64 u.kd) ∧ w'.cell? ⟨b, o + i * 5 + 1, none⟩ = some (.int .i64 u.nn) ∧ w'.cell? ⟨b, o + i * 5 + 2, none⟩ = some (.int .i64 u.dd) ∧ w'.cell? ⟨b, o + i * 5 + 3, none⟩ = some (.string (bs u.ss)) ∧ w'.cell? ⟨b, o + i * 5 + 4, none⟩ = some (.slice a1 u.ll.length k1) ∧ w'.cell? ⟨b', o' + i * 5, none⟩ = some (.int .i64 v.kd) ∧ w'.cell? ⟨b', o' + i * 5 + 1, none⟩ = some (.int .i64 v.nn) ∧ w'.cell? ⟨b', o' + i * 5 + 2, none⟩ = some (.int .i64 v.dd) ∧ w'.cell? ⟨b', o' + i * 5 + 3, none⟩ = some (.string (bs v.ss)) ∧ w'.cell? ⟨b', o' + i * 5 + 4, none⟩ = some (.slice a2 v.ll.length k2))
        (first
          | exact ⟨ff, cellOn ff c4, cellOn ff d4, cellOn ff c0, cellOn ff c1, cellOn ff c2, cellOn ff c3, cellOn ff c5, cellOn ff d0, cellOn ff d1, cellOn ff d2, cellOn ff d3, cellOn ff d5⟩)
        (first
          | (go_at_call 26; refine (HC.out _ ff).mono ?_; rintro e1 w1 ⟨rfl, f1⟩; replace ff := ff.trans f1))
      cases r
      · replace HE := Lib.hid (show R = false by rw [HE.out]; rfl)
        go_wp2
        go_ret
        exact ⟨ret_bool HE.out.symm, (f0.trans hf).trans ff⟩
      · replace HE := Lib.hid (show R = samL (x.ll.drop (i + 1)) (y.ll.drop (i + 1)) by rw [HE.out, Bool.true_and])
        go_wp2
        go_roundw
        case rel => exact ⟨i + 1, by go_num, by omega, HE.out, hf.trans ff⟩
        case measure => simp [RowKit.intOf]; omega
    · have HE := Lib.hid (show R = true by
        rw [HN.out, List.drop_of_length_le (by omega), List.drop_of_length_le (by omega)]
        exact samL_t.2 rfl)
      go_wp2
      go_ret
      exact ⟨ret_bool HE.out.symm, f0.trans hf⟩
mutual
theorem lsame_all : ∀ x y : Vl, SamAt x y
  | .mk k n d s l, y => fun ao bo ca cb w _ _ hs hs' =>
    lsame_by (.mk k n d s l) y (fun u hu v _ => lsame_list l u hu v) ao bo ca cb w hs hs'
theorem lsame_list : ∀ l : List Vl, ∀ u, u ∈ l → ∀ v, SamAt u v
  | [], _, hu, _ => by cases hu
  | x :: r, u, hu, v => (List.mem_cons.1 hu).elim (fun e => e ▸ lsame_all x v) (fun e => lsame_list r u e v)
end
end Go.Proofs.YtieicceceggglaaGreatDoor
