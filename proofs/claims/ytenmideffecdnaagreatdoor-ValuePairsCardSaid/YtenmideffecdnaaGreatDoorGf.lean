/-
  LvD; LvE; LvH; ValE; LvI: texts of one kind in one file; each part says what it holds.
-/
import Derived.Test.YtenmideffecdnaaGreatDoorLvC
import Derived.Test.YtenmideffecdnaaGreatDoorGe
import Derived.Test.YtenmideffecdnaaGreatDoorGa

/-! Package value: validList, given what validWithin answers of each element. Nothing that was there turns. -/
namespace Go.Proofs.YtenmideffecdnaaGreatDoor
open Go.RowKit

theorem okVs_drop (m : Nat) (l : List Vl) (i : Nat) (h : i < l.length) : okVs m (l.drop i) = (okV m l[i] && okVs m (l.drop (i + 1))) := by
  rw [List.drop_eq_getElem_cons h]; rfl
/-- What validWithin answers where so many more lists may be nested. -/
def LVP (m : Nat) : Prop := ∀ (x : Vl) (ao : Option Addr) (cap : Nat) (w : World), Vin x → SlV w ao x.ll cap → Calls Tryz.prog 54 #[vlv x ao cap, .int .i64 (m : Int)] w (RetB w (okV m x))
theorem lvlist_0 (l : List Vl) (ao : Option Addr) (cap : Nat) (w : World) : Calls Tryz.prog 81 #[.slice ao l.length cap, .int .i64 0] w (RetB w false) := by
  go_enter Tryz.func81, Tryz.ntmps81
  go_wp2
  go_ret
  exact ⟨rfl, Fur.refl _⟩

set_option maxHeartbeats 3200000 in
theorem lvlist_any (m : Nat) (hm : m < 1000) (hv : LVP m) (l : List Vl) (ao : Option Addr) (cap : Nat) (w : World) (hs : SlV w ao l cap) :
    Calls Tryz.prog 81 #[.slice ao l.length cap, .int .i64 ((m : Int) + 1)] w (RetB w (decide (l.length ≤ 64) && okVs m l)) := by
  have HV := Lib.hid hv
  have HS := Lib.hid hs
  have hl := hs.le
  have hx := hs.max
  unfold maxLen at hx
  have g0 : (((m : Int) + 1) == 0) = false := by rw [beq_eq_false_iff_ne]; omega
  clear hv hs
  by_cases h64 : l.length ≤ 64
  rotate_left
  · have h64' : (64 : Int) < l.length := by omega
    rw [decide_eq_false h64]
    clear h64
    go_enter Tryz.func81, Tryz.ntmps81
    go_wp2
    go_ret
    exact ⟨rfl, Fur.refl _⟩
  · rw [decide_eq_true h64, Bool.true_and]
    have h64' : ¬ (64 : Int) < l.length := by omega
    go_enter Tryz.func81, Tryz.ntmps81
    go_wp2
    go_loopw [16] (fun iv wr => ∃ i : Nat, iv = .int .i64 i ∧ i ≤ l.length ∧ Hid (okVs m l = okVs m (l.drop i)) ∧ Fur w wr) (fun iv _ => l.length - (RowKit.intOf iv).toNat)
    case atStart => exact ⟨0, rfl, Nat.zero_le _, rfl, Fur.refl _⟩
    case round =>
      obtain ⟨i, rfl, hi, HN, hf⟩ := hrel
      by_cases hlt : i < l.length
      · obtain ⟨b, o, rfl, hc⟩ := (HS.out.on hf).get hlt
        have hA := okVs_drop m l i hlt
        obtain ⟨hy, c0, c1, c2, c3, ao', cap', c4, hs2⟩ := VC_of hc
        obtain ⟨p0, f0⟩ := bx1 wr l[i] ao' cap'
        have HC := Lib.hid (fun w' (hf' : Fur wr w') => HV.out l[i] ao' cap' w' hy (hs2.on hf'))
        have wm : IntKind.i64.wrap (m : Int) = (m : Int) := IntWalk.i64_in (m : Int) (by omega)
        unfold vlv at HC
        have HA := Lib.hid hA
        clear hc hs2 hy hA
        generalize l[i] = y at *
        generalize okV m y = q at *
        go_wp2_with fail
        go_at_call 54
        refine (HC.out _ f0).mono ?_; rintro e1 w1 ⟨rfl, f1⟩
        replace f1 := f0.trans f1
        cases q
        · have HE := Lib.hid (show okVs m l = false by rw [HN.out, HA.out]; rfl)
          go_wp2
          go_ret
          exact ⟨ret_bool HE.out.symm, hf.trans f1⟩
        · have HE := Lib.hid (show okVs m l = okVs m (l.drop (i + 1)) by rw [HN.out, HA.out, Bool.true_and])
          go_wp2
          go_roundw
          case rel => exact ⟨i + 1, by go_num, by omega, HE.out, hf.trans f1⟩
          case measure => simp [RowKit.intOf]; omega
      · have HE := Lib.hid (show okVs m l = true by rw [HN.out, List.drop_of_length_le (by omega)]; rfl)
        go_wp2
        go_ret
        exact ⟨ret_bool HE.out.symm, hf⟩
end Go.Proofs.YtenmideffecdnaaGreatDoor

/-! Package value: validPath, validWithin, Valid: they tell the valid values, for every value in memory. Nothing that was there turns. -/
namespace Go.Proofs.YtenmideffecdnaaGreatDoor
open Go.RowKit

theorem okVp_drop (c : Bool) (l : List Vl) (i : Nat) (h : i < l.length) : okVp c (l.drop i) = ((l[i].kd == if c = true then 5 else 6) && okV 0 l[i] && okVp (!c) (l.drop (i + 1))) := by
  rw [List.drop_eq_getElem_cons h]; rfl
/-- Valid of a node or an edge. -/
theorem lvalid_id (x : Vl) (ao : Option Addr) (cap : Nat) (w : World) (h : x.kd = 5 ∨ x.kd = 6) : Calls Tryz.prog 11 #[vlv x ao cap] w (RetB w (okV 0 x)) := by
  have k : ∀ w', Calls Tryz.prog 54 #[vlv x ao cap, .int .i64 8] w' (RetB w' (okV 0 x)) := fun w' => by
    obtain ⟨k, n, d, s, l⟩ := x
    simp only [Vl.kd] at h
    rcases h with rfl | rfl
    · have e : okV 0 (.mk 5 n d s l) = okFlat 5 n d s l := by simp [okV]
      rw [e]; exact lvk5 n d s l ao cap 8 w'
    · have e : okV 0 (.mk 6 n d s l) = okFlat 6 n d s l := by simp [okV]
      rw [e]; exact lvk6 n d s l ao cap 8 w'
  obtain ⟨p0, f0⟩ := bx1 w x ao cap
  have HV := Lib.hid k
  clear k h
  unfold vlv at *
  go_enter Tryz.func11, Tryz.ntmps11
  go_wp2_with fail
  go_at_call 54; refine (HV.out _).mono ?_; rintro e1 w1 ⟨rfl, f1⟩
  go_wp2
  go_ret
  exact ⟨rfl, f0.trans f1⟩
def okP (l : List Vl) : Bool := decide (l.length % 2 = 1) && decide (l.length ≤ 25) && okVp true l

set_option maxHeartbeats 3200000 in
set_option maxRecDepth 100000 in
theorem lvpath_any (l : List Vl) (ao : Option Addr) (cap : Nat) (w : World) (hs : SlV w ao l cap) :
    Calls Tryz.prog 82 #[.slice ao l.length cap] w (RetB w (okP l)) := by
  have HS := Lib.hid hs
  have hl := hs.le
  have hx := hs.max
  unfold maxLen at hx
  clear hs
  by_cases h2 : l.length % 2 = 1
  rotate_left
  · have g : (l.length : Int) % 2 = 0 := by omega
    rw [show okP l = false by unfold okP; rw [decide_eq_false h2]; rfl]
    clear h2
    go_enter Tryz.func82, Tryz.ntmps82
    go_wp2
    go_ret
    exact ⟨rfl, Fur.refl _⟩
  have g2 : (l.length : Int) % 2 = 1 := by omega
  by_cases h25 : l.length ≤ 25
  rotate_left
  · have g : 25 < l.length := by omega
    rw [show okP l = false by unfold okP; rw [decide_eq_false h25, Bool.and_false]; rfl]
    clear h25 h2
    go_enter Tryz.func82, Tryz.ntmps82
    go_wp2
    go_ret
    exact ⟨rfl, Fur.refl _⟩
  rw [show okP l = okVp true l by unfold okP; rw [decide_eq_true h2, decide_eq_true h25]; rfl]
  clear h2
  go_enter Tryz.func82, Tryz.ntmps82
  go_wp2
  go_loopw [17] (fun iv wr => ∃ i : Nat, iv = .int .i64 i ∧ i ≤ l.length ∧ Hid (okVp true l = okVp (i % 2 == 0) (l.drop i)) ∧ Fur w wr) (fun iv _ => l.length - (RowKit.intOf iv).toNat)
  case atStart => exact ⟨0, rfl, Nat.zero_le _, rfl, Fur.refl _⟩
  case round =>
    clear g2
    obtain ⟨i, rfl, hi, HN, hf⟩ := hrel
    by_cases hlt : i < l.length
    · obtain ⟨b, o, rfl, hc⟩ := (HS.out.on hf).get hlt
      have hA := okVp_drop (i % 2 == 0) l i hlt
      obtain ⟨hy, c0, c1, c2, c3, ao', cap', c4, hs2⟩ := VC_of hc
      have hV := fun w' => lvalid_id l[i] ao' cap' w'
      obtain ⟨p0, f0⟩ := bx1 wr l[i] ao' cap'
      unfold vlv at hV
      clear hc hs2 hy
      generalize l[i] = y at *
      generalize okV 0 y = q at *
      rcases (show (i : Int) % 2 = 0 ∨ (i : Int) % 2 = 1 by omega) with hp | hp
      · have e : (i % 2 == 0) = true := beq_iff_eq.2 (by omega)
        have e' : ((i + 1) % 2 == 0) = false := beq_eq_false_iff_ne.2 (by omega)
        rw [e] at hA HN
        by_cases hk : y.kd = 5
        · rw [hk] at c0 hV f0
          have HC := Lib.hid (fun w' => hV w' (.inl rfl))
          have HE := Lib.hid (show okVp true l = (q && okVp false (l.drop (i + 1))) by rw [HN.out, hA, hk]; rfl)
          clear hA HN hV e hk
          go_wp2_with fail
          go_at_call 11
          refine (HC.out _).mono ?_; rintro e1 w1 ⟨rfl, f1⟩
          replace f1 := f0.trans f1
          cases q
          · go_wp2
            go_ret
            exact ⟨ret_bool HE.out.symm, hf.trans f1⟩
          · go_wp2
            go_roundw
            case rel => exact ⟨i + 1, by go_num, by omega, by rw [e', HE.out, Bool.true_and]; exact rfl, hf.trans f1⟩
            case measure => simp [RowKit.intOf]; omega
        · have hk' : (y.kd != 5) = true := by rw [bne_iff_ne]; exact hk
          have HE := Lib.hid (show okVp true l = false by rw [HN.out, hA]; simp [hk])
          clear hA HN hV e hk
          go_wp2
          go_ret
          exact ⟨ret_bool HE.out.symm, hf.trans f0⟩
      · have e : (i % 2 == 0) = false := beq_eq_false_iff_ne.2 (by omega)
        have e' : ((i + 1) % 2 == 0) = true := beq_iff_eq.2 (by omega)
        rw [e] at hA HN
        by_cases hk : y.kd = 6
        · rw [hk] at c0 hV f0
          have HC := Lib.hid (fun w' => hV w' (.inr rfl))
          have HE := Lib.hid (show okVp true l = (q && okVp true (l.drop (i + 1))) by rw [HN.out, hA, hk]; rfl)
          clear hA HN hV e hk
          go_wp2_with fail
          go_at_call 11
          refine (HC.out _).mono ?_; rintro e1 w1 ⟨rfl, f1⟩
          replace f1 := f0.trans f1
          cases q
          · go_wp2
            go_ret
            exact ⟨ret_bool HE.out.symm, hf.trans f1⟩
          · go_wp2
            go_roundw
            case rel => exact ⟨i + 1, by go_num, by omega, by rw [e', HE.out, Bool.true_and]; exact rfl, hf.trans f1⟩
            case measure => simp [RowKit.intOf]; omega
        · have hk' : (y.kd != 6) = true := by rw [bne_iff_ne]; exact hk
          have HE := Lib.hid (show okVp true l = false by rw [HN.out, hA]; simp [hk])
          clear hA HN hV e hk
          go_wp2
          go_ret
          exact ⟨ret_bool HE.out.symm, hf.trans f0⟩
    · have HE := Lib.hid (show okVp true l = true by rw [HN.out, List.drop_of_length_le (by omega)]; rfl)
      go_wp2
      go_ret
      exact ⟨ret_bool HE.out.symm, hf⟩
/-- validWithin, given what validList answers. -/
theorem lvw_by (m : Nat) (p : Bool) (k n d : Int) (s : List UInt8) (l : List Vl) (ao : Option Addr) (cap : Nat) (w : World) (hi : Vin (.mk k n d s l)) (hs : SlV w ao l cap)
    (hp : p = (decide (1 ≤ m) && decide (l.length ≤ 64) && okVs (m - 1) l))
    (HL : ∀ w', Fur w w' → Calls Tryz.prog 81 #[.slice ao l.length cap, .int .i64 (m : Int)] w' (RetB w' p)) :
    Calls Tryz.prog 54 #[vlv (.mk k n d s l) ao cap, .int .i64 (m : Int)] w (RetB w (okV m (.mk k n d s l))) := by
  by_cases h7 : k = 7
  · subst h7
    have e : okV m (.mk 7 n d s l) = (bareV n d s l false false false true && okP l) := by
      unfold okV okP
      rw [if_pos rfl, Bool.and_assoc, Bool.and_assoc, Bool.and_assoc]
    rw [e]
    exact lvk7 n d s l ao cap m w (okP l) (Lib.hid fun w' hf => lvpath_any l ao cap w' (hs.on hf))
  by_cases h8 : k = 8
  · subst h8
    have e : okV m (.mk 8 n d s l) = (bareV n d s l false false false true && p) := by
      unfold okV
      rw [if_neg (by decide), if_pos rfl, hp, Bool.and_assoc, Bool.and_assoc, Bool.and_assoc]
    rw [e]
    exact lvk8 n d s l ao cap m w p (Lib.hid HL)
  have e : okV m (.mk k n d s l) = okFlat k n d s l := by
    unfold okV
    rw [if_neg h7, if_neg h8]
  rw [e]
  by_cases h0 : k = 0
  · subst h0; exact lvk0 n d s l ao cap m w
  by_cases h1 : k = 1
  · subst h1; exact lvk1 n d s l ao cap m w
  by_cases h2 : k = 2
  · subst h2; exact lvk2 n d s l ao cap m w
  by_cases h3 : k = 3
  · subst h3; exact lvk3 n d s l ao cap m w
  by_cases h4 : k = 4
  · subst h4; exact lvk4 n d s l ao cap m w hi.s
  by_cases h5 : k = 5
  · subst h5; exact lvk5 n d s l ao cap m w
  by_cases h6 : k = 6
  · subst h6; exact lvk6 n d s l ao cap m w
  have e2 : okFlat k n d s l = false := by
    unfold okFlat
    rw [if_neg h0, if_neg h1, if_neg h2, if_neg h3, if_neg h4, if_neg (by omega)]
  rw [e2]
  refine lvk_no (.mk k n d s l) ao cap m w fun j hj => ?_
  show k ≠ (j : Int)
  omega
theorem lvw_all : ∀ m, m < 1000 → LVP m
  | 0, _ => fun x ao cap w hi hs => by
    obtain ⟨k, n, d, s, l⟩ := x
    exact lvw_by 0 false k n d s l ao cap w hi hs rfl (fun w' _ => lvlist_0 l ao cap w')
  | m + 1, h => fun x ao cap w hi hs => by
    have ih := lvw_all m (by omega)
    obtain ⟨k, n, d, s, l⟩ := x
    refine lvw_by (m + 1) (decide (l.length ≤ 64) && okVs m l) k n d s l ao cap w hi hs ?_ (fun w' hf => lvlist_any m (by omega) ih l ao cap w' (hs.on hf))
    rw [decide_eq_true (show 1 ≤ m + 1 by omega)]; rfl
theorem lvalid_any (x : Vl) (ao : Option Addr) (cap : Nat) (w : World) (hi : Vin x) (hs : SlV w ao x.ll cap) :
    Calls Tryz.prog 11 #[vlv x ao cap] w (RetB w (okX x)) := by
  have k : ∀ w', Fur w w' → Calls Tryz.prog 54 #[vlv x ao cap, .int .i64 8] w' (RetB w' (okX x)) := fun w' hf => lvw_all 8 (by decide) x ao cap w' hi (hs.on hf)
  obtain ⟨p0, f0⟩ := bx1 w x ao cap
  have HV := Lib.hid k
  clear k hs
  unfold vlv at *
  go_enter Tryz.func11, Tryz.ntmps11
  go_wp2_with fail
  go_at_call 54; refine (HV.out _ f0).mono ?_; rintro e1 w1 ⟨rfl, f1⟩
  go_wp2
  go_ret
  exact ⟨rfl, f0.trans f1⟩
end Go.Proofs.YtenmideffecdnaaGreatDoor

/-! Package value: cmp.Or of ints, orderInvalid, Order: the order of all values, for every two values in memory. Nothing that was there turns. -/
namespace Go.Proofs.YtenmideffecdnaaGreatDoor
open Go.RowKit

/-- The first that is not zero. -/
def orL : List Int → Int
  | [] => 0
  | x :: r => thn x (orL r)
theorem orL_drop (l : List Int) (i : Nat) (h : i < l.length) : orL (l.drop i) = thn (l.getD i 0) (orL (l.drop (i + 1))) := by
  rw [List.drop_eq_getElem_cons h, getD_at h]; rfl
set_option maxHeartbeats 1600000 in
theorem lor_any_s (l : List Int) (ao : Option Addr) (cap : Nat) (w : World) (hs : IsS w ao l cap) :
    Calls Tryz.prog 104 #[.slice ao l.length cap] w (RetI w (orL l)) := by
  have HS := Lib.hid hs
  have h1 := hs.le
  have h2 := hs.max
  unfold maxLen at h2
  clear hs
  go_enter Tryz.func104, Tryz.ntmps104
  go_wp2
  go_loopw [8] (fun iv wr => ∃ i : Nat, iv = .int .i64 i ∧ i ≤ l.length ∧ Hid (orL l = orL (l.drop i)) ∧ Fur w wr) (fun iv _ => l.length - (RowKit.intOf iv).toNat)
  case atStart => exact ⟨0, rfl, Nat.zero_le _, rfl, Fur.refl _⟩
  case round =>
    obtain ⟨i, rfl, hi, HN, hf⟩ := hrel
    by_cases hlt : i < l.length
    · obtain ⟨b, o, rfl, -, hc⟩ := (HS.out.on hf).at_ (by omega)
      have c := hc i hlt
      have HA := Lib.hid (HN.out.trans (orL_drop l i hlt))
      clear hc HN
      generalize l.getD i 0 = r at *
      by_cases hr : r = 0
      · subst hr
        go_wp2
        go_roundw
        case rel => exact ⟨i + 1, by go_num, by omega, HA.out, hf⟩
        case measure => simp [RowKit.intOf]; omega
      · have hr' : (r != 0) = true := by rw [bne_iff_ne]; exact hr
        have HF := Lib.hid (HA.out.trans (thn_n hr _))
        clear hr
        go_wp2
        go_ret
        exact ⟨ret_int HF.out.symm, hf⟩
    · have HE := Lib.hid (show orL l = 0 by rw [HN.out, List.drop_of_length_le (by omega)]; rfl)
      go_wp2
      go_ret
      exact ⟨ret_int HE.out.symm, hf⟩
/-- Of four. -/
theorem lor4 (a b c d : Int) (w : World) : Calls Tryz.prog 104 #[.slice (some ⟨w.heap.size, 0, none⟩) 4 4] (w.alloc (.cells #[.int .i64 a, .int .i64 b, .int .i64 c, .int .i64 d] 3)) (RetI w (thn a (thn b (thn c d)))) := by
  have hh : (w.alloc (.cells #[.int .i64 a, .int .i64 b, .int .i64 c, .int .i64 d] 3)).heap[w.heap.size]? = some (.cells #[.int .i64 a, .int .i64 b, .int .i64 c, .int .i64 d] 3) := by
    show (w.heap.push _)[w.heap.size]? = _
    rw [Array.getElem?_push, if_pos rfl]
  have hI : IsS (w.alloc (.cells #[.int .i64 a, .int .i64 b, .int .i64 c, .int .i64 d] 3)) (some ⟨w.heap.size, 0, none⟩) [a, b, c, d] 4 :=
    ⟨Nat.le_refl _, by unfold maxLen; decide, (fun h => by cases h), fun _ => ⟨w.heap.size, 0, rfl, by simp, fun j hj => by
      have h4 : j = 0 ∨ j = 1 ∨ j = 2 ∨ j = 3 := by simp at hj; omega
      rcases h4 with rfl | rfl | rfl | rfl <;> (unfold World.cell?; rw [hh]; rfl)⟩⟩
  have e : thn a (thn b (thn c d)) = orL [a, b, c, d] := by
    show _ = thn a (thn b (thn c (thn d 0)))
    rw [thn_r]
  rw [e]
  exact (lor_any_s [a, b, c, d] _ 4 _ hI).mono fun _ _ ⟨he, hf⟩ => ⟨he, ((Fur.refl w).alloc _).trans hf⟩
theorem lcmps_r (s t : ByteArray) (w : World) : Calls Tryz.prog 102 #[.string s, .string t] w (RetI w (strc s.data.toList t.data.toList)) :=
  (lcmps_any s t w).mono fun _ _ ⟨he, hw⟩ => ⟨he, hw ▸ Fur.refl _⟩
/-- All fields in order. -/
def fldV (x y : Vl) : Int := thn (intc x.kd y.kd) (thn (intc x.nn y.nn) (thn (intc x.dd y.dd) (thn (strc x.ss y.ss) (ordL x.ll y.ll))))
theorem fldV_4 (x y : Vl) : fldV x y = thn (thn (intc x.kd y.kd) (thn (intc x.nn y.nn) (thn (intc x.dd y.dd) (strc x.ss y.ss)))) (ordL x.ll y.ll) := by
  unfold fldV
  simp only [thn_assoc]
theorem ordV_inv {x y : Vl} (hx : okX x = false) (hy : okX y = false) : ordV x y = fldV x y := by
  obtain ⟨k, n, d, s, l⟩ := x
  unfold ordV
  rw [hx, hy]
  rfl
theorem ordV_tf {x y : Vl} (hx : okX x = true) (hy : okX y = false) : ordV x y = -1 := by
  obtain ⟨k, n, d, s, l⟩ := x
  unfold ordV
  rw [hx, hy]
  rfl
theorem ordV_ft {x y : Vl} (hx : okX x = false) (hy : okX y = true) : ordV x y = 1 := by
  obtain ⟨k, n, d, s, l⟩ := x
  unfold ordV
  rw [hx, hy]
  rfl

set_option maxHeartbeats 6400000 in
set_option maxRecDepth 100000 in
theorem loi_by (x y : Vl) (hL : ∀ u, u ∈ x.ll → ∀ v, v ∈ y.ll → CmpAt 23 u v) (ao bo : Option Addr) (ca cb : Nat) (w : World) (hs : SlV w ao x.ll ca) (hs' : SlV w bo y.ll cb) :
    Calls Tryz.prog 67 #[vlv x ao ca, vlv y bo cb] w (RetI w (fldV x y)) := by
  obtain ⟨p0, p1, f0⟩ := bx2' w x y ao bo ca cb
  have hne : ¬ (w.heap.size = w.heap.size + 1) := by omega
  have hne2 : ¬ (w.heap.size + 1 = w.heap.size) := by omega
  have HE := Lib.hid (show fldV x y = thn (thn (intc x.kd y.kd) (thn (intc x.nn y.nn) (thn (intc x.dd y.dd) (strc (bs x.ss).data.toList (bs y.ss).data.toList)))) (ordL x.ll y.ll) from fldV_4 x y)
  have VC := Lib.hid (fun w' (hf : Fur w w') => lcf_order x.ll y.ll hL ao bo ca cb w' (hs.on hf) (hs'.on hf))
  clear hs hs' hL
  generalize fldV x y = R at *
  obtain ⟨W, hW⟩ : ∃ W, ((w.alloc (.cells #[.int .i64 x.kd, .int .i64 x.nn, .int .i64 x.dd, .string (bs x.ss), .slice ao x.ll.length ca] 24)).alloc (.cells #[.int .i64 y.kd, .int .i64 y.nn, .int .i64 y.dd, .string (bs y.ss), .slice bo y.ll.length cb] 24)) = W := ⟨_, rfl⟩
  rw [hW] at p0 p1 f0
  unfold vlv
  go_enter Tryz.func67, Tryz.ntmps67
  go_upto_region 1 with fail
  clear hW
  have c0 := p0.c0; have c1 := p0.c1; have c2 := p0.c2; have c3 := p0.c3; have c4 := p0.c4
  have d0 := p1.c0; have d1 := p1.c1; have d2 := p1.c2; have d3 := p1.c3; have d4 := p1.c4
  have ff : Fur W W.drew := Fur.drew (Fur.refl W)
  go_region_held3 (fun w' => Fur W w' ∧ w'.cell? ⟨w.heap.size, 0, none⟩ = some (.int .i64 x.kd) ∧ w'.cell? ⟨w.heap.size, 1, none⟩ = some (.int .i64 x.nn) ∧ w'.cell? ⟨w.heap.size, 2, none⟩ = some (.int .i64 x.dd) ∧ w'.cell? ⟨w.heap.size, 3, none⟩ = some (.string (bs x.ss)) ∧ w'.cell? ⟨w.heap.size, 4, none⟩ = some (.slice ao x.ll.length ca) ∧ w'.cell? ⟨w.heap.size + 1, 0, none⟩ = some (.int .i64 y.kd) ∧ w'.cell? ⟨w.heap.size + 1, 1, none⟩ = some (.int .i64 y.nn) ∧ w'.cell? ⟨w.heap.size + 1, 2, none⟩ = some (.int .i64 y.dd) ∧ w'.cell? ⟨w.heap.size + 1, 3, none⟩ = some (.string (bs y.ss)) ∧ w'.cell? ⟨w.heap.size + 1, 4, none⟩ = some (.slice bo y.ll.length cb))
    (first
      | exact keep10 ff c0 c1 c2 c3 c4 d0 d1 d2 d3 d4
      | exact keep10 (ff.alloc _) c0 c1 c2 c3 c4 d0 d1 d2 d3 d4)
    (first
      | (go_at_call 100; refine (lcmpi_r _ _ _).mono ?_; rintro e4 w4 ⟨rfl, f4⟩; replace ff := ff.trans f4)
      | (go_at_call 102; refine (lcmps_r _ _ _).mono ?_; rintro e4 w4 ⟨rfl, f4⟩; replace ff := ff.trans f4)
      | (go_at_call 104; refine (lor4 _ _ _ _ _).mono ?_; rintro e5 w5 ⟨rfl, f5⟩; replace ff := ff.trans f5))
  generalize thn (intc x.kd y.kd) (thn (intc x.nn y.nn) (thn (intc x.dd y.dd) (strc (bs x.ss).data.toList (bs y.ss).data.toList))) = T at *
  clear c0 c1 c2 c3 c4 d0 d1 d2 d3 d4
  replace p0 := p0.on ff
  replace p1 := p1.on ff
  replace f0 := f0.trans ff
  clear ff
  have c0 := p0.c0; have c1 := p0.c1; have c2 := p0.c2; have c3 := p0.c3; have c4 := p0.c4
  have d0 := p1.c0; have d1 := p1.c1; have d2 := p1.c2; have d3 := p1.c3; have d4 := p1.c4
  by_cases hr : T = 0
  · subst hr
    replace HE := Lib.hid (HE.out.trans (thn_0 _))
    go_wp2_with fail
    go_at_call 103; refine (VC.out _ f0).mono ?_; rintro e7 w7 ⟨rfl, f7⟩
    go_wp2
    go_ret
    exact ⟨ret_int HE.out.symm, f0.trans f7⟩
  · have g : (T != 0) = true := by rw [bne_iff_ne]; exact hr
    replace HE := Lib.hid (HE.out.trans (thn_n hr _))
    clear hr VC
    go_wp2
    go_ret
    exact ⟨ret_int HE.out.symm, f0⟩

set_option maxHeartbeats 6400000 in
set_option maxRecDepth 100000 in
theorem lo_by (x y : Vl) (hL : ∀ u, u ∈ x.ll → ∀ v, v ∈ y.ll → CmpAt 23 u v) (ao bo : Option Addr) (ca cb : Nat) (w : World) (hi : Vin x) (hi' : Vin y) (hs : SlV w ao x.ll ca) (hs' : SlV w bo y.ll cb) :
    Calls Tryz.prog 23 #[vlv x ao ca, vlv y bo cb] w (RetI w (ordV x y)) := by
  obtain ⟨p0, p1, f0⟩ := bx2' w x y ao bo ca cb
  have hne : ¬ (w.heap.size = w.heap.size + 1) := by omega
  have hne2 : ¬ (w.heap.size + 1 = w.heap.size) := by omega
  have ETF := Lib.hid (fun hp hq => ordV_tf (x := x) (y := y) hp hq)
  have EFT := Lib.hid (fun hp hq => ordV_ft (x := x) (y := y) hp hq)
  have VV := Lib.hid (fun w' (hf : Fur w w') (hp : okX x = true) (hq : okX y = true) => lov_all x y hp hq ao bo ca cb w' hi hi' (hs.on hf) (hs'.on hf))
  have VI := Lib.hid (fun w' (hf : Fur w w') => loi_by x y hL ao bo ca cb w' (hs.on hf) (hs'.on hf))
  have EI := Lib.hid (fun hp hq => ordV_inv (x := x) (y := y) hp hq)
  have HI := Lib.hid (And.intro hi hi')
  have HS := Lib.hid (And.intro hs hs')
  clear hs hs' hL hi hi'
  obtain ⟨W, hW⟩ : ∃ W, ((w.alloc (.cells #[.int .i64 x.kd, .int .i64 x.nn, .int .i64 x.dd, .string (bs x.ss), .slice ao x.ll.length ca] 24)).alloc (.cells #[.int .i64 y.kd, .int .i64 y.nn, .int .i64 y.dd, .string (bs y.ss), .slice bo y.ll.length cb] 24)) = W := ⟨_, rfl⟩
  rw [hW] at p0 p1 f0
  unfold vlv at *
  go_enter Tryz.func23, Tryz.ntmps23
  go_upto_region 1 with fail
  clear hW
  have c0 := p0.c0; have c1 := p0.c1; have c2 := p0.c2; have c3 := p0.c3; have c4 := p0.c4
  have d0 := p1.c0; have d1 := p1.c1; have d2 := p1.c2; have d3 := p1.c3; have d4 := p1.c4
  have ff : Fur W W.drew := Fur.drew (Fur.refl W)
  go_region_held3 (fun w' => Fur W w' ∧ w'.cell? ⟨w.heap.size, 0, none⟩ = some (.int .i64 x.kd) ∧ w'.cell? ⟨w.heap.size, 1, none⟩ = some (.int .i64 x.nn) ∧ w'.cell? ⟨w.heap.size, 2, none⟩ = some (.int .i64 x.dd) ∧ w'.cell? ⟨w.heap.size, 3, none⟩ = some (.string (bs x.ss)) ∧ w'.cell? ⟨w.heap.size, 4, none⟩ = some (.slice ao x.ll.length ca) ∧ w'.cell? ⟨w.heap.size + 1, 0, none⟩ = some (.int .i64 y.kd) ∧ w'.cell? ⟨w.heap.size + 1, 1, none⟩ = some (.int .i64 y.nn) ∧ w'.cell? ⟨w.heap.size + 1, 2, none⟩ = some (.int .i64 y.dd) ∧ w'.cell? ⟨w.heap.size + 1, 3, none⟩ = some (.string (bs y.ss)) ∧ w'.cell? ⟨w.heap.size + 1, 4, none⟩ = some (.slice bo y.ll.length cb))
    (first
      | exact keep10 ff c0 c1 c2 c3 c4 d0 d1 d2 d3 d4)
    (first
      | (go_at_call 11; refine (lvalid_any _ _ _ _ ?_ ?_).mono ?_; (first | exact HI.out.1 | exact HI.out.2); (first | exact HS.out.1.on (f0.trans ff) | exact HS.out.2.on (f0.trans ff)); rintro e4 w4 ⟨rfl, f4⟩; replace ff := ff.trans f4))
  clear HI HS
  generalize okX x = p at *
  generalize okX y = q at *
  clear c0 c1 c2 c3 c4 d0 d1 d2 d3 d4
  replace p0 := p0.on ff
  replace p1 := p1.on ff
  replace f0 := f0.trans ff
  clear ff
  have c0 := p0.c0; have c1 := p0.c1; have c2 := p0.c2; have c3 := p0.c3; have c4 := p0.c4
  have d0 := p1.c0; have d1 := p1.c1; have d2 := p1.c2; have d3 := p1.c3; have d4 := p1.c4
  cases p <;> cases q
  · have HE := Lib.hid (EI.out rfl rfl)
    go_wp2_with fail
    go_at_call 67; refine (VI.out _ f0).mono ?_; rintro e7 w7 ⟨rfl, f7⟩
    go_wp2
    go_ret
    exact ⟨ret_int HE.out.symm, f0.trans f7⟩
  · have HE := Lib.hid (EFT.out rfl rfl)
    clear VV VI ETF EFT EI
    go_wp2
    go_ret
    exact ⟨ret_int HE.out.symm, f0⟩
  · have HE := Lib.hid (ETF.out rfl rfl)
    clear VV VI ETF EFT EI
    go_wp2
    go_ret
    exact ⟨ret_int HE.out.symm, f0⟩
  · go_wp2_with fail
    go_at_call 66; refine (VV.out _ f0 (by simp) (by simp)).mono ?_; rintro e7 w7 ⟨rfl, f7⟩
    go_wp2
    go_ret
    exact ⟨rfl, f0.trans f7⟩
mutual
/-- Order of every two values. -/
theorem lo_all : ∀ x y : Vl, CmpAt 23 x y
  | .mk k n d s l, y => fun ao bo ca cb w hi hi' hs hs' =>
    lo_by (.mk k n d s l) y (fun u hu v _ => lo_list l u hu v) ao bo ca cb w hi hi' hs hs'
theorem lo_list : ∀ l : List Vl, ∀ u, u ∈ l → ∀ v, CmpAt 23 u v
  | [], _, hu, _ => by cases hu
  | x :: r, u, hu, v => (List.mem_cons.1 hu).elim (fun e => e ▸ lo_all x v) (fun e => lo_list r u e v)
end
end Go.Proofs.YtenmideffecdnaaGreatDoor

/-! Plain mathematics of values: equality in three values; how it goes with the order. No program, no world. -/
namespace Go.Proofs.YtenmideffecdnaaGreatDoor

def yesV (b : Bool) : Int := if b = true then 2 else 0
mutual
/-- Equality in three values: 0 no, 1 unknown, 2 yes. -/
def eqV : Vl → Vl → Int
  | .mk k n d s l, b =>
    if k = 0 ∨ b.kd = 0 ∨ okX (.mk k n d s l) = false ∨ okX b = false then 1
    else if isNum (.mk k n d s l) = true ∧ isNum b = true then yesV (decide (cmpQ (fz (nmN (.mk k n d s l)) (nmD (.mk k n d s l))) (fz (nmN b) (nmD b)) = 0))
    else if k ≠ b.kd then 0
    else if k = 4 then yesV (decide (s = b.ss))
    else if k ≠ 8 ∧ k ≠ 7 then yesV (decide (n = b.nn))
    else if l.length ≠ b.ll.length then 0
    else eqL l b.ll
/-- The least of the pairs' equalities. -/
def eqL : List Vl → List Vl → Int
  | x :: r, y :: t => min (eqV x y) (eqL r t)
  | _, _ => 2
end
theorem yesV_2 {b : Bool} : yesV b = 2 ↔ b = true := by unfold yesV; cases b <;> decide
theorem yesV_r (b : Bool) : yesV b = 0 ∨ yesV b = 2 := by unfold yesV; cases b <;> decide
mutual
theorem eqV_r : ∀ (a b : Vl), 0 ≤ eqV a b ∧ eqV a b ≤ 2
  | .mk k n d s l, b => by
    have ih := eqL_r l b.ll
    unfold eqV
    split
    · decide
    · split
      · rcases yesV_r (decide (cmpQ (fz (nmN (.mk k n d s l)) (nmD (.mk k n d s l))) (fz (nmN b) (nmD b)) = 0)) with h | h <;> rw [h] <;> decide
      · split
        · decide
        · split
          · rcases yesV_r (decide (s = b.ss)) with h | h <;> rw [h] <;> decide
          · split
            · rcases yesV_r (decide (n = b.nn)) with h | h <;> rw [h] <;> decide
            · split
              · decide
              · exact ih
theorem eqL_r : ∀ (a b : List Vl), 0 ≤ eqL a b ∧ eqL a b ≤ 2
  | [], b => by unfold eqL; decide
  | _ :: _, [] => by unfold eqL; decide
  | x :: r, y :: t => by
    have h1 := eqV_r x y
    have h2 := eqL_r r t
    unfold eqL
    omega
end
/-- What a valid value that is no number and no list or path holds besides its number or string. -/
theorem flat_of {k n d : Int} {s : List UInt8} {l : List Vl} (h : okX (.mk k n d s l) = true) (hn : isNum (.mk k n d s l) = false) (h0 : k ≠ 0) :
    (k = 4 ∧ n = 0 ∧ d = 0 ∧ l = []) ∨ (k ≠ 4 ∧ k ≠ 8 ∧ k ≠ 7 ∧ d = 0 ∧ s = [] ∧ l = []) ∨ ((k = 8 ∨ k = 7) ∧ n = 0 ∧ d = 0 ∧ s = []) := by
  have hk : k ≠ 2 ∧ k ≠ 3 := by
    unfold isNum at hn
    rw [h, Bool.true_and, Bool.or_eq_false_iff, beq_eq_false_iff_ne, beq_eq_false_iff_ne] at hn
    exact hn
  unfold okX okV at h
  by_cases h7 : k = 7
  · rw [if_pos h7] at h
    simp [bareV] at h
    obtain ⟨⟨⟨⟨⟨e1, e2⟩, e3⟩, -⟩, -⟩, -⟩ := h
    exact .inr (.inr ⟨.inr h7, e1, e2, e3⟩)
  rw [if_neg h7] at h
  by_cases h8 : k = 8
  · rw [if_pos h8] at h
    simp [bareV] at h
    obtain ⟨⟨⟨⟨e1, e2⟩, e3⟩, -⟩, -⟩ := h
    exact .inr (.inr ⟨.inl h8, e1, e2, e3⟩)
  rw [if_neg h8] at h
  unfold okFlat at h
  rw [if_neg h0] at h
  by_cases h4 : k = 4
  · subst h4
    simp [bareV] at h
    obtain ⟨⟨⟨e1, e2⟩, e3⟩, -⟩ := h
    exact .inl ⟨rfl, e1, e2, e3⟩
  refine .inr (.inl ⟨h4, h8, h7, ?_⟩)
  split at h
  · simp [bareV] at h
    obtain ⟨⟨⟨e1, e2⟩, e3⟩, -⟩ := h
    exact ⟨e1, e2, e3⟩
  · rw [if_neg hk.1, if_neg hk.2] at h
    try rw [if_neg h4] at h
    split at h
    · simp [bareV] at h
      obtain ⟨⟨⟨⟨e1, e2⟩, e3⟩, -⟩, -⟩ := h
      exact ⟨e1, e2, e3⟩
    · cases h
theorem num_same {a b : Vl} (ha : isNum a = true) (hb : isNum b = true) (h : cmpQ (fz (nmN a) (nmD a)) (fz (nmN b) (nmD b)) = 0) : a = b := by
  obtain ⟨k, n, d, s, l⟩ := a
  obtain ⟨k', n', d', s', l'⟩ := b
  obtain ⟨r1, r2, r3, r4⟩ := num_rat ha
  obtain ⟨q1, q2, q3, q4⟩ := num_rat hb
  have e := (cmp_eq r3 q3).1 h
  rw [r1, r2, q1, q2]
  rcases r4 with ⟨a1, a2, a3, a4⟩ | ⟨a1, a2, a3, a4⟩ <;> rcases q4 with ⟨b1, b2, b3, b4⟩ | ⟨b1, b2, b3, b4⟩
  · rw [a1, b1, a2, b2, ← a3, ← b3, e.1]
  · have := e.2; omega
  · have := e.2; omega
  · rw [a1, b1, ← a3, ← b3, e.1, ← a4, ← b4, e.2]
mutual
/-- Equal: the same value. -/
theorem eq_same : ∀ {a b : Vl}, eqV a b = 2 → a = b
  | .mk k n d s l, b, h => by
    have eb := vl_eta b
    have ih := @eqL_same l b.ll
    generalize b.kd = k' at *
    generalize b.nn = n' at *
    generalize b.dd = d' at *
    generalize b.ss = s' at *
    generalize b.ll = l' at *
    subst eb
    unfold eqV at h
    split at h
    · exact absurd h (by decide)
    rename_i h1
    split at h
    · rename_i h2
      rw [yesV_2, decide_eq_true_iff] at h
      exact num_same h2.1 h2.2 h
    rename_i h2
    split at h
    · exact absurd h (by decide)
    rename_i h3
    have hk : k = k' := Decidable.not_not.1 h3
    have g1 : k ≠ 0 := fun t => h1 (.inl t)
    have ga : okX (.mk k n d s l) = true := by
      cases e : okX (.mk k n d s l)
      · exact absurd (.inr (.inr (.inl e))) h1
      · rfl
    have gb : okX (.mk k' n' d' s' l') = true := by
      cases e : okX (.mk k' n' d' s' l')
      · exact absurd (.inr (.inr (.inr e))) h1
      · rfl
    have na : isNum (.mk k n d s l) = false := by
      cases e : isNum (.mk k n d s l)
      · rfl
      · have t : classV k' = 2 := by rw [← hk]; exact (num_class ga).1 e
        exact absurd ⟨e, (num_class gb).2 t⟩ h2
    have nb : isNum (.mk k' n' d' s' l') = false := by
      cases e : isNum (.mk k' n' d' s' l')
      · rfl
      · have t : classV k = 2 := by rw [hk]; exact (num_class gb).1 e
        rw [(num_class ga).2 t] at na
        cases na
    have fa := flat_of ga na g1
    have fb := flat_of gb nb (by rw [← hk]; exact g1)
    split at h
    · rename_i h4
      rw [yesV_2, decide_eq_true_iff] at h
      have hs : s = s' := h
      rcases fa with ⟨-, a1, a2, a3⟩ | ⟨a0, -⟩ | ⟨a0, -⟩
      · rcases fb with ⟨-, b1, b2, b3⟩ | ⟨b0, -⟩ | ⟨b0, -⟩
        · rw [hk, a1, a2, a3, b1, b2, b3, hs]
        · exact absurd (hk.symm.trans h4) b0
        · omega
      · exact absurd h4 a0
      · omega
    rename_i h4
    split at h
    · rename_i h5
      rw [yesV_2, decide_eq_true_iff] at h
      have hn : n = n' := h
      rcases fa with ⟨a0, -⟩ | ⟨-, -, -, a1, a2, a3⟩ | ⟨a0, -⟩
      · exact absurd a0 h4
      · rcases fb with ⟨b0, -⟩ | ⟨-, -, -, b1, b2, b3⟩ | ⟨b0, -⟩
        · exact absurd (hk.trans b0) h4
        · rw [hk, hn, a1, a2, a3, b1, b2, b3]
        · omega
      · omega
    rename_i h5
    split at h
    · exact absurd h (by decide)
    rename_i h6
    have hl : l = l' := ih (Decidable.not_not.1 h6) h
    rcases fa with ⟨a0, -⟩ | ⟨-, a8, a7, -⟩ | ⟨-, a1, a2, a3⟩
    · exact absurd a0 h4
    · exact absurd ⟨a8, a7⟩ h5
    · rcases fb with ⟨b0, -⟩ | ⟨-, b8, b7, -⟩ | ⟨-, b1, b2, b3⟩
      · exact absurd (hk.trans b0) h4
      · exact absurd ⟨by rw [hk]; exact b8, by rw [hk]; exact b7⟩ h5
      · rw [hk, hl, a1, a2, a3, b1, b2, b3]
theorem eqL_same : ∀ {a b : List Vl}, a.length = b.length → eqL a b = 2 → a = b
  | [], [], _, _ => rfl
  | [], _ :: _, hl, _ => by cases hl
  | _ :: _, [], hl, _ => by cases hl
  | x :: r, y :: t, hl, h => by
    have h1 := eqV_r x y
    have h2 := eqL_r r t
    unfold eqL at h
    rw [eq_same (a := x) (b := y) (by omega), eqL_same (a := r) (b := t) (by simpa using hl) (by omega)]
end
mutual
/-- A value isn't unequal to itself. -/
theorem eq_self : ∀ (a : Vl), eqV a a ≠ 0
  | .mk k n d s l => by
    have ih := eqL_self l
    unfold eqV
    split
    · decide
    · split
      · rw [cmp_self]; decide
      · rw [if_neg (by exact fun t => t rfl)]
        split
        · rw [show decide (s = (Vl.mk k n d s l).ss) = true from decide_eq_true rfl]; decide
        · split
          · rw [show decide (n = (Vl.mk k n d s l).nn) = true from decide_eq_true rfl]; decide
          · rw [if_neg (by exact fun t => t rfl)]
            exact ih
theorem eqL_self : ∀ (a : List Vl), eqL a a ≠ 0
  | [] => by unfold eqL; decide
  | x :: r => by
    have h1 := eq_self x
    have h2 := eqL_self r
    have h3 := eqV_r x x
    have h4 := eqL_r r r
    unfold eqL
    omega
end
mutual
theorem eq_comm' : ∀ (a b : Vl), eqV b a = eqV a b
  | .mk k n d s l, .mk k' n' d' s' l' => by
    have ih := eqL_comm l l'
    have e1 : decide (cmpQ (fz (nmN (.mk k' n' d' s' l')) (nmD (.mk k' n' d' s' l'))) (fz (nmN (.mk k n d s l)) (nmD (.mk k n d s l))) = 0) = decide (cmpQ (fz (nmN (.mk k n d s l)) (nmD (.mk k n d s l))) (fz (nmN (.mk k' n' d' s' l')) (nmD (.mk k' n' d' s' l'))) = 0) := by
      rw [cmp_swap]
      apply decide_eq_decide.2
      omega
    have A1 : (k' = 0 ∨ (Vl.mk k n d s l).kd = 0 ∨ okX (.mk k' n' d' s' l') = false ∨ okX (.mk k n d s l) = false) ↔ (k = 0 ∨ (Vl.mk k' n' d' s' l').kd = 0 ∨ okX (.mk k n d s l) = false ∨ okX (.mk k' n' d' s' l') = false) := by
      show (k' = 0 ∨ k = 0 ∨ okX (.mk k' n' d' s' l') = false ∨ okX (.mk k n d s l) = false) ↔ (k = 0 ∨ k' = 0 ∨ okX (.mk k n d s l) = false ∨ okX (.mk k' n' d' s' l') = false)
      constructor
      · rintro (c | c | c | c) <;> simp [c]
      · rintro (c | c | c | c) <;> simp [c]
    have A2 : (isNum (.mk k' n' d' s' l') = true ∧ isNum (.mk k n d s l) = true) ↔ (isNum (.mk k n d s l) = true ∧ isNum (.mk k' n' d' s' l') = true) := And.comm
    have A3 : k' ≠ (Vl.mk k n d s l).kd ↔ k ≠ (Vl.mk k' n' d' s' l').kd := ⟨fun t u => t u.symm, fun t u => t u.symm⟩
    have A4 : decide (s' = (Vl.mk k n d s l).ss) = decide (s = (Vl.mk k' n' d' s' l').ss) := decide_eq_decide.2 ⟨fun t => t.symm, fun t => t.symm⟩
    have A5 : decide (n' = (Vl.mk k n d s l).nn) = decide (n = (Vl.mk k' n' d' s' l').nn) := decide_eq_decide.2 ⟨fun t => t.symm, fun t => t.symm⟩
    have A6 : l'.length ≠ (Vl.mk k n d s l).ll.length ↔ l.length ≠ (Vl.mk k' n' d' s' l').ll.length := ⟨fun t u => t u.symm, fun t u => t u.symm⟩
    unfold eqV
    by_cases c1 : k = 0 ∨ (Vl.mk k' n' d' s' l').kd = 0 ∨ okX (.mk k n d s l) = false ∨ okX (.mk k' n' d' s' l') = false
    · rw [if_pos c1, if_pos (A1.2 c1)]
    rw [if_neg c1, if_neg (fun t => c1 (A1.1 t))]
    by_cases c2 : isNum (.mk k n d s l) = true ∧ isNum (.mk k' n' d' s' l') = true
    · rw [if_pos c2, if_pos (A2.2 c2), e1]
    rw [if_neg c2, if_neg (fun t => c2 (A2.1 t))]
    by_cases c3 : k ≠ (Vl.mk k' n' d' s' l').kd
    · rw [if_pos c3, if_pos (A3.2 c3)]
    rw [if_neg c3, if_neg (fun t => c3 (A3.1 t))]
    have hk : k = k' := Decidable.not_not.1 c3
    rw [A4, A5]
    subst hk
    by_cases c4 : k = 4
    · rw [if_pos c4, if_pos c4]
    rw [if_neg c4, if_neg c4]
    by_cases c5 : k ≠ 8 ∧ k ≠ 7
    · rw [if_pos c5, if_pos c5]
    rw [if_neg c5, if_neg c5]
    by_cases c6 : l.length ≠ (Vl.mk k n' d' s' l').ll.length
    · rw [if_pos c6, if_pos (A6.2 c6)]
    rw [if_neg c6, if_neg (fun t => c6 (A6.1 t))]
    exact ih
theorem eqL_comm : ∀ (a b : List Vl), eqL b a = eqL a b
  | [], [] => rfl
  | [], _ :: _ => by unfold eqL; rfl
  | _ :: _, [] => by unfold eqL; rfl
  | x :: r, y :: t => by
    have h1 := eq_comm' x y
    have h2 := eqL_comm r t
    rw [show eqL (y :: t) (x :: r) = min (eqV y x) (eqL t r) by rw [eqL], show eqL (x :: r) (y :: t) = min (eqV x y) (eqL r t) by rw [eqL], h1, h2]
end
end Go.Proofs.YtenmideffecdnaaGreatDoor

/-! Package value: equalValid, equalLists, Equal, Less, Truth, for every values in memory. Nothing that was there turns. -/
namespace Go.Proofs.YtenmideffecdnaaGreatDoor
open Go.RowKit

/-! What equality of valid values comes to. -/
theorem eqV_mk (k n d : Int) (s : List UInt8) (l : List Vl) (k' n' d' : Int) (s' : List UInt8) (l' : List Vl) : eqV (.mk k n d s l) (.mk k' n' d' s' l') =
    if k = 0 ∨ k' = 0 ∨ okX (.mk k n d s l) = false ∨ okX (.mk k' n' d' s' l') = false then 1
    else if isNum (.mk k n d s l) = true ∧ isNum (.mk k' n' d' s' l') = true then yesV (decide (cmpQ (fz (nmN (.mk k n d s l)) (nmD (.mk k n d s l))) (fz (nmN (.mk k' n' d' s' l')) (nmD (.mk k' n' d' s' l'))) = 0))
    else if k ≠ k' then 0
    else if k = 4 then yesV (decide (s = s'))
    else if k ≠ 8 ∧ k ≠ 7 then yesV (decide (n = n'))
    else if l.length ≠ l'.length then 0
    else eqL l l' := by
  unfold eqV
  rfl
theorem eq_flat {x y : Vl} (hx : okX x = true) (hy : okX y = true) (hk : x.kd = 5 ∨ x.kd = 6) (hk' : y.kd = 5 ∨ y.kd = 6) : eqV x y = 0 ∨ eqV x y = 2 := by
  obtain ⟨k, n, d, s, l⟩ := x
  obtain ⟨k', n', d', s', l'⟩ := y
  have hk : k = 5 ∨ k = 6 := hk
  have hk' : k' = 5 ∨ k' = 6 := hk'
  rw [eqV_mk, if_neg (show ¬ (k = 0 ∨ k' = 0 ∨ okX (.mk k n d s l) = false ∨ okX (.mk k' n' d' s' l') = false) by rw [hx, hy]; simp; omega)]
  split
  · exact yesV_r _
  split
  · exact .inl rfl
  split
  · exact yesV_r _
  split
  · exact yesV_r _
  · exfalso; omega
theorem eqL_flat : ∀ l l' : List Vl, (∀ v, v ∈ l → (v.kd = 5 ∨ v.kd = 6) ∧ okX v = true) → (∀ v, v ∈ l' → (v.kd = 5 ∨ v.kd = 6) ∧ okX v = true) → eqL l l' = 0 ∨ eqL l l' = 2
  | [], _, _, _ => by unfold eqL; exact .inr rfl
  | _ :: _, [], _, _ => by unfold eqL; exact .inr rfl
  | x :: r, y :: t, h, h' => by
    have h1 := eq_flat (h x (List.mem_cons_self ..)).2 (h' y (List.mem_cons_self ..)).2 (h x (List.mem_cons_self ..)).1 (h' y (List.mem_cons_self ..)).1
    have h2 := eqL_flat r t (fun v hv => h v (List.mem_cons_of_mem _ hv)) (fun v hv => h' v (List.mem_cons_of_mem _ hv))
    unfold eqL
    omega
theorem okVp_all : ∀ (l : List Vl) (c : Bool), okVp c l = true → ∀ v, v ∈ l → (v.kd = 5 ∨ v.kd = 6) ∧ okX v = true
  | [], _, _ => fun v h => by cases h
  | x :: r, c, g => by
    have ha := all_p g
    unfold okVp at g
    rw [Bool.and_eq_true, Bool.and_eq_true] at g
    intro v hv
    refine ⟨?_, ha v hv⟩
    rcases List.mem_cons.1 hv with e | e
    · rw [e]
      have := g.1.1
      cases c
      · exact .inr (by simpa using this)
      · exact .inl (by simpa using this)
    · exact (okVp_all r (!c) g.2 v e).1
theorem path_all {n d : Int} {s : List UInt8} {l : List Vl} (h : okX (.mk 7 n d s l) = true) : ∀ v, v ∈ l → (v.kd = 5 ∨ v.kd = 6) ∧ okX v = true := by
  unfold okX okV at h
  rw [if_pos rfl, Bool.and_eq_true] at h
  exact okVp_all l true h.2
theorem eq_02 {x y : Vl} (hx : okX x = true) (hy : okX y = true) (h0 : x.kd ≠ 0) (h0' : y.kd ≠ 0) (h8 : x.kd ≠ 8) : eqV x y = 0 ∨ eqV x y = 2 := by
  obtain ⟨k, n, d, s, l⟩ := x
  obtain ⟨k', n', d', s', l'⟩ := y
  have h0 : k ≠ 0 := h0
  have h0' : k' ≠ 0 := h0'
  have h8 : k ≠ 8 := h8
  rw [eqV_mk, if_neg (show ¬ (k = 0 ∨ k' = 0 ∨ okX (.mk k n d s l) = false ∨ okX (.mk k' n' d' s' l') = false) by rw [hx, hy]; simp [h0, h0'])]
  split
  · exact yesV_r _
  split
  · exact .inl rfl
  rename_i hkk
  split
  · exact yesV_r _
  split
  · exact yesV_r _
  rename_i h7
  have e7 : k = 7 := by omega
  have e7' : k' = 7 := by
    have : ¬ k ≠ k' := hkk
    omega
  subst e7 e7'
  split
  · exact .inl rfl
  · exact eqL_flat l l' (path_all hx) (path_all hy)
theorem eq_kinds {x y : Vl} (hx : okX x = true) (hy : okX y = true) (h0 : x.kd ≠ 0) (h0' : y.kd ≠ 0) (hk : x.kd ≠ y.kd) : eqV x y = 0 := by
  have hne : x ≠ y := fun e => hk (by rw [e])
  obtain ⟨k, n, d, s, l⟩ := x
  obtain ⟨k', n', d', s', l'⟩ := y
  have h0 : k ≠ 0 := h0
  have h0' : k' ≠ 0 := h0'
  have hk : k ≠ k' := hk
  rw [eqV_mk, if_neg (show ¬ (k = 0 ∨ k' = 0 ∨ okX (.mk k n d s l) = false ∨ okX (.mk k' n' d' s' l') = false) by rw [hx, hy]; simp [h0, h0'])]
  split
  · rename_i hn
    rcases yesV_r (decide (cmpQ (fz (nmN (.mk k n d s l)) (nmD (.mk k n d s l))) (fz (nmN (.mk k' n' d' s' l')) (nmD (.mk k' n' d' s' l'))) = 0)) with e | e
    · exact e
    · exact absurd (num_same hn.1 hn.2 (by simpa using yesV_2.1 e)) hne
  · rfl
/-- Equality of two valid values of one kind, no lists and not null. -/
theorem eq_ord {x y : Vl} (hx : okX x = true) (hy : okX y = true) (h0 : x.kd ≠ 0) (h0' : y.kd ≠ 0) (h8 : x.kd ≠ 8) : eqV x y = if decide (ordV x y = 0) = true then 2 else 0 := by
  have h := eq_02 hx hy h0 h0' h8
  by_cases e : ordV x y = 0
  · rw [decide_eq_true e, if_pos rfl]
    have := ord_eq e
    subst this
    have := eq_self x
    omega
  · rw [decide_eq_false e, if_neg (by decide)]
    rcases h with h | h
    · exact h
    · have := eq_same h
      subst this
      exact absurd (ord_self x) e
theorem eq_list {n d : Int} {s : List UInt8} {l : List Vl} {n' d' : Int} {s' : List UInt8} {l' : List Vl} (hx : okX (.mk 8 n d s l) = true) (hy : okX (.mk 8 n' d' s' l') = true) : eqV (.mk 8 n d s l) (.mk 8 n' d' s' l') = if l.length ≠ l'.length then 0 else eqL l l' := by
  have nx : ¬ (isNum (.mk 8 n d s l) = true ∧ isNum (.mk 8 n' d' s' l') = true) := fun t => by
    have : classV 8 = 2 := (num_class hx).1 t.1
    exact absurd this (by decide)
  rw [eqV_mk, if_neg (show ¬ ((8 : Int) = 0 ∨ (8 : Int) = 0 ∨ okX (.mk 8 n d s l) = false ∨ okX (.mk 8 n' d' s' l') = false) by rw [hx, hy]; simp), if_neg nx]
  rfl
theorem eq_null {x y : Vl} (h : x.kd = 0 ∨ y.kd = 0) : eqV x y = 1 := by
  obtain ⟨k, n, d, s, l⟩ := x
  unfold eqV
  rw [if_pos]
  rcases h with h | h
  · exact .inl h
  · exact .inr (.inl h)
theorem eq_inv {x y : Vl} (h : okX x = false ∨ okX y = false) : eqV x y = 1 := by
  obtain ⟨k, n, d, s, l⟩ := x
  unfold eqV
  rw [if_pos]
  exact .inr (.inr h)
/-- What equalValid answers. -/
def EqAt (x y : Vl) : Prop := ∀ (ao bo : Option Addr) (ca cb : Nat) (w : World), Vin x → Vin y → SlV w ao x.ll ca → SlV w bo y.ll cb → Calls Tryz.prog 61 #[vlv x ao ca, vlv y bo cb] w (RetI w (eqV x y))
theorem eqL_drop (l l' : List Vl) (i : Nat) (h : i < l.length) (h' : i < l'.length) : eqL (l.drop i) (l'.drop i) = min (eqV l[i] l'[i]) (eqL (l.drop (i + 1)) (l'.drop (i + 1))) := by
  rw [List.drop_eq_getElem_cons h, List.drop_eq_getElem_cons h']
  simp only [eqL]
theorem tri_02 {a : Int} (h : 0 ≤ a ∧ a ≤ 2) : triV a = a := by unfold triV; split <;> omega
theorem land_r (a b : Int) (ha : 0 ≤ a ∧ a ≤ 2) (hb : 0 ≤ b ∧ b ≤ 2) (w : World) : Calls Tryz.prog 115 #[.int .i64 a, .int .i64 b] w (RetI w (min a b)) :=
  (land_any a b w).mono fun _ _ ⟨he, hw⟩ => ⟨by rw [he, tri_02 ha, tri_02 hb], hw ▸ Fur.refl _⟩
theorem lknown_r (b : Bool) (w : World) : Calls Tryz.prog 56 #[.bool b] w (RetI w (if b = true then 2 else 0)) :=
  (lknown_any b w).mono fun _ _ ⟨he, hw⟩ => ⟨he, hw ▸ Fur.refl _⟩

set_option maxHeartbeats 3200000 in
set_option maxRecDepth 100000 in
theorem lel_any (l l' : List Vl) (hO : ∀ x, x ∈ l → ∀ y, y ∈ l' → EqAt x y) (ao bo : Option Addr) (ca cb : Nat) (w : World) (hs : SlV w ao l ca) (hs' : SlV w bo l' cb) :
    Calls Tryz.prog 94 #[.slice ao l.length ca, .slice bo l'.length cb] w (RetI w (if l.length ≠ l'.length then 0 else eqL l l')) := by
  have HO := Lib.hid hO
  have HS := Lib.hid hs
  have HS' := Lib.hid hs'
  have h1 := hs.le
  have h2 := hs.max
  have h3 := hs'.le
  have h4 := hs'.max
  unfold maxLen at h2 h4
  clear hs hs' hO
  rcases Nat.lt_or_ge l.length l'.length with g | g
  · have g1 : ((l.length : Int) != l'.length) = true := by rw [bne_iff_ne]; omega
    rw [if_pos (show l.length ≠ l'.length by omega)]
    clear g
    go_enter Tryz.func94, Tryz.ntmps94
    go_wp2
    go_ret
    exact ⟨rfl, Fur.refl _⟩
  rcases Nat.lt_or_ge l'.length l.length with g' | g'
  · have g1 : ((l.length : Int) != l'.length) = true := by rw [bne_iff_ne]; omega
    rw [if_pos (show l.length ≠ l'.length by omega)]
    clear g g'
    go_enter Tryz.func94, Tryz.ntmps94
    go_wp2
    go_ret
    exact ⟨rfl, Fur.refl _⟩
  have g1 : ((l.length : Int) != l'.length) = false := by rw [bne_eq_false_iff_eq]; omega
  rw [if_neg (show ¬ (l.length ≠ l'.length) by omega)]
  go_enter Tryz.func94, Tryz.ntmps94
  go_wp2
  go_loopw [5, 14] (fun av iv wr => ∃ (i : Nat) (a : Int), iv = .int .i64 i ∧ av = .int .i64 a ∧ i ≤ l.length ∧ Hid ((0 ≤ a ∧ a ≤ 2) ∧ eqL l l' = min a (eqL (l.drop i) (l'.drop i))) ∧ Fur w wr) (fun _ iv _ => l.length - (RowKit.intOf iv).toNat)
  case atStart => exact ⟨0, 2, rfl, rfl, Nat.zero_le _, ⟨by omega, by have := eqL_r l l'; simp only [List.drop_zero]; omega⟩, Fur.refl _⟩
  case round =>
    obtain ⟨i, a, rfl, rfl, hi, HN, hf⟩ := hrel
    by_cases hlt : i < l.length
    · have hlt' : i < l'.length := by omega
      obtain ⟨b, o, rfl, hv⟩ := (HS.out.on hf).get hlt
      obtain ⟨b', o', rfl, hv'⟩ := (HS'.out.on hf).get hlt'
      have hA := eqL_drop l l' i hlt hlt'
      have hm := HO.out l[i] (List.getElem_mem hlt) l'[i] (List.getElem_mem hlt')
      obtain ⟨hy, c0, c1, c2, c3, a1, k1, c4, hs2⟩ := VC_of hv
      obtain ⟨hy', d0, d1, d2, d3, a2, k2, d4, hs2'⟩ := VC_of hv'
      have HR := Lib.hid (eqV_r l[i] l'[i])
      have HC := Lib.hid (fun w' (hf' : Fur wr w') => hm a1 a2 k1 k2 w' hy hy' (hs2.on hf') (hs2'.on hf'))
      have HE := Lib.hid (show eqL l l' = min (min a (eqV l[i] l'[i])) (eqL (l.drop (i + 1)) (l'.drop (i + 1))) by rw [HN.out.2, hA]; omega)
      have HB := Lib.hid HN.out.1
      unfold vlv at HC
      clear hv hv' hs2 hs2' hy hy' hA hm HN
      generalize l[i] = x at *
      generalize l'[i] = y at *
      generalize eqV x y = r at *
      have ff : Fur wr wr.drew := Fur.drew (Fur.refl wr)
      go_wp2_with fail
      go_region_held3 (fun w' => Fur wr w' ∧ w'.cell? ⟨b, o + i * 5, none⟩ = some (.int .i64 x.kd) ∧ w'.cell? ⟨b, o + i * 5 + 1, none⟩ = some (.int .i64 x.nn) ∧ w'.cell? ⟨b, o + i * 5 + 2, none⟩ = some (.int .i64 x.dd) ∧ w'.cell? ⟨b, o + i * 5 + 3, none⟩ = some (.string (bs x.ss)) ∧ w'.cell? ⟨b, o + i * 5 + 4, none⟩ = some (.slice a1 x.ll.length k1) ∧ w'.cell? ⟨b', o' + i * 5, none⟩ = some (.int .i64 y.kd) ∧ w'.cell? ⟨b', o' + i * 5 + 1, none⟩ = some (.int .i64 y.nn) ∧ w'.cell? ⟨b', o' + i * 5 + 2, none⟩ = some (.int .i64 y.dd) ∧ w'.cell? ⟨b', o' + i * 5 + 3, none⟩ = some (.string (bs y.ss)) ∧ w'.cell? ⟨b', o' + i * 5 + 4, none⟩ = some (.slice a2 y.ll.length k2))
        (first
          | exact keep10 ff c0 c1 c2 c3 c4 d0 d1 d2 d3 d4)
        (first
          | (go_at_call 61; refine (HC.out _ ff).mono ?_; rintro e1 w1 ⟨rfl, f1⟩; replace ff := ff.trans f1)
          | (go_at_call 115; refine (land_r _ _ HB.out HR.out _).mono ?_; rintro e2 w2 ⟨rfl, f2⟩; replace ff := ff.trans f2))
      have HB2 := Lib.hid (show 0 ≤ min a r ∧ min a r ≤ 2 by have := HB.out; have := HR.out; omega)
      generalize min a r = z at *
      go_wp2
      go_roundw
      case rel => exact ⟨i + 1, z, by go_num, rfl, by omega, ⟨HB2.out, HE.out⟩, hf.trans ff⟩
      case measure => simp [RowKit.intOf]; omega
    · have HE := Lib.hid (show eqL l l' = a by
        rw [HN.out.2, List.drop_of_length_le (by omega)]
        unfold eqL
        have := HN.out.1
        omega)
      go_wp2
      go_ret
      exact ⟨ret_int HE.out.symm, hf⟩
end Go.Proofs.YtenmideffecdnaaGreatDoor
