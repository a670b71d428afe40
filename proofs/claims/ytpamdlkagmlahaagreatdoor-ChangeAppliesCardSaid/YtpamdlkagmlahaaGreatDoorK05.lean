/-
  M09; M10: texts of one kind in one file; each part says what it holds.
-/
import Derived.Test.YtpamdlkagmlahaaGreatDoorLvC
import Derived.Test.YtpamdlkagmlahaaGreatDoorM05

namespace Go.Proofs.YtpamdlkagmlahaaGreatDoor
open Go.RowKit
theorem okVs_drop (m : Nat) (l : List Vl) (i : Nat) (h : i < l.length) : okVs m (l.drop i) = (okV m l[i] && okVs m (l.drop (i + 1))) := by
 rw [List.drop_eq_getElem_cons h]; rfl
def LVP (m : Nat) : Prop := ∀ (x : Vl) (ao : Option Addr) (cap : Nat) (w : World), Vin x → SlV w ao x.ll cap → Calls Tryz.prog 98 #[vlv x ao cap, .int .i64 (m : Int)] w (RetB w (okV m x))
theorem lvlist_0 (l : List Vl) (ao : Option Addr) (cap : Nat) (w : World) : Calls Tryz.prog 141 #[.slice ao l.length cap, .int .i64 0] w (RetB w false) := by
 go_enter Tryz.func141, Tryz.ntmps141
 go_wp2
 go_ret
 exact ⟨rfl, Fur.refl _⟩
set_option maxHeartbeats 3200000 in
theorem lvlist_any (m : Nat) (hm : m < 1000) (hv : LVP m) (l : List Vl) (ao : Option Addr) (cap : Nat) (w : World) (hs : SlV w ao l cap) :
  Calls Tryz.prog 141 #[.slice ao l.length cap, .int .i64 ((m : Int) + 1)] w (RetB w (decide (l.length ≤ 64) && okVs m l)) := by
 have HV := Lib.hid hv
 have HS := Lib.hid hs
 have hl := hs.le
 have hx := hs.max
 unfold maxLen at hx
 have g0 : (((m : Int) + 1) == 0) = false := by rw [beq_eq_false_iff_ne]; omega
 clear hv hs
 by_cases h64 : l.length ≤ 64
 rotate_left
 ·have h64' : (64 : Int) < l.length := by omega
  rw [decide_eq_false h64]
  clear h64
  go_enter Tryz.func141, Tryz.ntmps141
  go_wp2
  go_ret
  exact ⟨rfl, Fur.refl _⟩
 ·rw [decide_eq_true h64, Bool.true_and]
  have h64' : ¬ (64 : Int) < l.length := by omega
  go_enter Tryz.func141, Tryz.ntmps141
  go_wp2
  go_loopw [16] (fun iv wr => ∃ i : Nat, iv = .int .i64 i ∧ i ≤ l.length ∧ Hid (okVs m l = okVs m (l.drop i)) ∧ Fur w wr) (fun iv _ => l.length - (RowKit.intOf iv).toNat)
  case atStart => exact ⟨0, rfl, Nat.zero_le _, rfl, Fur.refl _⟩
  case round =>
   obtain ⟨i, rfl, hi, HN, hf⟩ := hrel
   by_cases hlt : i < l.length
   ·obtain ⟨b, o, rfl, hc⟩ := (HS.out.on hf).get hlt
    have hA := okVs_drop m l i hlt
    obtain ⟨hy, c0, c1, c2, c3, ao', cap', c4, hs2⟩ := VC_of hc
    obtain ⟨p0, f0⟩ := bx1 wr l[i] ao' cap'
    have HC := Lib.hid (fun w' (hf' : Fur wr w') => HV.out l[i] ao' cap' w' hy (hs2.on hf'))
    have wm : IntKind.i64.wrap (m : Int) = (m : Int) := IntWalk.i64_in (m : Int) (by omega)
    unfold vlv at HC
    have HA := Lib.hid hA
    clear hc hs2 hy hA
    generalize l[i] = y at *
    generalize okV m y = q at *
    go_wp2_with fail
    go_at_call 98
    refine (HC.out _ f0).mono ?_; rintro e1 w1 ⟨rfl, f1⟩
    replace f1 := f0.trans f1
    cases q
    ·have HE := Lib.hid (show okVs m l = false by rw [HN.out, HA.out]; rfl)
     go_wp2
     go_ret
     exact ⟨ret_bool HE.out.symm, hf.trans f1⟩
    ·have HE := Lib.hid (show okVs m l = okVs m (l.drop (i + 1)) by rw [HN.out, HA.out, Bool.true_and])
     go_wp2
     go_roundw
     case rel => exact ⟨i + 1, by go_num, by omega, HE.out, hf.trans f1⟩
     case measure => simp [RowKit.intOf]; omega
   ·have HE := Lib.hid (show okVs m l = true by rw [HN.out, List.drop_of_length_le (by omega)]; rfl)
    go_wp2
    go_ret
    exact ⟨ret_bool HE.out.symm, hf⟩
end Go.Proofs.YtpamdlkagmlahaaGreatDoor
namespace Go.Proofs.YtpamdlkagmlahaaGreatDoor
open Go.RowKit
theorem okVp_drop (c : Bool) (l : List Vl) (i : Nat) (h : i < l.length) : okVp c (l.drop i) = ((l[i].kd == if c = true then 5 else 6) && okV 0 l[i] && okVp (!c) (l.drop (i + 1))) := by
 rw [List.drop_eq_getElem_cons h]; rfl
theorem lvalid_id (x : Vl) (ao : Option Addr) (cap : Nat) (w : World) (h : x.kd = 5 ∨ x.kd = 6) : Calls Tryz.prog 61 #[vlv x ao cap] w (RetB w (okV 0 x)) := by
 have k : ∀ w', Calls Tryz.prog 98 #[vlv x ao cap, .int .i64 8] w' (RetB w' (okV 0 x)) := fun w' => by
  obtain ⟨k, n, d, s, l⟩ := x
  simp only [Vl.kd] at h
  rcases h with rfl | rfl
  ·have e : okV 0 (.mk 5 n d s l) = okFlat 5 n d s l := by simp [okV]
   rw [e]; exact lvk5 n d s l ao cap 8 w'
  ·have e : okV 0 (.mk 6 n d s l) = okFlat 6 n d s l := by simp [okV]
   rw [e]; exact lvk6 n d s l ao cap 8 w'
 obtain ⟨p0, f0⟩ := bx1 w x ao cap
 have HV := Lib.hid k
 clear k h
 unfold vlv at *
 go_enter Tryz.func61, Tryz.ntmps61
 go_wp2_with fail
 go_at_call 98; refine (HV.out _).mono ?_; rintro e1 w1 ⟨rfl, f1⟩
 go_wp2
 go_ret
 exact ⟨rfl, f0.trans f1⟩
def okP (l : List Vl) : Bool := decide (l.length % 2 = 1) && decide (l.length ≤ 25) && okVp true l
set_option maxHeartbeats 3200000 in
set_option maxRecDepth 100000 in
theorem lvpath_any (l : List Vl) (ao : Option Addr) (cap : Nat) (w : World) (hs : SlV w ao l cap) :
  Calls Tryz.prog 142 #[.slice ao l.length cap] w (RetB w (okP l)) := by
 have HS := Lib.hid hs
 have hl := hs.le
 have hx := hs.max
 unfold maxLen at hx
 clear hs
 by_cases h2 : l.length % 2 = 1
 rotate_left
 ·have g : (l.length : Int) % 2 = 0 := by omega
  rw [show okP l = false by unfold okP; rw [decide_eq_false h2]; rfl]
  clear h2
  go_enter Tryz.func142, Tryz.ntmps142
  go_wp2
  go_ret
  exact ⟨rfl, Fur.refl _⟩
 have g2 : (l.length : Int) % 2 = 1 := by omega
 by_cases h25 : l.length ≤ 25
 rotate_left
 ·have g : 25 < l.length := by omega
  rw [show okP l = false by unfold okP; rw [decide_eq_false h25, Bool.and_false]; rfl]
  clear h25 h2
  go_enter Tryz.func142, Tryz.ntmps142
  go_wp2
  go_ret
  exact ⟨rfl, Fur.refl _⟩
 rw [show okP l = okVp true l by unfold okP; rw [decide_eq_true h2, decide_eq_true h25]; rfl]
 clear h2
 go_enter Tryz.func142, Tryz.ntmps142
 go_wp2
 go_loopw [17] (fun iv wr => ∃ i : Nat, iv = .int .i64 i ∧ i ≤ l.length ∧ Hid (okVp true l = okVp (i % 2 == 0) (l.drop i)) ∧ Fur w wr) (fun iv _ => l.length - (RowKit.intOf iv).toNat)
 case atStart => exact ⟨0, rfl, Nat.zero_le _, rfl, Fur.refl _⟩
 case round =>
  clear g2
  obtain ⟨i, rfl, hi, HN, hf⟩ := hrel
  by_cases hlt : i < l.length
  ·obtain ⟨b, o, rfl, hc⟩ := (HS.out.on hf).get hlt
   have hA := okVp_drop (i % 2 == 0) l i hlt
   obtain ⟨hy, c0, c1, c2, c3, ao', cap', c4, hs2⟩ := VC_of hc
   have hV := fun w' => lvalid_id l[i] ao' cap' w'
   obtain ⟨p0, f0⟩ := bx1 wr l[i] ao' cap'
   unfold vlv at hV
   clear hc hs2 hy
   generalize l[i] = y at *
   generalize okV 0 y = q at *
   rcases (show (i : Int) % 2 = 0 ∨ (i : Int) % 2 = 1 by omega) with hp | hp
   ·have e : (i % 2 == 0) = true := beq_iff_eq.2 (by omega)
    have e' : ((i + 1) % 2 == 0) = false := beq_eq_false_iff_ne.2 (by omega)
    rw [e] at hA HN
    by_cases hk : y.kd = 5
    ·rw [hk] at c0 hV f0
     have HC := Lib.hid (fun w' => hV w' (.inl rfl))
     have HE := Lib.hid (show okVp true l = (q && okVp false (l.drop (i + 1))) by rw [HN.out, hA, hk]; rfl)
     clear hA HN hV e hk
     go_wp2_with fail
     go_at_call 61
     refine (HC.out _).mono ?_; rintro e1 w1 ⟨rfl, f1⟩
     replace f1 := f0.trans f1
     cases q
     ·go_wp2
      go_ret
      exact ⟨ret_bool HE.out.symm, hf.trans f1⟩
     ·go_wp2
      go_roundw
      case rel => exact ⟨i + 1, by go_num, by omega, by rw [e', HE.out, Bool.true_and]; exact rfl, hf.trans f1⟩
      case measure => simp [RowKit.intOf]; omega
    ·have hk' : (y.kd != 5) = true := by rw [bne_iff_ne]; exact hk
     have HE := Lib.hid (show okVp true l = false by rw [HN.out, hA]; simp [hk])
     clear hA HN hV e hk
     go_wp2
     go_ret
     exact ⟨ret_bool HE.out.symm, hf.trans f0⟩
   ·have e : (i % 2 == 0) = false := beq_eq_false_iff_ne.2 (by omega)
    have e' : ((i + 1) % 2 == 0) = true := beq_iff_eq.2 (by omega)
    rw [e] at hA HN
    by_cases hk : y.kd = 6
    ·rw [hk] at c0 hV f0
     have HC := Lib.hid (fun w' => hV w' (.inr rfl))
     have HE := Lib.hid (show okVp true l = (q && okVp true (l.drop (i + 1))) by rw [HN.out, hA, hk]; rfl)
     clear hA HN hV e hk
     go_wp2_with fail
     go_at_call 61
     refine (HC.out _).mono ?_; rintro e1 w1 ⟨rfl, f1⟩
     replace f1 := f0.trans f1
     cases q
     ·go_wp2
      go_ret
      exact ⟨ret_bool HE.out.symm, hf.trans f1⟩
     ·go_wp2
      go_roundw
      case rel => exact ⟨i + 1, by go_num, by omega, by rw [e', HE.out, Bool.true_and]; exact rfl, hf.trans f1⟩
      case measure => simp [RowKit.intOf]; omega
    ·have hk' : (y.kd != 6) = true := by rw [bne_iff_ne]; exact hk
     have HE := Lib.hid (show okVp true l = false by rw [HN.out, hA]; simp [hk])
     clear hA HN hV e hk
     go_wp2
     go_ret
     exact ⟨ret_bool HE.out.symm, hf.trans f0⟩
  ·have HE := Lib.hid (show okVp true l = true by rw [HN.out, List.drop_of_length_le (by omega)]; rfl)
   go_wp2
   go_ret
   exact ⟨ret_bool HE.out.symm, hf⟩
theorem lvw_by (m : Nat) (p : Bool) (k n d : Int) (s : List UInt8) (l : List Vl) (ao : Option Addr) (cap : Nat) (w : World) (hi : Vin (.mk k n d s l)) (hs : SlV w ao l cap)
  (hp : p = (decide (1 ≤ m) && decide (l.length ≤ 64) && okVs (m - 1) l))
  (HL : ∀ w', Fur w w' → Calls Tryz.prog 141 #[.slice ao l.length cap, .int .i64 (m : Int)] w' (RetB w' p)) :
  Calls Tryz.prog 98 #[vlv (.mk k n d s l) ao cap, .int .i64 (m : Int)] w (RetB w (okV m (.mk k n d s l))) := by
 by_cases h7 : k = 7
 ·subst h7
  have e : okV m (.mk 7 n d s l) = (bareV n d s l false false false true && okP l) := by
   unfold okV okP
   rw [if_pos rfl, Bool.and_assoc, Bool.and_assoc, Bool.and_assoc]
  rw [e]
  exact lvk7 n d s l ao cap m w (okP l) (Lib.hid fun w' hf => lvpath_any l ao cap w' (hs.on hf))
 by_cases h8 : k = 8
 ·subst h8
  have e : okV m (.mk 8 n d s l) = (bareV n d s l false false false true && p) := by
   unfold okV
   rw [if_neg (by decide), if_pos rfl, hp, Bool.and_assoc, Bool.and_assoc, Bool.and_assoc]
  rw [e]
  exact lvk8 n d s l ao cap m w p (Lib.hid HL)
 have e : okV m (.mk k n d s l) = okFlat k n d s l := by
  unfold okV
  rw [if_neg h7, if_neg h8]
 rw [e]
 by_cases h0 : k = 0
 ·subst h0; exact lvk0 n d s l ao cap m w
 by_cases h1 : k = 1
 ·subst h1; exact lvk1 n d s l ao cap m w
 by_cases h2 : k = 2
 ·subst h2; exact lvk2 n d s l ao cap m w
 by_cases h3 : k = 3
 ·subst h3; exact lvk3 n d s l ao cap m w
 by_cases h4 : k = 4
 ·subst h4; exact lvk4 n d s l ao cap m w hi.s
 by_cases h5 : k = 5
 ·subst h5; exact lvk5 n d s l ao cap m w
 by_cases h6 : k = 6
 ·subst h6; exact lvk6 n d s l ao cap m w
 have e2 : okFlat k n d s l = false := by
  unfold okFlat
  rw [if_neg h0, if_neg h1, if_neg h2, if_neg h3, if_neg h4, if_neg (by omega)]
 rw [e2]
 refine lvk_no (.mk k n d s l) ao cap m w fun j hj => ?_
 show k ≠ (j : Int)
 omega
theorem lvw_all : ∀ m, m < 1000 → LVP m
 | 0, _ => fun x ao cap w hi hs => by
  obtain ⟨k, n, d, s, l⟩ := x
  exact lvw_by 0 false k n d s l ao cap w hi hs rfl (fun w' _ => lvlist_0 l ao cap w')
 | m + 1, h => fun x ao cap w hi hs => by
  have ih := lvw_all m (by omega)
  obtain ⟨k, n, d, s, l⟩ := x
  refine lvw_by (m + 1) (decide (l.length ≤ 64) && okVs m l) k n d s l ao cap w hi hs ?_ (fun w' hf => lvlist_any m (by omega) ih l ao cap w' (hs.on hf))
  rw [decide_eq_true (show 1 ≤ m + 1 by omega)]; rfl
theorem lvalid_any (x : Vl) (ao : Option Addr) (cap : Nat) (w : World) (hi : Vin x) (hs : SlV w ao x.ll cap) :
  Calls Tryz.prog 61 #[vlv x ao cap] w (RetB w (okX x)) := by
 have k : ∀ w', Fur w w' → Calls Tryz.prog 98 #[vlv x ao cap, .int .i64 8] w' (RetB w' (okX x)) := fun w' hf => lvw_all 8 (by decide) x ao cap w' hi (hs.on hf)
 obtain ⟨p0, f0⟩ := bx1 w x ao cap
 have HV := Lib.hid k
 clear k hs
 unfold vlv at *
 go_enter Tryz.func61, Tryz.ntmps61
 go_wp2_with fail
 go_at_call 98; refine (HV.out _ f0).mono ?_; rintro e1 w1 ⟨rfl, f1⟩
 go_wp2
 go_ret
 exact ⟨rfl, f0.trans f1⟩
end Go.Proofs.YtpamdlkagmlahaaGreatDoor
namespace Go.Proofs.YtpamdlkagmlahaaGreatDoor
open Go.RowKit
set_option maxHeartbeats 1600000 in
theorem lplain_any (x : Vl) (ao : Option Addr) (cap : Nat) (w : World) (hi : Vin x) (hs : SlV w ao x.ll cap) :
  Calls Tryz.prog 27 #[vlv x ao cap] w (FwB w (plnV x)) := by
 obtain ⟨p0, f0⟩ := bx1 w x ao cap
 have HV := Lib.hid (fun w' (hf : Fur w w') => lvalid_any x ao cap w' hi (hs.on (w' := w') hf))
 have c0 := p0.c0
 have HP := Lib.hid (show plnV x = (okX x && (x.kd == 1 || x.kd == 2 || x.kd == 4)) from rfl)
 clear hs hi p0
 unfold vlv at *
 generalize okX x = r at *
 generalize plnV x = R at *
 generalize x.kd = k at *
 have HK : k = 1 ∨ k = 2 ∨ k = 4 ∨ ((k == 1) = false ∧ (k == 2) = false ∧ (k == 4) = false) := by
  by_cases h1 : k = 1
  ·exact .inl h1
  ·by_cases h2 : k = 2
   ·exact .inr (.inl h2)
   ·by_cases h4 : k = 4
    ·exact .inr (.inr (.inl h4))
    ·exact .inr (.inr (.inr ⟨by simpa using h1, by simpa using h2, by simpa using h4⟩))
 rcases HK with rfl | rfl | rfl | ⟨k1, k2, k4⟩
 ·have HE := Lib.hid (show R = r by rw [HP.out]; simp)
  go_enter Tryz.func27, Tryz.ntmps27
  go_wp2_with (go_at_call 61; refine (HV.out _ f0).mono ?_; rintro e1 w1 ⟨rfl, f1⟩)
  go_ret
  exact ⟨ret_bool HE.out.symm, (f0.trans f1).w⟩
 ·have HE := Lib.hid (show R = r by rw [HP.out]; simp)
  go_enter Tryz.func27, Tryz.ntmps27
  go_wp2_with (go_at_call 61; refine (HV.out _ f0).mono ?_; rintro e1 w1 ⟨rfl, f1⟩)
  go_ret
  exact ⟨ret_bool HE.out.symm, (f0.trans f1).w⟩
 ·have HE := Lib.hid (show R = r by rw [HP.out]; simp)
  go_enter Tryz.func27, Tryz.ntmps27
  go_wp2_with (go_at_call 61; refine (HV.out _ f0).mono ?_; rintro e1 w1 ⟨rfl, f1⟩)
  go_ret
  exact ⟨ret_bool HE.out.symm, (f0.trans f1).w⟩
 ·have HE := Lib.hid (show R = false by rw [HP.out, k1, k2, k4]; simp)
  go_enter Tryz.func27, Tryz.ntmps27
  go_wp2
  go_ret
  exact ⟨ret_bool HE.out.symm, f0.w⟩
theorem par_4 {ls : List (List UInt8)} {ps : List Pp} (h : 8 < ls.length ∨ 16 < ps.length) : parV ls ps = 4 := by unfold parV; rw [if_pos h]
theorem par_c {ls : List (List UInt8)} {ps : List Pp} (h : ¬ (8 < ls.length ∨ 16 < ps.length)) : parV ls ps = if (ls.all nameV && (keysV ps).all nameV) = false then 6 else if (risV ls && risV (keysV ps)) = false then 26 else if (ps.drop 0).all (fun p => plnV p.v) = false then 8 else 0 := by
 unfold parV; rw [if_neg h, List.drop_zero]
set_option maxHeartbeats 3200000 in
set_option maxRecDepth 100000 in
theorem cont_any (ls : List (List UInt8)) (ps : List Pp) (al ap : Option Addr) (cl cp : Nat) (w : World) (hl : SlS w al ls cl) (hp : SlP w ap ps cp) :
  Calls Tryz.prog 125 #[.slice al ls.length cl, .slice ap ps.length cp] w (FwI w (parV ls ps)) := by
 have nl := hl.len
 have np := hp.len
 have HL := Lib.hid hl
 have HP := Lib.hid hp
 clear hl hp
 by_cases h8 : (8 : Int) < (ls.length : Int)
 ·have HE := Lib.hid (par_4 (ls := ls) (ps := ps) (.inl (by omega)))
  generalize parV ls ps = R at *
  go_enter Tryz.func125, Tryz.ntmps125
  go_wp2
  go_ret
  exact ⟨ret_int HE.out.symm, Fuw.refl _⟩
 ·by_cases h16 : (16 : Int) < (ps.length : Int)
  ·have HE := Lib.hid (par_4 (ls := ls) (ps := ps) (.inr (by omega)))
   generalize parV ls ps = R at *
   go_enter Tryz.func125, Tryz.ntmps125
   go_wp2
   go_ret
   exact ⟨ret_int HE.out.symm, Fuw.refl _⟩
  ·have HE := Lib.hid (par_c (ls := ls) (ps := ps) (by omega))
   have HC := Lib.hid (keys_any ps ap cp w HP.out (by omega))
   have HN := Lib.hid (fun w' (hf : Fuw w w') => names_any ls al cl w' (slS_on hf HL.out))
   have HR := Lib.hid (fun w' (hf : Fuw w w') => incr_any ls al cl w' (slS_on hf HL.out))
   have HN2 := Lib.hid (fun w' a c (hs : SlS w' a (keysV ps) c) => names_any (keysV ps) a c w' hs)
   have HR2 := Lib.hid (fun w' a c (hs : SlS w' a (keysV ps) c) => incr_any (keysV ps) a c w' hs)
   generalize keysV ps = ks at *
   generalize parV ls ps = R at *
   generalize ls.all nameV = n1 at *
   generalize ks.all nameV = n2 at *
   generalize risV ls = r1 at *
   generalize risV ks = r2 at *
   go_enter Tryz.func125, Tryz.ntmps125
   go_wp2_with fail
   go_at_call 179; refine HC.out.mono ?_; rintro e1 w1 ⟨a1, c1, rfl, hs1, f1⟩
   have HS1 := Lib.hid hs1
   clear hs1
   go_wp2_with fail
   go_at_call 180; refine (HN.out _ f1).mono ?_; rintro e2 w2 ⟨rfl, rfl⟩
   cases n1
   ·have HZ := Lib.hid (show R = 6 by rw [HE.out]; rfl)
    go_wp2
    go_ret
    exact ⟨ret_int HZ.out.symm, f1⟩
   ·go_wp2_with fail
    go_at_call 180; refine (HN2.out _ _ _ HS1.out).mono ?_; rintro e2 w2 ⟨rfl, rfl⟩
    cases n2
    ·have HZ := Lib.hid (show R = 6 by rw [HE.out]; rfl)
     go_wp2
     go_ret
     exact ⟨ret_int HZ.out.symm, f1⟩
    ·go_wp2_with fail
     go_at_call 181; refine (HR.out _ f1).mono ?_; rintro e2 w2 ⟨rfl, f2⟩
     cases r1
     ·have HZ := Lib.hid (show R = 26 by rw [HE.out]; rfl)
      go_wp2
      go_ret
      exact ⟨ret_int HZ.out.symm, f1.trans f2⟩
     ·go_wp2_with fail
      go_at_call 181; refine (HR2.out _ _ _ (slS_on f2 HS1.out)).mono ?_; rintro e3 w3 ⟨rfl, f3⟩
      cases r2
      ·have HZ := Lib.hid (show R = 26 by rw [HE.out]; rfl)
       go_wp2
       go_ret
       exact ⟨ret_int HZ.out.symm, (f1.trans f2).trans f3⟩
      ·have F := Lib.hid ((f1.trans f2).trans f3)
       have HZ := Lib.hid (show R = if (ps.drop 0).all (fun p => plnV p.v) = false then 8 else 0 from HE.out)
       clear f1 f2 f3 HE
       go_wp2
       go_loopw [36] (fun iv wr => ∃ i : Nat, iv = .int .i64 i ∧ i ≤ ps.length ∧ Hid (R = if (ps.drop i).all (fun p => plnV p.v) = false then 8 else 0) ∧ Hid (Fuw w wr)) (fun iv _ => ps.length - (RowKit.intOf iv).toNat)
       case atStart => exact ⟨0, rfl, Nat.zero_le _, HZ, F⟩
       case round =>
        obtain ⟨i, rfl, hi, HQ, hf⟩ := hrel
        by_cases hlt : i < ps.length
        ·obtain ⟨b, o, rfl, -, c0, hv⟩ := (slP_on hf.out HP.out).get hlt
         obtain ⟨hy, d1, d2, d3, d4, a5, k5, d5, hs5⟩ := VC_of hv
         have HA := Lib.hid (all_drop (fun p : Pp => plnV p.v) ps i hlt)
         have HM := Lib.hid (fun w' (hf' : Fuw wr w') => lplain_any ps[i].v a5 k5 w' hy (hs5.onw hf'))
         unfold vlv at HM
         clear hy hs5 hv
         generalize ps[i].v = x at *
         generalize ps[i].k = key at *
         generalize plnV x = p at *
         go_wp2_with fail
         go_at_call 27; refine (HM.out _ (fuwA _ _)).mono ?_; rintro e4 w4 ⟨rfl, f4⟩
         have HF := Lib.hid (hf.out.trans ((fuwA _ _).trans f4))
         clear f4
         cases p
         ·have HT := Lib.hid (show R = 8 by rw [HQ.out, HA.out]; rfl)
          go_wp2
          go_ret
          exact ⟨ret_int HT.out.symm, HF.out⟩
         ·have HT := Lib.hid (show R = if (ps.drop (i + 1)).all (fun p => plnV p.v) = false then 8 else 0 by rw [HQ.out, HA.out]; rfl)
          go_wp2
          go_roundw
          case rel => exact ⟨i + 1, by go_num, by omega, HT, HF⟩
          case measure => simp [RowKit.intOf]; omega
        ·have HT := Lib.hid (show R = 0 by rw [HQ.out, all_end _ _ _ (by omega)]; rfl)
         go_wp2
         go_ret
         exact ⟨ret_int HT.out.symm, hf.out⟩
end Go.Proofs.YtpamdlkagmlahaaGreatDoor

namespace Go.Proofs.YtpamdlkagmlahaaGreatDoor
open Go.RowKit
theorem cmpi_any (a b : Int) (w : World) : Calls Tryz.prog 132 #[.int .i64 a, .int .i64 b] w (PureI w (intc a b)) := by
 by_cases h1 : a < b
 ·rw [show intc a b = -1 by unfold intc; rw [if_pos h1]]
  go_enter Tryz.func132, Tryz.ntmps132
  go_wp2
  go_ret
  exact ⟨rfl, rfl⟩
 ·by_cases h2 : b < a
  ·rw [show intc a b = 1 by unfold intc; rw [if_neg h1, if_pos h2]]
   go_enter Tryz.func132, Tryz.ntmps132
   go_wp2
   go_ret
   exact ⟨rfl, rfl⟩
  ·rw [show intc a b = 0 by unfold intc; rw [if_neg h1, if_neg h2]]
   go_enter Tryz.func132, Tryz.ntmps132
   go_wp2
   go_ret
   exact ⟨rfl, rfl⟩
theorem hn1_any (n : Nd) (al ap : Option Addr) (cl cp : Nat) (x : Int) (w : World) : Calls Tryz.prog 182 #[ndv n al ap cl cp, .int .i64 x] w (FwI w (intc n.id x)) := by
 unfold ndv
 generalize n.id = k
 go_enter Tryz.func182, Tryz.ntmps182
 go_wp2_with (go_at_call 132; refine (cmpi_any _ _ _).mono ?_; rintro e1 w1 ⟨rfl, rfl⟩)
 go_ret
 exact ⟨rfl, fuwA _ _⟩
def BsI (ns : List Nd) (x : Int) (i j : Nat) : Prop := i ≤ j ∧ j ≤ ns.length ∧ (∀ k (h : k < ns.length), k < i → ns[k].id < x) ∧ ∀ k (h : k < ns.length), j ≤ k → x ≤ ns[k].id
theorem bsI_mid {ns : List Nd} {x : Int} {i j : Nat} (hp : ns.Pairwise (fun a b => a.id < b.id)) (h : BsI ns x i j) (hij : i < j) (hm : (i + j) / 2 < ns.length) :
  (ns[(i + j) / 2].id < x → BsI ns x ((i + j) / 2 + 1) j) ∧ (x ≤ ns[(i + j) / 2].id → BsI ns x i ((i + j) / 2)) := by
 obtain ⟨h1, h2, h3, h4⟩ := h
 refine ⟨fun hx => ⟨by omega, h2, fun k hk hk' => ?_, h4⟩, fun hx => ⟨by omega, by omega, h3, fun k hk hk' => ?_⟩⟩
 ·rcases Nat.lt_or_eq_of_le (show k ≤ (i + j) / 2 by omega) with g | g
  ·have := List.pairwise_iff_getElem.1 hp k _ hk hm g; omega
  ·subst g; exact hx
 ·rcases Nat.lt_or_eq_of_le hk' with g | g
  ·have := List.pairwise_iff_getElem.1 hp _ k hm hk g; omega
  ·subst g; exact hx
theorem bsI_end {ns : List Nd} {x : Int} {i : Nat} (hp : ns.Pairwise (fun a b => a.id < b.id)) (h : BsI ns x i i) : hasN ns x = if g : i < ns.length then decide (ns[i].id = x) else false := by
 obtain ⟨-, h2, h3, h4⟩ := h
 unfold hasN
 rw [Bool.eq_iff_iff, List.any_eq_true]
 constructor
 ·rintro ⟨n, hn, he⟩
  obtain ⟨k, hk, rfl⟩ := List.getElem_of_mem hn
  have he' : ns[k].id = x := by simpa using he
  have hik : ¬ k < i := fun g => by have := h3 k hk g; omega
  have hi : i < ns.length := by omega
  rw [dif_pos hi, decide_eq_true_eq]
  rcases Nat.lt_or_eq_of_le (show i ≤ k by omega) with g | g
  ·have := List.pairwise_iff_getElem.1 hp _ _ hi hk g
   have := h4 i hi (Nat.le_refl _)
   omega
  ·subst g; exact he'
 ·intro h
  by_cases hi : i < ns.length
  ·rw [dif_pos hi, decide_eq_true_eq] at h
   exact ⟨_, List.getElem_mem hi, by simpa using h⟩
  ·rw [dif_neg hi] at h; cases h
set_option maxHeartbeats 3200000 in
set_option maxRecDepth 100000 in
theorem bsf_any (ns : List Nd) (ao : Option Addr) (cap : Nat) (x : Int) (w : World) (hs : SlN w ao ns cap) (hp : ns.Pairwise (fun a b => a.id < b.id)) (hn : ns.length ≤ 2000) :
  Calls Tryz.prog 155 #[.slice ao ns.length cap, .int .i64 x, .func (.func 182) #[] #[]] w (fun e w' => ∃ k : Int, e = .returned (.tuple #[.int .i64 k, .bool (hasN ns x)]) ∧ Fuw w w') := by
 have HS := Lib.hid hs
 have HP := Lib.hid hp
 have HB := Lib.hid (show BsI ns x 0 ns.length from ⟨Nat.zero_le _, Nat.le_refl _, fun k _ h => absurd h (by omega), fun k h h' => absurd h (by omega)⟩)
 clear hs hp
 obtain ⟨R, hR⟩ : ∃ R, R = hasN ns x := ⟨_, rfl⟩
 rw [← hR]
 have HR := Lib.hid hR
 clear hR
 go_enter Tryz.func155, Tryz.ntmps155
 go_wp2
 go_loopw [9, 10] (fun iv jv wr => ∃ i j : Nat, iv = .int .i64 i ∧ jv = .int .i64 j ∧ i ≤ j ∧ j ≤ ns.length ∧ Hid (BsI ns x i j) ∧ Hid (Fuw w wr)) (fun iv jv _ => (RowKit.intOf jv).toNat - (RowKit.intOf iv).toNat)
 case atStart => exact ⟨0, ns.length, rfl, rfl, Nat.zero_le _, Nat.le_refl _, HB, Fuw.refl _⟩
 case round =>
  obtain ⟨i, j, rfl, rfl, hij, hj, HI, hf⟩ := hrel
  by_cases hlt : i < j
  ·have hm : (i + j) / 2 < ns.length := by omega
   obtain ⟨b, o, rfl, hi, c0, ⟨a1, k1, c1, -⟩, a2, k2, c2, -⟩ := (slN_on hf.out HS.out).get hm
   have HM := Lib.hid (bsI_mid HP.out HI.out hlt hm)
   have hh : ((i : Int) + (j : Int)) / 2 = ((i + j) / 2 : Nat) := by omega
   have HC := Lib.hid (fun w' => hn1_any ns[(i + j) / 2] a1 a2 k1 k2 x w')
   unfold ndv at HC
   have h1 : i ≤ (i + j) / 2 := by omega
   have h2 : (i + j) / 2 < j := by omega
   generalize ns[(i + j) / 2] = n at *
   generalize (i + j) / 2 = m at *
   go_wp2_with fail
   go_at_call 182; refine (HC.out _).mono ?_; rintro e1 w1 ⟨rfl, f1⟩
   clear hh
   have HF := Lib.hid (hf.out.trans f1)
   by_cases hx : n.id < x
   ·have hq : intc n.id x = -1 := by unfold intc; rw [if_pos hx]
    have HZ := Lib.hid (HM.out.1 hx)
    rw [hq]
    clear hq hx
    go_wp2
    go_roundw
    case rel => exact ⟨m + 1, j, by go_num, rfl, by omega, hj, HZ, HF⟩
    case measure => simp [RowKit.intOf]; omega
   ·have hq : 0 ≤ intc n.id x := by unfold intc; rw [if_neg hx]; split <;> omega
    have HZ := Lib.hid (HM.out.2 (by omega))
    generalize intc n.id x = q at *
    have hq' : ¬ q < 0 := by omega
    clear hq hx
    go_wp2
    go_roundw
    case rel => exact ⟨i, m, rfl, rfl, h1, by omega, HZ, HF⟩
    case measure => simp [RowKit.intOf]; omega
  ·obtain rfl : i = j := by omega
   have HE := Lib.hid (HR.out.trans (bsI_end HP.out HI.out))
   by_cases hi : i < ns.length
   ·have HE2 := Lib.hid (show R = decide (ns[i].id = x) by rw [HE.out, dif_pos hi])
    obtain ⟨b, o, rfl, -, c0, ⟨a1, k1, c1, -⟩, a2, k2, c2, -⟩ := (slN_on hf.out HS.out).get hi
    have HC := Lib.hid (fun w' => hn1_any ns[i] a1 a2 k1 k2 x w')
    unfold ndv at HC
    clear HE
    generalize ns[i] = n at *
    go_wp2_with fail
    go_at_call 182; refine (HC.out _).mono ?_; rintro e1 w1 ⟨rfl, f1⟩
    have HF := Lib.hid (hf.out.trans f1)
    by_cases hx : n.id = x
    ·have hq : intc n.id x = 0 := by rw [hx]; exact intc_self _
     have HT := Lib.hid (show R = true by rw [HE2.out, decide_eq_true hx])
     rw [hq]
     clear hq hx
     go_wp2
     go_ret2
     exact ⟨_, (by rw [HT.out]; rfl), HF.out⟩
    ·have hq : (intc n.id x == 0) = false := by
      rw [beq_eq_false_iff_ne]; unfold intc; split
      ·decide
      ·split
       ·decide
       ·omega
     have HT := Lib.hid (show R = false by rw [HE2.out, decide_eq_false hx])
     generalize intc n.id x = q at *
     clear hx
     go_wp2
     go_ret2
     exact ⟨_, (by rw [HT.out]; rfl), HF.out⟩
   ·have HT := Lib.hid (show R = false by rw [HE.out, dif_neg hi])
    clear HE
    go_wp2
    go_ret2
    exact ⟨_, (by rw [HT.out]; rfl), hf.out⟩
theorem hasn_any (ns : List Nd) (ao : Option Addr) (cap : Nat) (x : Int) (w : World) (hs : SlN w ao ns cap) (hp : ns.Pairwise (fun a b => a.id < b.id)) (hn : ns.length ≤ 2000) :
  Calls Tryz.prog 126 #[.slice ao ns.length cap, .int .i64 x] w (FwB w (hasN ns x)) := by
 have HC := Lib.hid (bsf_any ns ao cap x w hs hp hn)
 clear hs hp
 generalize hasN ns x = R at *
 go_enter Tryz.func126, Tryz.ntmps126
 go_wp2_with fail
 go_at_call 155
 refine HC.out.mono ?_
 rintro e1 w1 ⟨k, rfl, f1⟩
 go_wp2
 go_ret
 exact ⟨rfl, f1⟩
end Go.Proofs.YtpamdlkagmlahaaGreatDoor
namespace Go.Proofs.YtpamdlkagmlahaaGreatDoor
open Go.RowKit
theorem hasS_drop (l : List (List UInt8)) (s : List UInt8) (i : Nat) (h : i < l.length) : hasS (l.drop i) s = ((l[i] == s) || hasS (l.drop (i + 1)) s) := by
 unfold hasS
 rw [List.drop_eq_getElem_cons h]; rfl
theorem hasS_end (l : List (List UInt8)) (s : List UInt8) (i : Nat) (h : l.length ≤ i) : hasS (l.drop i) s = false := by
 unfold hasS
 rw [List.drop_of_length_le h]; rfl
theorem bs_eq (s t : List UInt8) : ((bs s).toList == (bs t).toList) = (s == t) := by rw [toL, toL, bs_data, bs_data]
theorem hasT_nil {l : List (List UInt8)} (ty : List UInt8) (h : l.length = 0) : hasT ty l = true := by
 rw [List.eq_nil_of_length_eq_zero h]; rfl
theorem hasT_pos {l : List (List UInt8)} (ty : List UInt8) (h : 0 < l.length) : hasT ty l = hasS l ty := by
 cases l with
 | nil => exact absurd h (by decide)
 | cons a r => rfl
def acrN (e : Ed) (id dir : Int) : Int := (acrV e id dir).getD 0
end Go.Proofs.YtpamdlkagmlahaaGreatDoor
namespace Go.Proofs.YtpamdlkagmlahaaGreatDoor
open Go.RowKit
end Go.Proofs.YtpamdlkagmlahaaGreatDoor
