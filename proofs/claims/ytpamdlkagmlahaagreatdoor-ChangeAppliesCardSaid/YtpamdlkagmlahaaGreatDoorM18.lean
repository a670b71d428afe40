import Derived.Test.YtpamdlkagmlahaaGreatDoorM17
import Derived.Test.YtpamdlkagmlahaaGreatDoorK05
import Derived.Laws.Cover1
import Derived.Test.YtpamdlkagmlahaaGreatDoorK08
namespace Go.Proofs.YtpamdlkagmlahaaGreatDoor
open Go.RowKit
theorem rvalid_id (x : Vl) (ao : Option Addr) (cap : Nat) (w : World) (h : x.kd = 5 ∨ x.kd = 6) : Calls Tryz.prog 105 #[vlv x ao cap, .int .i64 0] w (RetB w (okV 0 x)) := by
 obtain ⟨k, n, d, s, l⟩ := x
 simp only [Vl.kd] at h
 rcases h with rfl | rfl
 ·have e : okV 0 (.mk 5 n d s l) = okFlat 5 n d s l := by simp [okV]
  rw [e]; exact rvk5 n d s l ao cap 0 w
 ·have e : okV 0 (.mk 6 n d s l) = okFlat 6 n d s l := by simp [okV]
  rw [e]; exact rvk6 n d s l ao cap 0 w
set_option maxHeartbeats 3200000 in
set_option maxRecDepth 100000 in
theorem rpath_any (l : List Vl) (ao : Option Addr) (cap : Nat) (w : World) (hs : SlV w ao l cap) :
  Calls Tryz.prog 153 #[.slice ao l.length cap] w (RetB w (okP l)) := by
 have HS := Lib.hid hs
 have hl := hs.le
 have hx := hs.max
 unfold maxLen at hx
 clear hs
 by_cases h2 : l.length % 2 = 1
 rotate_left
 ·have g : (l.length : Int) % 2 = 0 := by omega
  rw [show okP l = false by unfold okP; rw [decide_eq_false h2]; rfl]
  clear h2
  go_enter Tryz.func153, Tryz.ntmps153
  go_wp2
  go_ret
  exact ⟨rfl, Fur.refl _⟩
 have g2 : (l.length : Int) % 2 = 1 := by omega
 by_cases h25 : l.length ≤ 25
 rotate_left
 ·have g : 25 < l.length := by omega
  rw [show okP l = false by unfold okP; rw [decide_eq_false h25, Bool.and_false]; rfl]
  clear h25 h2
  go_enter Tryz.func153, Tryz.ntmps153
  go_wp2
  go_ret
  exact ⟨rfl, Fur.refl _⟩
 rw [show okP l = okVp true l by unfold okP; rw [decide_eq_true h2, decide_eq_true h25]; rfl]
 clear h2
 go_enter Tryz.func153, Tryz.ntmps153
 go_wp2
 go_loopw [3] (fun iv wr => ∃ i : Nat, iv = .int .i64 i ∧ i ≤ l.length ∧ Hid (okVp true l = okVp (i % 2 == 0) (l.drop i)) ∧ Fur w wr) (fun iv _ => l.length - (RowKit.intOf iv).toNat)
 case atStart => exact ⟨0, rfl, Nat.zero_le _, rfl, Fur.refl _⟩
 case round =>
  clear g2
  obtain ⟨i, rfl, hi, HN, hf⟩ := hrel
  by_cases hlt : i < l.length
  ·obtain ⟨b, o, rfl, hc⟩ := (HS.out.on hf).get hlt
   have hA := okVp_drop (i % 2 == 0) l i hlt
   obtain ⟨hy, c0, c1, c2, c3, ao', cap', c4, hs2⟩ := VC_of hc
   have hV := rvalid_id l[i] ao' cap' wr
   unfold vlv at hV
   clear hc hs2 hy
   generalize l[i] = y at *
   generalize okV 0 y = q at *
   rcases (show (i : Int) % 2 = 0 ∨ (i : Int) % 2 = 1 by omega) with hp | hp
   ·have e : (i % 2 == 0) = true := beq_iff_eq.2 (by omega)
    have e' : ((i + 1) % 2 == 0) = false := beq_eq_false_iff_ne.2 (by omega)
    rw [e] at hA HN
    by_cases hk : y.kd = 5
    ·rw [hk] at c0 hV
     have HC := Lib.hid (hV (.inl rfl))
     have HE := Lib.hid (show okVp true l = (q && okVp false (l.drop (i + 1))) by rw [HN.out, hA, hk]; rfl)
     clear hA HN hV e hk
     go_wp2_with fail
     go_at_call 105
     refine (HC.out).mono ?_; rintro e1 w1 ⟨rfl, f1⟩
     cases q
     ·go_wp2
      go_ret
      exact ⟨ret_bool HE.out.symm, hf.trans f1⟩
     ·go_wp2
      go_roundw
      case rel => exact ⟨i + 1, by go_num, by omega, by rw [e', HE.out, Bool.true_and]; exact rfl, hf.trans f1⟩
      case measure => simp [RowKit.intOf]; omega
    ·have hk' : (y.kd != 5) = true := by rw [bne_iff_ne]; exact hk
     have HE := Lib.hid (show okVp true l = false by rw [HN.out, hA]; simp [hk])
     clear hA HN hV e hk
     go_wp2
     go_ret
     exact ⟨ret_bool HE.out.symm, hf⟩
   ·have e : (i % 2 == 0) = false := beq_eq_false_iff_ne.2 (by omega)
    have e' : ((i + 1) % 2 == 0) = true := beq_iff_eq.2 (by omega)
    rw [e] at hA HN
    by_cases hk : y.kd = 6
    ·rw [hk] at c0 hV
     have HC := Lib.hid (hV (.inr rfl))
     have HE := Lib.hid (show okVp true l = (q && okVp true (l.drop (i + 1))) by rw [HN.out, hA, hk]; rfl)
     clear hA HN hV e hk
     go_wp2_with fail
     go_at_call 105
     refine (HC.out).mono ?_; rintro e1 w1 ⟨rfl, f1⟩
     cases q
     ·go_wp2
      go_ret
      exact ⟨ret_bool HE.out.symm, hf.trans f1⟩
     ·go_wp2
      go_roundw
      case rel => exact ⟨i + 1, by go_num, by omega, by rw [e', HE.out, Bool.true_and]; exact rfl, hf.trans f1⟩
      case measure => simp [RowKit.intOf]; omega
    ·have hk' : (y.kd != 6) = true := by rw [bne_iff_ne]; exact hk
     have HE := Lib.hid (show okVp true l = false by rw [HN.out, hA]; simp [hk])
     clear hA HN hV e hk
     go_wp2
     go_ret
     exact ⟨ret_bool HE.out.symm, hf⟩
  ·have HE := Lib.hid (show okVp true l = true by rw [HN.out, List.drop_of_length_le (by omega)]; rfl)
   go_wp2
   go_ret
   exact ⟨ret_bool HE.out.symm, hf⟩
end Go.Proofs.YtpamdlkagmlahaaGreatDoor
namespace Go.Proofs.YtpamdlkagmlahaaGreatDoor
open Go.RowKit
theorem rlist_0 (l : List Vl) (ao : Option Addr) (cap : Nat) (w : World) : Calls Tryz.prog 154 #[.slice ao l.length cap, .int .i64 0] w (RetB w false) := by
 go_enter Tryz.func154, Tryz.ntmps154
 go_wp2
 go_ret
 exact ⟨rfl, Fur.refl _⟩
theorem rvalid_by (m : Nat) (p : Bool) (k n d : Int) (s : List UInt8) (l : List Vl) (ao : Option Addr) (cap : Nat) (w : World) (hi : Vin (.mk k n d s l)) (hs : SlV w ao l cap)
  (hp : p = (decide (1 ≤ m) && decide (l.length ≤ 64) && okVs (m - 1) l))
  (HL : ∀ w', Fur w w' → Calls Tryz.prog 154 #[.slice ao l.length cap, .int .i64 (m : Int)] w' (RetB w' p)) :
  Calls Tryz.prog 105 #[vlv (.mk k n d s l) ao cap, .int .i64 (m : Int)] w (RetB w (okV m (.mk k n d s l))) := by
 by_cases h7 : k = 7
 ·subst h7
  have e : okV m (.mk 7 n d s l) = (bareV n d s l false false false true && okP l) := by
   unfold okV okP
   rw [if_pos rfl, Bool.and_assoc, Bool.and_assoc, Bool.and_assoc]
  rw [e]
  exact rvk7 n d s l ao cap m w (okP l) (Lib.hid fun w' hf => rpath_any l ao cap w' (hs.on hf))
 by_cases h8 : k = 8
 ·subst h8
  have e : okV m (.mk 8 n d s l) = (bareV n d s l false false false true && p) := by
   unfold okV
   rw [if_neg (by decide), if_pos rfl, hp, Bool.and_assoc, Bool.and_assoc, Bool.and_assoc]
  rw [e]
  exact rvk8 n d s l ao cap m w p (Lib.hid HL)
 have e : okV m (.mk k n d s l) = okFlat k n d s l := by
  unfold okV
  rw [if_neg h7, if_neg h8]
 rw [e]
 by_cases h0 : k = 0
 ·subst h0; exact rvk0 n d s l ao cap m w
 by_cases h1 : k = 1
 ·subst h1; exact rvk1 n d s l ao cap m w
 by_cases h2 : k = 2
 ·subst h2; exact rvk2 n d s l ao cap m w
 by_cases h3 : k = 3
 ·subst h3; exact rvk3 n d s l ao cap m w
 by_cases h4 : k = 4
 ·subst h4; exact rvk4 n d s l ao cap m w hi.s
 by_cases h5 : k = 5
 ·subst h5; exact rvk5 n d s l ao cap m w
 by_cases h6 : k = 6
 ·subst h6; exact rvk6 n d s l ao cap m w
 have e2 : okFlat k n d s l = false := by
  unfold okFlat
  rw [if_neg h0, if_neg h1, if_neg h2, if_neg h3, if_neg h4, if_neg (by omega)]
 rw [e2]
 refine rvk_no (.mk k n d s l) ao cap m w fun j hj => ?_
 show k ≠ (j : Int)
 omega
theorem rvalid_all : ∀ m, m < 1000 → VP m
 | 0, _ => fun x ao cap w hi hs => by
  obtain ⟨k, n, d, s, l⟩ := x
  exact rvalid_by 0 false k n d s l ao cap w hi hs rfl (fun w' _ => rlist_0 l ao cap w')
 | m + 1, h => fun x ao cap w hi hs => by
  have ih := rvalid_all m (by omega)
  obtain ⟨k, n, d, s, l⟩ := x
  refine rvalid_by (m + 1) (decide (l.length ≤ 64) && okVs m l) k n d s l ao cap w hi hs ?_ (fun w' hf => rlist_any m (by omega) ih l ao cap w' (hs.on hf))
  rw [decide_eq_true (show 1 ≤ m + 1 by omega)]; rfl
theorem rokV_any (x : Vl) (ao : Option Addr) (cap : Nat) (w : World) (hi : Vin x) (hs : SlV w ao x.ll cap) :
  Calls Tryz.prog 64 #[vlv x ao cap] w (RetB w (okX x)) := by
 have k : ∀ w', Fur w w' → Calls Tryz.prog 105 #[vlv x ao cap, .int .i64 8] w' (RetB w' (okX x)) := fun w' hf => rvalid_all 8 (by decide) x ao cap w' hi (hs.on hf)
 obtain ⟨p0, f0⟩ := bx1 w x ao cap
 have HV := Lib.hid k
 clear k hs
 unfold vlv at *
 go_enter Tryz.func64, Tryz.ntmps64
 go_wp2_with fail
 go_at_call 105; refine (HV.out _ f0).mono ?_; rintro e1 w1 ⟨rfl, f1⟩
 go_wp2
 go_ret
 exact ⟨rfl, f0.trans f1⟩
end Go.Proofs.YtpamdlkagmlahaaGreatDoor
namespace Go.Proofs.YtpamdlkagmlahaaGreatDoor
open Go.RowKit
def weiV : Nat → Vl → Int → Int
 | 0, _, _ => -1
 | m + 1, x, a => x.ll.foldl (fun a y => if a < 0 then a else weiV m y a) (a - 1 - ((x.ss.length / 50 : Nat) : Int))
def weiL (m : Nat) (l : List Vl) (a : Int) : Int := l.foldl (fun a y => if a < 0 then a else weiV m y a) a
theorem weiV_s (m : Nat) (x : Vl) (a : Int) : weiV (m + 1) x a = weiL m x.ll (a - 1 - ((x.ss.length / 50 : Nat) : Int)) := rfl
theorem weiL_neg (m : Nat) : ∀ (l : List Vl) {a : Int} (_ : a < 0), weiL m l a = a
 | [], _, _ => rfl
 | y :: r, a, h => by
  show weiL m r (if a < 0 then a else weiV m y a) = a
  rw [if_pos h]; exact weiL_neg m r h
theorem weiL_cons (m : Nat) (y : Vl) (r : List Vl) {a : Int} (h : 0 ≤ a) : weiL m (y :: r) a = weiL m r (weiV m y a) := by
 show weiL m r (if a < 0 then a else weiV m y a) = _
 rw [if_neg (by omega)]
mutual
theorem weiV_lt : ∀ (m : Nat) (x : Vl) {a : Int} (_ : 0 ≤ a), weiV m x a < a
 | 0, _, a, h => by show (-1 : Int) < a; omega
 | m + 1, x, a, h => by
  rw [weiV_s]
  have := weiL_le m x.ll (a - 1 - ((x.ss.length / 50 : Nat) : Int))
  omega
theorem weiL_le : ∀ (m : Nat) (l : List Vl) (a : Int), weiL m l a ≤ a
 | m, [], a => Int.le_refl _
 | m, y :: r, a => by
  by_cases h : a < 0
  ·rw [weiL_neg m _ h]; exact Int.le_refl _
  ·rw [weiL_cons m y r (by omega)]
   have k1 := weiL_le m r (weiV m y a)
   have k2 := weiV_lt m y (a := a) (by omega)
   omega
end
theorem weiL_drop (m : Nat) (l : List Vl) (i : Nat) (h : i < l.length) {a : Int} (ha : 0 ≤ a) : weiL m (l.drop i) a = weiL m (l.drop (i + 1)) (weiV m l[i] a) := by
 rw [List.drop_eq_getElem_cons h, weiL_cons m _ _ ha]
structure RsV (w : World) (ao : Option Addr) (rows : List (List Vl)) (cap : Nat) : Prop where
 le : rows.length ≤ cap
 max : cap ≤ maxLen
 nil : ao = none → cap = 0
 at_ : 0 < rows.length → ∃ b o, ao = some ⟨b, o, none⟩ ∧ ∀ (j : Nat) (h : j < rows.length), ∃ a c, w.cell? ⟨b, o + j, none⟩ = some (.slice a rows[j].length c) ∧ SlV w a rows[j] c
theorem RsV.on {w w' : World} {ao : Option Addr} {rows : List (List Vl)} {cap : Nat} (h : RsV w ao rows cap) (hf : Fur w w') : RsV w' ao rows cap :=
 ⟨h.le, h.max, h.nil, fun hp => by
  obtain ⟨b, o, e, hc⟩ := h.at_ hp
  refine ⟨b, o, e, fun j hj => ?_⟩
  obtain ⟨a, c, h1, h2⟩ := hc j hj
  exact ⟨a, c, cellOn hf h1, h2.on hf⟩⟩
theorem RsV.onw {w w' : World} {ao : Option Addr} {rows : List (List Vl)} {cap : Nat} (h : RsV w ao rows cap) (hf : Fuw w w') : RsV w' ao rows cap :=
 ⟨h.le, h.max, h.nil, fun hp => by
  obtain ⟨b, o, e, hc⟩ := h.at_ hp
  refine ⟨b, o, e, fun j hj => ?_⟩
  obtain ⟨a, c, h1, h2⟩ := hc j hj
  exact ⟨a, c, cellOnw hf h1, h2.onw hf⟩⟩
end Go.Proofs.YtpamdlkagmlahaaGreatDoor
namespace Go.Proofs.YtpamdlkagmlahaaGreatDoor
open Go.RowKit
theorem str_less : ∀ (a b : List UInt8), (strc a b = -1 ∧ Op.bytesLess a b = true ∧ Op.bytesLess b a = false ∧ (a == b) = false) ∨ (strc a b = 0 ∧ Op.bytesLess a b = false ∧ Op.bytesLess b a = false ∧ (a == b) = true) ∨ (strc a b = 1 ∧ Op.bytesLess a b = false ∧ Op.bytesLess b a = true ∧ (a == b) = false)
 | [], [] => .inr (.inl ⟨rfl, rfl, rfl, rfl⟩)
 | [], _ :: _ => .inl ⟨rfl, rfl, rfl, rfl⟩
 | _ :: _, [] => .inr (.inr ⟨rfl, rfl, rfl, rfl⟩)
 | x :: r, y :: t => by
  have ih := str_less r t
  show (thn (intc x.toNat y.toNat) (strc r t) = -1 ∧ (decide (x < y) || x == y && Op.bytesLess r t) = true ∧ (decide (y < x) || y == x && Op.bytesLess t r) = false ∧ (x == y && r == t) = false) ∨ (thn (intc x.toNat y.toNat) (strc r t) = 0 ∧ (decide (x < y) || x == y && Op.bytesLess r t) = false ∧ (decide (y < x) || y == x && Op.bytesLess t r) = false ∧ (x == y && r == t) = true) ∨ (thn (intc x.toNat y.toNat) (strc r t) = 1 ∧ (decide (x < y) || x == y && Op.bytesLess r t) = false ∧ (decide (y < x) || y == x && Op.bytesLess t r) = true ∧ (x == y && r == t) = false)
  have lx : x < y ↔ x.toNat < y.toNat := UInt8.lt_iff_toNat_lt
  have ly : y < x ↔ y.toNat < x.toNat := UInt8.lt_iff_toNat_lt
  rcases Nat.lt_trichotomy x.toNat y.toNat with h | h | h
  ·have ne : (x == y) = false := by rw [beq_eq_false_iff_ne]; intro e; rw [e] at h; omega
   have ne' : (y == x) = false := by rw [beq_eq_false_iff_ne]; intro e; rw [e] at h; omega
   refine .inl ⟨?_, ?_, ?_, ?_⟩
   ·unfold thn intc; rw [if_pos (show (x.toNat : Int) < y.toNat by omega)]; rfl
   ·rw [decide_eq_true (lx.2 h)]; rfl
   ·rw [decide_eq_false (fun k => by have := ly.1 k; omega), ne']; rfl
   ·rw [ne]; rfl
  ·have e : x = y := UInt8.toNat_inj.1 h
   subst e
   have f : decide (x < x) = false := decide_eq_false (fun k => by have := lx.1 k; omega)
   have z : intc x.toNat x.toNat = 0 := intc_self _
   rw [f, z, thn_0, beq_self_eq_true, Bool.false_or, Bool.true_and, Bool.false_or, Bool.true_and, Bool.true_and]
   exact ih
  ·have ne : (x == y) = false := by rw [beq_eq_false_iff_ne]; intro e; rw [e] at h; omega
   have ne' : (y == x) = false := by rw [beq_eq_false_iff_ne]; intro e; rw [e] at h; omega
   refine .inr (.inr ⟨?_, ?_, ?_, ?_⟩)
   ·unfold thn intc; rw [if_neg (show ¬ (x.toNat : Int) < y.toNat by omega), if_pos (show (y.toNat : Int) < x.toNat by omega)]; rfl
   ·rw [decide_eq_false (fun k => by have := lx.1 k; omega), ne]; rfl
   ·rw [decide_eq_true (ly.2 h)]; rfl
   ·rw [ne]; rfl
theorem rstrs_any (s t : ByteArray) (w : World) : Calls Tryz.prog 143 #[.string s, .string t] w fun e w' => e = .returned (.int .i64 (strc s.data.toList t.data.toList)) ∧ w' = w := by
 have k := str_less s.data.toList t.data.toList
 rw [← ByteArray.toList_eq, ← ByteArray.toList_eq] at k ⊢
 rcases k with ⟨e, g1, g2, g3⟩ | ⟨e, g1, g2, g3⟩ | ⟨e, g1, g2, g3⟩
 all_goals
  rw [e]; clear e
  go_enter Tryz.func143, Tryz.ntmps143
  go_wp2
  go_ret
  exact ⟨rfl, rfl⟩
end Go.Proofs.YtpamdlkagmlahaaGreatDoor
namespace Go.Proofs.YtpamdlkagmlahaaGreatDoor
open Go.RowKit
def OP (x : Vl) : Prop := ∀ (y : Vl) (ao bo : Option Addr) (ca cb : Nat) (w : World), Vin x → Vin y → SlV w ao x.ll ca → SlV w bo y.ll cb → Calls Tryz.prog 62 #[vlv x ao ca, vlv y bo cb] w (RwI w (ordV x y))
theorem ordL_end (l l' : List Vl) (i : Nat) (hi : i ≤ l.length) (hi' : i ≤ l'.length) (h : ¬ (i < l.length ∧ i < l'.length)) : ordL (l.drop i) (l'.drop i) = intc l.length l'.length := by
 by_cases a : i < l.length
 ·have b : l'.length ≤ i := by omega
  rw [List.drop_eq_getElem_cons a, List.drop_of_length_le b]
  simp only [ordL]
  unfold intc
  rw [if_neg (by omega), if_pos (by omega)]
 ·have a' : l.length ≤ i := by omega
  by_cases b : i < l'.length
  ·rw [List.drop_eq_getElem_cons b, List.drop_of_length_le a']
   simp only [ordL]
   unfold intc
   rw [if_pos (by omega)]
  ·rw [List.drop_of_length_le a', List.drop_of_length_le (show l'.length ≤ i by omega)]
   simp only [ordL]
   unfold intc
   rw [if_neg (by omega), if_neg (by omega)]
set_option maxHeartbeats 3200000 in
set_option maxRecDepth 100000 in
theorem rlists_any (l l' : List Vl) (hO : ∀ x, x ∈ l → OP x) (ao bo : Option Addr) (ca cb : Nat) (w : World) (hs : SlV w ao l ca) (hs' : SlV w bo l' cb) :
  Calls Tryz.prog 144 #[.slice ao l.length ca, .slice bo l'.length cb] w (RwI w (ordL l l')) := by
 have HO := Lib.hid hO
 have HS := Lib.hid hs
 have HS' := Lib.hid hs'
 have h1 := hs.le
 have h2 := hs.max
 have h3 := hs'.le
 have h4 := hs'.max
 unfold maxLen at h2 h4
 clear hs hs' hO
 go_enter Tryz.func144, Tryz.ntmps144
 go_wp2
 go_loopw [5] (fun iv wr => ∃ i : Nat, iv = .int .i64 i ∧ i ≤ l.length ∧ i ≤ l'.length ∧ Hid (ordL l l' = ordL (l.drop i) (l'.drop i)) ∧ Fuw w wr) (fun iv _ => l.length - (RowKit.intOf iv).toNat)
 case atStart => exact ⟨0, rfl, Nat.zero_le _, Nat.zero_le _, rfl, Fuw.refl _⟩
 case round =>
  obtain ⟨i, rfl, hi, hi', HN, hf⟩ := hrel
  by_cases hlt : i < l.length
  ·by_cases hlt' : i < l'.length
   ·obtain ⟨b, o, rfl, hv⟩ := (HS.out.onw hf).get hlt
    obtain ⟨b', o', rfl, hv'⟩ := (HS'.out.onw hf).get hlt'
    have hA := ordL_drop l l' i hlt hlt'
    have hm := HO.out l[i] (List.getElem_mem hlt)
    obtain ⟨hy, c0, c1, c2, c3, a1, k1, c4, hs2⟩ := VC_of hv
    obtain ⟨hy', d0, d1, d2, d3, a2, k2, d4, hs2'⟩ := VC_of hv'
    have HC := Lib.hid (fun w' (hf' : Fuw wr w') => hm l'[i] a1 a2 k1 k2 w' hy hy' (hs2.onw hf') (hs2'.onw hf'))
    have HE := Lib.hid (HN.out.trans hA)
    unfold vlv at HC
    clear hv hv' hs2 hs2' hy hy' hA hm HN
    generalize l[i] = x at *
    generalize l'[i] = y at *
    generalize ordV x y = r at *
    go_wp2_with fail
    go_region_held3 (fun w' => Fuw wr w' ∧ w'.cell? ⟨b, o + i * 5, none⟩ = some (.int .i64 x.kd) ∧ w'.cell? ⟨b, o + i * 5 + 1, none⟩ = some (.int .i64 x.nn) ∧ w'.cell? ⟨b, o + i * 5 + 2, none⟩ = some (.int .i64 x.dd) ∧ w'.cell? ⟨b, o + i * 5 + 3, none⟩ = some (.string (bs x.ss)) ∧ w'.cell? ⟨b, o + i * 5 + 4, none⟩ = some (.slice a1 x.ll.length k1) ∧ w'.cell? ⟨b', o' + i * 5, none⟩ = some (.int .i64 y.kd) ∧ w'.cell? ⟨b', o' + i * 5 + 1, none⟩ = some (.int .i64 y.nn) ∧ w'.cell? ⟨b', o' + i * 5 + 2, none⟩ = some (.int .i64 y.dd) ∧ w'.cell? ⟨b', o' + i * 5 + 3, none⟩ = some (.string (bs y.ss)) ∧ w'.cell? ⟨b', o' + i * 5 + 4, none⟩ = some (.slice a2 y.ll.length k2))
     (first
      | (refine ⟨Fuw.drew (Fuw.refl _), ?_, ?_, ?_, ?_, ?_, ?_, ?_, ?_, ?_, ?_⟩ <;> simp [*]; done)
      | go_keep
      | (refine ⟨Fuw.trans ?_ (by assumption), cellOnw (by assumption) ?_, cellOnw (by assumption) ?_, cellOnw (by assumption) ?_, cellOnw (by assumption) ?_, cellOnw (by assumption) ?_, cellOnw (by assumption) ?_, cellOnw (by assumption) ?_, cellOnw (by assumption) ?_, cellOnw (by assumption) ?_, cellOnw (by assumption) ?_⟩ <;> simp [*]))
     (first
      | (go_at_call 62; refine (HC.out _ (Fuw.drew (Fuw.refl _))).mono ?_; rintro e1 w1 ⟨rfl, f1⟩))
    have ff : Fuw wr w1 := (Fuw.drew (Fuw.refl wr)).trans f1
    by_cases hr : r = 0
    ·subst hr
     go_wp2
     go_roundw
     case rel => exact ⟨i + 1, by go_num, by omega, by omega, HE.out, hf.trans ff⟩
     case measure => simp [RowKit.intOf]; omega
    ·have hr' : (r != 0) = true := by rw [bne_iff_ne]; exact hr
     have HF := Lib.hid (HE.out.trans (thn_n hr _))
     clear hr
     go_wp2
     go_ret
     exact ⟨ret_int HF.out.symm, hf.trans ff⟩
   ·have HE := Lib.hid (HN.out.trans (ordL_end l l' i hi hi' (by omega)))
    have HI := Lib.hid (fun w => rints_any l.length l'.length w)
    go_wp2_with fail
    go_at_call 101; refine (HI.out _).mono ?_; rintro e1 w1 ⟨rfl, rfl⟩
    go_wp2
    go_ret
    exact ⟨ret_int HE.out.symm, hf⟩
  ·have HE := Lib.hid (HN.out.trans (ordL_end l l' i hi hi' (by omega)))
   have HI := Lib.hid (fun w => rints_any l.length l'.length w)
   go_wp2_with fail
   go_at_call 101; refine (HI.out _).mono ?_; rintro e1 w1 ⟨rfl, rfl⟩
   go_wp2
   go_ret
   exact ⟨ret_int HE.out.symm, hf⟩
end Go.Proofs.YtpamdlkagmlahaaGreatDoor
