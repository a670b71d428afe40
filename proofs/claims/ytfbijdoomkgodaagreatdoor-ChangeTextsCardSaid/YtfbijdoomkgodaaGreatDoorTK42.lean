/-
  VkA; VkB; VkC: texts of one kind in one file; each part says what it holds.
-/
import Derived.Test.YtfbijdoomkgodaaGreatDoorTK41
import Derived.Test.YtfbijdoomkgodaaGreatDoorTK29
import Derived.Test.YtfbijdoomkgodaaGreatDoorTM18
import Derived.Test.YtfbijdoomkgodaaGreatDoorTK40
import Derived.Test.YtfbijdoomkgodaaGreatDoorTK31
import Derived.Test.YtfbijdoomkgodaaGreatDoorTK15

/-! The reference of package value: strings with their quotes doubled; the texts of values joined, given what Text answers of each. Nothing that was there turns. -/
namespace Go.Proofs.YtfbijdoomkgodaaGreatDoor
open Go.RowKit

theorem dbl_app : ∀ a b : List UInt8, dbl (a ++ b) = dbl a ++ dbl b
  | [], b => rfl
  | c :: r, b => by
    show (if c = 39 then 39 :: 39 :: dbl (r ++ b) else c :: dbl (r ++ b)) = (if c = 39 then 39 :: 39 :: dbl r else c :: dbl r) ++ dbl b
    rw [dbl_app r b]
    by_cases h : c = 39
    · rw [if_pos h, if_pos h]; rfl
    · rw [if_neg h, if_neg h]; rfl
theorem dbl_take {s : List UInt8} {i : Nat} (h : i < s.length) : dbl (s.take (i + 1)) = dbl (s.take i) ++ (if s[i] = 39 then [39, 39] else [s[i]]) := by
  rw [List.take_succ_eq_append_getElem h, dbl_app]
  congr 1
theorem dbl_le : ∀ s : List UInt8, (dbl s).length ≤ 2 * s.length
  | [] => Nat.le_refl _
  | c :: r => by
    have := dbl_le r
    unfold dbl
    split <;> simp <;> omega
theorem bs_ext (s : List UInt8) (i : Nat) (h : i < s.length) : (bs s).extract i (i + 1) = bs [s[i]] := by
  apply ByteArray.ext
  apply Array.toList_inj.1
  rw [ByteArray.data_extract, Array.toList_extract]
  simp only [bs, List.extract_eq_take_drop, Nat.add_sub_cancel_left]
  rw [List.drop_eq_getElem_cons h]
  rfl
theorem run_slice_str {P : Program} {t : TypeId} (ht : P.underlying t = some .string) (s : ByteArray) (i j : Nat) (h : i ≤ j) (hj : j ≤ s.size) (w : World) :
    (Instr.slice t (.string s) (some (.int .i64 i)) (some (.int .i64 j)) none).run P w = .ok (.string (s.extract i j)) w := by
  have h1 : (i : Int) ≤ (j : Int) := by omega
  have h2 : (j : Int) ≤ (s.size : Int) := by omega
  simp [Instr.slice, Instr.sliceBounds, Instr.sliceBound, run_underlying ht, asIntOf, h, hj]
set_option maxHeartbeats 1600000 in
set_option maxRecDepth 100000 in
theorem rdbl_any (s : List UInt8) (hs : s.length ≤ 1000) (w : World) : Calls Tryz.prog 99 #[.string (bs s)] w (fun e w' => e = .returned (.string (bs (dbl s))) ∧ w = w') := by
  have hz := bs_size s
  have HS := Lib.hid hz
  go_enter Tryz.func99, Tryz.ntmps99
  go_wp2
  go_loop [3, 4] (fun ov iv => ∃ i : Nat, iv = .int .i64 i ∧ i ≤ s.length ∧ ov = .string (bs (dbl (s.take i)))) (fun _ iv => s.length - (RowKit.intOf iv).toNat)
  case atStart => exact ⟨0, rfl, Nat.zero_le _, rfl⟩
  case round =>
    obtain ⟨i, rfl, hi, rfl⟩ := hrel
    have hd := dbl_le (s.take i)
    have hd2 : (s.take i).length ≤ i := List.length_take_le _ _
    have hd3 := bs_size (dbl (s.take i))
    by_cases hlt : i < s.length
    · have HX := Lib.hid (dbl_take hlt)
      have he := bs_ext s i hlt
      have hb : (bs s)[i]'(by rw [hz]; exact hlt) = s[i] := by simp [bs]; rfl
      have hi2 : (i : Int) < ((bs s).size : Int) := by rw [hz]; omega
      have hsl := run_slice_str (P := Tryz.prog) Tryz.underlying9 (bs s) i (i + 1) (by omega) (by omega) w
      rw [he] at hsl
      have hj : ((i + 1 : Nat) : Int) = (i : Int) + 1 := by omega
      rw [hj] at hsl
      have hz1 : (bs [s[i]]).size = 1 := rfl
      clear he hj
      go_upto_region 6 with fail
      clear hsl
      by_cases h39 : s[i] = 39
      · have HY := Lib.hid (show dbl (s.take (i + 1)) = dbl (s.take i) ++ [39, 39] by rw [HX.out, if_pos h39])
        have hq : (((bs s)[i]'(by rw [hz]; exact hlt)).toNat : Int) = 39 := by rw [hb, h39]; rfl
        have hlen : (bs (dbl (s.take i)) ++ bs [s[i]]).size ≤ 3000 := by rw [bs_app, bs_size, List.length_append]; simp; omega
        have HO := Lib.hid (show bs (dbl (s.take i)) ++ bs [s[i]] ++ ⟨#[39]⟩ = bs (dbl (s.take (i + 1))) by
          rw [HY.out, show (⟨#[39]⟩ : ByteArray) = bs [39] from rfl, bs_app, bs_app, h39, List.append_assoc]; rfl)
        clear HX
        generalize bs (dbl (s.take i)) ++ bs [s[i]] = o at *
        go_wp2
        go_round
        case rel => exact ⟨i + 1, by go_num, by omega, by rw [HO.out]⟩
        case measure => simp [RowKit.intOf]; omega
      · have HY := Lib.hid (show dbl (s.take (i + 1)) = dbl (s.take i) ++ [s[i]] by rw [HX.out, if_neg h39])
        have hq : ¬ ((((bs s)[i]'(by rw [hz]; exact hlt)).toNat : Int) = 39) := by
          rw [hb]
          intro q
          exact h39 (UInt8.toNat_inj.1 (by have : s[i].toNat = 39 := by omega
                                           rw [this]; rfl))
        have hq2 := beq_eq_false_iff_ne.2 hq
        have hq3 : ¬ ((s[i].toNat : Int) = 39) := by rw [← hb]; exact hq
        have hq4 := beq_eq_false_iff_ne.2 hq3
        have hq5 : ¬ (s[i].toNat = 39) := by omega
        have hq6 : ¬ (s[i] = 39) := h39
        have HO := Lib.hid (show bs (dbl (s.take i)) ++ bs [s[i]] = bs (dbl (s.take (i + 1))) by rw [HY.out, bs_app])
        clear HX
        generalize bs (dbl (s.take i)) ++ bs [s[i]] = o at *
        go_wp2
        go_round
        case rel => exact ⟨i + 1, by go_num, by omega, by rw [HO.out]⟩
        case measure => simp [RowKit.intOf]; omega
    · have HE := Lib.hid (show dbl (s.take i) = dbl s by rw [List.take_of_length_le (by omega)])
      go_wp2
      go_ret
      exact ⟨by rw [HE.out]; rfl, rfl⟩
end Go.Proofs.YtfbijdoomkgodaaGreatDoor

/-! The reference of package value: the texts of values joined, given what Text answers of each; Text. Nothing that was there turns. -/

namespace Go.Proofs.YtfbijdoomkgodaaGreatDoor
open Go.RowKit

theorem texR_app (s : List UInt8) : ∀ a b : List Vl, texR s (a ++ b) = texR s a ++ texR s b
  | [], b => rfl
  | x :: r, b => by
    show s ++ (texX x ++ texR s (r ++ b)) = (s ++ (texX x ++ texR s r)) ++ texR s b
    rw [texR_app s r b, List.append_assoc, List.append_assoc]
theorem texL_app (s : List UInt8) (a b : List Vl) (h : a ≠ []) : texL s (a ++ b) = texL s a ++ texR s b := by
  cases a with
  | nil => exact absurd rfl h
  | cons x r =>
    show texX x ++ texR s (r ++ b) = (texX x ++ texR s r) ++ texR s b
    rw [texR_app, List.append_assoc]
theorem texL_snoc (s : List UInt8) (l : List Vl) (i : Nat) (h : i < l.length) (h0 : 0 < i) : texL s (l.take (i + 1)) = texL s (l.take i) ++ s ++ texX l[i] := by
  rw [List.take_succ_eq_append_getElem h, texL_app s _ _ (fun e => by have := congrArg List.length e; rw [List.length_take, Nat.min_eq_left (by omega)] at this; exact absurd this (by simp; omega))]
  show _ ++ (s ++ (texX l[i] ++ [])) = _
  rw [List.append_nil, List.append_assoc]
theorem texL_one (s : List UInt8) (l : List Vl) (h : 0 < l.length) : texL s (l.take 1) = texX l[0] := by
  rw [show l.take 1 = [l[0]] by rw [List.take_succ_eq_append_getElem h]; rfl]
  show texX l[0] ++ [] = _
  rw [List.append_nil]
theorem texLk_le (s : List UInt8) (l : List Vl) (i : Nat) : (texL s (l.take i)).length ≤ (texL s l).length := by
  by_cases h : l.take i = []
  · rw [h]; exact Nat.zero_le _
  · have e := texL_app s (l.take i) (l.drop i) h
    rw [List.take_append_drop] at e
    rw [e, List.length_append]; omega
def RtAt (x : Vl) : Prop := ∀ (ao : Option Addr) (cap : Nat) (w : World), Vin x → SlV w ao x.ll cap → (texX x).length ≤ 1000000 → Calls Tryz.prog 58 #[vlv x ao cap] w (RwT w (texX x))
set_option maxHeartbeats 3200000 in
set_option maxRecDepth 100000 in
theorem rjoin_by (s : List UInt8) (hs2 : s.length ≤ 2) (l : List Vl) (hL : ∀ x ∈ l, RtAt x) (ao : Option Addr) (cap : Nat) (w : World) (hs : SlV w ao l cap) (hb : (texL s l).length ≤ 1000000) :
    Calls Tryz.prog 100 #[.slice ao l.length cap, .string (bs s)] w (RwT w (texL s l)) := by
  have h1 := hs.le
  have h2 := hs.max
  unfold maxLen at h2
  have HS := Lib.hid hs
  have HL := Lib.hid hL
  have HLE := Lib.hid (fun i => Nat.le_trans (texLk_le s l i) hb)
  have HSN := Lib.hid (fun i h h0 => texL_snoc s l i h h0)
  have HON := Lib.hid (fun h => texL_one s l h)
  have HEN := Lib.hid (fun i (h : l.length ≤ i) => show texL s (l.take i) = texL s l by rw [List.take_of_length_le h])
  have HST := Lib.hid (show ([] : List UInt8) = texL s (l.take 0) from rfl)
  have hz0 := bs_size s
  clear hs hL hb
  go_enter Tryz.func100, Tryz.ntmps100
  go_wp2
  go_loopw [5, 6] (fun ov iv wr => ∃ (i : Nat) (o : List UInt8), iv = .int .i64 i ∧ i ≤ l.length ∧ ov = .string (bs o) ∧ o.length ≤ 1000000 ∧ Hid (o = texL s (l.take i)) ∧ Hid (Fuw w wr)) (fun _ iv _ => l.length - (RowKit.intOf iv).toNat)
  case atStart => exact ⟨0, [], rfl, Nat.zero_le _, rfl, Nat.zero_le _, HST, Fuw.refl _⟩
  case round =>
    obtain ⟨i, o, rfl, hi, rfl, ho, HO, hf⟩ := hrel
    have hz1 := bs_size o
    by_cases hlt : i < l.length
    · have hlt' : (i : Int) < (l.length : Int) := by omega
      rcases Nat.eq_zero_or_pos i with h0 | h0
      · subst h0
        obtain ⟨b, off, rfl, hv⟩ := (HS.out.onw hf.out).get hlt
        rw [Nat.zero_mul, Nat.add_zero] at hv
        obtain ⟨hy, c0, c1, c2, c3, a1, k1, c4, hs1⟩ := VC_of hv
        have hm : l[0] ∈ l := List.getElem_mem hlt
        have e1 : texL s (l.take (0 + 1)) = texX l[0] := HON.out hlt
        have hln : (texX l[0]).length ≤ 1000000 := by rw [← e1]; exact HLE.out _
        have e0 : o = [] := by rw [HO.out]; rfl
        have HC := Lib.hid (HL.out _ hm a1 k1 wr hy hs1 hln)
        have HE := Lib.hid (show ⟨#[]⟩ ++ bs (texX l[0]) = bs (texL s (l.take (0 + 1))) by rw [e1, show (⟨#[]⟩ : ByteArray) = bs [] from rfl, bs_app]; rfl)
        have HLN := Lib.hid (HLE.out (0 + 1))
        have hz2 := bs_size (texX l[0])
        unfold vlv at HC
        clear hv hs1 hy hm e1 hlt'
        have hlt' : (0 : Int) < (l.length : Int) := by omega
        generalize texX l[0] = t at *
        generalize l[0] = x at *
        subst e0
        rw [show bs [] = ⟨#[]⟩ from rfl] at *
        go_wp2_with fail
        go_at_call 58; refine HC.out.mono ?_; rintro e w1 ⟨rfl, f1⟩
        have HF := Lib.hid (hf.out.trans f1)
        clear f1 c0 c1 c2 c3 c4
        go_wp2
        go_roundw
        case rel => exact ⟨0 + 1, _, by go_num, by omega, congrArg Value.string HE.out, HLN.out, rfl, HF⟩
        case measure => simp [RowKit.intOf]; omega
      · obtain ⟨b, off, rfl, hv⟩ := (HS.out.onw hf.out).get hlt
        obtain ⟨hy, c0, c1, c2, c3, a1, k1, c4, hs1⟩ := VC_of hv
        have hm : l[i] ∈ l := List.getElem_mem hlt
        have e1 := HSN.out i hlt h0
        have hl2 : (o ++ s ++ texX l[i]).length ≤ 1000000 := by rw [HO.out, ← e1]; exact HLE.out _
        have hl3 := hl2
        rw [List.length_append, List.length_append] at hl3
        have HC := Lib.hid (HL.out _ hm a1 k1 wr hy hs1 (by omega))
        have HE := Lib.hid (show bs o ++ bs s ++ bs (texX l[i]) = bs (texL s (l.take (i + 1))) by rw [e1, bs_app, bs_app, HO.out])
        have HLN := Lib.hid (HLE.out (i + 1))
        have hz2 := bs_size (texX l[i])
        have hz3 : (bs o ++ bs s).size = o.length + s.length := by rw [bs_app, bs_size, List.length_append]
        have h0' : 0 < (i : Int) := by omega
        unfold vlv at HC
        clear hv hs1 hy hm e1 hl2
        generalize texX l[i] = t at *
        generalize l[i] = x at *
        go_wp2_with fail
        go_at_call 58; refine HC.out.mono ?_; rintro e w1 ⟨rfl, f1⟩
        have HF := Lib.hid (hf.out.trans f1)
        clear f1 c0 c1 c2 c3 c4
        generalize bs o ++ bs s = os at *
        go_wp2
        go_roundw
        case rel => exact ⟨i + 1, _, by go_num, by omega, congrArg Value.string HE.out, HLN.out, rfl, HF⟩
        case measure => simp [RowKit.intOf]; omega
    · have HZ := Lib.hid (show bs o = bs (texL s l) by rw [HO.out, HEN.out i (by omega)])
      go_wp2
      go_ret
      exact ⟨by rw [HZ.out]; rfl, hf.out⟩
end Go.Proofs.YtfbijdoomkgodaaGreatDoor

/-! The reference of package value: Text, of every value in memory whose text is no longer than a million bytes. Nothing that was there turns. -/
namespace Go.Proofs.YtfbijdoomkgodaaGreatDoor
open Go.RowKit

theorem bs_3 (a : UInt8) (t : List UInt8) (c : UInt8) : (⟨#[a]⟩ : ByteArray) ++ bs t ++ ⟨#[c]⟩ = bs (a :: (t ++ [c])) := by
  rw [show (⟨#[a]⟩ : ByteArray) = bs [a] from rfl, show (⟨#[c]⟩ : ByteArray) = bs [c] from rfl, bs_app, bs_app]; rfl
theorem bs_2 (a : UInt8) (t : List UInt8) : (⟨#[a]⟩ : ByteArray) ++ bs t = bs (a :: t) := by
  rw [show (⟨#[a]⟩ : ByteArray) = bs [a] from rfl, bs_app]; rfl
/-- What a slot of the fraction's text holds once it is written. -/
def VkU (n d : Int) (B : Nat) : Nat → World → Value → Prop
  | 1, _, v => v = .pointer (some ⟨B, 1, none⟩)
  | 2, _, v => v = .pointer (some ⟨B, 2, none⟩)
  | 3, _, v => v = .int .i64 n
  | 4, _, v => v = .int .i64 d
  | 5, _, v => v = .string (bs (Lib.itoa n))
  | 6, _, v => v = .string (bs (Lib.itoa d))
  | 7, _, v => v = .string (bs (Lib.itoa n ++ [47]))
  | 8, _, v => v = .string (bs (Lib.itoa n ++ 47 :: Lib.itoa d))
  | _, _, _ => True
def kVk : List Nat := [0, 0, 8, 0, 0, 0, 0, 0, 0, 0, 0, 0, 0, 0, 0, 0, 0, 0, 0, 0, 1, 3, 5, 7, 2, 4, 6, 8, 0, 0, 0, 0, 0, 0, 0, 0, 0, 0, 0, 0, 0, 0, 0, 0, 0, 0, 0, 0, 0, 0, 0, 0, 0, 0, 0, 0, 0, 0, 0, 0, 0]
theorem frameD61 (x : Nat → Value) : frameD 61 x = ⟨#[x 0, x 1, x 2, x 3, x 4, x 5, x 6, x 7, x 8, x 9, x 10, x 11, x 12, x 13, x 14, x 15, x 16, x 17, x 18, x 19, x 20, x 21, x 22, x 23, x 24, x 25, x 26, x 27, x 28, x 29, x 30, x 31, x 32, x 33, x 34, x 35, x 36, x 37, x 38, x 39, x 40, x 41, x 42, x 43, x 44, x 45, x 46, x 47, x 48, x 49, x 50, x 51, x 52, x 53, x 54, x 55, x 56, x 57, x 58, x 59, x 60], []⟩ := rfl
theorem vku_on {n d : Int} {B : Nat} {k : Nat} {w w' : World} (u : Value) (h : VkU n d B k w u) : VkU n d B k w' u := by
  match k, h with
  | 0, h => exact h
  | 1, h => exact h
  | 2, h => exact h
  | 3, h => exact h
  | 4, h => exact h
  | 5, h => exact h
  | 6, h => exact h
  | 7, h => exact h
  | 8, h => exact h
  | _ + 9, h => exact h
theorem rdbl_w (s : List UInt8) (hs : s.length ≤ 1000) (w : World) : Calls Tryz.prog 99 #[.string (bs s)] w (RwT w (dbl s)) := (rdbl_any s hs w).mono fun _ _ ⟨he, hw⟩ => ⟨he, hw ▸ Fuw.refl _⟩
theorem rt_w (n : Int) (h : I64 n) (w : World) : Calls Tryz.prog 57 #[.int .i64 n] w (RwT w (Lib.itoa n)) := Rtx.rtext_any n h.1 h.2 w
theorem itoa_le (n : Int) (h : I64 n) : (Lib.itoa n).length ≤ 100 := by
  have := Lib.itoa_length_le n h.1 h.2
  omega
set_option maxHeartbeats 12800000 in
set_option maxRecDepth 100000 in
theorem rtxt_by (x : Vl) (hJ : ∀ s : List UInt8, s.length ≤ 2 → ∀ (ao : Option Addr) (cap : Nat) (w : World), SlV w ao x.ll cap → (texL s x.ll).length ≤ 1000000 → Calls Tryz.prog 100 #[.slice ao x.ll.length cap, .string (bs s)] w (RwT w (texL s x.ll))) : RtAt x := by
  intro ao cap w hy hs hb
  obtain ⟨p0, f0⟩ := bx1 w x ao cap
  obtain ⟨W, hW⟩ : ∃ W, (w.alloc (.cells #[.int .i64 x.kd, .int .i64 x.nn, .int .i64 x.dd, .string (bs x.ss), .slice ao x.ll.length cap] 28)) = W := ⟨_, rfl⟩
  rw [hW] at p0 f0
  have HV := Lib.hid (rokV_any x ao cap W hy (hs.on f0))
  unfold vlv at HV
  have HS := Lib.hid (hs.on f0)
  have HY := Lib.hid hy
  have HP := Lib.hid p0
  have HF := Lib.hid (show Fuw w W from f0.b)
  have HJ := Lib.hid hJ
  have HB := Lib.hid hb
  have c0 := p0.c0; have c1 := p0.c1; have c2 := p0.c2; have c3 := p0.c3; have c4 := p0.c4
  clear hs hy p0 f0 hJ hb
  unfold vlv
  cases hok : okX x with
  | false =>
    rw [hok] at HV
    have HT := Lib.hid (show bs (texX x) = ⟨#[63]⟩ from by
      cases x with
      | mk k n d s l =>
        unfold texX
        rw [if_pos hok]; rfl)
    clear hok
    go_enter Tryz.func58, Tryz.ntmps58
    go_upto_region 1 with fail
    clear hW
    go_wp2_with fail
    go_at_call 76; refine HV.out.mono ?_; rintro e1 w1 ⟨rfl, f1⟩
    have F1 := Lib.hid (HF.out.trans f1.b)
    clear f1 c0 c1 c2 c3 c4
    go_wp2
    go_ret
    exact ⟨ret_str HT.out.symm, F1.out⟩
  | true =>
    rw [hok] at HV
    obtain ⟨k, n, d, s, l⟩ := x
    have hnI : I64 n := HY.out.n
    have hdI : I64 d := HY.out.d
    have HJ2 := Lib.hid (show ∀ s2 : List UInt8, s2.length ≤ 2 → ∀ (ao : Option Addr) (cap : Nat) (w : World), SlV w ao l cap → (texL s2 l).length ≤ 1000000 → Calls Tryz.prog 100 #[.slice ao l.length cap, .string (bs s2)] w (RwT w (texL s2 l)) from HJ.out)
    have HOK := Lib.hid hok
    have hk := kinds hok
    clear hok
    obtain ⟨hnI1, hnI2⟩ := hnI
    obtain ⟨hdI1, hdI2⟩ := hdI
    have HNI := Lib.hid (And.intro hnI1 hnI2)
    have HDI := Lib.hid (And.intro hdI1 hdI2)
    change W.cell? ⟨w.heap.size, 0, none⟩ = some (.int .i64 k) at c0
    change W.cell? ⟨w.heap.size, 1, none⟩ = some (.int .i64 n) at c1
    change W.cell? ⟨w.heap.size, 2, none⟩ = some (.int .i64 d) at c2
    change W.cell? ⟨w.heap.size, 3, none⟩ = some (.string (bs s)) at c3
    change W.cell? ⟨w.heap.size, 4, none⟩ = some (.slice ao l.length cap) at c4
    show Calls _ _ #[.agg #[.int .i64 k, .int .i64 n, .int .i64 d, .string (bs s), .slice ao l.length cap]] w (RwT w (texX (.mk k n d s l)))
    change Hid (Calls _ _ #[.agg #[.int .i64 k, .int .i64 n, .int .i64 d, .string (bs s), .slice ao l.length cap]] W (RetB W true)) at HV
    change (w.alloc (.cells #[.int .i64 k, .int .i64 n, .int .i64 d, .string (bs s), .slice ao l.length cap] 28)) = W at hW
    clear hnI1 hnI2 hdI1 hdI2
    rcases hk with ⟨rfl, -⟩ | ⟨rfl, hn, -⟩ | ⟨rfl, -⟩ | ⟨rfl, -⟩ | ⟨rfl, -⟩ | ⟨rfl, -⟩ | ⟨rfl, -⟩ | ⟨rfl, -⟩ | ⟨rfl, -⟩
    · have HT := Lib.hid (show bs (texX (.mk 0 n d s l)) = ⟨#[110, 117, 108, 108]⟩ from by rw [tex_of' HOK.out]; rfl)
      go_enter Tryz.func58, Tryz.ntmps58
      go_upto_region 1 with fail
      clear hW
      go_wp2_with fail
      go_at_call 76; refine HV.out.mono ?_; rintro e1 w1 ⟨rfl, f1⟩
      have F1 := Lib.hid (HF.out.trans f1.b)
      have G1 := Lib.hid (show Fuw W w1 from f1.b)
      replace c0 := cellOnw f1.b c0; replace c1 := cellOnw f1.b c1; replace c2 := cellOnw f1.b c2; replace c3 := cellOnw f1.b c3; replace c4 := cellOnw f1.b c4
      clear f1 HV
      go_wp2
      go_ret
      exact ⟨ret_str HT.out.symm, F1.out⟩
    · by_cases h1 : n = 1
      · have HT := Lib.hid (show bs (texX (.mk 1 n d s l)) = ⟨#[116, 114, 117, 101]⟩ from by rw [tex_of' HOK.out, h1]; rfl)
        subst h1
        clear hn
        go_enter Tryz.func58, Tryz.ntmps58
        go_upto_region 1 with fail
        clear hW
        go_wp2_with fail
        go_at_call 76; refine HV.out.mono ?_; rintro e1 w1 ⟨rfl, f1⟩
        have F1 := Lib.hid (HF.out.trans f1.b)
        have G1 := Lib.hid (show Fuw W w1 from f1.b)
        replace c0 := cellOnw f1.b c0; replace c1 := cellOnw f1.b c1; replace c2 := cellOnw f1.b c2; replace c3 := cellOnw f1.b c3; replace c4 := cellOnw f1.b c4
        clear f1 HV
        go_wp2
        go_ret
        exact ⟨ret_str HT.out.symm, F1.out⟩
      · have h0 : n = 0 := by omega
        have HT := Lib.hid (show bs (texX (.mk 1 n d s l)) = ⟨#[102, 97, 108, 115, 101]⟩ from by rw [tex_of' HOK.out, h0]; rfl)
        subst h0
        clear hn h1
        go_enter Tryz.func58, Tryz.ntmps58
        go_upto_region 1 with fail
        clear hW
        go_wp2_with fail
        go_at_call 76; refine HV.out.mono ?_; rintro e1 w1 ⟨rfl, f1⟩
        have F1 := Lib.hid (HF.out.trans f1.b)
        have G1 := Lib.hid (show Fuw W w1 from f1.b)
        replace c0 := cellOnw f1.b c0; replace c1 := cellOnw f1.b c1; replace c2 := cellOnw f1.b c2; replace c3 := cellOnw f1.b c3; replace c4 := cellOnw f1.b c4
        clear f1 HV
        go_wp2
        go_ret
        exact ⟨ret_str HT.out.symm, F1.out⟩
    · have HT := Lib.hid (show bs (texX (.mk 2 n d s l)) = bs (Lib.itoa n) from by rw [tex_of' HOK.out]; rfl)
      go_enter Tryz.func58, Tryz.ntmps58
      go_upto_region 1 with fail
      clear hW
      go_wp2_with fail
      go_at_call 76; refine HV.out.mono ?_; rintro e1 w1 ⟨rfl, f1⟩
      have F1 := Lib.hid (HF.out.trans f1.b)
      have G1 := Lib.hid (show Fuw W w1 from f1.b)
      replace c0 := cellOnw f1.b c0; replace c1 := cellOnw f1.b c1; replace c2 := cellOnw f1.b c2; replace c3 := cellOnw f1.b c3; replace c4 := cellOnw f1.b c4
      clear f1 HV
      go_wp2_with fail
      go_at_call 57; refine (rt_w n HNI.out w1).mono ?_; rintro e2 w2 ⟨rfl, f2⟩
      have F2 := Lib.hid (F1.out.trans f2)
      clear f2
      go_wp2
      go_ret
      exact ⟨ret_str HT.out.symm, F2.out⟩
    · have HT := Lib.hid (show bs (texX (.mk 3 n d s l)) = bs (Lib.itoa n ++ 47 :: Lib.itoa d) from by rw [tex_of' HOK.out]; rfl)
      have HLN := Lib.hid (And.intro (itoa_le n HNI.out) (itoa_le d HDI.out))
      go_enter Tryz.func58, Tryz.ntmps58
      go_upto_region 1 with fail
      clear hW
      go_wp2_with fail
      go_at_call 76; refine HV.out.mono ?_; rintro e1 w1 ⟨rfl, f1⟩
      have F1 := Lib.hid (HF.out.trans f1.b)
      have G1 := Lib.hid (show Fuw W w1 from f1.b)
      replace c0 := cellOnw f1.b c0; replace c1 := cellOnw f1.b c1; replace c2 := cellOnw f1.b c2; replace c3 := cellOnw f1.b c3; replace c4 := cellOnw f1.b c4
      clear f1 HV
      go_upto_region 11 with fail
      have C1 := Lib.hid c1
      have C2 := Lib.hid c2
      clear c0 c1 c2 c3 c4
      refine region_midB (N := 61) (S := fun _ => Fuw w1) (U := fun _ t => VkU n d w.heap.size (kVk.getD t 0)) (V := fun _ _ => True) (by kernel_rfl) (by kernel_rfl) (by kernel_rfl) ?base (fun H1 => upto_succ (n := 8) (upto_succ (n := 7) (upto_succ (n := 6) (upto_succ (n := 5) (upto_succ (n := 4) (upto_succ (n := 3) (upto_succ (n := 2) (upto_succ (n := 1) (upto_succ (n := 0) (upto_nil) ?s0) ?s1) ?s2) ?s3) ?s4) ?s5) ?s6) ?s7) ?s8) ?fin
      case s0 =>
        refine stepB_of [] [] [] [] H1 rfl rfl (by kernel_rfl) (by kernel_rfl) (by kernel_rfl) (by kernel_rfl) ?_
        intro σ hp hq x w5 hS hU hV hA Lv hLv K hK
        clear hp hq
        have u1 : x 1 = .pointer (some ⟨w.heap.size, 0, none⟩) := hA 1 (by kernel_rfl)
        clear hU hV hA H1 hLv
        rw [frameD61] at hK ⊢
        simp only [u1] at hK ⊢
        refine wpOp_step rfl (fun K' hK' => ?_)
        go_simp
        exact hK' _ _ (hK _ _ hS (fun _ _ _ h => h) (fun e he => by cases he; exact rfl))
      case s1 =>
        refine stepB_of [] [] [20] [] H1 rfl rfl (by kernel_rfl) (by kernel_rfl) (by kernel_rfl) (by kernel_rfl) ?_
        intro σ hp hq x w5 hS hU hV hA Lv hLv K hK
        clear hp hq
        have u20 : x 20 = .pointer (some ⟨w.heap.size, 1, none⟩) := hU 20 (by simp)
        clear hU hV hA H1 hLv
        rw [frameD61] at hK ⊢
        simp only [u20] at hK ⊢
        refine wpOp_step rfl (fun K' hK' => ?_)
        have hf5 : Fuw w1 w5 := hS
        have q := cellOnw hf5 C1.out
        go_simp
        exact hK' _ _ (hK _ _ hS (fun _ _ _ h => h) (fun e he => by cases he; exact rfl))
      case s2 =>
        refine stepB_of [] [] [21] [] H1 rfl rfl (by kernel_rfl) (by kernel_rfl) (by kernel_rfl) (by kernel_rfl) ?_
        intro σ hp hq x w5 hS hU hV hA Lv hLv K hK
        clear hp hq
        have u21 : x 21 = .int .i64 n := hU 21 (by simp)
        clear hU hV hA H1 hLv
        rw [frameD61] at hK ⊢
        simp only [u21] at hK ⊢
        refine wpOp_step rfl (fun K' hK' => ?_)
        have hf5 : Fuw w1 w5 := hS
        go_simp
        go_wp2_with (go_at_call 57; refine (rt_w n HNI.out w5).mono ?_; rintro e5 w6 ⟨rfl, f5⟩)
        exact hK _ _ (show Fuw w1 _ from hf5.trans f5) (fun t _ _ h => vku_on _ h) (fun e he => by cases he; exact rfl)
      case s3 =>
        refine stepB_of [] [] [22] [] H1 rfl rfl (by kernel_rfl) (by kernel_rfl) (by kernel_rfl) (by kernel_rfl) ?_
        intro σ hp hq x w5 hS hU hV hA Lv hLv K hK
        clear hp hq
        have u22 : x 22 = .string (bs (Lib.itoa n)) := hU 22 (by simp)
        clear hU hV hA H1 hLv
        rw [frameD61] at hK ⊢
        simp only [u22] at hK ⊢
        refine wpOp_step rfl (fun K' hK' => ?_)
        have hz1 := bs_size (Lib.itoa n)
        have hz2 := HLN.out.1
        have hz3 := HLN.out.2
        have hz4 := bs_size (Lib.itoa d)
        have hz5 := bs_size (Lib.itoa n ++ [47])
        rw [List.length_append, List.length_singleton] at hz5
        have hsz : ¬ (9223372036854775807 < (bs (Lib.itoa n)).size + 1) := by omega
        have hsz2 : (bs (Lib.itoa n)).size + 1 ≤ 9223372036854775807 := by omega
        clear hz1 hz2 hz3 hz4 hz5
        go_simp
        exact hK' _ _ (hK _ _ hS (fun _ _ _ h => h) (fun e he => by cases he; exact (by show Value.string (bs (Lib.itoa n) ++ ⟨#[47]⟩) = _; rw [show (⟨#[47]⟩ : ByteArray) = bs [47] from rfl, bs_app])))
      case s4 =>
        refine stepB_of [] [] [] [] H1 rfl rfl (by kernel_rfl) (by kernel_rfl) (by kernel_rfl) (by kernel_rfl) ?_
        intro σ hp hq x w5 hS hU hV hA Lv hLv K hK
        clear hp hq
        have u1 : x 1 = .pointer (some ⟨w.heap.size, 0, none⟩) := hA 1 (by kernel_rfl)
        clear hU hV hA H1 hLv
        rw [frameD61] at hK ⊢
        simp only [u1] at hK ⊢
        refine wpOp_step rfl (fun K' hK' => ?_)
        go_simp
        exact hK' _ _ (hK _ _ hS (fun _ _ _ h => h) (fun e he => by cases he; exact rfl))
      case s5 =>
        refine stepB_of [] [] [24] [] H1 rfl rfl (by kernel_rfl) (by kernel_rfl) (by kernel_rfl) (by kernel_rfl) ?_
        intro σ hp hq x w5 hS hU hV hA Lv hLv K hK
        clear hp hq
        have u24 : x 24 = .pointer (some ⟨w.heap.size, 2, none⟩) := hU 24 (by simp)
        clear hU hV hA H1 hLv
        rw [frameD61] at hK ⊢
        simp only [u24] at hK ⊢
        refine wpOp_step rfl (fun K' hK' => ?_)
        have hf5 : Fuw w1 w5 := hS
        have q := cellOnw hf5 C2.out
        go_simp
        exact hK' _ _ (hK _ _ hS (fun _ _ _ h => h) (fun e he => by cases he; exact rfl))
      case s6 =>
        refine stepB_of [] [] [25] [] H1 rfl rfl (by kernel_rfl) (by kernel_rfl) (by kernel_rfl) (by kernel_rfl) ?_
        intro σ hp hq x w5 hS hU hV hA Lv hLv K hK
        clear hp hq
        have u25 : x 25 = .int .i64 d := hU 25 (by simp)
        clear hU hV hA H1 hLv
        rw [frameD61] at hK ⊢
        simp only [u25] at hK ⊢
        refine wpOp_step rfl (fun K' hK' => ?_)
        have hf5 : Fuw w1 w5 := hS
        go_simp
        go_wp2_with (go_at_call 57; refine (rt_w d HDI.out w5).mono ?_; rintro e5 w6 ⟨rfl, f5⟩)
        exact hK _ _ (show Fuw w1 _ from hf5.trans f5) (fun t _ _ h => vku_on _ h) (fun e he => by cases he; exact rfl)
      case s7 =>
        refine stepB_of [] [] [23, 26] [] H1 rfl rfl (by kernel_rfl) (by kernel_rfl) (by kernel_rfl) (by kernel_rfl) ?_
        intro σ hp hq x w5 hS hU hV hA Lv hLv K hK
        clear hp hq
        have u23 : x 23 = .string (bs (Lib.itoa n ++ [47])) := hU 23 (by simp)
        have u26 : x 26 = .string (bs (Lib.itoa d)) := hU 26 (by simp)
        clear hU hV hA H1 hLv
        rw [frameD61] at hK ⊢
        simp only [u23, u26] at hK ⊢
        refine wpOp_step rfl (fun K' hK' => ?_)
        have hz1 := bs_size (Lib.itoa n)
        have hz2 := HLN.out.1
        have hz3 := HLN.out.2
        have hz4 := bs_size (Lib.itoa d)
        have hz5 := bs_size (Lib.itoa n ++ [47])
        rw [List.length_append, List.length_singleton] at hz5
        have hsz : ¬ (9223372036854775807 < (bs (Lib.itoa n ++ [47])).size + (bs (Lib.itoa d)).size) := by omega
        have hsz2 : (bs (Lib.itoa n ++ [47])).size + (bs (Lib.itoa d)).size ≤ 9223372036854775807 := by omega
        clear hz1 hz2 hz3 hz4 hz5
        go_simp
        exact hK' _ _ (hK _ _ hS (fun _ _ _ h => h) (fun e he => by cases he; exact (by show Value.string (bs (Lib.itoa n ++ [47]) ++ bs (Lib.itoa d)) = _; rw [bs_app, List.append_assoc]; rfl)))
      case s8 =>
        refine stepB_of [] [] [27] [] H1 rfl rfl (by kernel_rfl) (by kernel_rfl) (by kernel_rfl) (by kernel_rfl) ?_
        intro σ hp hq x w5 hS hU hV hA Lv hLv K hK
        clear hp hq
        have u27 : x 27 = .string (bs (Lib.itoa n ++ 47 :: Lib.itoa d)) := hU 27 (by simp)
        clear hU hV hA H1 hLv
        rw [frameD61] at hK ⊢
        simp only [u27] at hK ⊢
        refine wpOp_step rfl (fun K' hK' => ?_)
        go_simp
        exact hK' _ _ (hK _ _ hS (fun _ _ _ h => h) (fun e he => by cases he; exact rfl))
      case base =>
        refine midB_start rfl rfl (show Fuw w1 w1.drew from Fuw.drew (Fuw.refl _)) (fun t ht hh => ?_) (fun t => trivial)
        rcases start_of (ks := kVk) (L := []) (by kernel_rfl) t ht hh with e | e
        · show VkU _ _ _ (kVk.getD t 0) _ _
          rw [e]; trivial
        · cases e
      case fin =>
        intro x w5 hS hU hA
        rename_i hk
        refine hk _ _ ?_
        have F5 := Lib.hid (F1.out.trans (show Fuw w1 w5 from hS))
        have u2 : x 2 = .string (bs (Lib.itoa n ++ 47 :: Lib.itoa d)) := hU 2 (by simp)
        clear hU hA hS
        rw [frameD61]
        simp only [u2]
        clear u2
        go_wp2
        go_ret
        exact ⟨ret_str HT.out.symm, F5.out⟩
    · have HT := Lib.hid (show bs (texX (.mk 4 n d s l)) = ⟨#[39]⟩ ++ bs (dbl s) ++ ⟨#[39]⟩ from by rw [tex_of' HOK.out]; rw [bs_3]; rfl)
      have hz := bs_size (dbl s)
      have hz2 := dbl_le s
      have hz3 := str_len HOK.out
      have hz4 : ((⟨#[39]⟩ : ByteArray) ++ bs (dbl s)).size = 1 + (dbl s).length := by rw [bs_2, bs_size, List.length_cons]; omega
      go_enter Tryz.func58, Tryz.ntmps58
      go_upto_region 1 with fail
      clear hW
      go_wp2_with fail
      go_at_call 76; refine HV.out.mono ?_; rintro e1 w1 ⟨rfl, f1⟩
      have F1 := Lib.hid (HF.out.trans f1.b)
      have G1 := Lib.hid (show Fuw W w1 from f1.b)
      replace c0 := cellOnw f1.b c0; replace c1 := cellOnw f1.b c1; replace c2 := cellOnw f1.b c2; replace c3 := cellOnw f1.b c3; replace c4 := cellOnw f1.b c4
      clear f1 HV
      go_wp2_with fail
      go_at_call 99; refine (rdbl_w s (Nat.le_trans (str_len HOK.out) (by omega)) w1).mono ?_; rintro e2 w2 ⟨rfl, f2⟩
      have F2 := Lib.hid (F1.out.trans f2)
      clear f2
      go_wp2
      go_ret
      exact ⟨ret_str HT.out.symm, F2.out⟩
    · have HT := Lib.hid (show bs (texX (.mk 5 n d s l)) = ⟨#[35]⟩ ++ bs (Lib.itoa n) from by rw [tex_of' HOK.out]; rw [bs_2]; rfl)
      have hz := bs_size (Lib.itoa n)
      have hz2 := itoa_le n HNI.out
      go_enter Tryz.func58, Tryz.ntmps58
      go_upto_region 1 with fail
      clear hW
      go_wp2_with fail
      go_at_call 76; refine HV.out.mono ?_; rintro e1 w1 ⟨rfl, f1⟩
      have F1 := Lib.hid (HF.out.trans f1.b)
      have G1 := Lib.hid (show Fuw W w1 from f1.b)
      replace c0 := cellOnw f1.b c0; replace c1 := cellOnw f1.b c1; replace c2 := cellOnw f1.b c2; replace c3 := cellOnw f1.b c3; replace c4 := cellOnw f1.b c4
      clear f1 HV
      go_wp2_with fail
      go_at_call 57; refine (rt_w n HNI.out w1).mono ?_; rintro e2 w2 ⟨rfl, f2⟩
      have F2 := Lib.hid (F1.out.trans f2)
      clear f2
      go_wp2
      go_ret
      exact ⟨ret_str HT.out.symm, F2.out⟩
    · have HT := Lib.hid (show bs (texX (.mk 6 n d s l)) = ⟨#[64]⟩ ++ bs (Lib.itoa n) from by rw [tex_of' HOK.out]; rw [bs_2]; rfl)
      have hz := bs_size (Lib.itoa n)
      have hz2 := itoa_le n HNI.out
      go_enter Tryz.func58, Tryz.ntmps58
      go_upto_region 1 with fail
      clear hW
      go_wp2_with fail
      go_at_call 76; refine HV.out.mono ?_; rintro e1 w1 ⟨rfl, f1⟩
      have F1 := Lib.hid (HF.out.trans f1.b)
      have G1 := Lib.hid (show Fuw W w1 from f1.b)
      replace c0 := cellOnw f1.b c0; replace c1 := cellOnw f1.b c1; replace c2 := cellOnw f1.b c2; replace c3 := cellOnw f1.b c3; replace c4 := cellOnw f1.b c4
      clear f1 HV
      go_wp2_with fail
      go_at_call 57; refine (rt_w n HNI.out w1).mono ?_; rintro e2 w2 ⟨rfl, f2⟩
      have F2 := Lib.hid (F1.out.trans f2)
      clear f2
      go_wp2
      go_ret
      exact ⟨ret_str HT.out.symm, F2.out⟩
    · have HT := Lib.hid (show bs (texX (.mk 7 n d s l)) = ⟨#[60]⟩ ++ bs (texL [32] l) ++ ⟨#[62]⟩ from by rw [tex_of' HOK.out]; rw [bs_3]; rfl)
      have e9 : texX (.mk 7 n d s l) = 60 :: (texL [32] l ++ [62]) := by rw [tex_of' HOK.out]; rfl
      have hz2 : (texL [32] l).length ≤ 1000000 := by have := HB.out; rw [e9, List.length_cons, List.length_append] at this; omega
      have HZ2 := Lib.hid hz2
      clear e9
      have hz := bs_size (texL [32] l)
      have hz4 : ((⟨#[60]⟩ : ByteArray) ++ bs (texL [32] l)).size = 1 + (texL [32] l).length := by rw [bs_2, bs_size, List.length_cons]; omega
      go_enter Tryz.func58, Tryz.ntmps58
      go_upto_region 1 with fail
      clear hW
      go_wp2_with fail
      go_at_call 76; refine HV.out.mono ?_; rintro e1 w1 ⟨rfl, f1⟩
      have F1 := Lib.hid (HF.out.trans f1.b)
      have G1 := Lib.hid (show Fuw W w1 from f1.b)
      replace c0 := cellOnw f1.b c0; replace c1 := cellOnw f1.b c1; replace c2 := cellOnw f1.b c2; replace c3 := cellOnw f1.b c3; replace c4 := cellOnw f1.b c4
      clear f1 HV
      go_wp2_with fail
      go_at_call 100; refine (HJ2.out [32] (by decide) ao cap w1 (HS.out.onw G1.out) HZ2.out).mono ?_; rintro e2 w2 ⟨rfl, f2⟩
      have F2 := Lib.hid (F1.out.trans f2)
      clear f2
      go_wp2
      go_ret
      exact ⟨ret_str HT.out.symm, F2.out⟩
    · have HT := Lib.hid (show bs (texX (.mk 8 n d s l)) = ⟨#[91]⟩ ++ bs (texL [44, 32] l) ++ ⟨#[93]⟩ from by rw [tex_of' HOK.out]; rw [bs_3]; rfl)
      have e9 : texX (.mk 8 n d s l) = 91 :: (texL [44, 32] l ++ [93]) := by rw [tex_of' HOK.out]; rfl
      have hz2 : (texL [44, 32] l).length ≤ 1000000 := by have := HB.out; rw [e9, List.length_cons, List.length_append] at this; omega
      have HZ2 := Lib.hid hz2
      clear e9
      have hz := bs_size (texL [44, 32] l)
      have hz4 : ((⟨#[91]⟩ : ByteArray) ++ bs (texL [44, 32] l)).size = 1 + (texL [44, 32] l).length := by rw [bs_2, bs_size, List.length_cons]; omega
      go_enter Tryz.func58, Tryz.ntmps58
      go_upto_region 1 with fail
      clear hW
      go_wp2_with fail
      go_at_call 76; refine HV.out.mono ?_; rintro e1 w1 ⟨rfl, f1⟩
      have F1 := Lib.hid (HF.out.trans f1.b)
      have G1 := Lib.hid (show Fuw W w1 from f1.b)
      replace c0 := cellOnw f1.b c0; replace c1 := cellOnw f1.b c1; replace c2 := cellOnw f1.b c2; replace c3 := cellOnw f1.b c3; replace c4 := cellOnw f1.b c4
      clear f1 HV
      go_wp2_with fail
      go_at_call 100; refine (HJ2.out [44, 32] (by decide) ao cap w1 (HS.out.onw G1.out) HZ2.out).mono ?_; rintro e2 w2 ⟨rfl, f2⟩
      have F2 := Lib.hid (F1.out.trans f2)
      clear f2
      go_wp2
      go_ret
      exact ⟨ret_str HT.out.symm, F2.out⟩
mutual
theorem rtxt_all : ∀ x : Vl, RtAt x
  | .mk k n d s l => rtxt_by (.mk k n d s l) (fun s2 h2 ao cap w hs hb => rjoin_by s2 h2 l (rtxt_list l) ao cap w hs hb)
theorem rtxt_list : ∀ l : List Vl, ∀ x ∈ l, RtAt x
  | [], _, h => by cases h
  | v :: r, x, h => (List.mem_cons.1 h).elim (fun e => e ▸ rtxt_all v) (fun e => rtxt_list r x e)
end
end Go.Proofs.YtfbijdoomkgodaaGreatDoor
