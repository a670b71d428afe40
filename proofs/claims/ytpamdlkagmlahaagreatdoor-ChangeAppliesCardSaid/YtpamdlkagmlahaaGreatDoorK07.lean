/-
  M13; M14: texts of one kind in one file; each part says what it holds.
-/
import Derived.Test.YtpamdlkagmlahaaGreatDoorK02
import Derived.Test.YtpamdlkagmlahaaGreatDoorK01
import Derived.Test.YtpamdlkagmlahaaGreatDoorK00
import Derived.Laws.IdiomStrings
import Derived.Lib.ItoaLen
import Derived.Lib.Hide
import Derived.Deep.RegionHeld3
import Derived.Test.YtpamdlkagmlahaaGreatDoorShelf
import Derived.FnData

namespace Go.Proofs.YtpamdlkagmlahaaGreatDoor
open Go.RowKit
theorem bx2' (w : World) (x y : Vl) (ao bo : Option Addr) (ca cb : Nat) :
    Bx ((w.alloc (.cells #[.int .i64 x.kd, .int .i64 x.nn, .int .i64 x.dd, .string (bs x.ss), .slice ao x.ll.length ca] 28)).alloc (.cells #[.int .i64 y.kd, .int .i64 y.nn, .int .i64 y.dd, .string (bs y.ss), .slice bo y.ll.length cb] 28)) w.heap.size x ao ca ∧
    Bx ((w.alloc (.cells #[.int .i64 x.kd, .int .i64 x.nn, .int .i64 x.dd, .string (bs x.ss), .slice ao x.ll.length ca] 28)).alloc (.cells #[.int .i64 y.kd, .int .i64 y.nn, .int .i64 y.dd, .string (bs y.ss), .slice bo y.ll.length cb] 28)) (w.heap.size + 1) y bo cb ∧
    Fur w ((w.alloc (.cells #[.int .i64 x.kd, .int .i64 x.nn, .int .i64 x.dd, .string (bs x.ss), .slice ao x.ll.length ca] 28)).alloc (.cells #[.int .i64 y.kd, .int .i64 y.nn, .int .i64 y.dd, .string (bs y.ss), .slice bo y.ll.length cb] 28)) := by
  obtain ⟨p0, f0⟩ := bx1 w x ao ca
  have s0 : (w.alloc (.cells #[.int .i64 x.kd, .int .i64 x.nn, .int .i64 x.dd, .string (bs x.ss), .slice ao x.ll.length ca] 28)).heap.size = w.heap.size + 1 := by simp
  generalize w.alloc (.cells #[.int .i64 x.kd, .int .i64 x.nn, .int .i64 x.dd, .string (bs x.ss), .slice ao x.ll.length ca] 28) = w1 at *
  obtain ⟨p1, f1⟩ := bx1 w1 y bo cb
  rw [s0] at p1
  exact ⟨p0.on f1, p1, f0.trans f1⟩
theorem ordL_drop (l l' : List Vl) (i : Nat) (h : i < l.length) (h' : i < l'.length) : ordL (l.drop i) (l'.drop i) = thn (ordV l[i] l'[i]) (ordL (l.drop (i + 1)) (l'.drop (i + 1))) := by
  rw [List.drop_eq_getElem_cons h, List.drop_eq_getElem_cons h']
  simp only [ordL]
theorem ordL_more (l l' : List Vl) (i : Nat) (h : i < l.length) (h' : l'.length ≤ i) : ordL (l.drop i) (l'.drop i) = 1 := by
  rw [List.drop_eq_getElem_cons h, List.drop_of_length_le h']
  simp only [ordL]
theorem ordL_less (l l' : List Vl) (i : Nat) (h : l.length ≤ i) (h' : i < l'.length) : ordL (l.drop i) (l'.drop i) = -1 := by
  rw [List.drop_eq_getElem_cons h', List.drop_of_length_le h]
  simp only [ordL]
theorem ordL_fin (l l' : List Vl) (i : Nat) (h : l.length ≤ i) (h' : l'.length ≤ i) : ordL (l.drop i) (l'.drop i) = 0 := by
  rw [List.drop_of_length_le h', List.drop_of_length_le h]
  simp only [ordL]
def CmpAt (g : Nat) (x y : Vl) : Prop := ∀ (ao bo : Option Addr) (ca cb : Nat) (w : World), Vin x → Vin y → SlV w ao x.ll ca → SlV w bo y.ll cb → Calls Tryz.prog g #[vlv x ao ca, vlv y bo cb] w (RetI w (ordV x y))
set_option maxHeartbeats 3200000 in
set_option maxRecDepth 100000 in
theorem lcf_valid (l l' : List Vl) (hO : ∀ x, x ∈ l → ∀ y, y ∈ l' → CmpAt 96 x y) (ao bo : Option Addr) (ca cb : Nat) (w : World) (hs : SlV w ao l ca) (hs' : SlV w bo l' cb) :
    Calls Tryz.prog 136 #[.slice ao l.length ca, .slice bo l'.length cb, .func (.func 96) #[] #[]] w (RetI w (ordL l l')) := by
  have HO := Lib.hid hO
  have HS := Lib.hid hs
  have HS' := Lib.hid hs'
  have h1 := hs.le
  have h2 := hs.max
  have h3 := hs'.le
  have h4 := hs'.max
  unfold maxLen at h2 h4
  clear hs hs' hO
  go_enter Tryz.func136, Tryz.ntmps136
  go_wp2
  go_loopw [13] (fun iv wr => ∃ i : Nat, iv = .int .i64 i ∧ i ≤ l.length ∧ i ≤ l'.length ∧ Hid (ordL l l' = ordL (l.drop i) (l'.drop i)) ∧ Fur w wr) (fun iv _ => l.length - (RowKit.intOf iv).toNat)
  case atStart => exact ⟨0, rfl, Nat.zero_le _, Nat.zero_le _, rfl, Fur.refl _⟩
  case round =>
    obtain ⟨i, rfl, hi, hi', HN, hf⟩ := hrel
    by_cases hlt : i < l.length
    · obtain ⟨b, o, rfl, hv⟩ := (HS.out.on hf).get hlt
      by_cases hlt' : i < l'.length
      · obtain ⟨b', o', rfl, hv'⟩ := (HS'.out.on hf).get hlt'
        have hA := ordL_drop l l' i hlt hlt'
        have hm := HO.out l[i] (List.getElem_mem hlt) l'[i] (List.getElem_mem hlt')
        obtain ⟨hy, c0, c1, c2, c3, a1, k1, c4, hs2⟩ := VC_of hv
        obtain ⟨hy', d0, d1, d2, d3, a2, k2, d4, hs2'⟩ := VC_of hv'
        obtain ⟨p0, p1, f0⟩ := bx2' wr l[i] l'[i] a1 a2 k1 k2
        have fx := (bx1 wr l[i] a1 k1).2
        replace d0 := cellOn fx d0; replace d1 := cellOn fx d1; replace d2 := cellOn fx d2; replace d3 := cellOn fx d3; replace d4 := cellOn fx d4
        clear fx
        have HC := Lib.hid (fun w' (hf' : Fur wr w') => hm a1 a2 k1 k2 w' hy hy' (hs2.on hf') (hs2'.on hf'))
        have HE := Lib.hid (HN.out.trans hA)
        unfold vlv at HC
        clear hv hv' hs2 hs2' hy hy' hA hm HN
        generalize l[i] = x at *
        generalize l'[i] = y at *
        generalize ordV x y = r at *
        have m0 := p0.c0; have m1 := p0.c1; have m2 := p0.c2; have m3 := p0.c3; have m4 := p0.c4
        go_wp2_with fail
        go_at_call 96; refine (HC.out _ f0).mono ?_; rintro e1 w1 ⟨rfl, f1⟩
        have ff : Fur wr w1 := f0.trans f1
        by_cases hr : r = 0
        · subst hr
          go_wp2
          go_roundw
          case rel => exact ⟨i + 1, by go_num, by omega, by omega, HE.out, hf.trans ff⟩
          case measure => simp [RowKit.intOf]; omega
        · have hr' : (r != 0) = true := by rw [bne_iff_ne]; exact hr
          have HF := Lib.hid (HE.out.trans (thn_n hr _))
          clear hr
          go_wp2
          go_ret
          exact ⟨ret_int HF.out.symm, hf.trans ff⟩
      · have HE := Lib.hid (HN.out.trans (ordL_more l l' i hlt (by omega)))
        obtain ⟨hy, c0, c1, c2, c3, a1, k1, c4, hs2⟩ := VC_of hv
        obtain ⟨p0, f0⟩ := bx1 wr l[i] a1 k1
        have g : (l'.length : Int) ≤ i := by omega
        clear hv hs2 hy
        generalize l[i] = x at *
        go_wp2
        go_ret
        exact ⟨ret_int HE.out.symm, hf.trans f0⟩
    · by_cases hlt' : i < l'.length
      · have HE := Lib.hid (HN.out.trans (ordL_less l l' i (by omega) hlt'))
        have g : (l.length : Int) < l'.length := by omega
        go_wp2
        go_ret
        exact ⟨ret_int HE.out.symm, hf⟩
      · have HE := Lib.hid (HN.out.trans (ordL_fin l l' i (by omega) (by omega)))
        have g : ¬ (l.length : Int) < l'.length := by omega
        go_wp2
        go_ret
        exact ⟨ret_int HE.out.symm, hf⟩
set_option maxHeartbeats 3200000 in
set_option maxRecDepth 100000 in
theorem lcf_order (l l' : List Vl) (hO : ∀ x, x ∈ l → ∀ y, y ∈ l' → CmpAt 59 x y) (ao bo : Option Addr) (ca cb : Nat) (w : World) (hs : SlV w ao l ca) (hs' : SlV w bo l' cb) :
    Calls Tryz.prog 136 #[.slice ao l.length ca, .slice bo l'.length cb, .func (.func 59) #[] #[]] w (RetI w (ordL l l')) := by
  have HO := Lib.hid hO
  have HS := Lib.hid hs
  have HS' := Lib.hid hs'
  have h1 := hs.le
  have h2 := hs.max
  have h3 := hs'.le
  have h4 := hs'.max
  unfold maxLen at h2 h4
  clear hs hs' hO
  go_enter Tryz.func136, Tryz.ntmps136
  go_wp2
  go_loopw [13] (fun iv wr => ∃ i : Nat, iv = .int .i64 i ∧ i ≤ l.length ∧ i ≤ l'.length ∧ Hid (ordL l l' = ordL (l.drop i) (l'.drop i)) ∧ Fur w wr) (fun iv _ => l.length - (RowKit.intOf iv).toNat)
  case atStart => exact ⟨0, rfl, Nat.zero_le _, Nat.zero_le _, rfl, Fur.refl _⟩
  case round =>
    obtain ⟨i, rfl, hi, hi', HN, hf⟩ := hrel
    by_cases hlt : i < l.length
    · obtain ⟨b, o, rfl, hv⟩ := (HS.out.on hf).get hlt
      by_cases hlt' : i < l'.length
      · obtain ⟨b', o', rfl, hv'⟩ := (HS'.out.on hf).get hlt'
        have hA := ordL_drop l l' i hlt hlt'
        have hm := HO.out l[i] (List.getElem_mem hlt) l'[i] (List.getElem_mem hlt')
        obtain ⟨hy, c0, c1, c2, c3, a1, k1, c4, hs2⟩ := VC_of hv
        obtain ⟨hy', d0, d1, d2, d3, a2, k2, d4, hs2'⟩ := VC_of hv'
        obtain ⟨p0, p1, f0⟩ := bx2' wr l[i] l'[i] a1 a2 k1 k2
        have fx := (bx1 wr l[i] a1 k1).2
        replace d0 := cellOn fx d0; replace d1 := cellOn fx d1; replace d2 := cellOn fx d2; replace d3 := cellOn fx d3; replace d4 := cellOn fx d4
        clear fx
        have HC := Lib.hid (fun w' (hf' : Fur wr w') => hm a1 a2 k1 k2 w' hy hy' (hs2.on hf') (hs2'.on hf'))
        have HE := Lib.hid (HN.out.trans hA)
        unfold vlv at HC
        clear hv hv' hs2 hs2' hy hy' hA hm HN
        generalize l[i] = x at *
        generalize l'[i] = y at *
        generalize ordV x y = r at *
        have m0 := p0.c0; have m1 := p0.c1; have m2 := p0.c2; have m3 := p0.c3; have m4 := p0.c4
        go_wp2_with fail
        go_at_call 59; refine (HC.out _ f0).mono ?_; rintro e1 w1 ⟨rfl, f1⟩
        have ff : Fur wr w1 := f0.trans f1
        by_cases hr : r = 0
        · subst hr
          go_wp2
          go_roundw
          case rel => exact ⟨i + 1, by go_num, by omega, by omega, HE.out, hf.trans ff⟩
          case measure => simp [RowKit.intOf]; omega
        · have hr' : (r != 0) = true := by rw [bne_iff_ne]; exact hr
          have HF := Lib.hid (HE.out.trans (thn_n hr _))
          clear hr
          go_wp2
          go_ret
          exact ⟨ret_int HF.out.symm, hf.trans ff⟩
      · have HE := Lib.hid (HN.out.trans (ordL_more l l' i hlt (by omega)))
        obtain ⟨hy, c0, c1, c2, c3, a1, k1, c4, hs2⟩ := VC_of hv
        obtain ⟨p0, f0⟩ := bx1 wr l[i] a1 k1
        have g : (l'.length : Int) ≤ i := by omega
        clear hv hs2 hy
        generalize l[i] = x at *
        go_wp2
        go_ret
        exact ⟨ret_int HE.out.symm, hf.trans f0⟩
    · by_cases hlt' : i < l'.length
      · have HE := Lib.hid (HN.out.trans (ordL_less l l' i (by omega) hlt'))
        have g : (l.length : Int) < l'.length := by omega
        go_wp2
        go_ret
        exact ⟨ret_int HE.out.symm, hf⟩
      · have HE := Lib.hid (HN.out.trans (ordL_fin l l' i (by omega) (by omega)))
        have g : ¬ (l.length : Int) < l'.length := by omega
        go_wp2
        go_ret
        exact ⟨ret_int HE.out.symm, hf⟩
end Go.Proofs.YtpamdlkagmlahaaGreatDoor
namespace Go.Proofs.YtpamdlkagmlahaaGreatDoor
open Go.RowKit
open Go.Lib (decDigits)
def txt (n : Int) : ByteArray := ⟨(Lib.itoa n).toArray⟩
theorem txt_size (n : Int) (h0 : -9223372036854775808 ≤ n) (h1 : n ≤ 9223372036854775807) : (txt n).size ≤ 21 := by
  have k := Lib.itoa_length_le n h0 h1
  show (Lib.itoa n).toArray.size ≤ 21
  simpa using k
def pre (u : Nat) : List UInt8 := if u = 0 then [] else decDigits u
def fracTxt (n d : Int) : ByteArray := if d = 1 then txt n else txt n ++ ⟨#[47]⟩ ++ txt d
def texV (n d : Int) : ByteArray := if okF n d = true then fracTxt n d else ⟨#[]⟩
end Go.Proofs.YtpamdlkagmlahaaGreatDoor
namespace Go.Proofs.YtpamdlkagmlahaaGreatDoor
open Go.RowKit
theorem var_on {P : Program} {w w' : World} {n : String} {cs : Array Value} (h : w.var? P n = some cs) (hb : Fuw w w') : w'.var? P n = some cs := by
  unfold World.var? at *
  cases hg : P.globalNamed n with
  | none => simp [hg] at h
  | some g =>
    simp only [hg, Option.bind_some] at h ⊢
    have hlt : g < w.heap.size := by
      rcases Nat.lt_or_ge g w.heap.size with h' | h'
      · exact h'
      · rw [Array.getElem?_eq_none h'] at h; simp at h
    rw [Below.block hb g hlt]
    exact h
theorem fur_grow0 (w : World) (k : Nat) (os : Array Obj) : Fur w (Go.Sort.grow (w.drewN k) os) :=
  ⟨⟨rfl, rfl, rfl, by show w.heap.size ≤ (w.heap ++ os).size; rw [Array.size_append]; omega, fun j hj => by
    show (w.heap ++ os)[j]? = w.heap[j]?
    rw [Array.getElem?_append_left hj]⟩, Nat.le_add_right _ _⟩
end Go.Proofs.YtpamdlkagmlahaaGreatDoor
namespace Go.Proofs.YtpamdlkagmlahaaGreatDoor
open Go.RowKit Go.Shelf
theorem wbox3 (w : World) (a b c d e f : Int) :
    WBox (((w.alloc (.cells #[.int .u64 a, .int .u64 b] 195)).alloc (.cells #[.int .u64 c, .int .u64 d] 195)).alloc (.cells #[.int .u64 e, .int .u64 f] 195)) w.heap.size a b ∧
    WBox (((w.alloc (.cells #[.int .u64 a, .int .u64 b] 195)).alloc (.cells #[.int .u64 c, .int .u64 d] 195)).alloc (.cells #[.int .u64 e, .int .u64 f] 195)) (w.heap.size + 1) c d ∧
    WBox (((w.alloc (.cells #[.int .u64 a, .int .u64 b] 195)).alloc (.cells #[.int .u64 c, .int .u64 d] 195)).alloc (.cells #[.int .u64 e, .int .u64 f] 195)) (w.heap.size + 1 + 1) e f ∧
    Fur w (((w.alloc (.cells #[.int .u64 a, .int .u64 b] 195)).alloc (.cells #[.int .u64 c, .int .u64 d] 195)).alloc (.cells #[.int .u64 e, .int .u64 f] 195)) := by
  obtain ⟨p0, f0⟩ := wbox1 w a b
  have s0 : (w.alloc (.cells #[.int .u64 a, .int .u64 b] 195)).heap.size = w.heap.size + 1 := by simp
  generalize w.alloc (.cells #[.int .u64 a, .int .u64 b] 195) = w1 at *
  obtain ⟨p1, f1⟩ := wbox1 w1 c d
  have s1 : (w1.alloc (.cells #[.int .u64 c, .int .u64 d] 195)).heap.size = w.heap.size + 1 + 1 := by simp [s0]
  rw [s0] at p1
  generalize w1.alloc (.cells #[.int .u64 c, .int .u64 d] 195) = w2 at *
  obtain ⟨p2, f2⟩ := wbox1 w2 e f
  rw [s1] at p2
  exact ⟨(p0.on f1).on f2, p1.on f2, p2, (f0.trans f1).trans f2⟩
theorem plus_hi (A B : Int) : (hiW A + hiW B + (loW A + loW B) / 18446744073709551616) % 18446744073709551616 = hiW (A + B) := by unfold hiW loW; omega
theorem plus_lo (A B : Int) : (loW A + loW B) % 18446744073709551616 = loW (A + B) := by unfold loW; omega
set_option maxHeartbeats 800000 in
theorem plus_any (A B : Int) (w : World) :
    Calls Tryz.prog 188 #[.agg #[.int .u64 (hiW A), .int .u64 (loW A)], .agg #[.int .u64 (hiW B), .int .u64 (loW B)]] w (RetV w (A + B)) := by
  obtain ⟨p0, p1, p2, f0⟩ := wbox3 w (hiW A) (loW A) (hiW B) (loW B) 0 0
  have c00 := p0.c0
  have c01 := p0.c1
  have c10 := p1.c0
  have c11 := p1.c1
  have z20 := p2.f0 0
  have z21 := p2.f0 1
  have HH := Lib.hid (plus_hi A B)
  have HL := Lib.hid (plus_lo A B)
  have a0 := hiW_0 A; have a1 := hiW_1 A; have a2 := loW_0 A; have a3 := loW_1 A
  have b0 := hiW_0 B; have b1 := hiW_1 B; have b2 := loW_0 B; have b3 := loW_1 B
  have k0 : 0 ≤ (loW A + loW B) / 18446744073709551616 := by omega
  have k1 : (loW A + loW B) / 18446744073709551616 ≤ 1 := by omega
  generalize hiW A = ha at *
  generalize loW A = la at *
  generalize hiW B = hb at *
  generalize loW B = lb at *
  go_enter Tryz.func188, Tryz.ntmps188
  go_wp2_with (first | simp only [add64_0 la lb a2 b2 a3 b3] | simp only [add64 ha hb _ a0 b0 k0 k1 a1 b1])
  exact w_ret_at rfl rfl (by simp) (((Fur.refl w).alloc _).alloc _) HH.out HL.out
theorem or_word {A : Int} : bits .or .u64 (hiW A) (loW A) = (((hiW A).toNat ||| (loW A).toNat : Nat) : Int) := by
  have a0 := hiW_0 A; have a1 := hiW_1 A; have a2 := loW_0 A; have a3 := loW_1 A
  have e1 : hiW A = (((hiW A).toNat : Nat) : Int) := by omega
  have e2 : loW A = (((loW A).toNat : Nat) : Int) := by omega
  have k := bits_or_u64_nat (hiW A).toNat (loW A).toNat (by omega) (by omega)
  rw [← e1, ← e2] at k
  exact k
theorem or_nz {A : Int} (h : 0 < A) (l1 : A < 1000000000000000000000000000000000000) : (bits .or .u64 (hiW A) (loW A) == 0) = false := by
  rw [or_word, beq_eq_false_iff_ne]
  intro e
  have e' : (hiW A).toNat ||| (loW A).toNat = 0 := by omega
  rw [Nat.or_eq_zero_iff] at e'
  have a0 := hiW_0 A; have a2 := loW_0 A
  unfold hiW loW at *
  omega
set_option maxHeartbeats 800000 in
theorem sign_any (A : Int) (l0 : -1000000000000000000000000000000000000 < A) (l1 : A < 1000000000000000000000000000000000000) (w : World) :
    Calls Tryz.prog 189 #[.agg #[.int .u64 (hiW A), .int .u64 (loW A)]] w (RetI w A.sign) := by
  obtain ⟨p0, f0⟩ := wbox1 w (hiW A) (loW A)
  have c00 := p0.c0
  have c01 := p0.c1
  have FF := Lib.hid f0
  clear f0 p0
  have a0 := hiW_0 A; have a1 := hiW_1 A; have a2 := loW_0 A; have a3 := loW_1 A
  rcases Int.lt_trichotomy A 0 with h | h | h
  · have k : (hiW A / 9223372036854775808 == 1) = true := by rw [beq_iff_eq]; unfold hiW; omega
    rw [Int.sign_eq_neg_one_of_neg h]
    clear h l0 l1
    generalize hiW A = ha at *
    generalize loW A = la at *
    go_enter Tryz.func189, Tryz.ntmps189
    go_wp2
    go_ret
    exact ⟨rfl, FF.out⟩
  · subst h
    have k : (hiW 0 / 9223372036854775808 == 1) = false := rfl
    have k2 : (bits .or .u64 (hiW 0) (loW 0) == 0) = true := rfl
    rw [show Int.sign 0 = 0 from rfl]
    generalize hiW 0 = ha at *
    generalize loW 0 = la at *
    go_enter Tryz.func189, Tryz.ntmps189
    go_wp2
    go_ret
    exact ⟨rfl, FF.out⟩
  · have k : (hiW A / 9223372036854775808 == 1) = false := by rw [beq_eq_false_iff_ne]; unfold hiW; omega
    have k2 := or_nz h l1
    rw [Int.sign_eq_one_of_pos h]
    clear h l0 l1
    generalize hiW A = ha at *
    generalize loW A = la at *
    go_enter Tryz.func189, Tryz.ntmps189
    go_wp2
    go_ret
    exact ⟨rfl, FF.out⟩
end Go.Proofs.YtpamdlkagmlahaaGreatDoor
namespace Go.Proofs.YtpamdlkagmlahaaGreatDoor
open Go.RowKit
theorem WBox.put {W : World} {B : Nat} {a b : Int} (h : WBox W B a b) (n d : Int) : WBox ((W.setCell ⟨B, 0, none⟩ (.int .u64 n)).setCell ⟨B, 1, none⟩ (.int .u64 d)) B n d := by
  unfold WBox at *
  simp [World.setCell, Array.getElem?_modify, h]
theorem mul_bound {x p : Int} (a : -1000000000000000 ≤ x) (b : x ≤ 1000000000000000) (c : 0 ≤ p) (d : p ≤ 1000000000000000) : (x * p).natAbs ≤ 1000000000000000000000000000000 := by
  rw [Int.natAbs_mul]
  have k := Nat.mul_le_mul (show x.natAbs ≤ 1000000000000000 by omega) (show p.natAbs ≤ 1000000000000000 by omega)
  omega
theorem keep4 {v v' : World} {p0 p1 p2 p3 : Addr} {x0 x1 x2 x3 : Value} (hf : Fur v v') (h0 : v.cell? p0 = some x0) (h1 : v.cell? p1 = some x1) (h2 : v.cell? p2 = some x2) (h3 : v.cell? p3 = some x3) :
    Fur v v' ∧ v'.cell? p0 = some x0 ∧ v'.cell? p1 = some x1 ∧ v'.cell? p2 = some x2 ∧ v'.cell? p3 = some x3 := ⟨hf, cellOn hf h0, cellOn hf h1, cellOn hf h2, cellOn hf h3⟩
end Go.Proofs.YtpamdlkagmlahaaGreatDoor
namespace Go.Proofs.YtpamdlkagmlahaaGreatDoor
open Go.RowKit
theorem cmp_fz (an ad bn bd : Int) : (ozN an ad * ozD bn bd + -ozN bn bd * ozD an ad).sign = cmpQ (fz an ad) (fz bn bd) := by
  obtain ⟨o1, e1⟩ := oz_ok an ad
  obtain ⟨o2, e2⟩ := oz_ok bn bd
  have d1 := o1.d1; have d2 := o2.d1
  obtain ⟨D1, h1⟩ : ∃ D1 : Nat, ozD an ad = (D1 : Int) := ⟨(ozD an ad).toNat, by omega⟩
  obtain ⟨D2, h2⟩ : ∃ D2 : Nat, ozD bn bd = (D2 : Int) := ⟨(ozD bn bd).toNat, by omega⟩
  rw [h1] at o1 e1 ⊢
  rw [h2] at o2 e2 ⊢
  rw [cmp_sign o1 o2, e1, e2]
set_option maxHeartbeats 1600000 in
set_option maxRecDepth 100000 in
theorem nf_cmp (an ad bn bd : Int) (w : World) :
    Calls Tryz.prog 134 #[.agg #[.int .i64 an, .int .i64 ad], .agg #[.int .i64 bn, .int .i64 bd]] w (RetI w (cmpQ (fz an ad) (fz bn bd))) := by
  obtain ⟨p0, p1, f0⟩ := box2 w an ad bn bd
  have hne : ¬ (w.heap.size = w.heap.size + 1) := by omega
  have hne2 : ¬ (w.heap.size + 1 = w.heap.size) := by omega
  rw [← cmp_fz]
  have o1 := (oz_ok an ad).1
  have o2 := (oz_ok bn bd).1
  have E1 := Lib.hid (fun w => orZero_any an ad w)
  have E2 := Lib.hid (fun w => orZero_any bn bd w)
  obtain ⟨W, hW⟩ : ∃ W, ((w.alloc (.cells #[.int .i64 an, .int .i64 ad] 122)).alloc (.cells #[.int .i64 bn, .int .i64 bd] 122)) = W := ⟨_, rfl⟩
  go_enter Tryz.func134, Tryz.ntmps134
  go_upto_region 1 with fail
  rw [hW] at p0 p1 f0
  clear hW
  have ff : Fur W W.drew := Fur.drew (Fur.refl W)
  replace p0 : Box W.drew w.heap.size an ad := p0.on ff
  replace p1 : Box W.drew (w.heap.size + 1) bn bd := p1.on ff
  have k00 := p0.c0
  have k01 := p0.c1
  have k10 := p1.c0
  have k11 := p1.c1
  go_cut [] from 5 to 8 (fun wx => Box wx w.heap.size (ozN an ad) (ozD an ad) ∧ Box wx (w.heap.size + 1) (ozN bn bd) (ozD bn bd) ∧ Fur w wx)
  case first =>
    go_region_with (first
        | (go_at_call 186; refine (orZero_any _ _ _).mono ?_; rintro e w4 ⟨rfl, f4⟩
           replace ff := ff.trans f4
           replace p0 := p0.on f4; replace p1 := p1.on f4
           have k00 := p0.c0; have k01 := p0.c1; have k10 := p1.c0; have k11 := p1.c1; have z00 := p0.f0 0; have z01 := p0.f0 1; have z10 := p1.f0 0; have z11 := p1.f0 1))
    all_goals (go_wp2_with fail; go_meet)
    all_goals (exact ⟨(p0.put _ _).other (by omega) _ _, (p1.other (by omega) _ _).put _ _, fur_put (fur_put (f0.trans ff) (by omega) _ _) (by omega) _ _⟩)
  case rest =>
    clear ff k00 k01 k10 k11 p0 p1 f0 E1 E2
    obtain ⟨p0, p1, f0⟩ := hcut
    generalize ozN an ad = N1 at *
    generalize ozD an ad = D1 at *
    generalize ozN bn bd = N2 at *
    generalize ozD bn bd = D2 at *
    have a1 := o1.d1; have a2 := o1.d2; have a3 := o1.n1; have a4 := o1.n2
    have b1 := o2.d1; have b2 := o2.d2; have b3 := o2.n1; have b4 := o2.n2
    have t1 := mul_bound a3 a4 (show 0 ≤ D2 by omega) b2
    have t2 := mul_bound (x := -N2) (by omega) (by omega) (show 0 ≤ D1 by omega) a2
    have l0 : -1000000000000000000000000000000000000 < N1 * D2 + -N2 * D1 := by omega
    have l1 : N1 * D2 + -N2 * D1 < 1000000000000000000000000000000000000 := by omega
    have L := Lib.hid (And.intro l0 l1)
    have wN : IntKind.i64.wrap (-N2) = -N2 := IntWalk.i64_in (-N2) (by omega)
    have wN' : wrap64 (-N2) = -N2 := IntWalk.wrap64_in (-N2) (by omega)
    clear t1 t2 o1 o2 l0 l1
    have c00 := p0.c0
    have c01 := p0.c1
    have c10 := p1.c0
    have c11 := p1.c1
    have ff : Fur wc wc.drew := Fur.drew (Fur.refl wc)
    go_upto_region 2 with fail
    go_region_held3 (fun w' => Fur wc w' ∧ w'.cell? ⟨w.heap.size, 0, none⟩ = some (.int .i64 N1) ∧ w'.cell? ⟨w.heap.size, 1, none⟩ = some (.int .i64 D1) ∧ w'.cell? ⟨w.heap.size + 1, 0, none⟩ = some (.int .i64 N2) ∧ w'.cell? ⟨w.heap.size + 1, 1, none⟩ = some (.int .i64 D2))
      (first
        | exact keep4 ff c00 c01 c10 c11)
      (first
        | (go_at_call 187; refine (product_any _ _ ?_ ?_ ?_ ?_ _).mono ?_; omega; omega; omega; omega; rintro e w4 ⟨rfl, f4⟩; replace ff := ff.trans f4)
        | (go_at_call 188; refine (plus_any _ _ _).mono ?_; rintro e w5 ⟨rfl, f5⟩; replace ff := ff.trans f5)
        | (go_at_call 189; refine (sign_any _ L.out.1 L.out.2 _).mono ?_; rintro e w6 ⟨rfl, f6⟩; replace ff := ff.trans f6))
    go_wp2
    go_ret
    exact ⟨rfl, f0.trans ff⟩
end Go.Proofs.YtpamdlkagmlahaaGreatDoor

namespace Go.Proofs.YtpamdlkagmlahaaGreatDoor
open Go.Lib (decDigits)
end Go.Proofs.YtpamdlkagmlahaaGreatDoor
namespace Go.Proofs.YtpamdlkagmlahaaGreatDoor
open Go.Lib (decDigits)
def dbl : List UInt8 → List UInt8
 | [] => []
 | c :: r => if c = 39 then 39 :: 39 :: dbl r else c :: dbl r
mutual
def texX : Vl → List UInt8
 | .mk k n d s l =>
  if okX (.mk k n d s l) = false then [63]
  else if k = 1 then (if n = 1 then [116, 114, 117, 101] else [102, 97, 108, 115, 101])
  else if k = 2 then Lib.itoa n
  else if k = 3 then Lib.itoa n ++ 47 :: Lib.itoa d
  else if k = 4 then 39 :: (dbl s ++ [39])
  else if k = 5 then 35 :: Lib.itoa n
  else if k = 6 then 64 :: Lib.itoa n
  else if k = 8 then 91 :: (texL [44, 32] l ++ [93])
  else if k = 7 then 60 :: (texL [32] l ++ [62])
  else [110, 117, 108, 108]
def texL (by_ : List UInt8) : List Vl → List UInt8
 | [] => []
 | x :: r => texX x ++ texR by_ r
def texR (by_ : List UInt8) : List Vl → List UInt8
 | [] => []
 | x :: r => by_ ++ (texX x ++ texR by_ r)
end
mutual
theorem ok_mono : ∀ (v : Vl) (m m' : Nat), m ≤ m' → okV m v = true → okV m' v = true
 | .mk k n d s l, m, m', h, g => by
  have ih := oks_mono l (m - 1) (m' - 1) (by omega)
  unfold okV at g ⊢
  by_cases h7 : k = 7
  ·rw [if_pos h7] at g ⊢; exact g
  rw [if_neg h7] at g ⊢
  by_cases h8 : k = 8
  ·rw [if_pos h8] at g ⊢
   simp only [Bool.and_eq_true, decide_eq_true_eq] at g ⊢
   exact ⟨⟨⟨g.1.1.1, by omega⟩, g.1.2⟩, ih g.2⟩
  rw [if_neg h8] at g ⊢
  exact g
theorem oks_mono : ∀ (l : List Vl) (m m' : Nat), m ≤ m' → okVs m l = true → okVs m' l = true
 | [], _, _, _, _ => by unfold okVs; rfl
 | v :: r, m, m', h, g => by
  unfold okVs at g ⊢
  rw [Bool.and_eq_true] at g ⊢
  exact ⟨ok_mono v m m' h g.1, oks_mono r m m' h g.2⟩
end
def AllOk (l : List Vl) : Prop := ∀ v, v ∈ l → okX v = true
theorem all_s : ∀ {l : List Vl} {m : Nat}, m ≤ 8 → okVs m l = true → AllOk l
 | [], _, _, _ => fun v h => by cases h
 | x :: r, m, hm, g => by
  unfold okVs at g
  rw [Bool.and_eq_true] at g
  intro v hv
  rcases List.mem_cons.1 hv with e | e
  ·rw [e]; exact ok_mono x m 8 hm g.1
  ·exact all_s hm g.2 v e
theorem all_p : ∀ {l : List Vl} {b : Bool}, okVp b l = true → AllOk l
 | [], _, _ => fun v h => by cases h
 | x :: r, b, g => by
  unfold okVp at g
  rw [Bool.and_eq_true, Bool.and_eq_true] at g
  intro v hv
  rcases List.mem_cons.1 hv with e | e
  ·rw [e]; exact ok_mono x 0 8 (by decide) g.1.2
  ·exact all_p g.2 v e
theorem kinds {k n d : Int} {s : List UInt8} {l : List Vl} (h : okX (.mk k n d s l) = true) :
  (k = 0 ∧ n = 0 ∧ d = 0 ∧ s = [] ∧ l = []) ∨ (k = 1 ∧ (n = 0 ∨ n = 1) ∧ d = 0 ∧ s = [] ∧ l = []) ∨
  (k = 2 ∧ (-1000000000000000 ≤ n ∧ n ≤ 1000000000000000) ∧ d = 0 ∧ s = [] ∧ l = []) ∨ (k = 3 ∧ okF n d = true ∧ 2 ≤ d ∧ s = [] ∧ l = []) ∨
  (k = 4 ∧ n = 0 ∧ d = 0 ∧ l = []) ∨ (k = 5 ∧ (1 ≤ n ∧ n ≤ 1000000) ∧ d = 0 ∧ s = [] ∧ l = []) ∨ (k = 6 ∧ (1 ≤ n ∧ n ≤ 1000000) ∧ d = 0 ∧ s = [] ∧ l = []) ∨
  (k = 7 ∧ n = 0 ∧ d = 0 ∧ s = [] ∧ AllOk l) ∨ (k = 8 ∧ n = 0 ∧ d = 0 ∧ s = [] ∧ AllOk l) := by
 unfold okX okV at h
 by_cases h7 : k = 7
 ·rw [if_pos h7] at h
  rw [Bool.and_eq_true] at h
  have a := all_p h.2
  have h := h.1
  simp [bareV] at h
  obtain ⟨⟨⟨⟨e1, e2⟩, e3⟩, -⟩, -⟩ := h
  exact .inr (.inr (.inr (.inr (.inr (.inr (.inr (.inl ⟨h7, e1, e2, e3, a⟩)))))))
 rw [if_neg h7] at h
 by_cases h8 : k = 8
 ·rw [if_pos h8] at h
  rw [Bool.and_eq_true] at h
  have a := all_s (by decide) h.2
  have h := h.1
  simp [bareV] at h
  obtain ⟨⟨⟨e1, e2⟩, e3⟩, -⟩ := h
  exact .inr (.inr (.inr (.inr (.inr (.inr (.inr (.inr ⟨h8, e1, e2, e3, a⟩)))))))
 rw [if_neg h8] at h
 unfold okFlat at h
 by_cases h0 : k = 0
 ·rw [if_pos h0] at h
  simp [bareV] at h
  obtain ⟨⟨⟨e0, e1⟩, e2⟩, e3⟩ := h
  exact .inl ⟨h0, e0, e1, e2, e3⟩
 rw [if_neg h0] at h
 by_cases h1 : k = 1
 ·rw [if_pos h1] at h
  simp [bareV] at h
  obtain ⟨⟨⟨e1, e2⟩, e3⟩, e4⟩ := h
  exact .inr (.inl ⟨h1, e4, e1, e2, e3⟩)
 rw [if_neg h1] at h
 by_cases h2 : k = 2
 ·rw [if_pos h2] at h
  simp [bareV] at h
  obtain ⟨⟨⟨e1, e2⟩, e3⟩, e4⟩ := h
  exact .inr (.inr (.inl ⟨h2, e4, e1, e2, e3⟩))
 rw [if_neg h2] at h
 by_cases h3 : k = 3
 ·rw [if_pos h3] at h
  simp [bareV] at h
  obtain ⟨⟨⟨e2, e3⟩, e4⟩, e5⟩ := h
  exact .inr (.inr (.inr (.inl ⟨h3, e5, e4, e2, e3⟩)))
 rw [if_neg h3] at h
 by_cases h4 : k = 4
 ·rw [if_pos h4] at h
  simp [bareV] at h
  obtain ⟨⟨⟨e1, e2⟩, e3⟩, -⟩ := h
  exact .inr (.inr (.inr (.inr (.inl ⟨h4, e1, e2, e3⟩))))
 rw [if_neg h4] at h
 by_cases h5 : k = 5 ∨ k = 6
 ·rw [if_pos h5] at h
  simp [bareV] at h
  obtain ⟨⟨⟨⟨e1, e2⟩, e3⟩, e4⟩, e5⟩ := h
  rcases h5 with h5 | h5
  ·exact .inr (.inr (.inr (.inr (.inr (.inl ⟨h5, ⟨e4, e5⟩, e1, e2, e3⟩)))))
  ·exact .inr (.inr (.inr (.inr (.inr (.inr (.inl ⟨h5, ⟨e4, e5⟩, e1, e2, e3⟩))))))
 ·rw [if_neg h5] at h
  cases h
theorem tex_of {k n d : Int} {s : List UInt8} {l : List Vl} (h : okX (.mk k n d s l) = true) : texX (.mk k n d s l) =
  if k = 1 then (if n = 1 then [116, 114, 117, 101] else [102, 97, 108, 115, 101])
  else if k = 2 then Lib.itoa n
  else if k = 3 then Lib.itoa n ++ 47 :: Lib.itoa d
  else if k = 4 then 39 :: (dbl s ++ [39])
  else if k = 5 then 35 :: Lib.itoa n
  else if k = 6 then 64 :: Lib.itoa n
  else if k = 8 then 91 :: (texL [44, 32] l ++ [93])
  else if k = 7 then 60 :: (texL [32] l ++ [62])
  else [110, 117, 108, 108] := by
 rw [texX, if_neg (by rw [h]; decide)]
end Go.Proofs.YtpamdlkagmlahaaGreatDoor
