/-
  Package nat: Text gives the decimal digits of the number of a slice of int. For every slice of int; nothing that was there turns. Condition: in the world at the call the library's table of powers of ten reads as its initialiser lays it (Good).
-/
import Derived.Test.YtebmkbfbfmnbbaaDoorNatC
import Derived.Test.YtebmkbfbfmnbbaaDoorNatParM
import Derived.Test.YtebmkbfbfmnbbaaDoorShelf
import Derived.FnData
namespace Go.Proofs.YtebmkbfbfmnbbaaDoor
open Go.RowKit
open Go.Lib (decDigits)

theorem var_on {P : Program} {w w' : World} {n : String} {cs : Array Value} (h : w.var? P n = some cs) (hb : Fur w w') : w'.var? P n = some cs := by
  unfold World.var? at *
  cases hg : P.globalNamed n with
  | none => simp [hg] at h
  | some g =>
    simp only [hg, Option.bind_some] at h ⊢
    have hlt : g < w.heap.size := by
      rcases Nat.lt_or_ge g w.heap.size with h' | h'
      · exact h'
      · rw [Array.getElem?_eq_none h'] at h; simp at h
    rw [Below.block hb g hlt]
    exact h
/-- The listed variable that is read reads as laid. -/
structure Good (w : World) : Prop where
  tab : Lib.TabIs Tryd.prog w "internal/strconv.uint64pow10" .u64 Lib.pow10Tab
theorem Good.on {w w' : World} (h : Good w) (hb : Fur w w') : Good w' := ⟨var_on h.tab hb⟩
theorem fur_grow (w : World) (k : Nat) (os : Array Obj) : Fur w (Go.Sort.grow (w.drewN k) os) :=
  ⟨rfl, rfl, rfl, by show w.heap.size ≤ (w.heap ++ os).size; rw [Array.size_append]; omega, fun j hj => by
    show (w.heap ++ os)[j]? = w.heap[j]?
    rw [Array.getElem?_append_left hj]⟩

theorem nDig9 : ∀ (k u : Nat), u < 10 ^ (k + 1) → Lib.nDigits u ≤ k + 1
  | 0, u, h => by rw [Lib.nDigits_small (by simpa using h)]; exact Nat.le_refl _
  | k + 1, u, h => by
    by_cases h1 : u < 10
    · rw [Lib.nDigits_small h1]; omega
    · rw [Lib.nDigits_big h1]
      have h2 : u / 10 < 10 ^ (k + 1) := by rw [Nat.pow_succ] at h; omega
      have := nDig9 k (u / 10) h2
      omega
theorem dec_len9 {z : Nat} (h : z < 1000000000) : (decDigits z).length ≤ 9 := by
  rw [Lib.decDigits_length]; exact nDig9 8 z h
theorem dv_zeros : ∀ k, dv (List.replicate k 48) = 0
  | 0 => rfl
  | k + 1 => by
    have e : List.replicate (k + 1) (48 : UInt8) = [48] ++ List.replicate k 48 := rfl
    rw [e, dv_app, dv_zeros k]
    have e2 : dv [48] = 0 := by decide
    rw [e2, Nat.zero_mul]
/-- A number's digits and, nine at a time, a limb's. -/
theorem dec_pad {n z : Nat} (hn : n ≠ 0) (hz : z < 1000000000) : decDigits (z + 1000000000 * n) = decDigits n ++ List.replicate (9 - (decDigits z).length) 48 ++ decDigits z := by
  have hl := dec_len9 hz
  have hA : AllD (decDigits n ++ List.replicate (9 - (decDigits z).length) 48 ++ decDigits z) := by
    intro c hc
    rcases List.mem_append.1 hc with g | g
    · rcases List.mem_append.1 g with g | g
      · exact allD_dec n c g
      · rw [List.eq_of_mem_replicate g]; decide
    · exact allD_dec z c g
  have hv : dv (decDigits n ++ List.replicate (9 - (decDigits z).length) 48 ++ decDigits z) = z + 1000000000 * n := by
    rw [List.append_assoc, dv_app, dv_dec, dv_app, dv_dec, dv_zeros, List.length_append, List.length_replicate, show 9 - (decDigits z).length + (decDigits z).length = 9 by omega]
    omega
  rw [← hv, dec_of hA (by simp [dec_ne n]) ?_]
  rintro ⟨-, h⟩
  rw [List.append_assoc, List.head?_append] at h
  cases hd : (decDigits n).head? with
  | none => exact dec_ne n (List.head?_eq_none_iff.1 hd)
  | some c =>
    rw [hd] at h
    have e : c = 48 := Option.some.inj h
    rw [e] at hd
    exact hn (dec_head n hd)
/-- What is written once the limbs from k on have been written. -/
def tx (x : List Int) (k : Nat) : List UInt8 := if k < x.length then decDigits (vl (x.drop k)) else []
theorem tx_first {x : List Int} {k : Nat} {z : Nat} (hk : k + 1 = x.length) (hz : x.getD k 0 = (z : Int)) : tx x (k + 1) ++ decDigits z = tx x k := by
  unfold tx
  rw [if_neg (by omega), if_pos (by omega), drop_one, hz, List.drop_of_length_le (by omega)]
  have e : (z : Int).toNat + 1000000000 * vl [] = z := by simp [vl]
  rw [e]
  rfl
theorem drop_pos {x : List Int} (hd : Digs x) (hc : lim (vl x) = x) {k : Nat} (hk : k < x.length) : vl (x.drop k) ≠ 0 := by
  intro h0
  have hl : x.getLast? ≠ some 0 := by rw [← hc]; exact last_lim' _
  have e := lim_vl (digs_drop hd k) (by
    rw [List.getLast?_drop, if_neg (by omega)]
    exact hl)
  rw [h0, lim_0] at e
  have := congrArg List.length e
  simp at this
  omega
theorem tx_next {x : List Int} (hd : Digs x) (hc : lim (vl x) = x) {k : Nat} {z : Nat} (hk : k + 1 < x.length) (hz : x.getD k 0 = (z : Int)) : tx x (k + 1) ++ List.replicate (9 - (decDigits z).length) 48 ++ decDigits z = tx x k := by
  unfold tx
  have hz1 := (digs_at hd k (by omega)).2
  rw [hz] at hz1
  rw [if_pos hk, if_pos (by omega), ← dec_pad (drop_pos hd hc hk) (by omega), drop_one x k, hz, show (z : Int).toNat = z by omega]

theorem builder_on {T e : TypeId} {B b : Nat} {bs : List Value} {w w' : World} (h : Lib.IsBuilderF T e B b bs w) (hf : Fur w w') : Lib.IsBuilderF T e B b bs w' := by
  have at_ : ∀ {k : Nat} {o : Obj}, w.heap[k]? = some o → w'.heap[k]? = some o := fun {k o} hk => by
    have hlt : k < w.heap.size := by
      rcases Nat.lt_or_ge k w.heap.size with g | g
      · exact g
      · rw [Array.getElem?_eq_none g] at hk; cases hk
    rw [Below.block hf k hlt]; exact hk
  have go : ∀ {p : Value}, Lib.BuilderAtF T e B b p bs w → Lib.BuilderAtF T e B b p bs w' := fun {p} ⟨hB, v, hb, hown, hne⟩ => by
    refine ⟨hB, v, at_ hb, ⟨hown.1, ?_⟩, hne⟩
    rcases hown.2 with h0 | ⟨g, cap, cur, fz, hv, hg, hh, rest⟩
    · exact .inl h0
    · exact .inr ⟨g, cap, cur, fz, hv, hg, at_ hh, rest⟩
  rcases h with h | h
  · exact .inl (go h)
  · exact .inr (go h)

theorem zeros_any (m : Int) (h0 : 0 ≤ m) (h9 : m ≤ 9) (w : World) :
    Calls Tryd.prog 45 #[.string ⟨#[48]⟩, .int .i64 m] w fun e w' => ∃ Z : ByteArray, e = .returned (.string Z) ∧ Hid (Z.size = m.toNat ∧ Z.data.toList = List.replicate m.toNat 48) ∧ Fur w w' := by
  obtain ⟨c, rfl⟩ : ∃ c : Nat, m = (c : Int) := ⟨m.toNat, by omega⟩
  have k := Tryd.strings_Repeat ⟨#[48]⟩ c w (by omega) (by
    have e : (⟨#[48]⟩ : ByteArray).size = 1 := rfl
    rw [e]; omega)
  have e : Lib.repeatL (⟨#[48]⟩ : ByteArray).data.toList c = List.replicate c 48 := by
    have g := Lib.repeatL_replicate 48 1 c
    rw [Nat.mul_one] at g
    exact g
  rw [e] at k
  refine k.mono fun e w' ⟨he, hb⟩ => ⟨_, he, ⟨?_, ?_⟩, hb⟩
  · show (List.replicate c (48 : UInt8)).toArray.size = _
    simp
  · show (List.replicate c (48 : UInt8)).toArray.toList = _
    simp

set_option maxHeartbeats 1600000 in
theorem nat_text (ao : Option Addr) (a : List Int) (ca : Nat) (w : World) (ha : IsS w ao a ca) (G : Good w) :
    Calls Tryd.prog 29 #[.slice ao a.length ca] w (RetT w (natTxt (nv a))) := by
  obtain ⟨x, hx⟩ := num_of a
  have lx := hx.len
  by_cases hz : x.length = 0
  · have e0 : x = [] := List.length_eq_zero_iff.1 hz
    subst e0
    have hn : nv a = 0 := by rw [← hx.val]; rfl
    have e : natTxt (nv a) = ⟨#[48]⟩ := by rw [hn]; unfold natTxt; rw [Lib.decDigits_one (by decide)]; rfl
    rw [e]; clear e hn hz
    go_enter Tryd.func29, Tryd.ntmps29
    go_wp2_with fail
    go_at_call 33; refine (zero_get hx _ _ _ ha).mono ?_; rintro e w1 ⟨ao1, c1, rfl, h1, f1⟩
    go_wp2
    go_ret
    exact ⟨rfl, f1⟩
  have hl0 : 0 < x.length := by omega
  have hne : ((x.length : Int) == 0) = false := by rw [beq_eq_false_iff_ne]; omega
  clear hz
  go_enter Tryd.func29, Tryd.ntmps29
  go_wp2_with fail
  go_at_call 33; refine (zero_get hx _ _ _ ha).mono ?_; rintro e w1 ⟨ao1, c1, rfl, h1, f1⟩
  have hB0 : Lib.IsBuilderF 47 5 w1.heap.size w1.heap.size (Lib.byteCells []) (w1.alloc (.cells #[.pointer none, .slice none 0 0] 47)) := Lib.IsBuilderF.of (Lib.fresh_isBuilder 47 5 w1)
  have hf0 : Fur w1 (w1.alloc (.cells #[.pointer none, .slice none 0 0] 47)) := (Fur.refl w1).alloc _
  go_wp2
  go_loopw [4] (fun ii wr => ∃ (j : Int) (l : List UInt8), ii = .int .i64 j ∧ -1 ≤ j ∧ j < x.length ∧ Hid (l = tx x (j + 1).toNat) ∧ l.length + 9 * (j + 1).toNat ≤ 576 ∧ Lib.IsBuilderF 47 5 w1.heap.size w1.heap.size (Lib.byteCells l) wr ∧ Fur w1 wr) (fun ii _ => (RowKit.intOf ii + 1).toNat)
  case atStart => exact ⟨_, [], rfl, by omega, by omega, (by
    show [] = tx x _
    unfold tx
    rw [if_neg (by omega)]), by simp; omega, hB0, hf0⟩
  case round =>
    clear hB0 hf0
    obtain ⟨j, l, rfl, j0, j1, HL, hlen, hBl, hf⟩ := hrel
    by_cases hj : j = -1
    · subst hj
      have HE := Lib.hid (show (⟨l.toArray⟩ : ByteArray) = natTxt (nv a) by
        have h := HL.out
        rw [h, ← hx.val]
        unfold natTxt tx
        have e : ((-1 : Int) + 1).toNat = 0 := rfl
        rw [e, if_pos hl0, List.drop_zero])
      clear hlen
      go_wp2_with fail
      go_at_call 46; refine (Tryd.Builder_String_any_f w1.heap.size w1.heap.size l _ hBl hf.size).mono ?_; rintro e w5 ⟨rfl, -, b5⟩
      go_wp2
      go_ret
      exact ⟨ret_str HE.out, f1.trans (Below.trans hf b5)⟩
    · obtain ⟨k, rfl⟩ : ∃ k : Nat, j = (k : Int) := ⟨j.toNat, by omega⟩
      have hk : k < x.length := by omega
      have ek : ((k : Int) + 1).toNat = k + 1 := by omega
      rw [ek] at HL hlen
      obtain ⟨b1, o1, rfl, _, cc⟩ := (h1.on hf).at_ (by omega)
      have hc := cc k hk
      have hzd := digs_at hx.digs k hk
      obtain ⟨z, hz⟩ : ∃ z : Nat, x.getD k 0 = (z : Int) := ⟨(x.getD k 0).toNat, by omega⟩
      rw [hz] at hc hzd
      have hz1 : z < 1000000000 := by omega
      have hd9 := dec_len9 hz1
      obtain ⟨D, hD⟩ : ∃ D : ByteArray, D = ⟨(Lib.itoa (z : Int)).toArray⟩ := ⟨_, rfl⟩
      have hDl : D.data.toList = decDigits z := by
        rw [hD]
        unfold Lib.itoa
        rw [if_neg (by omega), show (z : Int).toNat = z by omega]
      have hDs : D.size = (decDigits z).length := by rw [← hDl]; exact Array.length_toList.symm
      have CI := Lib.hid (show Calls Tryd.prog 43 #[.int .i64 z] wr fun e w' => e = .returned (.string D) ∧ Fur wr w' from by
        rw [hD]
        exact (Tryd.strconv_Itoa z (by omega) (by omega) wr ((G.on f1).on hf).tab).mono fun e w' ⟨he, q, os, hw⟩ => ⟨he, hw ▸ fur_grow _ _ _⟩)
      have hds : D.size ≤ 9 := by omega
      have H1 := Lib.hid (fun (h : k + 1 = x.length) => tx_first h hz)
      have H2 := Lib.hid (fun (h : k + 1 < x.length) => tx_next hx.digs hx.can h hz)
      rw [← hDs, ← hDl] at H2
      rw [← hDl] at H1
      clear hD hDl hDs hz hd9 cc hzd ek hj
      have kl : (k : Int) < x.length := by omega
      by_cases hlast : k + 1 = x.length
      · have HT := Lib.hid (H1.out hlast)
        have hcond : ¬ ((k : Int) < (x.length : Int) - 1) := by omega
        have hge : (x.length : Int) - 1 ≤ k := by omega
        have HLA := Lib.hid hlast
        clear H1 H2 hlast hcond
        go_wp2_with fail
        go_at_call 43; refine CI.out.mono ?_; rintro e w2 ⟨rfl, f2⟩
        go_wp2_with fail
        go_at_call 44; refine (Tryd.write_f w1.heap.size w1.heap.size _ D _ (builder_on hBl f2) (by rw [Lib.byteCells_length]; omega) (hf.trans f2).size).mono ?_; rintro e w3 ⟨rfl, g3, b3⟩
        have hB3 : Lib.IsBuilderF 47 5 w1.heap.size w1.heap.size (Lib.byteCells (l ++ D.data.toList)) w3 := by
          rw [Lib.strCells_eq, ← Lib.byteCells_append] at g3
          exact Or.inr g3
        clear g3
        have hf3 : Fur w1 w3 := Below.trans (hf.trans f2) b3
        go_wp2
        go_roundw
        case rel => exact ⟨_, _, rfl, by omega, by omega, (by
            have e : ((k : Int) - 1 + 1).toNat = k := by omega
            show _ = tx x _
            rw [e, HL.out]; exact HT.out), (by
            have e : ((k : Int) - 1 + 1).toNat = k := by omega
            have e2 : D.data.toList.length = D.size := Array.length_toList
            rw [e, List.length_append, e2]; omega), hB3, hf3⟩
        case measure => simp [RowKit.intOf]
      · have HT := Lib.hid (H2.out (by omega))
        have hlt : (k : Int) < (x.length : Int) - 1 := by omega
        clear H1 H2 hlast
        go_wp2_with fail
        go_at_call 43; refine CI.out.mono ?_; rintro e w2 ⟨rfl, f2⟩
        go_wp2_with fail
        go_at_call 45; refine (zeros_any _ (by omega) (by omega) _).mono ?_; rintro e w3 ⟨Z, rfl, HZ, f3⟩
        have hzs : Z.size ≤ 9 := by have := HZ.out.1; omega
        have HZS := Lib.hid (show Z.size + D.size = 9 by have := HZ.out.1; omega)
        have HZL := Lib.hid (show Z.data.toList = List.replicate (9 - D.size) 48 by rw [HZ.out.2]; congr 1; omega)
        clear HZ
        go_wp2_with fail
        go_at_call 44; refine (Tryd.write_f w1.heap.size w1.heap.size _ Z _ (builder_on hBl (f2.trans f3)) (by rw [Lib.byteCells_length]; omega) ((hf.trans f2).trans f3).size).mono ?_; rintro e w4 ⟨rfl, g4, b4⟩
        have hB4 : Lib.IsBuilderF 47 5 w1.heap.size w1.heap.size (Lib.byteCells (l ++ Z.data.toList)) w4 := by
          rw [Lib.strCells_eq, ← Lib.byteCells_append] at g4
          exact Or.inr g4
        clear g4
        have hf4 : Fur w1 w4 := Below.trans ((hf.trans f2).trans f3) b4
        have hl4 : (l ++ Z.data.toList).length + D.size ≤ l.length + 9 := by
          have e2 : Z.data.toList.length = Z.size := Array.length_toList
          have := HZS.out
          rw [List.length_append, e2]; omega
        obtain ⟨l2, hl2⟩ : ∃ l2, l2 = l ++ Z.data.toList := ⟨_, rfl⟩
        rw [← hl2] at hB4 hl4
        have HL2 := Lib.hid hl2
        clear hl2
        go_wp2_with fail
        go_at_call 44; refine (Tryd.write_f w1.heap.size w1.heap.size _ D _ hB4 (by rw [Lib.byteCells_length]; omega) hf4.size).mono ?_; rintro e w5 ⟨rfl, g5, b5⟩
        have hB5 : Lib.IsBuilderF 47 5 w1.heap.size w1.heap.size (Lib.byteCells (l2 ++ D.data.toList)) w5 := by
          rw [Lib.strCells_eq, ← Lib.byteCells_append] at g5
          exact Or.inr g5
        clear g5
        have hf5 : Fur w1 w5 := Below.trans hf4 b5
        go_wp2
        go_roundw
        case rel => exact ⟨_, _, rfl, by omega, by omega, (by
            have e : ((k : Int) - 1 + 1).toNat = k := by omega
            show _ = tx x _
            rw [e, HL2.out, HZL.out, HL.out]; exact HT.out), (by
            have e : ((k : Int) - 1 + 1).toNat = k := by omega
            have e2 : D.data.toList.length = D.size := Array.length_toList
            rw [e, List.length_append, e2]; omega), hB5, hf5⟩
        case measure => simp [RowKit.intOf]
end Go.Proofs.YtebmkbfbfmnbbaaDoor
