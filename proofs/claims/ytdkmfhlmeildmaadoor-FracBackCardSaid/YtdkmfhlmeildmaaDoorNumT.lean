/-
  Package num: Text returns the decimal numeral of every int value; Parse returns the int value in range whose numeral the string is, or zero and false, for every string of at most 281474976710656 bytes. Condition: in the world at the call the library's table of powers of ten and its two error variables read as their initialisers lay them (Good).
-/
import Derived.Test.YtdkmfhlmeildmaaDoorNumA
import Derived.Test.YtdkmfhlmeildmaaDoorFrP
import Derived.Test.YtdkmfhlmeildmaaDoorShelf
import Derived.FnData
namespace Go.Proofs.YtdkmfhlmeildmaaDoor
open Go.RowKit


theorem var_on {P : Program} {w w' : World} {n : String} {cs : Array Value} (h : w.var? P n = some cs) (hb : Fur w w') : w'.var? P n = some cs := by
  unfold World.var? at *
  cases hg : P.globalNamed n with
  | none => simp [hg] at h
  | some g =>
    simp only [hg, Option.bind_some] at h ⊢
    have hlt : g < w.heap.size := by
      rcases Nat.lt_or_ge g w.heap.size with h' | h'
      · exact h'
      · rw [Array.getElem?_eq_none h'] at h; simp at h
    rw [Below.block hb g hlt]
    exact h
/-- The listed variables read as laid. -/
structure Good (w : World) : Prop where
  tab : Lib.TabIs Tryd.prog w "internal/strconv.uint64pow10" .u64 Lib.pow10Tab
  syn : ∃ tp p, w.var? Tryd.prog "strconv.ErrSyntax" = some #[.iface tp p]
  rng : ∃ tp p, w.var? Tryd.prog "strconv.ErrRange" = some #[.iface tp p]
theorem Good.on {w w' : World} (h : Good w) (hb : Fur w w') : Good w' :=
  ⟨var_on h.tab hb, h.syn.imp fun _ k => k.imp fun _ j => var_on j hb, h.rng.imp fun _ k => k.imp fun _ j => var_on j hb⟩
theorem fur_grow (w : World) (k : Nat) (os : Array Obj) : Fur w (Go.Sort.grow (w.drewN k) os) :=
  ⟨rfl, rfl, rfl, by show w.heap.size ≤ (w.heap ++ os).size; rw [Array.size_append]; omega, fun j hj => by
    show (w.heap ++ os)[j]? = w.heap[j]?
    rw [Array.getElem?_append_left hj]⟩
theorem num_text (n : Int) (h0 : -9223372036854775808 ≤ n) (h1 : n ≤ 9223372036854775807) (w : World) (G : Good w) :
    Calls Tryd.prog 53 #[.int .i64 n] w fun e w' => e = .returned (.string (txt n)) ∧ Fur w w' := by
  go_enter Tryd.func53, Tryd.ntmps53
  go_wp2_with (go_at_call 66; refine (Tryd.strconv_Itoa n h0 h1 _ G.tab).mono ?_; rintro e w' ⟨rfl, k, os, rfl⟩)
  go_ret
  exact ⟨rfl, fur_grow _ _ _⟩
theorem atoi_ok (s : ByteArray) (hlim : s.size ≤ 281474976710656) (v : Int) (h : Lib.atoiAll s.data.toList = .ok v) (w : World) :
    Calls Tryd.prog 65 #[.string s] w fun e w' => e = .returned (.tuple #[.int .i64 v, .nilIface]) ∧ Fur w w' :=
  (Tryd.strconv_Atoi_ok s (by omega) v h w).mono fun _ _ ⟨he, hw⟩ => ⟨he, by
    rcases hw with rfl | ⟨t, rfl⟩
    · exact Fur.refl _
    · exact Lib.bytesWorld_below _ _ _⟩
def AtoiErr (w : World) (e : Ending) (w' : World) : Prop := ∃ (m : Int) (N : Nat), e = .returned (.tuple #[.int .i64 m, .iface 85 (.pointer (some ⟨N, 0, none⟩))]) ∧ Fur w w'
theorem atoi_no (s : ByteArray) (hlim : s.size ≤ 281474976710656) (h : ∀ v, Lib.atoiAll s.data.toList ≠ .ok v) (w : World) (G : Good w) :
    Calls Tryd.prog 65 #[.string s] w (AtoiErr w) := by
  obtain ⟨ts, ps, hs⟩ := G.syn
  obtain ⟨tr, pr, hr⟩ := G.rng
  exact Tryd.strconv_Atoi_no s hlim h ts tr ps pr w hs hr
def okOf : Lib.NumEnd Int → Option Int
  | .ok v => some v
  | _ => none
def parB (s : ByteArray) : Bool := match okOf (Lib.atoiAll s.data.toList) with
  | some v => inB v && ((txt v).toList == s.toList)
  | none => false
def parV (s : ByteArray) : Int := match okOf (Lib.atoiAll s.data.toList) with
  | some v => if inB v && ((txt v).toList == s.toList) then v else 0
  | none => 0
theorem num_parse (s : ByteArray) (hlim : s.size ≤ 281474976710656) (w : World) (G : Good w) :
    Calls Tryd.prog 51 #[.string s] w fun e w' => e = .returned (.tuple #[.int .i64 (parV s), .bool (parB s)]) ∧ Fur w w' := by
  cases h : okOf (Lib.atoiAll s.data.toList) with
  | none =>
    have h1 : parV s = 0 := by unfold parV; rw [h]
    have h2 : parB s = false := by unfold parB; rw [h]
    rw [h1, h2]; clear h1 h2
    have hn : ∀ v, Lib.atoiAll s.data.toList ≠ .ok v := by intro v hv; rw [hv] at h; cases h
    have HN := Lib.hid hn; clear hn h
    go_enter Tryd.func51, Tryd.ntmps51
    go_wp2_with (go_at_call 65; refine (atoi_no s hlim HN.out _ G).mono ?_; rintro e w' ⟨m, N, rfl, hf⟩)
    go_ret2
    exact ⟨rfl, hf⟩
  | some v =>
    have hv : Lib.atoiAll s.data.toList = .ok v := by
      rcases ha : Lib.atoiAll s.data.toList with u | _ | _
      · rw [ha] at h; simp only [okOf, Option.some.injEq] at h; rw [h]
      · rw [ha] at h; cases h
      · rw [ha] at h; cases h
    obtain ⟨b0, b1⟩ := Lib.atoiAll_bounds hv
    have HV := Lib.hid hv; clear hv
    cases hi : inB v
    · have h1 : parV s = 0 := by unfold parV; rw [h]; simp [hi]
      have h2 : parB s = false := by unfold parB; rw [h]; simp [hi]
      rw [h1, h2]; clear h1 h2 h
      go_enter Tryd.func51, Tryd.ntmps51
      go_wp2_with (first | (go_at_call 65; refine (atoi_ok s hlim v HV.out _).mono ?_; rintro e w' ⟨rfl, hf⟩) | (go_at_call 33; refine (num_in _ _).mono ?_; rintro e w' ⟨rfl, rfl⟩))
      go_ret2
      exact ⟨rfl, hf⟩
    · cases he : ((txt v).toList == s.toList)
      · have h1 : parV s = 0 := by unfold parV; rw [h]; simp [hi, he]
        have h2 : parB s = false := by unfold parB; rw [h]; simp [hi, he]
        rw [h1, h2]; clear h1 h2 h
        go_enter Tryd.func51, Tryd.ntmps51
        go_wp2_with (first | (go_at_call 65; refine (atoi_ok s hlim v HV.out _).mono ?_; rintro e w' ⟨rfl, hf⟩) | (go_at_call 33; refine (num_in _ _).mono ?_; rintro e w' ⟨rfl, rfl⟩) | (go_at_call 53; refine (num_text _ b0 b1 _ (G.on hf)).mono ?_; rintro e w' ⟨rfl, hg⟩))
        go_ret2
        exact ⟨rfl, hf.trans hg⟩
      · have h1 : parV s = v := by unfold parV; rw [h]; simp [hi, he]
        have h2 : parB s = true := by unfold parB; rw [h]; simp [hi, he]
        rw [h1, h2]; clear h1 h2 h
        go_enter Tryd.func51, Tryd.ntmps51
        go_wp2_with (first | (go_at_call 65; refine (atoi_ok s hlim v HV.out _).mono ?_; rintro e w' ⟨rfl, hf⟩) | (go_at_call 33; refine (num_in _ _).mono ?_; rintro e w' ⟨rfl, rfl⟩) | (go_at_call 53; refine (num_text _ b0 b1 _ (G.on hf)).mono ?_; rintro e w' ⟨rfl, hg⟩))
        go_ret2
        exact ⟨rfl, hf.trans hg⟩
open Go.Lib
theorem parse_append : ∀ (l r : List UInt8) (acc a : Nat), parseUint10 acc l = .ok a → parseUint10 acc (l ++ r) = parseUint10 a r
  | [], r, acc, a, h => by
    simp only [parseUint10] at h
    injection h with h
    rw [h]; rfl
  | c :: l, r, acc, a, h => by
    rw [List.cons_append]
    simp only [parseUint10] at h ⊢
    split at h
    · rename_i hd
      rw [if_pos hd]
      split at h
      · cases h
      · rename_i h1
        rw [if_neg h1]
        split at h
        · cases h
        · rename_i h2
          rw [if_neg h2]
          exact parse_append l r _ a h
    · cases h
theorem digit_nat {u : Nat} (h : u < 10) : (UInt8.ofNat (48 + u)).toNat = 48 + u := by
  rw [UInt8.toNat_ofNat']; omega
theorem parse_one {acc u : Nat} (h : u < 10) (h1 : acc < 1844674407370955162) (h2 : acc * 10 + u < 18446744073709551616) : parseUint10 acc [UInt8.ofNat (48 + u)] = .ok (acc * 10 + u) := by
  simp only [parseUint10, digit_nat h]
  rw [if_pos (by omega), if_neg (by omega), if_neg (by omega)]
  congr 1
  omega
theorem parse_digits (u : Nat) (h : u < 18446744073709551616) : parseUint10 0 (decDigits u) = .ok u := by
  induction u using Nat.strongRecOn with
  | _ u ih =>
    by_cases h1 : u < 10
    · rw [decDigits, dif_pos h1, parse_one h1 (by decide) (by omega)]
      congr 1
      omega
    · rw [decDigits, dif_neg h1, parse_append _ _ 0 (u / 10) (ih (u / 10) (by omega) (by omega)), parse_one (Nat.mod_lt _ (by decide)) (by omega) (by omega)]
      congr 1
      omega
theorem digits_head (u : Nat) : ∃ c r, decDigits u = c :: r ∧ 48 ≤ c.toNat ∧ c.toNat ≤ 57 := by
  induction u using Nat.strongRecOn with
  | _ u ih =>
    by_cases h1 : u < 10
    · refine ⟨_, _, by rw [decDigits, dif_pos h1], ?_, ?_⟩ <;> rw [digit_nat h1] <;> omega
    · obtain ⟨c, r, e, h2, h3⟩ := ih (u / 10) (by omega)
      exact ⟨c, r ++ [UInt8.ofNat (48 + u % 10)], by rw [decDigits, dif_neg h1, e]; rfl, h2, h3⟩
theorem mag_digits (u : Nat) (h : u < 18446744073709551616) : parseMag (decDigits u) = .ok u := by
  obtain ⟨c, r, e, _, _⟩ := digits_head u
  unfold parseMag
  rw [if_neg (by rw [e]; simp), parse_digits u h]

/-- The library's parse gives back the int of which the numeral was made. -/
theorem atoi_itoa (n : Int) (h0 : -9223372036854775808 ≤ n) (h1 : n ≤ 9223372036854775807) : atoiAll (itoa n) = .ok n := by
  by_cases hneg : n < 0
  · have e : itoa n = 45 :: decDigits n.natAbs := by unfold itoa; rw [if_pos hneg]
    have hm := mag_digits n.natAbs (by omega)
    rw [e]
    unfold atoiAll
    have e45 : (45 : UInt8).toNat = 45 := rfl
    simp only [e45, or_true, if_true, hm, not_true_eq_false, false_and, if_false, true_and]
    rw [if_neg (by omega)]
    congr 1
    omega
  · have e : itoa n = decDigits n.toNat := by unfold itoa; rw [if_neg hneg]
    have hm := mag_digits n.toNat (by omega)
    obtain ⟨c, r, hc, c1, c2⟩ := digits_head n.toNat
    rw [e]
    rw [hc] at hm ⊢
    unfold atoiAll
    simp only []
    rw [if_neg (by omega), hm]
    simp only []
    rw [if_neg (by omega), if_neg (by omega), if_neg (by omega)]
    congr 1
    omega

theorem parB_txt (n : Int) (h0 : -9223372036854775808 ≤ n) (h1 : n ≤ 9223372036854775807) : parB (txt n) = inB n := by
  unfold parB; rw [txt_list, atoi_itoa n h0 h1]; simp [okOf]
theorem parV_txt (n : Int) (h0 : -9223372036854775808 ≤ n) (h1 : n ≤ 9223372036854775807) : parV (txt n) = if inB n = true then n else 0 := by
  unfold parV; rw [txt_list, atoi_itoa n h0 h1]; simp [okOf]
theorem parB_t {s : ByteArray} (h : parB s = true) : inB (parV s) = true ∧ ((txt (parV s)).toList == s.toList) = true := by
  unfold parB at h
  unfold parV
  cases hk : okOf (atoiAll s.data.toList) with
  | none => rw [hk] at h; cases h
  | some v =>
    rw [hk] at h
    simp only at h ⊢
    rw [if_pos h]
    simpa using h
end Go.Proofs.YtdkmfhlmeildmaaDoor
