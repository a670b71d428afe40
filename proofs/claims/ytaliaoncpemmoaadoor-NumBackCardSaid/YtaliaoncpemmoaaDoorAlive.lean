/-
  The worked examples of the chapter hold: the function alive of the statements' package returns true. Condition: in the world at the call the library's table of powers of ten and its two error variables read as their initialisers lay them (Good).
-/
import Derived.Test.YtaliaoncpemmoaaDoorText
namespace Go.Proofs.YtaliaoncpemmoaaDoor
open Go.RowKit

/-- From w0 to w nothing that was there has turned, and the listed variables read as laid. -/
structure On (w0 w : World) : Prop where
  good : Good w
  fur : Fur w0 w
theorem On.on {w0 w w' : World} (h : On w0 w) (hb : Fur w w') : On w0 w' := ⟨h.good.on hb, h.fur.trans hb⟩

theorem text_on (n : Int) (h0 : -9223372036854775808 ≤ n) (h1 : n ≤ 9223372036854775807) {w0 w : World} (O : On w0 w) :
    Calls Tryd.prog 27 #[.int .i64 n] w fun e w' => e = .returned (.string (txt n)) ∧ On w0 w' :=
  (text_any n h0 h1 w O.good).mono fun _ _ ⟨he, hf⟩ => ⟨he, O.on hf⟩
theorem parse_on (s : ByteArray) (hlim : s.size ≤ 281474976710656) {w0 w : World} (O : On w0 w) :
    Calls Tryd.prog 25 #[.string s] w fun e w' => e = .returned (.tuple #[.int .i64 (parV s), .bool (parB s)]) ∧ On w0 w' :=
  (parse_any s hlim w O.good).mono fun _ _ ⟨he, hf⟩ => ⟨he, O.on hf⟩
theorem gcd_on (a b : Int) {w0 w : World} (O : On w0 w) :
    Calls Tryd.prog 20 #[.int .i64 a, .int .i64 b] w fun e w' => e = .returned (.int .i64 (gcdV a b)) ∧ On w0 w' :=
  (gcd_any a b w).mono fun _ _ ⟨he, hf⟩ => ⟨he, O.on hf⟩

theorem txt_120 : txt (-120) = ⟨#[45, 49, 50, 48]⟩ := by
  unfold txt Lib.itoa
  rw [if_pos (by decide), show (-120 : Int).natAbs = 120 from rfl, Lib.decDigits, dif_neg (by decide), Lib.decDigits_two (by decide) (by decide)]
  rfl
theorem txt_5 : txt (-5) = ⟨#[45, 53]⟩ := by
  unfold txt Lib.itoa
  rw [if_pos (by decide), show (-5 : Int).natAbs = 5 from rfl, Lib.decDigits_one (by decide)]
  rfl
theorem txt_0 : txt 0 = ⟨#[48]⟩ := by
  unfold txt Lib.itoa
  rw [if_neg (by decide), show (0 : Int).toNat = 0 from rfl, Lib.decDigits_one (by decide)]
  rfl
theorem par_5 : okOf (Lib.atoiAll (⟨#[45, 53]⟩ : ByteArray).data.toList) = some (-5) := by decide +kernel
theorem par_0 : okOf (Lib.atoiAll (⟨#[45, 48]⟩ : ByteArray).data.toList) = some 0 := by decide +kernel
theorem ne_0 : ((⟨#[48]⟩ : ByteArray).toList == (⟨#[45, 48]⟩ : ByteArray).toList) = false := by decide +kernel
theorem parV_5 : parV ⟨#[45, 53]⟩ = -5 := by unfold parV; rw [par_5]; simp only [txt_5]; simp [inB]
theorem parB_5 : parB ⟨#[45, 53]⟩ = true := by unfold parB; rw [par_5]; simp only [txt_5]; simp [inB]
theorem parB_0 : parB ⟨#[45, 48]⟩ = false := by unfold parB; rw [par_0]; simp only [txt_0, ne_0]; simp

set_option maxRecDepth 100000 in
theorem alive_on {w0 w : World} (O : On w0 w) : Calls Tryd.prog 24 #[] w fun e w' => e = .returned (.bool true) ∧ On w0 w' := by
  have a1 : addV 2 3 = 5 := by decide
  have a2 : addB 2 3 = true := by decide
  have a3 : addV 1000000000000000 1 = 0 := by decide
  have a4 : addB 1000000000000000 1 = false := by decide
  have a5 : divV (-7) 2 = -3 := by decide
  have a6 : dvB (-7) 2 = true := by decide
  have a7 : modV (-7) 2 = -1 := by decide
  have a8 : mulV 100000000 10000000 = 1000000000000000 := by decide
  have a9 : mulB 100000000 10000000 = true := by decide
  have b1 := parV_5
  have b2 := parB_5
  have b3 := parB_0
  have b4 : gcdV 12 (-18) = 6 := by decide +kernel
  have b5 := txt_120
  have b6 : inB 1000000000000000 = true := by decide
  have b7 : inB (-1000000000000001) = false := by decide
  go_enter Tryd.func24, Tryd.ntmps24
  go_wp2_with (first
    | (go_at_call 9; refine (add_any _ _ _).mono ?_; rintro e w' ⟨rfl, rfl⟩)
    | (go_at_call 12; refine (div_any _ _ _).mono ?_; rintro e w' ⟨rfl, rfl⟩)
    | (go_at_call 13; refine (mod_any _ _ _).mono ?_; rintro e w' ⟨rfl, rfl⟩)
    | (go_at_call 11; refine (mul_any _ _ _).mono ?_; rintro e w' ⟨rfl, rfl⟩)
    | (go_at_call 25; refine (parse_on _ (by decide) (by assumption)).mono ?_; rintro e w' ⟨rfl, O⟩)
    | (go_at_call 20; refine (gcd_on _ _ (by assumption)).mono ?_; rintro e w' ⟨rfl, O⟩)
    | (go_at_call 27; refine (text_on _ (by decide) (by decide) (by assumption)).mono ?_; rintro e w' ⟨rfl, O⟩)
    | (go_at_call 22; refine (in_any _ _).mono ?_; rintro e w' ⟨rfl, rfl⟩))
  go_ret
  exact ⟨rfl, by assumption⟩
end Go.Proofs.YtaliaoncpemmoaaDoor
