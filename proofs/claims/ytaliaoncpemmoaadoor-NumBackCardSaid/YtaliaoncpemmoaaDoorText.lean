/-
  Text and Parse of package num: Text returns the decimal numeral of every int value; Parse returns the int value in range whose numeral the string is, or zero and false, for every string of at most 281474976710656 bytes. Condition: in the world at the call the library's table of powers of ten and its two error variables read as their initialisers lay them (Good).
-/
import Derived.Test.YtaliaoncpemmoaaDoorGcd
import Derived.Test.YtaliaoncpemmoaaDoorShelf
import Derived.FnData
namespace Go.Proofs.YtaliaoncpemmoaaDoor
open Go.RowKit

theorem var_on {P : Program} {w w' : World} {n : String} {cs : Array Value} (h : w.var? P n = some cs) (hb : Fur w w') : w'.var? P n = some cs := by
  unfold World.var? at *
  cases hg : P.globalNamed n with
  | none => simp [hg] at h
  | some g =>
    simp only [hg, Option.bind_some] at h ⊢
    have hlt : g < w.heap.size := by
      rcases Nat.lt_or_ge g w.heap.size with h' | h'
      · exact h'
      · rw [Array.getElem?_eq_none h'] at h; simp at h
    rw [Below.block hb g hlt]
    exact h

/-- The listed variables read as laid. -/
structure Good (w : World) : Prop where
  tab : Lib.TabIs Tryd.prog w "internal/strconv.uint64pow10" .u64 Lib.pow10Tab
  syn : ∃ tp p, w.var? Tryd.prog "strconv.ErrSyntax" = some #[.iface tp p]
  rng : ∃ tp p, w.var? Tryd.prog "strconv.ErrRange" = some #[.iface tp p]
theorem Good.on {w w' : World} (h : Good w) (hb : Fur w w') : Good w' :=
  ⟨var_on h.tab hb, h.syn.imp fun _ k => k.imp fun _ j => var_on j hb, h.rng.imp fun _ k => k.imp fun _ j => var_on j hb⟩

theorem fur_grow (w : World) (k : Nat) (os : Array Obj) : Fur w (Go.Sort.grow (w.drewN k) os) :=
  ⟨rfl, rfl, rfl, by show w.heap.size ≤ (w.heap ++ os).size; rw [Array.size_append]; omega, fun j hj => by
    show (w.heap ++ os)[j]? = w.heap[j]?
    rw [Array.getElem?_append_left hj]⟩

def txt (n : Int) : ByteArray := ⟨(Lib.itoa n).toArray⟩

theorem text_any (n : Int) (h0 : -9223372036854775808 ≤ n) (h1 : n ≤ 9223372036854775807) (w : World) (G : Good w) :
    Calls Tryd.prog 27 #[.int .i64 n] w fun e w' => e = .returned (.string (txt n)) ∧ Fur w w' := by
  go_enter Tryd.func27, Tryd.ntmps27
  go_wp2_with (go_at_call 35; refine (Tryd.strconv_Itoa n h0 h1 _ G.tab).mono ?_; rintro e w' ⟨rfl, k, os, rfl⟩)
  go_ret
  exact ⟨rfl, fur_grow _ _ _⟩

theorem atoi_ok (s : ByteArray) (hlim : s.size ≤ 281474976710656) (v : Int) (h : Lib.atoiAll s.data.toList = .ok v) (w : World) :
    Calls Tryd.prog 34 #[.string s] w fun e w' => e = .returned (.tuple #[.int .i64 v, .nilIface]) ∧ Fur w w' :=
  (Tryd.strconv_Atoi_ok s (by omega) v h w).mono fun _ _ ⟨he, hw⟩ => ⟨he, by
    rcases hw with rfl | ⟨t, rfl⟩
    · exact Fur.refl _
    · exact Lib.bytesWorld_below _ _ _⟩
def AtoiErr (w : World) (e : Ending) (w' : World) : Prop := ∃ (m : Int) (N : Nat), e = .returned (.tuple #[.int .i64 m, .iface 45 (.pointer (some ⟨N, 0, none⟩))]) ∧ Fur w w'
theorem atoi_no (s : ByteArray) (hlim : s.size ≤ 281474976710656) (h : ∀ v, Lib.atoiAll s.data.toList ≠ .ok v) (w : World) (G : Good w) :
    Calls Tryd.prog 34 #[.string s] w (AtoiErr w) := by
  obtain ⟨ts, ps, hs⟩ := G.syn
  obtain ⟨tr, pr, hr⟩ := G.rng
  exact Tryd.strconv_Atoi_no s hlim h ts tr ps pr w hs hr

def okOf : Lib.NumEnd Int → Option Int
  | .ok v => some v
  | _ => none
def parB (s : ByteArray) : Bool := match okOf (Lib.atoiAll s.data.toList) with
  | some v => inB v && ((txt v).toList == s.toList)
  | none => false
def parV (s : ByteArray) : Int := match okOf (Lib.atoiAll s.data.toList) with
  | some v => if inB v && ((txt v).toList == s.toList) then v else 0
  | none => 0

theorem parse_any (s : ByteArray) (hlim : s.size ≤ 281474976710656) (w : World) (G : Good w) :
    Calls Tryd.prog 25 #[.string s] w fun e w' => e = .returned (.tuple #[.int .i64 (parV s), .bool (parB s)]) ∧ Fur w w' := by
  cases h : okOf (Lib.atoiAll s.data.toList) with
  | none =>
    have h1 : parV s = 0 := by unfold parV; rw [h]
    have h2 : parB s = false := by unfold parB; rw [h]
    rw [h1, h2]; clear h1 h2
    have hn : ∀ v, Lib.atoiAll s.data.toList ≠ .ok v := by intro v hv; rw [hv] at h; cases h
    have HN := Lib.hid hn; clear hn h
    go_enter Tryd.func25, Tryd.ntmps25
    go_wp2_with (go_at_call 34; refine (atoi_no s hlim HN.out _ G).mono ?_; rintro e w' ⟨m, N, rfl, hf⟩)
    go_ret2
    exact ⟨rfl, hf⟩
  | some v =>
    have hv : Lib.atoiAll s.data.toList = .ok v := by
      rcases ha : Lib.atoiAll s.data.toList with u | _ | _
      · rw [ha] at h; simp only [okOf, Option.some.injEq] at h; rw [h]
      · rw [ha] at h; cases h
      · rw [ha] at h; cases h
    obtain ⟨b0, b1⟩ := Lib.atoiAll_bounds hv
    have HV := Lib.hid hv; clear hv
    cases hi : inB v
    · have h1 : parV s = 0 := by unfold parV; rw [h]; simp [hi]
      have h2 : parB s = false := by unfold parB; rw [h]; simp [hi]
      rw [h1, h2]; clear h1 h2 h
      go_enter Tryd.func25, Tryd.ntmps25
      go_wp2_with (first | (go_at_call 34; refine (atoi_ok s hlim v HV.out _).mono ?_; rintro e w' ⟨rfl, hf⟩) | (go_at_call 22; refine (in_any _ _).mono ?_; rintro e w' ⟨rfl, rfl⟩))
      go_ret2
      exact ⟨rfl, hf⟩
    · cases he : ((txt v).toList == s.toList)
      · have h1 : parV s = 0 := by unfold parV; rw [h]; simp [hi, he]
        have h2 : parB s = false := by unfold parB; rw [h]; simp [hi, he]
        rw [h1, h2]; clear h1 h2 h
        go_enter Tryd.func25, Tryd.ntmps25
        go_wp2_with (first | (go_at_call 34; refine (atoi_ok s hlim v HV.out _).mono ?_; rintro e w' ⟨rfl, hf⟩) | (go_at_call 22; refine (in_any _ _).mono ?_; rintro e w' ⟨rfl, rfl⟩) | (go_at_call 27; refine (text_any _ b0 b1 _ (G.on hf)).mono ?_; rintro e w' ⟨rfl, hg⟩))
        go_ret2
        exact ⟨rfl, hf.trans hg⟩
      · have h1 : parV s = v := by unfold parV; rw [h]; simp [hi, he]
        have h2 : parB s = true := by unfold parB; rw [h]; simp [hi, he]
        rw [h1, h2]; clear h1 h2 h
        go_enter Tryd.func25, Tryd.ntmps25
        go_wp2_with (first | (go_at_call 34; refine (atoi_ok s hlim v HV.out _).mono ?_; rintro e w' ⟨rfl, hf⟩) | (go_at_call 22; refine (in_any _ _).mono ?_; rintro e w' ⟨rfl, rfl⟩) | (go_at_call 27; refine (text_any _ b0 b1 _ (G.on hf)).mono ?_; rintro e w' ⟨rfl, hg⟩))
        go_ret2
        exact ⟨rfl, hf.trans hg⟩
end Go.Proofs.YtaliaoncpemmoaaDoor
