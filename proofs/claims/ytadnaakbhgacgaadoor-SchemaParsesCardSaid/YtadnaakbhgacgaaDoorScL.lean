/-
  Go's CutPrefix; Cut at a space; package schema: the next word (read$1), what stands for a word. Nothing that was there turns but the cell that holds the rest.
-/
import Derived.Test.YtadnaakbhgacgaaDoorScK
import Derived.Lib.CutLaws
namespace Go.Proofs.YtadnaakbhgacgaaDoor
open Go.RowKit
open Go.Lib (itoa join)

theorem cp_in (s p : ByteArray) (w : World) : Calls Tryd.prog 72 #[.string s, .string p] w fun e w' => e = .returned (.tuple #[.string (if Lib.hasPrefix s.data.toList p.data.toList = true then s.extract p.size s.size else s), .bool (Lib.hasPrefix s.data.toList p.data.toList)]) ∧ Fuw w w' := by
  have CP := Lib.hid (fun w => Tryd.stringslite_HasPrefix s p w)
  cases h : Lib.hasPrefix s.data.toList p.data.toList with
  | false =>
    rw [h] at CP
    rw [if_neg Bool.false_ne_true]
    clear h
    go_enter Tryd.func72, Tryd.ntmps72
    go_wp2_with fail
    go_at_call 82; refine (CP.out _).mono ?_; rintro e w1 ⟨rfl, rfl⟩
    go_wp2
    go_ret2
    exact ⟨rfl, Fuw.refl _⟩
  | true =>
    have hl : p.size ≤ s.size := by
      unfold Lib.hasPrefix at h
      have := (List.isPrefixOf_iff_prefix.1 h).length_le
      simpa using this
    rw [h] at CP
    rw [if_pos rfl]
    have c2 : (↑p.size : Int) ≤ ↑s.size := by omega
    clear h
    go_enter Tryd.func72, Tryd.ntmps72
    go_wp2_with fail
    go_at_call 82; refine (CP.out _).mono ?_; rintro e w1 ⟨rfl, rfl⟩
    go_wp2
    go_ret2
    exact ⟨rfl, Fuw.refl _⟩
theorem bs_extract (s : List UInt8) (a b : Nat) : (bs s).extract a b = bs ((s.take b).drop a) := by
  apply ByteArray.ext
  show ((bs s).extract a b).data = ((s.take b).drop a).toArray
  rw [ByteArray.data_extract]
  apply Array.ext'
  simp [bs, List.drop_take]
theorem cutp_any (s p : List UInt8) (w : World) : Calls Tryd.prog 59 #[.string (bs s), .string (bs p)] w fun e w' => e = .returned (.tuple #[.string (bs (if Lib.hasPrefix s p = true then s.drop p.length else s)), .bool (Lib.hasPrefix s p)]) ∧ Fuw w w' := by
  have q := fun w => cp_in (bs s) (bs p) w
  simp only [bs_data, bs_size] at q
  have e : (if Lib.hasPrefix s p = true then (bs s).extract p.length s.length else bs s) = bs (if Lib.hasPrefix s p = true then s.drop p.length else s) := by
    split
    · rw [bs_extract, List.take_length]
    · rfl
  rw [e] at q
  have Q := Lib.hid q
  clear q e
  generalize bs (if Lib.hasPrefix s p = true then s.drop p.length else s) = x at *
  generalize Lib.hasPrefix s p = b at *
  go_enter Tryd.func59, Tryd.ntmps59
  go_wp2_with fail
  go_at_call 72; refine (Q.out _).mono ?_; rintro e w1 ⟨rfl, f1⟩
  go_wp2
  go_ret2
  exact ⟨rfl, f1⟩
/-! Cut at a space. -/
def ctA (s : ByteArray) : ByteArray := if 0 ≤ Lib.indexByte s.data.toList 32 then s.extract 0 (Lib.indexByte s.data.toList 32).toNat else s
def ctB (s : ByteArray) : ByteArray := if 0 ≤ Lib.indexByte s.data.toList 32 then s.extract ((Lib.indexByte s.data.toList 32).toNat + 1) s.size else ⟨#[]⟩
def ctF (s : ByteArray) : Bool := decide (0 ≤ Lib.indexByte s.data.toList 32)
theorem idx_lt {s : ByteArray} {i : Nat} (h : Lib.indexByte s.data.toList 32 = (i : Int)) : i < s.size := by
  obtain ⟨h1, -⟩ := Lib.indexByte_some h
  have := (List.getElem?_eq_some_iff.1 h1).1
  simpa using this
set_option maxHeartbeats 800000 in
theorem scut_any (s : ByteArray) (hs : s.size ≤ maxLen) (w : World) :
    Calls Tryd.prog 73 #[.string s, .string ⟨#[32]⟩] w fun e w' => e = .returned (.tuple #[.string (ctA s), .string (ctB s), .bool (ctF s)]) ∧ Fuw w w' := by
  have CI := Lib.hid (fun w => Tryd.stringslite_Index_one s 32 w)
  by_cases h : 0 ≤ Lib.indexByte s.data.toList 32
  · obtain ⟨i, hi⟩ : ∃ i : Nat, Lib.indexByte s.data.toList 32 = (i : Int) := ⟨(Lib.indexByte s.data.toList 32).toNat, by omega⟩
    have hl := idx_lt hi
    unfold ctA ctB ctF
    rw [hi] at CI ⊢
    rw [if_pos (Int.natCast_nonneg i), if_pos (Int.natCast_nonneg i), decide_eq_true (Int.natCast_nonneg i), Int.toNat_natCast]
    have c1 : (0 : Int) ≤ ↑i := by omega
    have c2 : (↑i : Int) ≤ ↑s.size := by omega
    have c3 : (0 : Int) ≤ ↑i + 1 := by omega
    have c4 : (↑i + 1 : Int) ≤ ↑s.size := by omega
    have hm : s.size ≤ 9223372036854775807 := by unfold maxLen at hs; omega
    clear h hi
    go_enter Tryd.func73, Tryd.ntmps73
    go_wp2_with fail
    go_at_call 83; refine (CI.out _).mono ?_; rintro e w1 ⟨rfl, rfl⟩
    go_wp2
    go_region
    go_wp2
    go_ret3
    exact ⟨rfl, (Fuw.refl _).drew⟩
  · have e : Lib.indexByte s.data.toList 32 = -1 := by have := Lib.indexByte_ge s.data.toList 32; omega
    unfold ctA ctB ctF
    rw [e] at CI ⊢
    rw [if_neg (by decide), if_neg (by decide), decide_eq_false (by decide)]
    clear h e
    go_enter Tryd.func73, Tryd.ntmps73
    go_wp2_with fail
    go_at_call 83; refine (CI.out _).mono ?_; rintro e w1 ⟨rfl, rfl⟩
    go_wp2
    go_ret3
    exact ⟨rfl, Fuw.refl _⟩
theorem cut_any (s : ByteArray) (hs : s.size ≤ maxLen) (w : World) :
    Calls Tryd.prog 61 #[.string s, .string ⟨#[32]⟩] w fun e w' => e = .returned (.tuple #[.string (ctA s), .string (ctB s), .bool (ctF s)]) ∧ Fuw w w' := by
  have CC := Lib.hid (fun w => scut_any s hs w)
  generalize ctA s = a at *
  generalize ctB s = b at *
  generalize ctF s = c at *
  go_enter Tryd.func61, Tryd.ntmps61
  go_wp2_with fail
  go_at_call 73; refine (CC.out _).mono ?_; rintro e w1 ⟨rfl, f1⟩
  go_wp2
  go_ret3
  exact ⟨rfl, f1⟩
theorem take_while : ∀ (l : List UInt8) (i : Nat), l[i]? = some 32 → (∀ j, j < i → l[j]? ≠ some 32) → l.takeWhile (· != 32) = l.take i ∧ l.dropWhile (· != 32) = l.drop i
  | [], i, h, _ => by simp at h
  | c :: r, 0, h, _ => by
    have e : c = 32 := by simpa using h
    subst e; simp
  | c :: r, i + 1, h, hj => by
    have e : (c != 32) = true := by
      have := hj 0 (by omega)
      simp at this; simpa using this
    have ih := take_while r i (by simpa using h) (fun j k => by have := hj (j + 1) (by omega); simpa using this)
    rw [List.takeWhile_cons, List.dropWhile_cons, if_pos e, if_pos e, ih.1, ih.2]
    exact ⟨rfl, rfl⟩
theorem no_while : ∀ (l : List UInt8), (∀ c ∈ l, c ≠ 32) → l.takeWhile (· != 32) = l ∧ l.dropWhile (· != 32) = []
  | [], _ => ⟨rfl, rfl⟩
  | c :: r, h => by
    have e : (c != 32) = true := by simpa using h c (List.mem_cons_self ..)
    have ih := no_while r fun x hx => h x (List.mem_cons_of_mem _ hx)
    rw [List.takeWhile_cons, List.dropWhile_cons, if_pos e, if_pos e, ih.1, ih.2]
    exact ⟨rfl, rfl⟩
theorem ct_of (s : List UInt8) : ctA (bs s) = bs (cutA s) ∧ ctB (bs s) = bs (cutB s) := by
  unfold ctA ctB cutA cutB
  rw [bs_data]
  by_cases h : 0 ≤ Lib.indexByte s 32
  · obtain ⟨i, hi⟩ : ∃ i : Nat, Lib.indexByte s 32 = (i : Int) := ⟨(Lib.indexByte s 32).toNat, by omega⟩
    obtain ⟨h1, h2⟩ := Lib.indexByte_some hi
    obtain ⟨e1, e2⟩ := take_while s i h1 h2
    rw [if_pos h, if_pos h, hi, Int.toNat_natCast, bs_extract, bs_extract, bs_size, List.take_length, e1, e2, List.drop_drop]
    exact ⟨rfl, rfl⟩
  · have e : Lib.indexByte s 32 = -1 := by have := Lib.indexByte_ge s 32; omega
    have h1 := Lib.indexByte_none e
    obtain ⟨e1, e2⟩ := no_while s (fun c hc q => by
      obtain ⟨k, hk⟩ := List.getElem?_of_mem hc
      rw [q] at hk; exact h1 k hk)
    rw [if_neg h, if_neg h, e1, e2]
    exact ⟨rfl, rfl⟩
/-- The next word: it is returned, and what stands behind it is stored in the cell of the rest. -/
def RetN (w : World) (B : Nat) (t : List UInt8) (e : Ending) (w' : World) : Prop := e = .returned (.string (bs (cutA t))) ∧ ∃ w1, Fuw w w1 ∧ w' = w1.setCell ⟨B, 0, none⟩ (.string (bs (cutB t)))
theorem next_any (B : Nat) (t : List UInt8) (ht : t.length ≤ maxLen) (w : World) (h : Bk w B #[.string (bs t)] 9) : Calls Tryd.prog 60 #[.pointer (some ⟨B, 0, none⟩)] w (RetN w B t) := by
  have HC := Lib.hid (fun w' => cut_any (bs t) (by rw [bs_size]; exact ht) w')
  obtain ⟨e1, e2⟩ := ct_of t
  rw [e1, e2] at HC
  clear e1 e2
  have c0 : w.cell? ⟨B, 0, none⟩ = some (.string (bs t)) := h.c 0
  have H := Lib.hid h
  clear h
  unfold RetN
  generalize cutA t = x at *
  generalize cutB t = y at *
  generalize ctF (bs t) = f at *
  go_enter Tryd.func60, Tryd.ntmps60
  go_wp2_with fail
  go_at_call 61; refine (HC.out _).mono ?_; rintro e w1 ⟨rfl, f1⟩
  have d0 := (H.out.on f1).c 0
  have z0 := (H.out.on f1).f 0
  have F1 := Lib.hid f1
  clear f1 c0
  go_wp2
  go_ret
  exact ⟨rfl, _, F1.out, rfl⟩
theorem endO_any (s : List UInt8) (w : World) : Calls Tryd.prog 62 #[.string (bs s)] w (PureT w (bs (endO s))) := by
  unfold endO
  by_cases e : s = [42]
  · subst e
    rw [if_pos rfl]
    show Calls Tryd.prog 62 #[.string ⟨#[42]⟩] w (PureT w ⟨#[]⟩)
    go_enter Tryd.func62, Tryd.ntmps62
    go_wp2
    go_ret
    exact ⟨rfl, rfl⟩
  · rw [if_neg e]
    have e1 : ¬ (bs s).toList = [42] := by rw [bs_list]; exact e
    have e2 : ((bs s).toList == [42]) = false := by rw [bs_list]; simpa using e
    clear e
    go_enter Tryd.func62, Tryd.ntmps62
    go_wp2
    go_ret
    exact ⟨rfl, rfl⟩
theorem kwN_any (s : List UInt8) (w : World) : Calls Tryd.prog 63 #[.string (bs s)] w (PureI w (kwN s)) := by
  unfold kwN
  by_cases e1 : s = [98, 111, 111, 108]
  · subst e1
    rw [if_pos rfl]
    show Calls Tryd.prog 63 #[.string ⟨#[98, 111, 111, 108]⟩] w (PureI w 1)
    go_enter Tryd.func63, Tryd.ntmps63
    go_wp2
    go_ret
    exact ⟨rfl, rfl⟩
  · by_cases e2 : s = [105, 110, 116]
    · subst e2
      show Calls Tryd.prog 63 #[.string ⟨#[105, 110, 116]⟩] w (PureI w 2)
      clear e1
      go_enter Tryd.func63, Tryd.ntmps63
      go_wp2
      go_ret
      exact ⟨rfl, rfl⟩
    · by_cases e3 : s = [115, 116, 114]
      · subst e3
        show Calls Tryd.prog 63 #[.string ⟨#[115, 116, 114]⟩] w (PureI w 4)
        clear e1 e2
        go_enter Tryd.func63, Tryd.ntmps63
        go_wp2
        go_ret
        exact ⟨rfl, rfl⟩
      · rw [if_neg e1, if_neg e2, if_neg e3]
        have f1 : ((bs s).toList == [98, 111, 111, 108]) = false := by rw [bs_list]; simpa using e1
        have f2 : ((bs s).toList == [105, 110, 116]) = false := by rw [bs_list]; simpa using e2
        have f3 : ((bs s).toList == [115, 116, 114]) = false := by rw [bs_list]; simpa using e3
        clear e1 e2 e3
        go_enter Tryd.func63, Tryd.ntmps63
        go_wp2
        go_ret
        exact ⟨rfl, rfl⟩
/-- The int that Atoi gives, whatever its error. -/
def atoV (s : List UInt8) : Int := match Lib.atoiAll s with
  | .ok v => v
  | .range => Lib.atoiSat s
  | _ => 0
theorem ato_any (s : List UInt8) (hl : s.length ≤ 281474976710656) (w : World) (G : Good w) : Calls Tryd.prog 64 #[.string (bs s)] w (fun e w' => ∃ v, e = .returned (.tuple #[.int .i64 (atoV s), v]) ∧ Fuw w w') := by
  unfold atoV
  have hm : (bs s).size ≤ 9223372036854775806 := by rw [bs_size]; omega
  have hl2 : (bs s).size ≤ 281474976710656 := by rw [bs_size]; exact hl
  obtain ⟨t1, p1, h1⟩ := G.e1
  obtain ⟨t2, p2, h2⟩ := G.e2
  rcases h : Lib.atoiAll s with v | _ | _
  · exact (Tryd.strconv_Atoi_ok (bs s) hm v (by rw [bs_data]; exact h) w).mono fun e w' ⟨he, hw⟩ => ⟨_, he, by
      rcases hw with rfl | ⟨t, rfl⟩
      · exact Fuw.refl _
      · exact Lib.bytesWorld_below _ _ _⟩
  · exact (Any.strconv_Atoi_syntax_var Tryd.laysC172 (bs s) hl2 (by rw [bs_data]; exact h) t1 p1 w h1).mono fun e w' ⟨N, he, _, _, hb⟩ => ⟨_, he, hb⟩
  · have q := Tryd.strconv_Atoi_range_var (bs s) hl2 (by rw [bs_data]; exact h) t2 p2 w h2
    rw [bs_data] at q
    exact q.mono fun e w' ⟨N, he, _, _, hb⟩ => ⟨_, he, hb⟩
end Go.Proofs.YtadnaakbhgacgaaDoor
