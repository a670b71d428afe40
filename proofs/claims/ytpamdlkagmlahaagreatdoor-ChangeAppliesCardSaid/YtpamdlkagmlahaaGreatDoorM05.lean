import Derived.Test.YtpamdlkagmlahaaGreatDoorK01
import Derived.Laws.Cover1
import Derived.Laws.MakeOwn
import Derived.Deep.RegionHeld3
namespace Go.Proofs.YtpamdlkagmlahaaGreatDoor
open Go.RowKit
def PureB (w : World) (b : Bool) (e : Ending) (w' : World) : Prop := e = .returned (.bool b) ∧ w = w'
def PureI (w : World) (n : Int) (e : Ending) (w' : World) : Prop := e = .returned (.int .i64 n) ∧ w = w'
theorem let_any (c : UInt8) (w : World) : Calls Tryz.prog 57 #[.int .u8 (c.toNat : Int)] w (PureB w (letV c)) := by
 have hc := c.toNat_lt
 have HL := Lib.hid (show letV c = ((decide (97 ≤ c.toNat) && decide (c.toNat ≤ 122)) || (decide (65 ≤ c.toNat) && decide (c.toNat ≤ 90))) from rfl)
 generalize letV c = L at *
 go_enter Tryz.func57, Tryz.ntmps57
 go_wp2
 all_goals
  go_ret
  exact ⟨ret_bool (by rw [HL.out, Bool.eq_iff_iff]; simp; omega), rfl⟩
theorem dig_any (c : UInt8) (w : World) : Calls Tryz.prog 58 #[.int .u8 (c.toNat : Int)] w (PureB w (digV c)) := by
 have hc := c.toNat_lt
 have HL := Lib.hid (show digV c = (decide (48 ≤ c.toNat) && decide (c.toNat ≤ 57)) from rfl)
 generalize digV c = L at *
 go_enter Tryz.func58, Tryz.ntmps58
 go_wp2
 all_goals
  go_ret
  exact ⟨ret_bool (by rw [HL.out, Bool.eq_iff_iff]; simp; omega), rfl⟩
theorem next_any (n : Int) (w : World) : Calls Tryz.prog 87 #[.int .i64 n] w (PureB w (nxtV n)) := by
 have HL := Lib.hid (show nxtV n = (decide (1 ≤ n) && decide (n ≤ 1000001)) from rfl)
 generalize nxtV n = L at *
 go_enter Tryz.func87, Tryz.ntmps87
 go_wp2
 all_goals
  go_ret
  exact ⟨ret_bool (by rw [HL.out, Bool.eq_iff_iff]; simp; omega), rfl⟩
theorem nbyte (s : ByteArray) (k : Nat) (h : k < s.size) : s.data.toList.drop k = s[k] :: s.data.toList.drop (k + 1) := by
 rw [List.drop_eq_getElem_cons (by simpa using h)]
 rfl
theorem name_long {s : ByteArray} (h : 20 < s.size) : nameV s.data.toList = false := by
 unfold nameV
 rw [Array.length_toList, decide_eq_false (show ¬ s.data.size ≤ 20 from by have : s.data.size = s.size := rfl; omega)]
 simp
theorem name_first {s : ByteArray} (h0 : 0 < s.size) (h : letV s[0] = false) : nameV s.data.toList = false := by
 have e := nbyte s 0 h0
 rw [List.drop_zero] at e
 unfold nameV
 rw [show s.data.toList.headD 0 = s[0] by rw [e]; rfl, h]
 simp
theorem name_rest {s : ByteArray} (h0 : 0 < s.size) (hl : s.size ≤ 20) (h : letV s[0] = true) : nameV s.data.toList = (s.data.toList.drop 0).all chrV := by
 have e := nbyte s 0 h0
 rw [List.drop_zero] at e
 unfold nameV
 rw [Array.length_toList, decide_eq_true (show s.data.size ≤ 20 from hl), show s.data.toList.headD 0 = s[0] by rw [e]; rfl, h, show s.data.toList.isEmpty = false by rw [e]; rfl, List.drop_zero]
 simp
theorem name_rest1 {s : ByteArray} (h0 : 0 < s.size) (hl : s.size ≤ 20) (h : letV s[0] = true) : nameV s.data.toList = (s.data.toList.drop 1).all chrV := by
 rw [name_rest h0 hl h, nbyte s 0 h0, List.all_cons, chr_let h, Bool.true_and]
theorem chr_step (s : ByteArray) (i : Nat) (h : i < s.size) : (s.data.toList.drop i).all chrV = (chrV s[i] && (s.data.toList.drop (i + 1)).all chrV) := by rw [nbyte s i h]; rfl
theorem chr_end (s : ByteArray) (i : Nat) (h : s.size ≤ i) : (s.data.toList.drop i).all chrV = true := by
 rw [List.drop_of_length_le (by rw [Array.length_toList]; exact h)]; rfl
theorem toL (s : ByteArray) : s.toList = s.data.toList := ByteArray.toList_eq s
theorem ne_list {s : ByteArray} (h : 0 < s.size) : ¬ s.toList = [] := by
 rw [toL]; intro e
 have : s.data.toList.length = 0 := by rw [e]; rfl
 rw [Array.length_toList] at this
 have : s.data.size = s.size := rfl
 omega
theorem ne_empty {s : ByteArray} (h : 0 < s.size) : s.toList.isEmpty = false := by
 have := ne_list h
 cases e : s.toList with
 | nil => exact absurd e this
 | cons _ _ => rfl
theorem empty_of {s : ByteArray} (h : s.size = 0) : s = ⟨#[]⟩ := by
 cases s with | mk d =>
 have : d.size = 0 := h
 rw [Array.eq_empty_of_size_eq_zero this]
set_option maxHeartbeats 3200000 in
set_option maxRecDepth 100000 in
theorem name_any (s : ByteArray) (w : World) (hs : s.size ≤ maxLen) : Calls Tryz.prog 25 #[.string s] w (PureB w (nameV s.data.toList)) := by
 unfold maxLen at hs
 rcases Nat.eq_zero_or_pos s.size with h0 | h0
 ·obtain rfl := empty_of h0
  clear h0
  go_enter Tryz.func25, Tryz.ntmps25
  go_wp2
  go_ret
  exact ⟨rfl, rfl⟩
 ·have e1 := ne_list h0
  have e2 := ne_empty h0
  by_cases hl : 20 < s.size
  ·have HE := Lib.hid (name_long hl)
   have hl' : 20 < (s.size : Int) := by omega
   clear hl
   go_enter Tryz.func25, Tryz.ntmps25
   go_wp2
   go_ret
   exact ⟨ret_bool HE.out.symm, rfl⟩
  ·have hl' : ¬ 20 < (s.size : Int) := by omega
   have h0' : 0 < (s.size : Int) := by omega
   cases hf : letV s[0] with
   | false =>
    have HE := Lib.hid (name_first h0 hf)
    go_enter Tryz.func25, Tryz.ntmps25
    go_wp2_with (go_at_call 57; refine (let_any _ _).mono ?_; rintro e w' ⟨rfl, rfl⟩)
    go_ret
    exact ⟨ret_bool HE.out.symm, rfl⟩
   | true =>
    have HE := Lib.hid (name_rest h0 (by omega) hf)
    go_enter Tryz.func25, Tryz.ntmps25
    go_wp2_with (go_at_call 57; refine (let_any _ _).mono ?_; rintro e w' ⟨rfl, rfl⟩)
    clear hf
    go_loop [19] (fun iv => ∃ i : Nat, iv = .int .i64 i ∧ i ≤ s.size ∧ Hid (nameV s.data.toList = (s.data.toList.drop i).all chrV)) (fun iv => s.size - (RowKit.intOf iv).toNat)
    case atStart => exact ⟨0, rfl, Nat.zero_le _, HE.out⟩
    case round =>
     obtain ⟨i, rfl, hi, HN⟩ := hrel
     by_cases hlt : i < s.size
     ·have hA := chr_step s i hlt
      have HU := Lib.hid (show chrV s[i] = (letV s[i] || digV s[i] || decide (s[i].toNat = 95)) from rfl)
      have HC := Lib.hid (HN.out.trans hA)
      clear hA HN HE
      have hB : (((s[i].toNat : Int)) != 95) = true ∨ (s[i].toNat : Int) = 95 := by
       by_cases g : (s[i].toNat : Int) = 95
       ·exact .inr g
       ·exact .inl (by simpa using g)
      cases hL : letV s[i] with
      | true =>
       have HD := Lib.hid (show nameV s.data.toList = (s.data.toList.drop (i + 1)).all chrV by rw [HC.out, HU.out, hL]; rfl)
       clear hB
       go_wp2_with (go_at_call 57; refine (let_any _ _).mono ?_; rintro e w' ⟨rfl, rfl⟩)
       go_round
       case rel => exact ⟨i + 1, by go_num, by omega, HD.out⟩
       case measure => simp [RowKit.intOf]; omega
      | false =>
       cases hD : digV s[i] with
       | true =>
        have HD := Lib.hid (show nameV s.data.toList = (s.data.toList.drop (i + 1)).all chrV by rw [HC.out, HU.out, hL, hD]; rfl)
        clear hB
        go_wp2_with (first | (go_at_call 57; refine (let_any _ _).mono ?_; rintro e w' ⟨rfl, rfl⟩) | (go_at_call 58; refine (dig_any _ _).mono ?_; rintro e w' ⟨rfl, rfl⟩))
        go_round
        case rel => exact ⟨i + 1, by go_num, by omega, HD.out⟩
        case measure => simp [RowKit.intOf]; omega
       | false =>
        rcases hB with hB | hB
        ·have HD := Lib.hid (show nameV s.data.toList = false by
          have h95 : decide (s[i].toNat = 95) = false := by
           have : ¬ ((s[i].toNat : Int)) = 95 := by simpa using hB
           exact decide_eq_false (by omega)
          rw [HC.out, HU.out, hL, hD, h95]; rfl)
         go_wp2_with (first | (go_at_call 57; refine (let_any _ _).mono ?_; rintro e w' ⟨rfl, rfl⟩) | (go_at_call 58; refine (dig_any _ _).mono ?_; rintro e w' ⟨rfl, rfl⟩))
         go_ret
         exact ⟨ret_bool HD.out.symm, rfl⟩
        ·have HD := Lib.hid (show nameV s.data.toList = (s.data.toList.drop (i + 1)).all chrV by
          rw [HC.out, HU.out, hL, hD, decide_eq_true (show s[i].toNat = 95 by omega)]; rfl)
         have hB' : ((s[i].toNat : Int) != 95) = false := by rw [hB]; rfl
         clear hB
         go_wp2_with (first | (go_at_call 57; refine (let_any _ _).mono ?_; rintro e w' ⟨rfl, rfl⟩) | (go_at_call 58; refine (dig_any _ _).mono ?_; rintro e w' ⟨rfl, rfl⟩))
         go_round
         case rel => exact ⟨i + 1, by go_num, by omega, HD.out⟩
         case measure => simp [RowKit.intOf]; omega
     ·have HD := Lib.hid (show nameV s.data.toList = true by rw [HN.out, chr_end s i (by omega)])
      clear HN HE
      go_wp2
      go_ret
      exact ⟨ret_bool HD.out.symm, rfl⟩
end Go.Proofs.YtpamdlkagmlahaaGreatDoor
namespace Go.Proofs.YtpamdlkagmlahaaGreatDoor
open Go.RowKit
theorem chr_u (c : UInt8) : chrV c = (letV c || digV c || decide (c.toNat = 95)) := rfl
theorem all_drop {α : Type} (f : α → Bool) (l : List α) (i : Nat) (h : i < l.length) : (l.drop i).all f = (f l[i] && (l.drop (i + 1)).all f) := by rw [List.drop_eq_getElem_cons h]; rfl
theorem all_end {α : Type} (f : α → Bool) (l : List α) (i : Nat) (h : l.length ≤ i) : (l.drop i).all f = true := by rw [List.drop_of_length_le h]; rfl
set_option maxHeartbeats 1600000 in
set_option maxRecDepth 100000 in
theorem names_any (l : List (List UInt8)) (ao : Option Addr) (cap : Nat) (w : World) (hs : SlS w ao l cap) : Calls Tryz.prog 180 #[.slice ao l.length cap] w (PureB w (l.all nameV)) := by
 have hl := hs.len
 have HS := Lib.hid hs
 clear hs
 go_enter Tryz.func180, Tryz.ntmps180
 go_wp2
 go_loop [7] (fun iv => ∃ i : Nat, iv = .int .i64 i ∧ i ≤ l.length ∧ Hid (l.all nameV = (l.drop i).all nameV)) (fun iv => l.length - (RowKit.intOf iv).toNat)
 case atStart => exact ⟨0, rfl, Nat.zero_le _, rfl⟩
 case round =>
  obtain ⟨i, rfl, hi, HN⟩ := hrel
  by_cases hlt : i < l.length
  ·obtain ⟨b, o, rfl, hz, hc⟩ := HS.out.get hlt
   have hA := all_drop nameV l i hlt
   have HC := Lib.hid (HN.out.trans hA)
   rw [Nat.mul_one] at hc
   have HM := Lib.hid (name_any (bs l[i]) w (by rw [bs_size]; exact hz))
   rw [bs_data] at HM
   clear hA HN hz
   generalize l[i] = s at *
   generalize nameV s = r at *
   go_wp2_with (go_at_call 25; refine HM.out.mono ?_; rintro e w' ⟨rfl, rfl⟩)
   ·have HD := Lib.hid (show l.all nameV = false by rw [HC.out]; simp_all)
    go_ret
    exact ⟨ret_bool HD.out.symm, rfl⟩
   ·have HD := Lib.hid (show l.all nameV = (l.drop (i + 1)).all nameV by rw [HC.out]; simp_all)
    go_round
    case rel => exact ⟨i + 1, by go_num, by omega, HD.out⟩
    case measure => simp [RowKit.intOf]; omega
  ·have HD := Lib.hid (show l.all nameV = true by rw [HN.out, all_end _ _ _ (by omega)])
   clear HN
   go_wp2
   go_ret
   exact ⟨ret_bool HD.out.symm, rfl⟩
end Go.Proofs.YtpamdlkagmlahaaGreatDoor
namespace Go.Proofs.YtpamdlkagmlahaaGreatDoor
open Go.RowKit
def FwB (w : World) (b : Bool) (e : Ending) (w' : World) : Prop := e = .returned (.bool b) ∧ Fuw w w'
def FwI (w : World) (n : Int) (e : Ending) (w' : World) : Prop := e = .returned (.int .i64 n) ∧ Fuw w w'
set_option maxHeartbeats 1600000 in
set_option maxRecDepth 100000 in
theorem incr_any (l : List (List UInt8)) (ao : Option Addr) (cap : Nat) (w : World) (hs : SlS w ao l cap) : Calls Tryz.prog 181 #[.slice ao l.length cap] w (FwB w (risV l)) := by
 have hl := hs.len
 have HS := Lib.hid hs
 clear hs
 go_enter Tryz.func181, Tryz.ntmps181
 go_wp2
 go_loopw [3] (fun iv wr => ∃ i : Nat, iv = .int .i64 ((i : Int) + 1) ∧ i ≤ l.length ∧ Hid (risV l = risV (l.drop i)) ∧ Fuw w wr) (fun iv _ => l.length - (RowKit.intOf iv).toNat)
 case atStart => exact ⟨0, rfl, Nat.zero_le _, rfl, Fuw.refl _⟩
 case round =>
  obtain ⟨i, rfl, hi, HN, hf⟩ := hrel
  by_cases hlt : i + 1 < l.length
  ·obtain ⟨b, o, rfl, ⟨-, c0⟩, -, c1⟩ := (slS_on hf HS.out).get2 (show i < l.length by omega) hlt
   have hA := ris_step l i hlt
   have HC := Lib.hid (HN.out.trans hA)
   rw [Nat.mul_one] at c0 c1
   have k1 : IntKind.i64.wrap ((i : Int) + 1 - 1) = (i : Int) := by rw [Int.add_sub_cancel]; exact IntWalk.i64_in _ (by omega)
   have k2 : ((i : Int) + 1).toNat = i + 1 := by omega
   have k3 : (0 : Int) ≤ (i : Int) + 1 := by omega
   have k4 : (i : Int) + 1 < (l.length : Int) := by omega
   clear hA HN
   generalize l[i] = s at *
   generalize l[i + 1] = t at *
   cases hb : Op.bytesLess (bs s).toList (bs t).toList with
   | true =>
    have HD := Lib.hid (show risV l = risV (l.drop (i + 1)) by rw [HC.out, ← bs_data s, ← bs_data t, ← toL, ← toL, hb]; rfl)
    go_wp2
    go_quiet (fail)
    clear k1 k2
    go_wp2
    go_roundw
    case rel => exact ⟨i + 1, by go_num, by omega, HD.out, hf.trans (fuw_dr _ _)⟩
    case measure => simp [RowKit.intOf]; omega
   | false =>
    have HD := Lib.hid (show risV l = false by rw [HC.out, ← bs_data s, ← bs_data t, ← toL, ← toL, hb]; rfl)
    go_wp2
    go_quiet (fail)
    clear k1 k2
    go_wp2
    go_ret
    exact ⟨ret_bool HD.out.symm, hf.trans (fuw_dr _ _)⟩
  ·have HD := Lib.hid (show risV l = true by rw [HN.out, ris_end _ _ (by omega)])
   clear HN
   go_wp2
   go_ret
   exact ⟨ret_bool HD.out.symm, hf⟩
end Go.Proofs.YtpamdlkagmlahaaGreatDoor
namespace Go.Proofs.YtpamdlkagmlahaaGreatDoor
open Go.RowKit
theorem infoS : (Tryz.prog.info? 9).map (fun i => (i.zero, i.size, i.bytes)) = some (some (.string ⟨#[]⟩), 1, 16) := by kernel_rfl
def sC (l : List (List UInt8)) : List Value := l.map fun s => .string (bs s)
theorem sC_len (l : List (List UInt8)) : (sC l).length = l.length := List.length_map ..
theorem sC_app (a b : List (List UInt8)) : sC (a ++ b) = sC a ++ sC b := List.map_append ..
theorem sC_get {l : List (List UInt8)} {j : Nat} (h : j < l.length) : (sC l)[j]? = some (.string (bs l[j])) := by
 unfold sC
 rw [List.getElem?_map, List.getElem?_eq_getElem h]; rfl
theorem sC_set (o : List (List UInt8)) (j : Nat) (z : List UInt8) : (sC o).set j (.string (bs z)) = sC (o.set j z) := by
 unfold sC
 rw [List.map_set]
theorem fill_step {α : Type} (l : List α) (z : α) (i : Nat) (h : i < l.length) : (l.take i ++ List.replicate (l.length - i) z).set i l[i] = l.take (i + 1) ++ List.replicate (l.length - (i + 1)) z := by
 have hr : l.length - i = (l.length - (i + 1)) + 1 := by omega
 rw [hr, List.replicate_succ, List.set_append_right _ _ (by rw [List.length_take]; omega)]
 rw [show i - (l.take i).length = 0 by rw [List.length_take]; omega, List.set_cons_zero, List.take_succ_eq_append_getElem h, List.append_assoc]
 rfl
theorem slS_of_own {w : World} {base e : Nat} {v : Value} {n : Nat} {l : List (List UInt8)} (h : w.ownsRow base e 1 v n (sC l)) (hm : ∀ s ∈ l, s.length ≤ maxLen) : ∃ ao cap, v = .slice ao l.length cap ∧ n = l.length ∧ SlS w ao l cap := by
 have hl := h.1
 rw [sC_len, Nat.mul_one] at hl
 subst hl
 rcases h.2 with ⟨rfl, h0⟩ | ⟨g, cap, cur, rfl, hb, hh, h1, h2, h3, h4⟩
 ·refine ⟨none, 0, by rw [h0], rfl, by omega, Nat.zero_le _, fun _ => rfl, fun hp => absurd hp (by omega)⟩
 ·refine ⟨_, cap, rfl, rfl, h1, h2, (fun k => by cases k), fun _ => ⟨g, 0, rfl, fun j hj => ⟨hm _ (List.getElem_mem hj), ?_⟩⟩⟩
  have k := h.cells (g := g) rfl j _ (sC_get hj)
  rw [Go.WideShapes.add_plain] at k
  rw [Nat.mul_one]
  exact k
theorem own_on {w w' : World} {base e size : Nat} {v : Value} {n : Nat} {xs : List Value} (h : w.ownsRow base e size v n xs) (hf : Fuw w w') : w'.ownsRow base e size v n xs := by
 refine ⟨h.1, ?_⟩
 rcases h.2 with h0 | ⟨g, cap, cur, hv, hg, hh, rest⟩
 ·exact .inl h0
 ·refine .inr ⟨g, cap, cur, hv, hg, ?_, rest⟩
  have hlt : g < w.heap.size := by
   rcases Nat.lt_or_ge g w.heap.size with k | k
   ·exact k
   ·rw [Array.getElem?_eq_none k] at hh; cases hh
  rw [Below.block hf g hlt]; exact hh
theorem made_strs (n : Nat) : (madeCells (Value.string ⟨#[]⟩).cells (n * 1)).toList = sC (List.replicate n []) := by
 rw [Nat.mul_one]
 unfold sC
 rw [List.map_replicate]
 exact toList_madeCells_one (.string ⟨#[]⟩) _
set_option maxHeartbeats 1600000 in
set_option maxRecDepth 100000 in
theorem keys_any (l : List Pp) (ao : Option Addr) (cap : Nat) (w : World) (hs : SlP w ao l cap) (h16 : l.length ≤ 16) :
  Calls Tryz.prog 179 #[.slice ao l.length cap] w fun e w' => ∃ a c, e = .returned (.slice a (keysV l).length c) ∧ SlS w' a (keysV l) c ∧ Fuw w w' := by
 have hl := hs.len
 have HS := Lib.hid hs
 have HK := Lib.hid (show (keysV l).length = l.length from List.length_map ..)
 obtain ⟨i0, hi, hz0, hz1, hz2⟩ := info_parts infoS
 clear hs
 go_enter Tryz.func179, Tryz.ntmps179
 go_upto_region 2 with (at_make; refine wpList_make_full _ rfl (.tmp 7) (.tmp 7) 46 rfl w.heap.size 9 i0 (.string ⟨#[]⟩) 1 Tryz.underlying46 hi hz0 hz1 .i64 .i64 _ _ l.length rfl rfl rfl rfl (by rw [hz2]; omega) (by unfold maxLen; omega) (Nat.le_refl _) ?_; intro w2 hown hgrow)
 have F2 := Lib.hid (show Fuw w w2 from Below.grown (Below.refl _ _) hgrow (Nat.le_refl _) (fun k hk => by cases hk))
 clear hi hz0 hz1 hz2 hgrow
 have HO := Lib.hid (show w2.ownsRow w.heap.size 9 1 (.slice (some ⟨w.heap.size, 0, none⟩) l.length l.length) l.length (sC ((keysV l).take 0 ++ List.replicate ((keysV l).length - 0) [])) by
  rw [List.take_zero, List.nil_append, Nat.sub_zero, HK.out, ← made_strs]; exact hown)
 clear hown
 go_wp2
 go_loopw [11] (fun iv wr => ∃ i : Nat, iv = .int .i64 i ∧ i ≤ l.length ∧ Hid (wr.ownsRow w.heap.size 9 1 (.slice (some ⟨w.heap.size, 0, none⟩) l.length l.length) l.length (sC ((keysV l).take i ++ List.replicate ((keysV l).length - i) []))) ∧ Hid (Fuw w wr)) (fun iv _ => l.length - (RowKit.intOf iv).toNat)
 case atStart => exact ⟨0, rfl, Nat.zero_le _, HO, F2⟩
 case round =>
  obtain ⟨i, rfl, hii, HN, hf⟩ := hrel
  by_cases hlt : i < l.length
  ·obtain ⟨b, o, rfl, hz, c0, hv⟩ := (slP_on hf.out HS.out).get hlt
   obtain ⟨-, c1, c2, c3, c4, a5, k5, c5, -⟩ := VC_of hv
   clear hv
   have hL : i < (keysV l).length := by rw [HK.out]; exact hlt
   have hG : (keysV l)[i] = l[i].k := by simp [keysV]
   have hset : ∀ o : List (List UInt8), o = (keysV l).take i ++ List.replicate ((keysV l).length - i) [] → (sC o).set i (.string (bs l[i].k)) = sC ((keysV l).take (i + 1) ++ List.replicate ((keysV l).length - (i + 1)) []) := fun o ho => by
    rw [ho, ← hG, sC_set, fill_step _ _ _ hL]
   obtain ⟨u, cg⟩ : ∃ u, wr.cell? ⟨w.heap.size, i, none⟩ = some u := by
    rw [HN.out.cellAt i (by omega)]
    exact ⟨_, List.getElem?_eq_getElem (by rw [sC_len, List.length_append, List.length_take, List.length_replicate]; omega)⟩
   have fg := HN.out.frozenAt i
   have hg := World.block_lt_of_cell? wr _ cg
   have HP := Lib.hid (show ∀ W, Fuw wr W → W.cell? ⟨w.heap.size, i, none⟩ = some u ∧ W.frozen? ⟨w.heap.size, i, none⟩ = false ∧ ((W.setCell ⟨w.heap.size, i, none⟩ (.string (bs l[i].k))).ownsRow w.heap.size 9 1 (.slice (some ⟨w.heap.size, 0, none⟩) l.length l.length) l.length (sC ((keysV l).take (i + 1) ++ List.replicate ((keysV l).length - (i + 1)) []))) from fun W hW => by
    refine ⟨(Below.cell hW hg).trans cg, (Below.frozen hW hg).trans fg, ?_⟩
    have k := (own_on HN.out hW).stored i (.string (bs l[i].k))
    rw [hset _ rfl] at k
    exact k.1)
   clear hset hL hG cg fg HN HO
   generalize l[i].k = key at *
   go_upto_region 5 with fail
   obtain ⟨W, hW⟩ : ∃ W, W = wr.alloc (.cells #[.string (bs key), .int .i64 l[i].v.kd, .int .i64 l[i].v.nn, .int .i64 l[i].v.dd, .string (bs l[i].v.ss), .slice a5 l[i].v.ll.length k5] 48) := ⟨_, rfl⟩
   rw [← hW]
   have d0 : W.cell? ⟨wr.heap.size, 0, none⟩ = some (.string (bs key)) := by rw [hW]; exact (Bk.new _ _ _).c 0
   have hfW : Fuw wr W := by rw [hW]; exact fuwA _ _
   obtain ⟨p1, p2, p3⟩ := HP.out W hfW
   have H3 := Lib.hid p3
   have HF := Lib.hid (show Fuw w (W.setCell ⟨w.heap.size, i, none⟩ (.string (bs key))) from fuwS (hf.out.trans hfW) (Nat.le_refl _))
   clear hW p3 hfW HP c0 c1 c2 c3 c4 c5 hg
   go_wp2
   go_roundw
   case rel => exact ⟨i + 1, by go_num, by omega, H3, HF⟩
   case measure => simp [RowKit.intOf]; omega
  ·have e : i = l.length := by omega
   subst e
   obtain ⟨a, c, e1, e2, hS⟩ := slS_of_own (l := keysV l) (w := wr) (v := .slice (some ⟨w.heap.size, 0, none⟩) l.length l.length) (n := l.length) (base := w.heap.size) (e := 9) (by
    have k := HN.out
    rwa [List.take_of_length_le (by rw [HK.out]; exact Nat.le_refl _), HK.out, Nat.sub_self, List.replicate_zero, List.append_nil] at k) (fun s hs => by
     unfold keysV at hs
     obtain ⟨p, hp, rfl⟩ := List.mem_map.1 hs
     obtain ⟨j, hj, rfl⟩ := List.getElem_of_mem hp
     obtain ⟨-, -, -, hz, -⟩ := HS.out.get hj
     exact hz)
   have HE := Lib.hid e1
   have HSS := Lib.hid hS
   clear e1 e2 hS HN
   go_wp2
   go_ret
   exact ⟨a, c, (by rw [← HE.out]; rfl), HSS.out, hf.out⟩
end Go.Proofs.YtpamdlkagmlahaaGreatDoor
