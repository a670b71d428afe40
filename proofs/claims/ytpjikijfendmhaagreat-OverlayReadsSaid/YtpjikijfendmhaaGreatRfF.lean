
/-
  The reference of overlays: its small functions. Nothing that was there turns.
-/
import Derived.Test.YtpjikijfendmhaaGreatRfE

namespace Go.Proofs.YtpjikijfendmhaaGreat
open Go.RowKit

theorem has_drop {l : List Int} {x : Int} {i : Nat} (h : i < l.length) : (l.drop i).contains x = (l[i] == x || (l.drop (i + 1)).contains x) := by
  rw [List.drop_eq_getElem_cons h, List.contains_cons, Bool.beq_comm]
theorem has_end {l : List Int} {x : Int} {i : Nat} (h : l.length ≤ i) : (l.drop i).contains x = false := by
  rw [List.drop_of_length_le h]; rfl
set_option maxHeartbeats 3200000 in
set_option maxRecDepth 100000 in
theorem rhas_any (l : List Int) (ao : Option Addr) (cap : Nat) (x : Int) (w : World) (hs : SlI w ao l cap) :
    Calls Tryz.prog 67 #[.slice ao l.length cap, .int .i64 x] w (PureB w (l.contains x)) := by
  have HS := Lib.hid hs
  have hl := hs.len
  obtain ⟨R, hR⟩ : ∃ R, R = l.contains x := ⟨_, rfl⟩
  rw [← hR]
  have HR := Lib.hid (show R = (l.drop 0).contains x from hR)
  clear hR hs
  go_enter Tryz.func67, Tryz.ntmps67
  go_wp2
  go_loop [5] (fun iv => ∃ i : Nat, iv = .int .i64 i ∧ i ≤ l.length ∧ Hid (R = (l.drop i).contains x)) (fun iv => l.length - (RowKit.intOf iv).toNat)
  case atStart => exact ⟨0, rfl, Nat.zero_le _, HR⟩
  case round =>
    obtain ⟨i, rfl, hi, HQ⟩ := hrel
    by_cases hlt : i < l.length
    · obtain ⟨b, o, rfl, -, c0⟩ := HS.out.get hlt
      have HD := Lib.hid (has_drop (x := x) hlt)
      generalize l[i] = y at *
      rw [Nat.mul_one] at c0
      have z1 : (i : Int) < (l.length : Int) := by omega
      by_cases hy : y = x
      · have p : (y == x) = true := by rw [beq_iff_eq]; exact hy
        have HZ := Lib.hid (show R = true by rw [HQ.out, HD.out, p]; rfl)
        clear hy
        go_wp2
        go_ret
        exact ⟨ret_bool HZ.out.symm, rfl⟩
      · have p : (y == x) = false := by rw [beq_eq_false_iff_ne]; exact hy
        have HZ := Lib.hid (show R = (l.drop (i + 1)).contains x by rw [HQ.out, HD.out, p]; rfl)
        clear hy
        go_wp2
        go_round
        case rel => exact ⟨i + 1, by go_num, by omega, HZ⟩
        case measure => simp [RowKit.intOf]; omega
    · have HZ := Lib.hid (show R = false by rw [HQ.out, has_end (by omega)])
      have hge : ¬ (i : Int) < (l.length : Int) := by omega
      go_wp2
      go_ret
      exact ⟨ret_bool HZ.out.symm, rfl⟩
set_option maxHeartbeats 3200000 in
set_option maxRecDepth 100000 in
theorem redge_any (l : List Aj) (ao : Option Addr) (cap : Nat) (x : Int) (w : World) (hs : SlJ w ao l cap) :
    Calls Tryz.prog 44 #[.slice ao l.length cap, .int .i64 x] w (PureB w ((edg l).contains x)) := by
  have HS := Lib.hid hs
  have hl := hs.len
  have hel : (edg l).length = l.length := List.length_map ..
  obtain ⟨R, hR⟩ : ∃ R, R = (edg l).contains x := ⟨_, rfl⟩
  rw [← hR]
  have HR := Lib.hid (show R = ((edg l).drop 0).contains x from hR)
  clear hR hs
  go_enter Tryz.func44, Tryz.ntmps44
  go_wp2
  go_loop [5] (fun iv => ∃ i : Nat, iv = .int .i64 i ∧ i ≤ l.length ∧ Hid (R = ((edg l).drop i).contains x)) (fun iv => l.length - (RowKit.intOf iv).toNat)
  case atStart => exact ⟨0, rfl, Nat.zero_le _, HR⟩
  case round =>
    obtain ⟨i, rfl, hi, HQ⟩ := hrel
    by_cases hlt : i < l.length
    · obtain ⟨b, o, rfl, -, -, -, -, -, c0⟩ := HS.out.get hlt
      have HD := Lib.hid (has_drop (l := edg l) (x := x) (by rw [hel]; exact hlt))
      rw [show (edg l)[i]'(by rw [hel]; exact hlt) = l[i].2.2 from List.getElem_map ..] at HD
      generalize l[i].2.2 = y at *
      have z1 : (i : Int) < (l.length : Int) := by omega
      by_cases hy : y = x
      · have p : (y == x) = true := by rw [beq_iff_eq]; exact hy
        have HZ := Lib.hid (show R = true by rw [HQ.out, HD.out, p]; rfl)
        clear hy hel
        go_wp2
        go_ret
        exact ⟨ret_bool HZ.out.symm, rfl⟩
      · have p : (y == x) = false := by rw [beq_eq_false_iff_ne]; exact hy
        have HZ := Lib.hid (show R = ((edg l).drop (i + 1)).contains x by rw [HQ.out, HD.out, p]; rfl)
        clear hy hel
        go_wp2
        go_round
        case rel => exact ⟨i + 1, by go_num, by omega, HZ⟩
        case measure => simp [RowKit.intOf]; omega
    · have HZ := Lib.hid (show R = false by rw [HQ.out, has_end (by rw [hel]; omega)])
      have hge : ¬ (i : Int) < (l.length : Int) := by omega
      clear hel
      go_wp2
      go_ret
      exact ⟨ret_bool HZ.out.symm, rfl⟩
def OwnI (w0 w : World) (v : Value) (L : List Int) : Prop := w.ownsRow w0.heap.size 3 1 v L.length (cs L)
def RetIs (w : World) (L : List Int) (e : Ending) (w' : World) : Prop := ∃ v, e = .returned v ∧ OwnI w w' v L ∧ Fuw w w'
theorem dropI_snoc {n : Int} {l : List Int} {i : Nat} (h : i < l.length) : dropI (l.take (i + 1)) n = dropI (l.take i) n ++ if l[i] = n then [] else [l[i]] := by
  unfold dropI
  rw [List.take_succ_eq_append_getElem h, List.filter_append]
  congr 1
  by_cases g : l[i] = n
  · rw [if_pos g, List.filter_cons_of_neg (by simpa using g)]; rfl
  · rw [if_neg g, List.filter_cons_of_pos (by simpa using g)]; rfl
theorem one_i (x : Int) : ∀ u ∈ [Value.int .i64 x], u.oneCell' = true := by
  intro u hu
  have : u = .int .i64 x := by simpa using hu
  subst this; rfl
set_option maxHeartbeats 3200000 in
set_option maxRecDepth 100000 in
theorem rwithout_any (l : List Int) (ao : Option Addr) (cap : Nat) (n : Int) (w : World) (hs : SlI w ao l cap) (hl : l.length ≤ 1000000) :
    Calls Tryz.prog 55 #[.slice ao l.length cap, .int .i64 n] w (RetIs w (dropI l n)) := by
  have HS := Lib.hid hs
  obtain ⟨i0, hi0, hz0, hz1, hz2⟩ := info_parts infoI
  clear hs
  go_enter Tryz.func55, Tryz.ntmps55
  go_wp2
  go_loopw [5, 6] (fun lv iv wr => ∃ i : Nat, iv = .int .i64 i ∧ i ≤ l.length ∧ Hid (OwnI w wr lv (dropI (l.take i) n)) ∧ Hid (Fuw w wr)) (fun _ iv _ => l.length - (RowKit.intOf iv).toNat)
  case atStart => exact ⟨0, rfl, Nat.zero_le _, Lib.hid (World.ownsRow_nil _ _ _ _), Lib.hid (Fuw.refl _)⟩
  case round =>
    obtain ⟨i, rfl, hi, HO, hf⟩ := hrel
    by_cases hlt : i < l.length
    · obtain ⟨b, o, rfl, -, c0⟩ := (slI_on hf.out HS.out).get hlt
      have HT := Lib.hid (dropI_snoc (n := n) hlt)
      have hL : (dropI (l.take i) n).length ≤ 1000000 := by
        have h1 : (dropI (l.take i) n).length ≤ (l.take i).length := List.length_filter_le _ _
        rw [List.length_take] at h1; omega
      generalize dropI (l.take i) n = L at *
      generalize l[i] = x at *
      rw [Nat.mul_one] at c0
      have z1 : (i : Int) < (l.length : Int) := by omega
      by_cases hx : x = n
      · have p : (x != n) = false := by rw [bne_eq_false_iff_eq]; exact hx
        have HO2 := Lib.hid (show OwnI w wr _ (dropI (l.take (i + 1)) n) from by rw [HT.out, if_pos hx, List.append_nil]; exact HO.out)
        clear hx
        go_wp2
        go_roundw
        case rel => exact ⟨i + 1, by go_num, by omega, HO2, hf⟩
        case measure => simp [RowKit.intOf]; omega
      · have p : (x != n) = true := by rw [bne_iff_ne]; exact hx
        have HT2 := Lib.hid (show dropI (l.take (i + 1)) n = L ++ [x] by rw [HT.out, if_neg hx])
        clear hx
        go_wp2_with (at_builtin; refine wpList_append_own_at _ rfl (.tmp 19) (.tmp 24) 22 rfl w.heap.size 3 i0 (.int .i64 0) 1 8 Tryz.underlying22 hi0 hz0 hz1 hz2 rfl (by decide) _ L.length (cs L) rfl (own_on HO.out (fuwA _ _)) ⟨wr.heap.size, 0, none⟩ 1 1 [.int .i64 x] rfl rfl (World.news_of_block (heap_alloc_new wr _)) (one_i _) (by unfold maxLen; omega) (by omega) (Nat.le_trans hf.out.size (by simp)) ?_; intro v' w5 hown5 hgrow _ _)
        have HG := Lib.hid (fuw_grown (hf.out.trans (fuwA _ _)) (own_on HO.out (fuwA _ _)) hgrow)
        have HO2 := Lib.hid (show OwnI w w5 v' (dropI (l.take (i + 1)) n) from by
          unfold OwnI
          rw [HT2.out, cs_app, List.length_append]; exact hown5)
        clear hown5 hgrow c0 p
        go_wp2
        go_roundw
        case rel => exact ⟨i + 1, by go_num, by omega, HO2, HG⟩
        case measure => simp [RowKit.intOf]; omega
    · have HL := Lib.hid (show dropI (l.take i) n = dropI l n by rw [List.take_of_length_le (by omega)])
      have hge : ¬ (i : Int) < (l.length : Int) := by omega
      go_wp2
      go_ret
      exact ⟨_, rfl, by rw [← HL.out]; exact own_on HO.out (Fuw.refl _), hf.out⟩
theorem li_ne {l m : List Int} {i : Nat} (h1 : i < l.length) (h2 : i < m.length) (h : l[i] ≠ m[i]) : l ≠ m := fun e => h (by subst e; rfl)
set_option maxHeartbeats 3200000 in
set_option maxRecDepth 100000 in
theorem rints_any (l m : List Int) (a1 a2 : Option Addr) (k1 k2 : Nat) (w : World) (hs : SlI w a1 l k1) (hm : SlI w a2 m k2) :
    Calls Tryz.prog 46 #[.slice a1 l.length k1, .slice a2 m.length k2] w (FwB w (decide (l = m))) := by
  have hl := hs.len
  have hl2 := hm.len
  have HS := Lib.hid hs
  have HM := Lib.hid hm
  obtain ⟨R, hR⟩ : ∃ R, R = decide (l = m) := ⟨_, rfl⟩
  rw [← hR]
  have HR := Lib.hid hR
  clear hs hm hR
  go_enter Tryz.func46, Tryz.ntmps46
  by_cases hlen : l.length = m.length
  · have hi : ((l.length : Int) != (m.length : Int)) = false := by rw [bne_eq_false_iff_eq]; omega
    have HL := Lib.hid hlen
    clear hlen
    go_wp2
    clear hi
    go_loopw [5] (fun iv wr => ∃ i : Nat, iv = .int .i64 i ∧ i ≤ l.length ∧ Hid (∀ (j : Nat) (h : j < l.length) (h' : j < m.length), j < i → l[j] = m[j]) ∧ Hid (Fuw w wr)) (fun iv _ => l.length - (RowKit.intOf iv).toNat)
    case atStart => exact ⟨0, rfl, Nat.zero_le _, Lib.hid (fun j _ _ h => absurd h (Nat.not_lt_zero _)), Lib.hid (Fuw.refl _)⟩
    case round =>
      obtain ⟨i, rfl, hi2, HQ, hf⟩ := hrel
      by_cases hlt : i < l.length
      · have hlt2 : i < m.length := by have := HL.out; omega
        obtain ⟨b, o, rfl, -, c0⟩ := (slI_on hf.out HS.out).get hlt
        obtain ⟨b', o', rfl, -, d0⟩ := (slI_on hf.out HM.out).get hlt2
        rw [Nat.mul_one] at c0 d0
        have z1 : (i : Int) < (l.length : Int) := by omega
        have z2 : (i : Int) < (m.length : Int) := by omega
        have HNe := Lib.hid (fun h : l[i] ≠ m[i] => show R = false from by rw [HR.out]; exact decide_eq_false (li_ne hlt hlt2 h))
        have HEq := Lib.hid (fun h : l[i] = m[i] => show ∀ (j : Nat) (h : j < l.length) (h' : j < m.length), j < i + 1 → l[j] = m[j] from fun j h1 h2 hj => by
          rcases Nat.lt_or_eq_of_le (Nat.le_of_lt_succ hj) with g | g
          · exact HQ.out j h1 h2 g
          · subst g; exact h)
        generalize l[i] = x at *
        generalize m[i] = y at *
        by_cases hxy : x = y
        · have p : (x != y) = false := by rw [bne_eq_false_iff_eq]; exact hxy
          have HZ := Lib.hid (HEq.out hxy)
          clear hxy
          go_upto_region 6 with fail
          go_quiet (fail)
          clear p c0 d0
          go_wp2
          go_roundw
          case rel => exact ⟨i + 1, by go_num, by omega, HZ, Lib.hid (hf.out.trans (fuw_dr _ _))⟩
          case measure => simp [RowKit.intOf]; omega
        · have p : (x != y) = true := by rw [bne_iff_ne]; exact hxy
          have HZ := Lib.hid (HNe.out hxy)
          clear hxy
          go_upto_region 6 with fail
          go_quiet (fail)
          clear p c0 d0
          go_wp2
          go_ret
          exact ⟨ret_bool HZ.out.symm, hf.out.trans (fuw_dr _ _)⟩
      · have HZ := Lib.hid (show R = true from by rw [HR.out]; exact decide_eq_true (List.ext_getElem HL.out fun j h h' => HQ.out j h h' (by omega)))
        have hge : ¬ (i : Int) < (l.length : Int) := by omega
        go_wp2
        go_ret
        exact ⟨ret_bool HZ.out.symm, hf.out⟩
  · have hi : ((l.length : Int) != (m.length : Int)) = true := by rw [bne_iff_ne]; omega
    have HZ := Lib.hid (show R = false from by rw [HR.out]; exact decide_eq_false (fun e => hlen (by rw [e])))
    clear hlen
    go_wp2
    go_ret
    exact ⟨ret_bool HZ.out.symm, Fuw.refl _⟩
end Go.Proofs.YtpjikijfendmhaaGreat
