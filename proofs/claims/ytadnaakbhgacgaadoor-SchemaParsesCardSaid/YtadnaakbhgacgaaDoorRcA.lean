/-
  The reference of package schema: names, which kinds have a key, which numbers a rule may have, what is wrong with a rule (Check), the order of strings and of rules. Nothing that was there turns.
-/
import Derived.Test.YtadnaakbhgacgaaDoorScD
namespace Go.Proofs.YtadnaakbhgacgaaDoor
open Go.RowKit

theorem rkeyed (k : Int) (w : World) : Calls Tryd.prog 30 #[.int .i64 k] w (PureB w (keyK k)) := by
  have HL := Lib.hid (show keyK k = (decide (1 ≤ k) && decide (k ≤ 5)) from rfl)
  generalize keyK k = L at *
  go_enter Tryd.func30, Tryd.ntmps30
  go_wp2
  all_goals
    go_ret
    exact ⟨ret_bool (by rw [HL.out, Bool.eq_iff_iff]; simp; omega), rfl⟩
set_option maxHeartbeats 3200000 in
set_option maxRecDepth 100000 in
theorem rnumb (k n : Int) (a y f t : ByteArray) (w : World) : Calls Tryd.prog 29 #[.agg #[.int .i64 k, .int .i64 n, .string a, .string y, .string f, .string t]] w (FwB w (numB (kindK k) (k == 7) n)) := by
  by_cases h : k = 3 ∨ k = 5
  · have HE := Lib.hid (show numB (kindK k) (k == 7) n = (n == 1 || n == 2 || n == 4) by rcases h with rfl | rfl <;> rfl)
    generalize numB (kindK k) (k == 7) n = L at *
    rcases h with rfl | rfl
    all_goals
      go_enter Tryd.func29, Tryd.ntmps29
      go_wp2
      all_goals
        go_ret
        exact ⟨ret_bool (by rw [HE.out] <;> simp_all), fuwA _ _⟩
  · have h3 : ¬ k = 3 := fun e => h (.inl e)
    have h5 : ¬ k = 5 := fun e => h (.inr e)
    have hk : kindK k = false := by unfold kindK; simp [h3, h5]
    rw [hk]
    clear h
    by_cases h7 : k = 7
    · subst h7
      have HE := Lib.hid (show numB false ((7 : Int) == 7) n = (decide (0 ≤ n) && decide (n ≤ 4000)) from rfl)
      generalize numB false ((7 : Int) == 7) n = L at *
      clear hk h3 h5
      go_enter Tryd.func29, Tryd.ntmps29
      go_wp2
      all_goals
        go_ret
        exact ⟨ret_bool (by rw [HE.out, Bool.eq_iff_iff]; simp; omega), fuwA _ _⟩
    · have HE := Lib.hid (show numB false (k == 7) n = (n == 0) by rw [show (k == 7) = false by rw [beq_eq_false_iff_ne]; exact h7]; rfl)
      generalize numB false (k == 7) n = L at *
      clear hk
      go_enter Tryd.func29, Tryd.ntmps29
      go_wp2
      all_goals
        go_ret
        exact ⟨ret_bool (by rw [HE.out] <;> simp_all), fuwA _ _⟩
theorem rnumb_r (r : Rl) (w : World) : Calls Tryd.prog 29 #[.agg #[.int .i64 r.kd, .int .i64 r.nn, .string (bs r.nm), .string (bs r.ky), .string (bs r.fr), .string (bs r.tt)]] w (FwB w (numR r)) := rnumb r.kd r.nn _ _ _ _ w
set_option maxHeartbeats 6400000 in
set_option maxRecDepth 100000 in
theorem rname (s : ByteArray) (w : World) (hs : s.size ≤ maxLen) : Calls Tryd.prog 31 #[.string s] w (PureB w (nameV s.data.toList)) := by
  unfold maxLen at hs
  rcases Nat.eq_zero_or_pos s.size with h0 | h0
  · obtain rfl := empty_of h0
    clear h0
    go_enter Tryd.func31, Tryd.ntmps31
    go_wp2
    go_ret
    exact ⟨rfl, rfl⟩
  · by_cases hl : 20 < s.size
    · have HE := Lib.hid (name_long hl)
      have hl' : 20 < (s.size : Int) := by omega
      have h1' : ¬ (s.size : Int) < 1 := by omega
      clear hl
      go_enter Tryd.func31, Tryd.ntmps31
      go_wp2
      go_ret
      exact ⟨ret_bool HE.out.symm, rfl⟩
    · have hl' : ¬ 20 < (s.size : Int) := by omega
      have h1' : ¬ (s.size : Int) < 1 := by omega
      have HF := Lib.hid (fun hf : letV s[0] = false => name_first h0 hf)
      have HR := Lib.hid (fun hf : letV s[0] = true => name_rest1 h0 (by omega) hf)
      go_enter Tryd.func31, Tryd.ntmps31
      go_wp2
      go_loop [3] (fun iv => ∃ i : Nat, iv = .int .i64 i ∧ i ≤ s.size ∧ Hid (0 < i → nameV s.data.toList = (s.data.toList.drop i).all chrV)) (fun iv => s.size - (RowKit.intOf iv).toNat)
      case atStart => exact ⟨0, rfl, Nat.zero_le _, Lib.hid fun h => absurd h (by omega)⟩
      case round =>
        obtain ⟨i, rfl, hi, HN⟩ := hrel
        by_cases hlt : i < s.size
        · have hA := chr_step s i hlt
          have HT := Lib.hid (show ((97 ≤ s[i].toNat ∧ s[i].toNat ≤ 122) ∨ (65 ≤ s[i].toNat ∧ s[i].toNat ≤ 90) ∨ (0 < i ∧ ((48 ≤ s[i].toNat ∧ s[i].toNat ≤ 57) ∨ s[i].toNat = 95))) → nameV s.data.toList = (s.data.toList.drop (i + 1)).all chrV from fun h => by
            rcases Nat.eq_zero_or_pos i with e | e
            · subst e
              refine HR.out ?_
              unfold letV; simp; omega
            · rw [HN.out e, hA, show chrV s[i] = true by unfold chrV letV digV; simp; omega]; rfl)
          have HZ := Lib.hid (show ¬ ((97 ≤ s[i].toNat ∧ s[i].toNat ≤ 122) ∨ (65 ≤ s[i].toNat ∧ s[i].toNat ≤ 90) ∨ (0 < i ∧ ((48 ≤ s[i].toNat ∧ s[i].toNat ≤ 57) ∨ s[i].toNat = 95))) → nameV s.data.toList = false from fun h => by
            rcases Nat.eq_zero_or_pos i with e | e
            · subst e
              refine HF.out ?_
              rw [Bool.eq_false_iff]; unfold letV; simp; omega
            · rw [HN.out e, hA, show chrV s[i] = false by rw [Bool.eq_false_iff]; unfold chrV letV digV; simp; omega]; rfl)
          clear hA HN HF HR
          rcases Nat.eq_zero_or_pos i with e | e
          · subst e
            have HT := Lib.hid (show ((97 ≤ s[0].toNat ∧ s[0].toNat ≤ 122) ∨ (65 ≤ s[0].toNat ∧ s[0].toNat ≤ 90)) → nameV s.data.toList = (s.data.toList.drop (0 + 1)).all chrV from fun h => HT.out (by omega))
            have HZ := Lib.hid (show ¬ ((97 ≤ s[0].toNat ∧ s[0].toNat ≤ 122) ∨ (65 ≤ s[0].toNat ∧ s[0].toNat ≤ 90)) → nameV s.data.toList = false from fun h => HZ.out (by omega))
            go_wp2
            all_goals first
              | (exfalso; clear HT HZ; simp_all <;> omega)
              | (go_ret; exact ⟨ret_bool (HZ.out (by omega)).symm, rfl⟩)
              | (go_round; (case rel => exact ⟨0 + 1, by go_num, by omega, Lib.hid fun _ => HT.out (by omega)⟩); (case measure => simp [RowKit.intOf]; omega))
          · have e1 : ((i : Int) == 0) = false := by rw [beq_eq_false_iff_ne]; omega
            have e2 : ¬ (i : Int) = 0 := by omega
            go_wp2
            all_goals first
              | (exfalso; clear HT HZ; simp_all <;> omega)
              | (go_ret; exact ⟨ret_bool (HZ.out (by clear HT HZ; simp_all <;> omega)).symm, rfl⟩)
              | (go_round; (case rel => exact ⟨i + 1, by go_num, by omega, Lib.hid fun _ => HT.out (by clear HT HZ; simp_all <;> omega)⟩); (case measure => simp [RowKit.intOf]; omega))
        · have HQ := Lib.hid (show nameV s.data.toList = true by rw [HN.out (by omega)]; exact chr_end s i (by omega))
          go_wp2
          go_ret
          exact ⟨ret_bool HQ.out.symm, rfl⟩
theorem rname_r (s : List UInt8) (w : World) (hs : s.length ≤ maxLen) : Calls Tryd.prog 31 #[.string (bs s)] w (PureB w (nameV s)) := by
  have q := rname (bs s) w (by rw [bs_size]; exact hs)
  rwa [bs_data] at q
theorem rtexts (s t : List UInt8) (w : World) : Calls Tryd.prog 58 #[.string (bs s), .string (bs t)] w (PureI w (strc s t)) := by
  have k := str_less' s t
  rw [← bs_list s, ← bs_list t] at k
  rw [bs_list, bs_list] at k
  have k2 : (strc s t = -1 ∧ Op.bytesLess (bs s).toList (bs t).toList = true ∧ Op.bytesLess (bs t).toList (bs s).toList = false ∧ ((bs s).toList == (bs t).toList) = false) ∨ (strc s t = 0 ∧ Op.bytesLess (bs s).toList (bs t).toList = false ∧ Op.bytesLess (bs t).toList (bs s).toList = false ∧ ((bs s).toList == (bs t).toList) = true) ∨ (strc s t = 1 ∧ Op.bytesLess (bs s).toList (bs t).toList = false ∧ Op.bytesLess (bs t).toList (bs s).toList = true ∧ ((bs s).toList == (bs t).toList) = false) := by
    rw [bs_list, bs_list]; exact k
  clear k
  rcases k2 with ⟨e, g1, g2, g3⟩ | ⟨e, g1, g2, g3⟩ | ⟨e, g1, g2, g3⟩
  all_goals
    rw [e]; clear e
    go_enter Tryd.func58, Tryd.ntmps58
    go_wp2
    go_ret
    exact ⟨rfl, rfl⟩
end Go.Proofs.YtadnaakbhgacgaaDoor
